/-
  What lies in a row of cells: numbers, fractions and other plain data in variables and struct values; stores that leave digits alone; the obligations of operations on such data. No conditions beyond those that each names.
  Walking a function's code by what is known of each slot: states, regions, stores into variables, conditions, results. No conditions beyond those that each names.
  A region that makes new variables of any type and stores into each of them once, whatever its order. No conditions beyond those that it names.
  Contract of the reference's Trim. Conditions: slices of at most 1000 digits.
  The law of the order: it returns true. No conditions.
  Contracts of the reference's Of and Cmp. Conditions: numbers of at most 400 digits.
  Contract of the reference's Add. Conditions: numbers of at most 400 digits.
  Contract of the reference's Sub. Conditions: numbers of at most 400 digits.
  Contract of the reference's Mul. Conditions: numbers of at most 400 digits.
  Contract of the reference's Bits. Conditions: numbers without leading zeros, of at most 400 digits.
  The law that Cmp, Add, Sub, Mul and Bits are as the reference says: it returns true. No conditions.
  A region whose first operations only add memory, in any order, and whose last ones each wait for all before them. No conditions beyond those that it names.
  Contract of the reference's small. Conditions: numbers of at most 390 digits, a factor and a summand below 2^32.
  Contract of the reference's DivMod. Conditions: numbers without leading zeros, of at most 300 digits; a divisor that is not 0. Also: Contracts of the reference's bit and DivMod. Conditions: numbers without leading zeros, of at most 300 digits; a divisor that is not 0.
  Contract of estimate: the digit of the quotient, or one more. Conditions: a divisor of 2 to 1000 digits whose leading digit is at least 2^31; the part's leading digits are less than the divisor. Also: Contracts of LeadingZeros32 and subtractTimes. Conditions: slices of at most 1000 digits; the row that is written lies outside the other.
  Contract of divideStep: one digit of the quotient. Conditions: as those of estimate; the row that is written lies outside the divisor. Also: Contract of estimate: the digit of the quotient, or one more. Conditions: a divisor of 2 to 1000 digits whose leading digit is at least 2^31; the part's leading digits are less than the divisor.
  Contract of shiftDown. Conditions: slices of at most 1000 digits, a shift below 32. Also: Contracts of shiftUp and shiftDown. Conditions: slices of at most 1000 digits, a shift below 32.
  Plain mathematics of long division, and what divideLong needs of memory. No conditions beyond those that each names.
  Contract of divideLong, and of divide at every divisor. Conditions: slices of at most 900 digits.
-/
import Derived.Deep.MidRow
import Derived.Deep.Upon
import Derived.Test.YtjfehdkfogdpgaaGreatDoorTeA
namespace Go.Proofs.YtjfehdkfogdpgaaGreatDoor
open Go.RowKit
def isDig : Value → Bool
  | .int .u32 _ => true
  | _ => false
def Soft (w w' : World) : Prop := ∀ p (z : Int), w.cell? p = some (.int .u32 z) → w'.cell? p = some (.int .u32 z)
theorem Soft.refl (w : World) : Soft w w := fun _ _ h => h
theorem Soft.trans {a b c : World} (h : Soft a b) (k : Soft b c) : Soft a c := fun p z hz => k p z (h p z hz)
theorem Rd.soft {w w' : World} {A : Option Addr} {zs : List Nat} (h : Rd w A zs) (hs : Soft w w') : Rd w' A zs := by
  rcases h with h | ⟨g, off, hA, hr⟩
  · exact .inl h
  · exact .inr ⟨g, off, hA, fun i hi => hs _ _ (hr i hi)⟩
theorem Num.soft {w w' : World} {A : Option Addr} {n c : Nat} {zs : List Nat} (h : Num w A n c zs) (hs : Soft w w') : Num w' A n c zs := ⟨h.rd.soft hs, h.len, h.cap, h.dig, h.small⟩
theorem soft_setCells {w : World} {b o : Nat} {old : List Value} (vs : List Value) (hold : w.rangeAt b o old) (hl : old.length = vs.length) (hd : ∀ v ∈ old, isDig v = false) : Soft w (w.setCells b o vs) := by
  intro p z hz
  rw [World.cell?_setCells_out b vs o w p]
  · exact hz
  · intro hb hsp
    rcases Nat.lt_or_ge p.off o with h1 | h1
    · exact .inl h1
    · rcases Nat.lt_or_ge p.off (o + vs.length) with h2 | h2
      · exfalso
        obtain ⟨pb, po, ps⟩ := p
        have e1 : pb = b := hb
        have e2 : ps = none := hsp
        have e3 : o ≤ po := h1
        have e4 : po < o + vs.length := h2
        subst e1 e2
        have h3 : po - o < old.length := by omega
        have h4 := hold (po - o) _ (List.getElem?_eq_getElem h3)
        rw [show o + (po - o) = po from by omega, hz] at h4
        injection h4 with h4
        have h5 := hd _ (List.getElem_mem h3)
        rw [← h4] at h5
        cases h5
      · exact .inr h2
theorem size_setCells (b : Nat) : ∀ (vs : List Value) (o : Nat) (w : World), (w.setCells b o vs).heap.size = w.heap.size := by
  intro vs
  induction vs with
  | nil => intro o w; rfl
  | cons v vs ih => intro o w; rw [World.setCells, ih]; simp
theorem tape_setCells (b : Nat) : ∀ (vs : List Value) (o : Nat) (w : World), (w.setCells b o vs).tape = w.tape := by
  intro vs
  induction vs with
  | nil => intro o w; rfl
  | cons v vs ih => intro o w; rw [World.setCells, ih]; rfl
theorem below_setCells {B : Nat} {a w : World} (h : Below B a w) (b o : Nat) (vs : List Value) (hb : B ≤ b) (hB : B ≤ w.heap.size) : Below B a (w.setCells b o vs) :=
  ⟨(World.os_setCells w b o vs).trans h.os, (tape_setCells b vs o w).trans h.tape, (World.output_setCells w b o vs).trans h.output, by rw [size_setCells]; exact h.size, fun k hk => (World.heap_setCells_other w b o vs (by omega) (by omega)).trans (h.block k hk)⟩
structure Con where
  len : Nat
  is : World → List Value → Prop
  size : ∀ w cs, is w cs → cs.length = len
  one : ∀ w cs, is w cs → ∀ v ∈ cs, v.oneCell' = true ∧ isDig v = false
  stable : ∀ w w' cs, is w cs → Below w.heap.size w w' → is w' cs
  soft : ∀ w w' cs, is w cs → Soft w w' → is w' cs
def Con.val (u : Value) (h : u.oneCell' = true ∧ isDig u = false) : Con := ⟨1, fun _ cs => cs = [u], fun _ _ h => by rw [h]; rfl, fun _ _ e v hv => by rw [e] at hv; rw [List.mem_singleton.1 hv]; exact h, fun _ _ _ h _ => h, fun _ _ _ h _ => h⟩
def Con.bool (b : Bool) : Con := Con.val (.bool b) ⟨rfl, rfl⟩
def Con.nn (k n : Nat) : Con := ⟨1, fun w cs => ∃ A c, cs = [.slice A (Nm.nat n).length c] ∧ Num w A (Nm.nat n).length c (Nm.nat n) ∧ Nm.Sz k n,
  fun _ _ ⟨_, _, h, _⟩ => by rw [h]; rfl, fun _ _ ⟨_, _, e, _⟩ v hv => by rw [e] at hv; rw [List.mem_singleton.1 hv]; exact ⟨rfl, rfl⟩, fun _ _ _ ⟨A, c, h, hn, hz⟩ hb => ⟨A, c, h, hn.below hb, hz⟩, fun _ _ _ ⟨A, c, h, hn, hz⟩ hs => ⟨A, c, h, hn.soft hs, hz⟩⟩
def Con.app (C D : Con) : Con := ⟨C.len + D.len, fun w cs => ∃ a b, cs = a ++ b ∧ C.is w a ∧ D.is w b,
  fun w _ ⟨a, b, h, h1, h2⟩ => by rw [h, List.length_append, C.size w a h1, D.size w b h2], fun w _ ⟨a, b, h, h1, h2⟩ v hv => by
    rw [h] at hv
    rcases List.mem_append.1 hv with hv | hv
    · exact C.one w a h1 v hv
    · exact D.one w b h2 v hv, fun _ _ _ ⟨a, b, h, h1, h2⟩ hb => ⟨a, b, h, C.stable _ _ _ h1 hb, D.stable _ _ _ h2 hb⟩, fun _ _ _ ⟨a, b, h, h1, h2⟩ hs => ⟨a, b, h, C.soft _ _ _ h1 hs, D.soft _ _ _ h2 hs⟩⟩
def Con.tri (k l : Nat) (s : Bool) (p q : Nat) : Con := (Con.bool s).app ((Con.nn k p).app (Con.nn l q))
def Con.fr (k : Nat) (x : Rat) : Con := Con.tri k k (Rt.ng x) (Rt.tp x) x.den
def Con.Sub (C : Con) (off : Nat) (D : Con) : Prop := ∀ w cs, C.is w cs → ∃ a b c, cs = a ++ (b ++ c) ∧ a.length = off ∧ D.is w b
theorem Con.Sub.refl (C : Con) : C.Sub 0 C := fun _ cs h => ⟨[], cs, [], by simp, rfl, h⟩
theorem Con.Sub.left {C D E : Con} {off : Nat} (h : C.Sub off E) : (C.app D).Sub off E := fun w _ ⟨x, y, he, h1, _⟩ => by
  obtain ⟨a, b, c, h3, h4, h5⟩ := h w x h1
  exact ⟨a, b, c ++ y, by rw [he, h3]; simp, h4, h5⟩
theorem Con.Sub.right {C D E : Con} {off : Nat} (h : D.Sub off E) : (C.app D).Sub (C.len + off) E := fun w _ ⟨x, y, he, h1, h2⟩ => by
  obtain ⟨a, b, c, h3, h4, h5⟩ := h w y h2
  exact ⟨x ++ a, b, c, by rw [he, h3]; simp, by rw [List.length_append, C.size w x h1, h4], h5⟩
theorem Con.fr_ng (k : Nat) (x : Rat) : (Con.fr k x).Sub 0 (Con.bool (Rt.ng x)) := (Con.Sub.refl _).left
theorem Con.fr_tp (k : Nat) (x : Rat) : (Con.fr k x).Sub 1 (Con.nn k (Rt.tp x)) := ((Con.Sub.refl _).left (D := Con.nn k x.den)).right (C := Con.bool (Rt.ng x))
theorem Con.fr_den (k : Nat) (x : Rat) : (Con.fr k x).Sub 2 (Con.nn k x.den) := ((Con.Sub.refl _).right (C := Con.nn k (Rt.tp x))).right (C := Con.bool (Rt.ng x))
structure Lies (w : World) (b o : Nat) (C : Con) : Prop where
  lt : b < w.heap.size
  ex : ∃ cs, w.rangeAt b o cs ∧ C.is w cs
theorem Lies.below {w w' : World} {b o : Nat} {C : Con} (h : Lies w b o C) (hb : Below w.heap.size w w') : Lies w' b o C := by
  obtain ⟨hl, cs, h1, h2⟩ := h
  exact ⟨Nat.lt_of_lt_of_le hl hb.size, cs, fun j v hv => ((seen hb).1 _ _ hl).trans (h1 j v hv), C.stable _ _ _ h2 hb⟩
theorem Lies.drew {w : World} {b o : Nat} {C : Con} (h : Lies w b o C) : Lies w.drew b o C := h.below (Below.refl _ _).drew
theorem Lies.other {w : World} {b o b' o' : Nat} {C : Con} {vs : List Value} (h : Lies w b o C) (hs : Soft w (w.setCells b' o' vs)) (hne : b ≠ b') : Lies (w.setCells b' o' vs) b o C := by
  obtain ⟨hl, cs, h1, h2⟩ := h
  exact ⟨by rw [size_setCells]; exact hl, cs, World.rangeAt_setCells_apart h1 b' o' vs (.inl hne), C.soft _ _ _ h2 hs⟩
theorem Lies.put {w : World} {b o : Nat} {C : Con} {vs : List Value} (hb : b < w.heap.size) (hs : Soft w (w.setCells b o vs)) (ht : w.there b o vs.length) (h : C.is w vs) : Lies (w.setCells b o vs) b o C :=
  ⟨by rw [size_setCells]; exact hb, vs, World.rangeAt_setCells_same w b o vs ht, C.soft _ _ _ h hs⟩
structure Room (w : World) (b n : Nat) : Prop where
  lt : b < w.heap.size
  there : w.there b 0 n
  ex : ∃ cs : List Value, cs.length = n ∧ w.rangeAt b 0 cs ∧ ∀ v ∈ cs, isDig v = false
theorem Room.below {w w' : World} {b n : Nat} (h : Room w b n) (hb : Below w.heap.size w w') : Room w' b n := by
  obtain ⟨hl, ht, cs, h1, h2, h3⟩ := h
  exact ⟨Nat.lt_of_lt_of_le hl hb.size, fun j hj => ⟨by rw [(seen hb).1 _ _ hl]; exact (ht j hj).1, by rw [(seen hb).2 _ _ hl]; exact (ht j hj).2⟩, cs, h1, fun j v hv => ((seen hb).1 _ _ hl).trans (h2 j v hv), h3⟩
theorem Room.soft {w : World} {b n : Nat} (h : Room w b n) (vs : List Value) (hv : vs.length = n) : Soft w (w.setCells b 0 vs) := by
  obtain ⟨_, _, cs, h1, h2, h3⟩ := h
  exact soft_setCells vs h2 (h1.trans hv.symm) h3
theorem Room.other {w : World} {b n b' o' : Nat} {vs : List Value} (h : Room w b n) (hne : b ≠ b') : Room (w.setCells b' o' vs) b n := by
  obtain ⟨hl, ht, cs, h1, h2, h3⟩ := h
  exact ⟨by rw [size_setCells]; exact hl, World.there_setCells ht _ _ _, cs, h1, World.rangeAt_setCells_apart h2 b' o' vs (.inl hne), h3⟩
theorem Room.put {w : World} {b n : Nat} (h : Room w b n) {vs : List Value} (hv : vs.length = n) (hd : ∀ v ∈ vs, isDig v = false) : Room (w.setCells b 0 vs) b n :=
  ⟨by rw [size_setCells]; exact h.lt, World.there_setCells h.there _ _ _, vs, hv, World.rangeAt_setCells_same w b 0 vs (by rw [hv]; exact h.there), hd⟩
def Fact.agg (C : Con) : Fact := ⟨fun v w => ∃ cs : List Value, v = .agg cs.toArray ∧ C.is w cs, fun _ _ _ ⟨cs, h, hc⟩ hb => ⟨cs, h, C.stable _ _ _ hc hb⟩⟩
def Fact.fr (k : Nat) (x : Rat) : Fact := Fact.agg (Con.fr k x)
def Fact.nn (k n : Nat) : Fact := Fact.agg (Con.nn k n)
def Fact.ptr (C : Con) : Fact := ⟨fun v w => ∃ b o, v = .pointer (some ⟨b, o, none⟩) ∧ Lies w b o C, fun _ _ _ ⟨b, o, h, hl⟩ hb => ⟨b, o, h, hl.below hb⟩⟩
def Fact.two (R S : Fact) : Fact := ⟨fun v w => ∃ a b, v = .tuple #[a, b] ∧ R.holds a w ∧ S.holds b w, fun _ _ _ ⟨a, b, h, h1, h2⟩ hb => ⟨a, b, h, R.stable _ _ _ h1 hb, S.stable _ _ _ h2 hb⟩⟩
def Fact.three (R S T : Fact) : Fact := ⟨fun v w => ∃ a b c, v = .tuple #[a, b, c] ∧ R.holds a w ∧ S.holds b w ∧ T.holds c w, fun _ _ _ ⟨a, b, c, h, h1, h2, h3⟩ hb => ⟨a, b, c, h, R.stable _ _ _ h1 hb, S.stable _ _ _ h2 hb, T.stable _ _ _ h3 hb⟩⟩
def Fact.nats (k : Nat) (ns : List Nat) : Fact := ⟨fun v w => ∃ b c, v = .slice (some ⟨b, 0, none⟩) ns.length c ∧ ∀ i n, ns[i]? = some n → Lies w b i (Con.nn k n), fun _ _ _ ⟨b, c, h, hl⟩ hb => ⟨b, c, h, fun i n hn => (hl i n hn).below hb⟩⟩
theorem Fact.nn_num {k n : Nat} {v : Value} {w : World} (h : (Fact.nn k n).holds v w) : (Fact.num (Nm.nat n)).holds v w ∧ Nm.Sz k n := by
  obtain ⟨cs, rfl, A, c, rfl, hn, hz⟩ := h
  exact ⟨⟨A, c, rfl, hn⟩, hz⟩
theorem Fact.num_nn {k n : Nat} {v : Value} {w : World} (h : (Fact.num (Nm.nat n)).holds v w) (hz : Nm.Sz k n) : (Fact.nn k n).holds v w := by
  obtain ⟨A, c, rfl, hn⟩ := h
  exact ⟨_, rfl, A, c, rfl, hn, hz⟩
theorem Nm.Sz.up {k l n : Nat} (h : Nm.Sz k n) (hl : k ≤ l) : Nm.Sz l n := Nat.lt_of_lt_of_le h (Nat.pow_le_pow_right (by omega) hl)
theorem Fact.nn_up {k l n : Nat} {v : Value} {w : World} (h : (Fact.nn k n).holds v w) (hl : k ≤ l) : (Fact.nn l n).holds v w := by
  obtain ⟨h1, h2⟩ := Fact.nn_num h
  exact Fact.num_nn h1 (h2.up hl)
section
variable {ops : Array Oper} {Q : Exit → Act → World → Prop} {F : Nat → Fact} {base : List Nat} {N : Nat} {o : Oper}
theorem ob_call3 (f : FuncId) (t s r d : Nat) (tys : Array TypeId) (ho : o.op = .call { callee := .value (.func f), args := #[.tmp t, .tmp s, .tmp r], argTypes := tys }) (hd : o.dst = some d) (hg : GuardOk ops F base N o) (hk : known ops base o t = true) (hk2 : known ops base o s = true) (hk3 : known ops base o r = true) (hfn : fnOk f = true)
    (hc : ∀ v u x w, (F t).holds v w → (F s).holds u w → (F r).holds x w → Calls Tryz.prog f #[v, u, x] w (Ret (F d) w)) : Ob ops Q F base N o :=
  ob_enter hg fun a w hf => ⟨f, #[a.tmps.getD t undef, a.tmps.getD s undef, a.tmps.getD r undef], by simpa [execOp, ho, resolve, Act.eval] using run_invoke hfn _ w, (hc _ _ _ w (hf t hk) (hf s hk2) (hf r hk3)).mono fun e w' ⟨u, he, hb, hr⟩ => ⟨u, he, hb, fun s hs => by
    rw [hd] at hs; injection hs with hs; subst hs; exact hr⟩⟩
theorem ob_fst (t d : Nat) (R S : Fact) (ho : o.op = .extract (.tmp t) 0) (hd : o.dst = some d) (hg : GuardOk ops F base N o) (hk : known ops base o t = true) (hv : F t = Fact.two R S) (hF : F d = R) : Ob ops Q F base N o :=
  ob_val hg fun a w hf => by
    have h1 := hf t hk
    rw [hv] at h1
    obtain ⟨x, y, h2, h3, h4⟩ := h1
    have h3' : a.eval (.tmp t) = .tuple #[x, y] := h2
    exact ⟨x, w, by simp [execOp, ho, h3', Instr.extract], Below.refl _ _, fun s hs => by rw [hd] at hs; injection hs with hs; subst hs; rw [hF]; exact h3⟩
theorem ob_snd (t d : Nat) (R S : Fact) (ho : o.op = .extract (.tmp t) 1) (hd : o.dst = some d) (hg : GuardOk ops F base N o) (hk : known ops base o t = true) (hv : F t = Fact.two R S) (hF : F d = S) : Ob ops Q F base N o :=
  ob_val hg fun a w hf => by
    have h1 := hf t hk
    rw [hv] at h1
    obtain ⟨x, y, h2, h3, h4⟩ := h1
    have h3' : a.eval (.tmp t) = .tuple #[x, y] := h2
    exact ⟨y, w, by simp [execOp, ho, h3', Instr.extract], Below.refl _ _, fun s hs => by rw [hd] at hs; injection hs with hs; subst hs; rw [hF]; exact h4⟩
end
theorem lies_new {w : World} {z : Array Value} {ty : TypeId} {C : Con} {cs : List Value} (h : z = cs.toArray) (hc : C.is w cs) : Lies (w.alloc (Obj.cells z ty)) w.heap.size 0 C := by
  subst h
  exact ⟨by simp, cs, fun j v hv => by simpa using hv, C.stable _ _ _ hc (one _ _)⟩
theorem room_at {w : World} {b n : Nat} {z : Array Value} {ty : TypeId} (hb : b = w.heap.size) (hn : z.size = n) (hd : (z.all fun v => !isDig v) = true) : Room (w.alloc (Obj.cells z ty)) b n := by
  subst hb
  refine ⟨by simp, fun j hj => ⟨by simp; omega, by simp⟩, z.toList, by simpa using hn, fun j v hv => by simpa using hv, fun v hv => ?_⟩
  have := (Array.all_eq_true_iff_forall_mem.1 hd) v (by simpa using hv)
  simpa using this
end Go.Proofs.YtjfehdkfogdpgaaGreatDoor
namespace Go.Proofs.YtjfehdkfogdpgaaGreatDoor
open Go.RowKit
theorem fcs {α : Type} {p : α → Prop} {a : α} {l : List α} (h : p a ∧ ∀ x ∈ l, p x) : ∀ x ∈ a :: l, p x := List.forall_mem_cons.2 h
theorem fcn {ops : Array Oper} {Q : Exit → Act → World → Prop} {F : Nat → Fact} {base : List Nat} {N : Nat} {D : List Nat} {o : Oper} {l : List Oper} (h : Ob ops Q F base N o) (h2 : ∀ x ∈ l, Obn ops Q F base N D x) (hD : (match o.dst with | some t => D.contains t | none => false) = false := by kernel_rfl) : ∀ x ∈ o :: l, Obn ops Q F base N D x := fcs ⟨Ob.new_ h hD, h2⟩
theorem fnl {α : Type} {p : α → Prop} : ∀ x ∈ ([] : List α), p x := fun _ h => absurd h List.not_mem_nil
def FF (ks : List (Nat × Fact)) (t : Nat) : Fact := (ks.lookup t).getD Fact.any
structure St (N : Nat) (ks : List (Nat × Fact)) (a : Act) (w : World) : Prop where
  size : a.tmps.size = N
  defers : a.defers = []
  all : ∀ p ∈ ks, p.2.holds (a.tmps.getD p.1 undef) w
theorem FF_holds {ks : List (Nat × Fact)} {a : Act} {w : World} (h : ∀ p ∈ ks, p.2.holds (a.tmps.getD p.1 undef) w) (t : Nat) : (FF ks t).holds (a.tmps.getD t undef) w := by
  induction ks with
  | nil => exact trivial
  | cons p ks ih =>
    obtain ⟨s, f⟩ := p
    unfold FF
    rw [List.lookup_cons]
    by_cases e : t = s
    · subst e
      rw [beq_self_eq_true]
      exact h (t, f) (List.mem_cons_self ..)
    · rw [show (t == s) = false from beq_eq_false_iff_ne.2 e]
      exact ih fun q hq => h q (List.mem_cons_of_mem _ hq)
theorem FF_append {ks news : List (Nat × Fact)} {t : Nat} (h : t ∈ ks.map (·.1)) : FF (ks ++ news) t = FF ks t := by
  induction ks with
  | nil => cases h
  | cons p ks ih =>
    obtain ⟨s, f⟩ := p
    unfold FF
    rw [List.cons_append, List.lookup_cons, List.lookup_cons]
    by_cases e : t = s
    · subst e
      rw [beq_self_eq_true]
    · rw [show (t == s) = false from beq_eq_false_iff_ne.2 e]
      refine ih ?_
      rw [List.map_cons, List.mem_cons] at h
      exact h.resolve_left e
theorem FF_mem {news : List (Nat × Fact)} (hnd : (news.map (·.1)).Nodup) {p : Nat × Fact} (h : p ∈ news) : FF news p.1 = p.2 := by
  induction news with
  | nil => cases h
  | cons q news ih =>
    obtain ⟨s, f⟩ := q
    rw [List.map_cons, List.nodup_cons] at hnd
    unfold FF
    rw [List.lookup_cons]
    rcases List.mem_cons.1 h with h | h
    · subst h
      rw [beq_self_eq_true]; rfl
    · have : p.1 ≠ s := fun e => hnd.1 (by show s ∈ _; rw [← e]; exact List.mem_map_of_mem h)
      rw [show (p.1 == s) = false from beq_eq_false_iff_ne.2 this]
      exact ih hnd.2 h
theorem FF_right {ks news : List (Nat × Fact)} {t : Nat} (h : t ∉ ks.map (·.1)) : FF (ks ++ news) t = FF news t := by
  induction ks with
  | nil => rfl
  | cons p ks ih =>
    obtain ⟨s, f⟩ := p
    rw [List.map_cons, List.mem_cons, not_or] at h
    unfold FF
    rw [List.cons_append, List.lookup_cons, show (t == s) = false from beq_eq_false_iff_ne.2 h.1]
    exact ih h.2
theorem St.at_ {N : Nat} {ks : List (Nat × Fact)} {a : Act} {w : World} (h : St N ks a w) (t : Nat) : (FF ks t).holds (a.tmps.getD t undef) w := FF_holds h.all t
theorem St.below {N : Nat} {ks : List (Nat × Fact)} {a : Act} {w w' : World} (h : St N ks a w) (hb : Below w.heap.size w w') : St N ks a w' := ⟨h.size, h.defers, fun p hp => p.2.stable _ _ _ (h.all p hp) hb⟩
theorem St.to {N : Nat} {ks : List (Nat × Fact)} {a : Act} {w : World} (h : St N ks a w) {ks' : List (Nat × Fact)} (h' : ∀ p ∈ ks', p.2.holds (a.tmps.getD p.1 undef) w) : St N ks' a w := ⟨h.size, h.defers, h'⟩
theorem St.enter {N : Nat} {ks : List (Nat × Fact)} {args : Array Value} {w : World} (hN : args.size ≤ N) (h : ∀ p ∈ ks, p.1 < args.size ∧ p.2.holds (args.getD p.1 undef) w) : St N ks { tmps := args ++ Array.replicate (N - args.size) undef, defers := [] } w := by
  refine ⟨by simp; omega, rfl, fun p hp => ?_⟩
  obtain ⟨h1, h2⟩ := h p hp
  have e : (args ++ Array.replicate (N - args.size) undef).getD p.1 undef = args.getD p.1 undef := by
    simp only [Array.getD_eq_getD_getElem?]
    rw [Array.getElem?_append_left h1]
  show p.2.holds ((args ++ Array.replicate (N - args.size) undef).getD p.1 undef) w
  rw [e]
  exact h2
section
variable {ops : Array Oper} {Q : Exit → Act → World → Prop} {F : Nat → Fact} {base : List Nat} {N : Nat} {D : List Nat}
theorem wpList_seqFirst {n g : Nat} (hok : formOk ops base N = true) (hn : n ≤ ops.size) {a0 : Act} {w0 : World} (hg : g = w0.heap.size) (hstep : ∀ i o, i < n → ops[i]? = some o → Obn ops Q F base N D o)
    (hend : ∀ listed a w, a.defers = a0.defers → a.tmps.size = N → (∀ t ∈ base, (F t).holds (a.tmps.getD t undef) w) → (∀ (i t : Nat), i < n → (ops[i]?).bind Oper.dst = some t → (F t).holds (a.tmps.getD t undef) w) →
      Below w0.heap.size w0 w → (∀ i, i < n → listed.getD i false = true) → News g D ops listed a w → wpList Tryz.prog ops Q (ops.toList.drop n) a w) :
    ∀ (m k : Nat) (listed : Array Bool) (a : Act) (w : World), k + m = n → listed.size = ops.size → a.tmps.size = N → a.defers = a0.defers → (∀ t ∈ base, (F t).holds (a.tmps.getD t undef) w) →
      (∀ (i t : Nat), i < k → (ops[i]?).bind Oper.dst = some t → (F t).holds (a.tmps.getD t undef) w) → (∀ i, i < k → listed.getD i false = true) →
      Below w0.heap.size w0 w → News g D ops listed a w → wpList Tryz.prog ops Q (ops.toList.drop k) a w := by
  intro m
  induction m with
  | zero =>
    intro k listed a w hk hs hN hd hb hdone hlst hbel hnew
    obtain rfl : k = n := by omega
    exact hend listed a w hd hN hb hdone hbel hlst hnew
  | succ m ih =>
    intro k listed a w hk hs hN hd hb hdone hlst hbel hnew
    have hlt : k < ops.size := by omega
    have ho : ops[k]? = some ops[k] := Array.getElem?_eq_getElem hlt
    have hdr : ops.toList.drop k = ops[k] :: ops.toList.drop (k + 1) := by
      have h7 : k < ops.toList.length := by simpa using hlt
      rw [List.drop_eq_getElem_cons h7]
      simp
    rw [hdr]
    obtain ⟨hback, hdst⟩ := formOk_at hok ho
    refine wpList_step fun K hK => hstep k _ (by omega) ho a w K hN hb (fun e he hb' t het => hdone e.on t (hback e he hb') het) fun v w' hb' hF hv => hK _ _ ?_
    refine ih (k + 1) (listed.setIfInBounds k true) _ _ (by omega) (by simpa using hs) ?_ ?_ (fun t ht => ?_) (fun j t hj hjt => ?_) (fun j hj => ?_) (up hbel hb') (hnew.step hok hs hN (by rw [hg]; exact hbel.size) ho hb' hv)
    · cases (ops[k]).dst <;> simpa [Act.put] using hN
    · cases (ops[k]).dst <;> simpa [Act.put] using hd
    · rw [getD_put_other (fun e => (hdst t e).2.1 ht)]
      exact (F t).stable _ _ _ (hb t ht) hb'
    · by_cases hji : j = k
      · subst hji
        rw [ho] at hjt
        have hjt' : (ops[j]).dst = some t := hjt
        rw [hjt', getD_put_same (by rw [hN]; exact (hdst t hjt').1)]
        exact hF t hjt'
      · rw [getD_put_other (fun e => (hdst t e).2.2 j hji hjt)]
        exact (F t).stable _ _ _ (hdone j t (by omega) hjt) hb'
    · rw [listed_set (by omega)]
      by_cases hji : j = k
      · exact .inl hji
      · exact .inr (hlst j (by omega))
end
def Fresh (w w' : World) (D : List Nat) (a : Act) : Prop :=
  (∀ s ∈ D, ∃ b, a.tmps.getD s undef = .pointer (some ⟨b, 0, none⟩) ∧ w.heap.size ≤ b ∧ b < w'.heap.size) ∧ ∀ s ∈ D, ∀ t ∈ D, s ≠ t → a.tmps.getD s undef ≠ a.tmps.getD t undef
theorem Fresh.apart {w w' : World} {D : List Nat} {a : Act} (h : Fresh w w' D a) {s t b c : Nat} (hs : D.contains s = true) (ht : D.contains t = true) (hne : s ≠ t) (h1 : a.tmps.getD s undef = .pointer (some ⟨b, 0, none⟩)) (h2 : a.tmps.getD t undef = .pointer (some ⟨c, 0, none⟩)) : b ≠ c := by
  intro e
  subst e
  exact h.2 s (List.contains_iff_mem.1 hs) t (List.contains_iff_mem.1 ht) hne (h1.trans h2.symm)
def nodupB : List Nat → Bool
  | [] => true
  | x :: xs => !xs.contains x && nodupB xs
theorem nodupB_iff {l : List Nat} (h : nodupB l = true) : l.Nodup := by
  induction l with
  | nil => exact List.nodup_nil
  | cons x xs ih =>
    simp only [nodupB, Bool.and_eq_true, Bool.not_eq_true'] at h
    refine List.nodup_cons.2 ⟨fun hm => ?_, ih h.2⟩
    have := List.contains_iff_mem.2 hm
    rw [h.1] at this
    cases this
theorem sym_region {Q : Exit → Act → World → Prop} {id N : Nat} {l : List Oper} {draw : Bool} {a : Act} {w : World} {ks : List (Nat × Fact)} (st : St N ks a w) (news : List (Nat × Fact)) (D : List Nat) (n : Nat)
    (hm : Tryz.prog.follows .mixedOrders = true) (hok : formOk l.toArray (ks.map (·.1)) N = true) (hsq : (!draw || seqC l n) = true) (hn : n ≤ l.length) (hds : dstsOk (l.take n) (news.map (·.1)) = true) (hD : (D.all fun d => (news.map (·.1)).contains d) = true) (hndB : nodupB ((ks ++ news).map (·.1)) = true)
    (hstep : ∀ o ∈ l.take n, Obn l.toArray Q (FF (ks ++ news)) (ks.map (·.1)) N D o)
    (hend : ∀ a' w', St N (ks ++ news) a' w' → Below w.heap.size w w' → Fresh w w' D a' → wpList Tryz.prog l.toArray Q (l.drop n) a' w') : (Code.region id l.toArray draw).wp Tryz.prog Q a w := by
  have hnd := nodupB_iff hndB
  have hnd2 : (news.map (·.1)).Nodup := by rw [List.map_append] at hnd; exact (List.nodup_append.1 hnd).2.1
  have hnot : ∀ t ∈ news.map (·.1), t ∉ ks.map (·.1) := fun t ht hk => by
    rw [List.map_append] at hnd
    exact (List.nodup_append.1 hnd).2.2 t hk t ht rfl
  have hks : (ks.map (·.1)).Nodup := by rw [List.map_append] at hnd; exact (List.nodup_append.1 hnd).1
  have hbase : ∀ t ∈ ks.map (·.1), (FF (ks ++ news) t).holds (a.tmps.getD t undef) w := fun t ht => by
    rw [FF_append ht]
    exact st.at_ t
  have hall : ∀ (a' : Act) (w' : World), (∀ t ∈ ks.map (·.1), (FF (ks ++ news) t).holds (a'.tmps.getD t undef) w') → (∀ t ∈ news.map (·.1), (FF (ks ++ news) t).holds (a'.tmps.getD t undef) w') → ∀ p ∈ ks ++ news, p.2.holds (a'.tmps.getD p.1 undef) w' := fun a' w' h1 h2 p hp => by
    rcases List.mem_append.1 hp with hp | hp
    · have := h1 p.1 (List.mem_map_of_mem hp)
      rw [FF_append (List.mem_map_of_mem hp), FF_mem hks hp] at this
      exact this
    · have hm := List.mem_map_of_mem (f := (·.1)) hp
      have := h2 p.1 hm
      rw [FF_right (hnot _ hm), FF_mem hnd2 hp] at this
      exact this
  have hds' : ∀ t ∈ news.map (·.1), ∃ i, i < n ∧ (l.toArray[i]?).bind Oper.dst = some t := fun t ht => by
    have h1 := hds
    simp only [dstsOk, Bool.and_eq_true] at h1
    obtain ⟨o, ho, hd⟩ := List.any_eq_true.1 (List.all_eq_true.1 h1.2 t ht)
    obtain ⟨i, hi⟩ := List.getElem?_of_mem ho
    have hlt : i < (l.take n).length := (List.getElem?_eq_some_iff.1 hi).1
    have hin : i < n := by rw [List.length_take] at hlt; omega
    rw [List.getElem?_take, if_pos hin] at hi
    exact ⟨i, hin, by rw [List.getElem?_toArray, hi]; exact (by simpa using hd)⟩
  cases draw with
  | true =>
    refine wp_region_seq hm (FF (ks ++ news)) (ks.map (·.1)) D N n (news.map (·.1)) st.size hok (by simpa using hsq) hn hds hD hbase hstep fun v w' hv hb hf hap => ?_
    have hsz : ∀ t ∈ news.map (·.1), t < N := fun t ht => by
      obtain ⟨i, _, hi⟩ := hds' t ht
      cases ho : l.toArray[i]? with
      | none => rw [ho] at hi; cases hi
      | some o =>
        rw [ho] at hi
        exact ((formOk_at hok ho).2 t hi).1
    have hat : ∀ t ∈ news.map (·.1), (lay a.tmps (news.map (·.1)) v).getD t undef = v t := fun t ht => by
      rw [Array.getD_eq_getD_getElem?, lay_at _ _ _ t ht (by rw [st.size]; exact hsz t ht)]; rfl
    have hDn : ∀ s ∈ D, s ∈ news.map (·.1) := fun s hs => List.contains_iff_mem.1 (List.all_eq_true.1 hD s hs)
    refine hend _ w' ⟨by rw [lay_size]; exact st.size, st.defers, hall _ w' (fun t ht => ?_) fun t ht => ?_⟩ hb ⟨fun s hs => ?_, fun s hs t ht hne => ?_⟩
    · have e : (lay a.tmps (news.map (·.1)) v).getD t undef = a.tmps.getD t undef := by
        rw [Array.getD_eq_getD_getElem?, lay_other _ _ _ t (fun h => hnot t h ht), ← Array.getD_eq_getD_getElem?]
      show (FF (ks ++ news) t).holds ((lay a.tmps (news.map (·.1)) v).getD t undef) w'
      rw [e]
      exact (FF _ t).stable _ _ _ (hbase t ht) hb
    · show (FF (ks ++ news) t).holds ((lay a.tmps (news.map (·.1)) v).getD t undef) w'
      rw [hat t ht]
      exact hv t ht
    · obtain ⟨b, h1, h2, h3⟩ := hf s hs
      exact ⟨b, (hat s (hDn s hs)).trans h1, h2, h3⟩
    · show (lay a.tmps (news.map (·.1)) v).getD s undef ≠ (lay a.tmps (news.map (·.1)) v).getD t undef
      rw [hat s (hDn s hs), hat t (hDn t ht)]
      exact hap s hs t ht hne
  | false =>
    have hnone : ∀ i, (Array.replicate l.length false).getD i false = true → False := fun i hi => by
      rw [Array.getD_eq_getD_getElem?, Array.getElem?_replicate] at hi
      split at hi <;> simp at hi
    refine wp_region_lit ?_
    have := wpList_seqFirst (Q := Q) (F := FF (ks ++ news)) (D := D) (n := n) (a0 := a) (w0 := w) hok (by simpa using hn) rfl (fun i o hi ho => hstep o (by
      rw [List.getElem?_toArray] at ho
      refine List.mem_of_getElem? (i := i) ?_
      rw [List.getElem?_take, if_pos hi, ho])) (fun listed a' w' hd hN hb hdone hbel hlst hnew => by
        refine hend a' w' ⟨hN, hd.trans st.defers, hall a' w' hb fun t ht => ?_⟩ hbel ⟨fun s hs => ?_, fun s hs t ht hne => ?_⟩
        · obtain ⟨i, hin, hi⟩ := hds' t ht
          exact hdone i t hin hi
        · obtain ⟨i, hin, hi⟩ := hds' s (List.contains_iff_mem.1 (List.all_eq_true.1 hD s hs))
          exact hnew.1 s hs i (hlst i hin) hi
        · obtain ⟨i, hin, hi⟩ := hds' s (List.contains_iff_mem.1 (List.all_eq_true.1 hD s hs))
          obtain ⟨k, hkn, hk⟩ := hds' t (List.contains_iff_mem.1 (List.all_eq_true.1 hD t ht))
          exact hnew.2 s hs t ht hne i k (hlst i hin) hi (hlst k hkn) hk) n 0 (Array.replicate l.length false) a w (by omega) (by simp) st.size rfl hbase (fun i t hi => by omega) (fun i hi => by omega) (Below.refl _ _) ⟨fun _ _ i hi => (hnone i hi).elim, fun _ _ _ _ _ i _ hi => (hnone i hi).elim⟩
    simpa using this
def Con.raw (n : Nat) : Con := ⟨n, fun _ cs => cs.length = n ∧ ∀ v ∈ cs, v.oneCell' = true ∧ isDig v = false, fun _ _ h => h.1, fun _ _ h => h.2, fun _ _ _ h _ => h, fun _ _ _ h _ => h⟩
def Fact.cell (b : Nat) (C : Con) : Fact := ⟨fun v w => v = .pointer (some ⟨b, 0, none⟩) ∧ Lies w b 0 C ∧ Room w b C.len, fun _ _ _ ⟨h, hl, hr⟩ hb => ⟨h, hl.below hb, hr.below hb⟩⟩
def Fact.var' (C : Con) : Fact := ⟨fun v w => ∃ b, (Fact.cell b C).holds v w, fun v w w' ⟨b, h⟩ hb => ⟨b, (Fact.cell b C).stable v w w' h hb⟩⟩
def Points (f : Fact) (C : Con) : Prop := ∀ v w, f.holds v w → ∃ b o, v = .pointer (some ⟨b, o, none⟩) ∧ Lies w b o C
theorem points_cell {b : Nat} {C : Con} : Points (Fact.cell b C) C := fun _ _ ⟨h, hl, _⟩ => ⟨b, 0, h, hl⟩
theorem points_ptr {C : Con} : Points (Fact.ptr C) C := fun _ _ h => h
def Safe (b : Nat) (f : Fact) : Prop := ∀ v w vs, Room w b vs.length → f.holds v w → f.holds v (w.setCells b 0 vs)
theorem safe_eq (b : Nat) (u : Value) : Safe b (Fact.eq u) := fun _ _ _ _ h => h
theorem safe_agg (b : Nat) (C : Con) : Safe b (Fact.agg C) := fun _ _ vs hr ⟨cs, h, hc⟩ => ⟨cs, h, C.soft _ _ _ hc (hr.soft vs rfl)⟩
theorem safe_cell {b c : Nat} (C : Con) (hne : c ≠ b) : Safe b (Fact.cell c C) := fun _ _ vs hr ⟨h, hl, hr'⟩ => ⟨h, hl.other (hr.soft vs rfl) hne, hr'.other hne⟩
section
variable {ops : Array Oper} {Q : Exit → Act → World → Prop} {N : Nat} {rest : List Oper} {o : Oper} {a : Act} {w : World} {ks : List (Nat × Fact)}
theorem sym_store (st : St N ks a w) (ty : TypeId) (p s b : Nat) (C0 C : Con) (ks' : List (Nat × Fact)) (ho : o.op = .store ty (.tmp p) (.tmp s)) (hg : o.guard = none) (hd : o.dst = none) (hp : FF ks p = Fact.cell b C0) (hs : FF ks s = Fact.agg C) (hl : C0.len = C.len) (hi : (Tryz.prog.info? ty).map (·.size) = some C.len)
    (hk : ∀ q ∈ ks', q = (p, Fact.cell b C) ∨ (FF ks q.1 = q.2 ∧ Safe b q.2))
    (next : ∀ w', (∀ (B : Nat) (a0 : World), Below B a0 w → B ≤ b → B ≤ w.heap.size → Below B a0 w') → w'.heap.size = w.heap.size → St N ks' a w' → wpList Tryz.prog ops Q rest a w') : wpList Tryz.prog ops Q (o :: rest) a w := by
  have h1 := st.at_ p
  rw [hp] at h1
  obtain ⟨h2, hlies, hroom⟩ := h1
  have h3 := st.at_ s
  rw [hs] at h3
  obtain ⟨cs, h4, hc⟩ := h3
  have hlen : cs.length = C.len := C.size w cs hc
  have hroom' : Room w b cs.length := by rw [hlen, ← hl]; exact hroom
  have hsoft := hroom'.soft cs rfl
  refine wpList_store_mid hg ty (.tmp p) (.tmp s) ho b 0 cs.toArray h2 h4 (by simpa using hroom'.there) (by simpa [hlen] using hi) (all_oneCell_toArray fun v hv => (C.one w cs hc v hv).1) ?_
  have hput : a.put o.dst undef = a := by rw [hd]; rfl
  rw [hput]
  refine next _ (fun B a0 hb h5 h6 => below_setCells hb b 0 _ h5 h6) (size_setCells ..) ⟨st.size, st.defers, fun q hq => ?_⟩
  rcases hk q hq with rfl | ⟨h5, h6⟩
  · exact ⟨h2, Lies.put hroom.lt hsoft hroom'.there hc, by rw [← hlen]; exact hroom'.put rfl fun v hv => (C.one w cs hc v hv).2⟩
  · have := st.at_ q.1
    rw [h5] at this
    exact h6 _ _ _ hroom' this
def edgesNot (ops : Array Oper) (d : Nat) (o : Oper) : Bool := o.after.all fun e => !Region.binds .any e || (ops[e.on]?).bind Oper.dst != some d
theorem sym_op (st : St N ks a w) (d : Nat) (f : Fact) (hd : o.dst = some d) (hdN : d < N) (hnewB : (ks.map (·.1)).contains d = false) (hndB : nodupB (ks.map (·.1)) = true) (he : edgesNot ops d o = true) (ho : Ob ops Q (FF (ks ++ [(d, f)])) (ks.map (·.1)) N o)
    (next : ∀ a' w', Below w.heap.size w w' → St N (ks ++ [(d, f)]) a' w' → wpList Tryz.prog ops Q rest a' w') : wpList Tryz.prog ops Q (o :: rest) a w := by
  have hnd := nodupB_iff hndB
  have hnew : d ∉ ks.map (·.1) := fun hm => by
    have := List.contains_iff_mem.2 hm
    rw [hnewB] at this
    cases this
  have hbase : ∀ t ∈ ks.map (·.1), (FF (ks ++ [(d, f)]) t).holds (a.tmps.getD t undef) w := fun t ht => by
    rw [FF_append ht]
    exact st.at_ t
  refine wpList_step fun K hK => ho a w K st.size hbase (fun e he' hb t ht => ?_) fun v w' hb hF => hK _ _ (next _ _ hb ⟨?_, ?_, fun p hp => ?_⟩)
  · have h0 := Array.all_eq_true_iff_forall_mem.1 he e he'
    rw [hb, ht] at h0
    have hne : t ≠ d := by simpa using h0
    by_cases hm : t ∈ ks.map (·.1)
    · exact hbase t hm
    · rw [FF_right hm]
      unfold FF
      rw [List.lookup_cons, show (t == d) = false from beq_eq_false_iff_ne.2 hne]
      trivial
  · rw [hd]; simpa [Act.put] using st.size
  · rw [hd]; simpa [Act.put] using st.defers
  · rw [hd]
    rcases List.mem_append.1 hp with hp | hp
    · have hm := List.mem_map_of_mem (f := (·.1)) hp
      rw [getD_put_other (fun e => hnew (by injection e with e; rw [e]; exact hm))]
      have := hbase p.1 hm
      rw [FF_append hm, FF_mem hnd hp] at this
      exact p.2.stable _ _ _ this hb
    · have hp' := List.mem_singleton.1 hp
      subst hp'
      rw [getD_put_same (by rw [st.size]; exact hdN)]
      have := hF d hd
      rw [FF_right hnew] at this
      rw [FF_mem (news := [(d, f)]) (by simp) (p := (d, f)) (List.mem_singleton.2 rfl)] at this
      exact this
end
section
variable {ops : Array Oper} {Q : Exit → Act → World → Prop} {F : Nat → Fact} {base : List Nat} {N : Nat} {o : Oper}
theorem ob_read (ty : TypeId) (t d : Nat) (C : Con) (ho : o.op = .load ty (.tmp t)) (hd : o.dst = some d) (hg : GuardOk ops F base N o) (hk : known ops base o t = true) (hv : Points (F t) C) (hF : F d = Fact.agg C)
    (hrow : ∃ dd, Tryz.prog.underlying ty = some dd ∧ dd.isRow = true) (hi : (Tryz.prog.info? ty).map (·.size) = some C.len) : Ob ops Q F base N o :=
  ob_val hg fun a w hf => by
    obtain ⟨dd, hu, hr⟩ := hrow
    obtain ⟨b, off, h2, _, cs, hc, his⟩ := hv _ _ (hf t hk)
    refine ⟨.agg cs.toArray, w, ?_, Below.refl _ _, fun s hs => ?_⟩
    · have h3 : a.eval (.tmp t) = .pointer (some ⟨b, off, none⟩) := h2
      have hrun := run_loadAt_mid w b off ty cs dd hc hu hr (by rw [C.size w cs his]; exact hi)
      simp [execOp, ho, h3, hrun]
    · rw [hd] at hs; injection hs with hs; subst hs; rw [hF]
      exact ⟨cs, rfl, his⟩
theorem ob_read1 (ty : TypeId) (t d : Nat) (u : Value) (hu1 : u.oneCell' = true ∧ isDig u = false) (ho : o.op = .load ty (.tmp t)) (hd : o.dst = some d) (hg : GuardOk ops F base N o) (hk : known ops base o t = true) (hv : Points (F t) (Con.val u hu1)) (hF : F d = Fact.eq u)
    (hrun : ∀ (w : World) b off, w.cell? ⟨b, off, none⟩ = some u → (Instr.loadAt ty (.pointer (some ⟨b, off, none⟩))).run Tryz.prog w = .ok u w) : Ob ops Q F base N o :=
  ob_val hg fun a w hf => by
    obtain ⟨b, off, h2, _, cs, hc, his⟩ := hv _ _ (hf t hk)
    have his' : cs = [u] := his
    subst his'
    refine ⟨u, w, ?_, Below.refl _ _, fun s hs => ?_⟩
    · have h3 : a.eval (.tmp t) = .pointer (some ⟨b, off, none⟩) := h2
      have := hrun w b off (by simpa using hc 0 u rfl)
      simp [execOp, ho, h3, this]
    · rw [hd] at hs; injection hs with hs; subst hs; rw [hF]; rfl
theorem ob_addr (ty i : Nat) (t d off : Nat) (C D : Con) (ho : o.op = .fieldAddr ty (.tmp t) i) (hd : o.dst = some d) (hg : GuardOk ops F base N o) (hk : known ops base o t = true) (hv : Points (F t) C) (hF : F d = Fact.ptr D) (hsub : C.Sub off D)
    (hrun : ∀ (w : World) b o', (Instr.fieldAt ty (.pointer (some ⟨b, o', none⟩)) i).run Tryz.prog w = .ok (.pointer (some ⟨b, o' + off, none⟩)) w) : Ob ops Q F base N o :=
  ob_val hg fun a w hf => by
    obtain ⟨b, o', h2, hlt, cs, hc, his⟩ := hv _ _ (hf t hk)
    obtain ⟨x, y, z, h3, h4, h5⟩ := hsub w cs his
    refine ⟨.pointer (some ⟨b, o' + off, none⟩), w, ?_, Below.refl _ _, fun s hs => ?_⟩
    · have h3 : a.eval (.tmp t) = .pointer (some ⟨b, o', none⟩) := h2
      simp [execOp, ho, h3, hrun w b o']
    · rw [hd] at hs; injection hs with hs; subst hs; rw [hF]
      refine ⟨b, o' + off, rfl, hlt, y, fun j v hv => ?_, h5⟩
      have := hc (off + j) v (by
        have hj := (List.getElem?_eq_some_iff.1 hv).1
        rw [h3, List.getElem?_append_right (by omega), List.getElem?_append_left (by omega), show off + j - x.length = j from by omega]
        exact hv)
      rw [show o' + off + j = o' + (off + j) from by omega]
      exact this
theorem run_box (ty : TypeId) (cs : List Value) (w : World) : (Instr.box ty (.agg cs.toArray)).run Tryz.prog w = .ok (.pointer (some ⟨w.heap.size, 0, none⟩)) (w.alloc (Obj.cells cs.toArray ty)) := by
  go_simp
theorem obn_box (ty : TypeId) (t d : Nat) (D : List Nat) (C : Con) (ho : o.op = .box ty (.tmp t)) (hd : o.dst = some d) (hg : o.guard = none) (hk : known ops base o t = true) (hv : F t = Fact.agg C) (hF : F d = Fact.var' C) : Obn ops Q F base N D o := by
  intro a w K hN hb hp hK
  have h1 := known_fact hb hp hk
  rw [hv] at h1
  obtain ⟨cs, h2, hc⟩ := h1
  have h3 : a.eval (.tmp t) = .agg cs.toArray := h2
  rw [if_pos (by simp [Region.wanted, hg])]
  unfold Oper.wp
  rw [show (execOp a.eval o).run Tryz.prog w = .ok (.value (.pointer (some ⟨w.heap.size, 0, none⟩))) (w.alloc (Obj.cells cs.toArray ty)) from by simp [execOp, ho, h3, run_box]]
  refine hK _ _ (one _ _) (fun s hs => ?_) fun s _ _ => ⟨rfl, by simp⟩
  rw [hd] at hs; injection hs with hs; subst hs; rw [hF]
  refine ⟨w.heap.size, rfl, lies_new rfl hc, room_at rfl (by simpa using C.size w cs hc) ?_⟩
  exact Array.all_eq_true_iff_forall_mem.2 fun v hv => by rw [(C.one w cs hc v (by simpa using hv)).2]; rfl
theorem obn_new (ty : TypeId) (d : Nat) (D : List Nat) (z : List Value) (ho : o.op = .alloc ty) (hd : o.dst = some d) (hg : o.guard = none) (hF : F d = Fact.var' (Con.raw z.length)) (hzd : (z.all fun v => v.oneCell' && !isDig v) = true)
    (hrun : ∀ w : World, (Instr.alloc ty true (.tuple #[])).run Tryz.prog w = .ok (.pointer (some ⟨w.heap.size, 0, none⟩)) (w.alloc (Obj.cells z.toArray ty))) : Obn ops Q F base N D o := by
  intro a w K hN hb hp hK
  rw [if_pos (by simp [Region.wanted, hg])]
  unfold Oper.wp
  rw [show (execOp a.eval o).run Tryz.prog w = .ok (.value (.pointer (some ⟨w.heap.size, 0, none⟩))) (w.alloc (Obj.cells z.toArray ty)) from by simp [execOp, ho, hrun w]]
  refine hK _ _ (one _ _) (fun s hs => ?_) fun s _ _ => ⟨rfl, by simp⟩
  rw [hd] at hs; injection hs with hs; subst hs; rw [hF]
  have hz : ∀ v ∈ z, v.oneCell' = true ∧ isDig v = false := fun v hv => by simpa using List.all_eq_true.1 hzd v hv
  refine ⟨w.heap.size, rfl, lies_new rfl ⟨rfl, hz⟩, room_at rfl (by simp [Con.raw]) ?_⟩
  exact Array.all_eq_true_iff_forall_mem.2 fun v hv => by rw [(hz v (by simpa using hv)).2]; rfl
theorem ob_skip (j d t : Nat) (b : Bool) (hgd : o.guard = some (j, b)) (hdj : (ops[j]?).bind Oper.dst = some d) (hk : known ops base o d = true) (hlt : d < N) (hFd : F d = Fact.eq (.bool (!b))) (ht : o.dst = some t) (hF : F t = Fact.eq undef) : Ob ops Q F base N o := by
  intro a w K hN hb hp hK
  have h1 := known_fact hb hp hk
  rw [hFd] at h1
  have h2 : a.tmps[d]? = some (.bool (!b)) := by
    have : a.tmps.getD d undef = .bool (!b) := h1
    rw [Array.getD_eq_getD_getElem?, Array.getElem?_eq_getElem (by omega)] at this
    rw [Array.getElem?_eq_getElem (by omega)]
    exact congrArg some this
  have h3 : ((ops[j]?).bind fun x => x.dst) = some d := hdj
  rw [if_neg (by simp [Region.wanted, hgd, yielded, h3, h2])]
  exact hK undef w (Below.refl _ _) fun s hs => by rw [ht] at hs; injection hs with hs; subst hs; rw [hF]; rfl
theorem ob_pick_no (c t d : Nat) (u : Value) (ho : o.op = .pick (.tmp c) (.tmp t) (.const u)) (hd : o.dst = some d) (hg : GuardOk ops F base N o) (hkc : known ops base o c = true) (hc : F c = fF) (hF : F d = Fact.eq u) : Ob ops Q F base N o :=
  ob_val hg fun a w hf => ⟨u, w, by
    have h1 := hf c hkc
    rw [hc] at h1
    have h2 : a.tmps[c]?.getD undef = .bool false := by rw [← Array.getD_eq_getD_getElem?]; exact h1
    simp [execOp, ho, Act.eval, h2, asBool], Below.refl _ _, fun s hs => by
    rw [hd] at hs; injection hs with hs; subst hs; rw [hF]; rfl⟩
end
theorem Fresh.ge {w w' : World} {D : List Nat} {a : Act} (h : Fresh w w' D a) {s b : Nat} (hs : D.contains s = true) (h1 : a.tmps.getD s undef = .pointer (some ⟨b, 0, none⟩)) : w.heap.size ≤ b ∧ b < w'.heap.size := by
  obtain ⟨c, h2, h3, h4⟩ := h.1 s (List.contains_iff_mem.1 hs)
  rw [h1] at h2
  injection h2 with h2
  injection h2 with h2
  injection h2 with h2
  subst h2
  exact ⟨h3, h4⟩
theorem sym_calls {f : FuncId} {fn : Func} {c : Code} {args : Array Value} {w : World} {R : Ending → World → Prop} (N : Nat) (ks : List (Nat × Fact)) (hf : Tryz.prog.funcs[f]? = some fn) (hb : fn.body = some c) (hN : fn.ntmps = N) (hargs : args.size ≤ N)
    (hks : ∀ p ∈ ks, p.1 < args.size ∧ p.2.holds (args.getD p.1 undef) w) (h : ∀ a, St N ks a w → c.wp Tryz.prog (bodyPost Tryz.prog fn R) a w) : Calls Tryz.prog f args w R := by
  subst hN
  exact calls_of_wp hf hb (h _ (St.enter hargs hks))
theorem then_normal {K : Act → World → Prop} {Q : Exit → Act → World → Prop} {a : Act} {w : World} (h : K a w) : Exit.then K Q .normal a w := h
theorem then_exit {K : Act → World → Prop} {Q : Exit → Act → World → Prop} {a : Act} {w : World} {id : Nat} (h : Q (.exit id) a w) : Exit.then K Q (.exit id) a w := h
theorem inBlock_exit {id : Nat} {Q : Exit → Act → World → Prop} {a : Act} {w : World} (h : Q .normal a w) : Exit.inBlock id Q (.exit id) a w := by
  simp only [Exit.inBlock, if_true]; exact h
theorem inBlock_normal {id : Nat} {Q : Exit → Act → World → Prop} {a : Act} {w : World} (h : Q .normal a w) : Exit.inBlock id Q .normal a w := h
def ResAt (w : World) (a : Act) (r : ResultVar) (v : Value) : Prop := match r with
  | .tmp t => a.tmps[t]?.getD undef = v
  | .cell t ty => ∃ b, a.tmps[t]?.getD undef = .pointer (some ⟨b, 0, none⟩) ∧ (loadVar ty ⟨b, 0, none⟩).run Tryz.prog w = .ok v w
theorem resAt_cell {N : Nat} {ks : List (Nat × Fact)} {a : Act} {w : World} (st : St N ks a w) (t b : Nat) (ty : TypeId) (C : Con) (h : FF ks t = Fact.cell b C) (hrow : ∃ dd, Tryz.prog.underlying ty = some dd ∧ dd.isRow = true) (hi : (Tryz.prog.info? ty).map (·.size) = some C.len) :
    ∃ v, ResAt w a (.cell t ty) v ∧ (Fact.agg C).holds v w := by
  obtain ⟨dd, hu, hw⟩ := hrow
  have h1 := st.at_ t
  rw [h] at h1
  obtain ⟨h2, ⟨_, cs, hc, his⟩, _⟩ := h1
  rw [Array.getD_eq_getD_getElem?] at h2
  exact ⟨.agg cs.toArray, ⟨b, h2, run_loadVar_mid w b 0 ty cs dd hc hu hw (by rw [C.size w cs his]; exact hi)⟩, cs, rfl, his⟩
theorem resAt_tmp {N : Nat} {ks : List (Nat × Fact)} {a : Act} {w : World} (st : St N ks a w) (t : Nat) : ∃ v, ResAt w a (.tmp t) v ∧ (FF ks t).holds v w := ⟨_, show a.tmps[t]?.getD undef = a.tmps.getD t undef by rw [← Array.getD_eq_getD_getElem?], st.at_ t⟩
theorem sym_ret1 {fn : Func} {a : Act} {w w0 : World} {R R1 : Fact} {r : ResultVar} (hr : fn.results = #[r]) (hd : a.defers = []) (h : ∃ v, ResAt w a r v ∧ R1.holds v w) (hb : Below w0.heap.size w0 w) (hR : ∀ v, R1.holds v w → R.holds v w) : bodyPost Tryz.prog fn (Ret R w0) .ret a w := by
  obtain ⟨v, h1, h2⟩ := h
  refine bodyPost_ret (v := v) ?_ hd ⟨v, rfl, hb, hR v h2⟩
  cases r with
  | tmp t => have h1 : a.tmps[t]?.getD undef = v := h1; simp [results, hr, h1]
  | cell t ty => obtain ⟨b, h3, h4⟩ := h1; simp [results, hr, h3, asAddr, h4]
theorem sym_ret2 {fn : Func} {a : Act} {w w0 : World} {R R1 R2 : Fact} {r s : ResultVar} (hr : fn.results = #[r, s]) (hd : a.defers = []) (h : ∃ v, ResAt w a r v ∧ R1.holds v w) (k : ∃ v, ResAt w a s v ∧ R2.holds v w) (hb : Below w0.heap.size w0 w) (hR : ∀ v u, R1.holds v w → R2.holds u w → R.holds (.tuple #[v, u]) w) : bodyPost Tryz.prog fn (Ret R w0) .ret a w := by
  obtain ⟨v, h1, h2⟩ := h
  obtain ⟨u, k1, k2⟩ := k
  refine bodyPost_ret (v := .tuple #[v, u]) ?_ hd ⟨_, rfl, hb, hR v u h2 k2⟩
  cases r with
  | tmp t =>
    have h1 : a.tmps[t]?.getD undef = v := h1
    cases s with
    | tmp t' => have k1 : a.tmps[t']?.getD undef = u := k1; simp [results, hr, h1, k1]
    | cell t' ty' => obtain ⟨b', k3, k4⟩ := k1; simp [results, hr, h1, k3, asAddr, k4]
  | cell t ty =>
    obtain ⟨b, h3, h4⟩ := h1
    cases s with
    | tmp t' => have k1 : a.tmps[t']?.getD undef = u := k1; simp [results, hr, h3, asAddr, h4, k1]
    | cell t' ty' => obtain ⟨b', k3, k4⟩ := k1; simp [results, hr, h3, asAddr, h4, k3, k4]
end Go.Proofs.YtjfehdkfogdpgaaGreatDoor
namespace Go.Proofs.YtjfehdkfogdpgaaGreatDoor
open Go.RowKit
def SafeG (g : Nat) (f : Fact) : Prop := ∀ b, g ≤ b → Safe b f
structure Mk where
  slot : Nat
  store : Nat
  from_ : Nat
  ty : TypeId
  C : Con
  z : List Value
section
variable (ops : Array Oper) (F : Nat → Fact) (base : List Nat) (N : Nat) (g : Nat) (P : List Mk)
structure KInv5 (a0 : Act) (w0 : World) (listed : Array Bool) (a : Act) (w : World) : Prop where
  lsize : listed.size = ops.size
  tsize : a.tmps.size = N
  defers : a.defers = a0.defers
  base : ∀ t ∈ base, (F t).holds (a.tmps.getD t undef) w
  done : ∀ (i t : Nat), listed.getD i false = true → (ops[i]?).bind Oper.dst = some t → (F t).holds (a.tmps.getD t undef) w
  below : Below g w0 w
  gle : g ≤ w.heap.size
  made : ∀ p ∈ P, ∀ i, listed.getD i false = true → (ops[i]?).bind Oper.dst = some p.slot → ∃ b, a.tmps.getD p.slot undef = .pointer (some ⟨b, 0, none⟩) ∧ g ≤ b ∧ b < w.heap.size ∧ Room w b p.C.len ∧ (listed.getD p.store false = true → Lies w b 0 p.C)
  closed : Closed ops listed
  apart : ∀ p ∈ P, ∀ q ∈ P, p.slot ≠ q.slot → ∀ i k, listed.getD i false = true → (ops[i]?).bind Oper.dst = some p.slot → listed.getD k false = true → (ops[k]?).bind Oper.dst = some q.slot → a.tmps.getD p.slot undef ≠ a.tmps.getD q.slot undef
inductive KOb5 (Q : Exit → Act → World → Prop) (i : Nat) (o : Oper) : Prop
  | plain (h : Ob ops Q F base N o) (hp : (P.all fun p => p.store != i && o.dst != some p.slot) = true) : KOb5 Q i o
  | alloc (p : Mk) (hm : p ∈ P) (ho : o.op = .alloc p.ty) (hd : o.dst = some p.slot) (hg : o.guard = none) (hF : F p.slot = Fact.any) (hp : (P.all fun q => q.store != i && (q.slot != p.slot || q.C.len == p.z.length)) = true) (hzd : (p.z.all fun v => v.oneCell' && !isDig v) = true)
      (hrun : ∀ w : World, (Instr.alloc p.ty true (.tuple #[])).run Tryz.prog w = .ok (.pointer (some ⟨w.heap.size, 0, none⟩)) (w.alloc (Obj.cells p.z.toArray p.ty))) : KOb5 Q i o
  | store (p : Mk) (hm : p ∈ P) (hi : p.store = i) (ho : o.op = .store p.ty (.tmp p.slot) (.tmp p.from_)) (hd : o.dst = none) (hg : o.guard = none) (hk : known ops [] o p.slot = true) (hk2 : known ops base o p.from_ = true)
      (hF : F p.from_ = Fact.agg p.C) (hin : (Tryz.prog.info? p.ty).map (·.size) = some p.C.len) (hu : (P.all fun q => (q.slot == p.slot && q.store == i && q.from_ == p.from_) || (q.slot != p.slot && q.store != i)) = true) (hu2 : ∀ q ∈ P, q.slot = p.slot → q.C = p.C) : KOb5 Q i o
end
section
variable {ops : Array Oper} {Q : Exit → Act → World → Prop} {F : Nat → Fact} {base : List Nat} {N g : Nat} {P : List Mk}
theorem known_op5 {o : Oper} {t : Nat} (hk : known ops [] o t = true) : ∃ e ∈ o.after, Region.binds .any e = true ∧ (ops[e.on]?).bind Oper.dst = some t := by
  unfold known at hk
  simp only [List.contains_nil, Bool.false_or] at hk
  obtain ⟨e, he, h⟩ := Array.any_eq_true'.1 hk
  simp only [Bool.and_eq_true, beq_iff_eq] at h
  exact ⟨e, he, h.1, h.2⟩
theorem KInv5.plain (hok : formOk ops base N = true) {a0 : Act} {w0 : World} {listed : Array Bool} {a : Act} {w w' : World} (h : KInv5 ops F base N g P a0 w0 listed a w) {i : Nat} {o : Oper} (ho : ops[i]? = some o)
    (he : ∀ e ∈ o.after, Region.binds .any e = true → listed.getD e.on false = true) {v : Value} (hp : (P.all fun p => p.store != i && o.dst != some p.slot) = true)
    (hb : Below w.heap.size w w') (hF : ∀ t, o.dst = some t → (F t).holds v w') : KInv5 ops F base N g P a0 w0 (listed.setIfInBounds i true) (a.put o.dst v) w' := by
  obtain ⟨_, hd⟩ := formOk_at hok ho
  have hlt : i < listed.size := by rw [h.lsize]; exact (Array.getElem?_eq_some_iff.1 ho).1
  have hP : ∀ p ∈ P, p.store ≠ i ∧ o.dst ≠ some p.slot := fun p hm => by
    have := List.all_eq_true.1 hp p hm
    simpa using this
  have hnew : ∀ p ∈ P, ∀ j, (listed.setIfInBounds i true).getD j false = true → (ops[j]?).bind Oper.dst = some p.slot → listed.getD j false = true := fun p hm j hj hjd => by
    rcases (listed_set hlt).1 hj with rfl | hj
    · rw [ho] at hjd
      exact absurd hjd (hP p hm).2
    · exact hj
  refine ⟨by simpa using h.lsize, ?_, ?_, fun t ht => ?_, fun j t hj hjt => ?_, h.below.trans (hb.mono h.gle), Nat.le_trans h.gle hb.size, fun p hm j hj hjd => ?_, h.closed.set h.lsize ho he, fun p hm q hq hne j k hj hjd hk hkd => ?_⟩
  · cases o.dst <;> simpa [Act.put] using h.tsize
  · cases o.dst <;> simpa [Act.put] using h.defers
  · rw [getD_put_other (fun e => (hd t e).2.1 ht)]
    exact (F t).stable _ _ _ (h.base t ht) hb
  · by_cases hji : j = i
    · subst hji
      rw [ho] at hjt
      have hjt' : o.dst = some t := hjt
      rw [hjt', getD_put_same (by rw [h.tsize]; exact (hd t hjt').1)]
      exact hF t hjt'
    · have hl : listed.getD j false = true := ((listed_set hlt).1 hj).resolve_left hji
      rw [getD_put_other (fun e => (hd t e).2.2 j hji hjt)]
      exact (F t).stable _ _ _ (h.done j t hl hjt) hb
  · obtain ⟨b, h1, h2, h3, h4, h5⟩ := h.made p hm j (hnew p hm j hj hjd) hjd
    exact ⟨b, by rw [getD_put_other (hP p hm).2]; exact h1, h2, Nat.lt_of_lt_of_le h3 hb.size, h4.below hb, fun hl => (h5 (((listed_set hlt).1 hl).resolve_left (hP p hm).1)).below hb⟩
  · rw [getD_put_other (hP p hm).2, getD_put_other (hP q hq).2]
    exact h.apart p hm q hq hne j k (hnew p hm j hj hjd) hjd (hnew q hq k hk hkd) hkd
set_option maxRecDepth 100000 in
theorem KInv5.alloc (hok : formOk ops base N = true) (hobs : ∀ j o', ops[j]? = some o' → KOb5 ops F base N P Q j o') {a0 : Act} {w0 : World} {listed : Array Bool} {a : Act} {w : World} (h : KInv5 ops F base N g P a0 w0 listed a w) {i : Nat} {o : Oper} (ho : ops[i]? = some o)
    (hl0 : listed.getD i false = false) (he : ∀ e ∈ o.after, Region.binds .any e = true → listed.getD e.on false = true) {s : Nat} {z : List Value} {ty : TypeId} (hds : o.dst = some s) (hFs : F s = Fact.any) (hp : (P.all fun q => q.store != i && (q.slot != s || q.C.len == z.length)) = true) (hzd : (z.all fun v => v.oneCell' && !isDig v) = true) :
    KInv5 ops F base N g P a0 w0 (listed.setIfInBounds i true) (a.put o.dst (.pointer (some ⟨w.heap.size, 0, none⟩))) (w.alloc (Obj.cells z.toArray ty)) := by
  obtain ⟨_, hd⟩ := formOk_at hok ho
  have hlt : i < listed.size := by rw [h.lsize]; exact (Array.getElem?_eq_some_iff.1 ho).1
  have hb := one w (Obj.cells z.toArray ty)
  have hPs : ∀ p ∈ P, p.store ≠ i ∧ (p.slot = s → p.C.len = z.length) := fun p hm => by
    have h1 := List.all_eq_true.1 hp p hm
    simp only [Bool.and_eq_true, bne_iff_ne, ne_eq, Bool.or_eq_true, beq_iff_eq] at h1
    exact ⟨h1.1, fun e => h1.2.resolve_left (fun h2 => h2 e)⟩
  have hz : ∀ v ∈ z, v.oneCell' = true ∧ isDig v = false := fun v hv => by simpa using List.all_eq_true.1 hzd v hv
  obtain ⟨hsN, hsb, hsu⟩ := hd s hds
  have hnot : ∀ p ∈ P, p.slot = s → ¬ listed.getD p.store false = true := fun p hm hps hl => by
    have hlt2 : p.store < ops.size := by
      rcases Nat.lt_or_ge p.store listed.size with h1 | h1
      · rw [← h.lsize]; exact h1
      · rw [Array.getD_eq_getD_getElem?, Array.getElem?_eq_none h1] at hl; cases hl
    have ho' : ops[p.store]? = some ops[p.store] := Array.getElem?_eq_getElem hlt2
    cases hobs p.store _ ho' with
    | plain h1 h2 => have := List.all_eq_true.1 h2 p hm; simp at this
    | alloc _ _ _ _ _ _ h2 => have := List.all_eq_true.1 h2 p hm; simp at this
    | store p' hm' hi' _ _ _ hk _ _ _ hu =>
      have h3 := List.all_eq_true.1 hu p hm
      simp at h3
      obtain ⟨e, hem, hb', hdst⟩ := known_op5 hk
      have h4 := h.closed _ _ ho' hl e hem hb'
      have h5 : e.on = i := by
        by_cases h6 : e.on = i
        · exact h6
        · exfalso
          refine hsu e.on h6 ?_
          rw [hdst]
          congr 1
          rw [← h3.1]; exact hps
      rw [h5, hl0] at h4
      cases h4
  have hput : (a.put o.dst (.pointer (some ⟨w.heap.size, 0, none⟩))).tmps.getD s undef = .pointer (some ⟨w.heap.size, 0, none⟩) := by
    rw [hds, getD_put_same (by rw [h.tsize]; exact hsN)]
  have hold : ∀ t, t ≠ s → (a.put o.dst (.pointer (some ⟨w.heap.size, 0, none⟩))).tmps.getD t undef = a.tmps.getD t undef := fun t ht => getD_put_other (by rw [hds]; intro e; injection e with e; exact ht e.symm)
  have hother : ∀ r ∈ P, r.slot ≠ s → ∀ j, (listed.setIfInBounds i true).getD j false = true → (ops[j]?).bind Oper.dst = some r.slot → listed.getD j false = true := fun r hr hrs j hj hjd => ((listed_set hlt).1 hj).resolve_left (by
    rintro rfl
    rw [ho] at hjd
    have h5 : o.dst = some r.slot := hjd
    rw [hds] at h5; injection h5 with h5; exact hrs h5.symm)
  have hfar : ∀ r ∈ P, r.slot ≠ s → ∀ j, (listed.setIfInBounds i true).getD j false = true → (ops[j]?).bind Oper.dst = some r.slot → a.tmps.getD r.slot undef ≠ .pointer (some ⟨w.heap.size, 0, none⟩) := fun r hr hrs j hj hjd => by
    obtain ⟨b, h1, h2, h3, _⟩ := h.made r hr j (hother r hr hrs j hj hjd) hjd
    rw [h1]
    intro e
    injection e with e
    injection e with e
    injection e with e
    omega
  refine ⟨by simpa using h.lsize, ?_, ?_, fun t ht => ?_, fun j t hj hjt => ?_, h.below.trans (hb.mono h.gle), Nat.le_trans h.gle hb.size, fun p hm j hj hjd => ?_, h.closed.set h.lsize ho he, fun p hm q hq hne j k hj hjd hk hkd => ?_⟩
  · cases o.dst <;> simpa [Act.put] using h.tsize
  · cases o.dst <;> simpa [Act.put] using h.defers
  · rw [hold t (fun e => hsb (e ▸ ht))]
    exact (F t).stable _ _ _ (h.base t ht) hb
  · by_cases hts : t = s
    · subst hts
      rw [hFs]
      trivial
    · rw [hold t hts]
      refine (F t).stable _ _ _ (h.done j t (((listed_set hlt).1 hj).resolve_left ?_) hjt) hb
      rintro rfl
      rw [ho] at hjt
      exact hts (by have h5 : o.dst = some t := hjt; rw [hds] at h5; injection h5 with h5; exact h5.symm)
  · by_cases hps : p.slot = s
    · refine ⟨w.heap.size, by rw [hps]; exact hput, h.gle, by simp, room_at rfl (by rw [(hPs p hm).2 hps]; simp) ?_, fun hl => absurd (((listed_set hlt).1 hl).resolve_left (hPs p hm).1) (hnot p hm hps)⟩
      exact Array.all_eq_true_iff_forall_mem.2 fun v hv => by rw [(hz v (by simpa using hv)).2]; rfl
    · obtain ⟨b, h1, h2, h3, h4, h5⟩ := h.made p hm j (hother p hm hps j hj hjd) hjd
      exact ⟨b, by rw [hold _ hps]; exact h1, h2, Nat.lt_of_lt_of_le h3 hb.size, h4.below hb, fun hl => (h5 (((listed_set hlt).1 hl).resolve_left (hPs p hm).1)).below hb⟩
  · by_cases hps : p.slot = s
    · have hqs : q.slot ≠ s := fun e => hne (hps.trans e.symm)
      rw [hps, hput, hold _ hqs]
      exact (hfar q hq hqs k hk hkd).symm
    · by_cases hqs : q.slot = s
      · rw [hqs, hput, hold _ hps]
        exact hfar p hm hps j hj hjd
      · rw [hold _ hps, hold _ hqs]
        exact h.apart p hm q hq hne j k (hother p hm hps j hj hjd) hjd (hother q hq hqs k hk hkd) hkd
theorem KInv5.store (hsafe : ∀ t, SafeG g (F t)) {a0 : Act} {w0 : World} {listed : Array Bool} {a : Act} {w : World} (h : KInv5 ops F base N g P a0 w0 listed a w) {i : Nat} {o : Oper} (ho : ops[i]? = some o)
    (he : ∀ e ∈ o.after, Region.binds .any e = true → listed.getD e.on false = true) {p : Mk} (hm : p ∈ P) (hd : o.dst = none) (hu : (P.all fun q => (q.slot == p.slot && q.store == i && q.from_ == p.from_) || (q.slot != p.slot && q.store != i)) = true) (hu2 : ∀ q ∈ P, q.slot = p.slot → q.C = p.C)
    {j : Nat} (hj : listed.getD j false = true) (hjd : (ops[j]?).bind Oper.dst = some p.slot) {b : Nat} {cs : List Value} (h2 : g ≤ b) (h3 : b < w.heap.size) (hptr : a.tmps.getD p.slot undef = .pointer (some ⟨b, 0, none⟩)) (hr : Room w b p.C.len) (hc : p.C.is w cs) :
    KInv5 ops F base N g P a0 w0 (listed.setIfInBounds i true) a (w.setCells b 0 cs) := by
  have hlt : i < listed.size := by rw [h.lsize]; exact (Array.getElem?_eq_some_iff.1 ho).1
  have hlen : cs.length = p.C.len := p.C.size w cs hc
  have hr' : Room w b cs.length := by rw [hlen]; exact hr
  have hsoft := hr'.soft cs rfl
  have hu' : ∀ q ∈ P, (q.slot = p.slot ∧ q.store = i) ∨ (q.slot ≠ p.slot ∧ q.store ≠ i) := fun q hq => by
    have := List.all_eq_true.1 hu q hq
    simp only [Bool.or_eq_true, Bool.and_eq_true, beq_iff_eq, bne_iff_ne, ne_eq] at this
    rcases this with h5 | h5
    · exact .inl ⟨h5.1.1, h5.1.2⟩
    · exact .inr h5
  have hold : ∀ k d, (listed.setIfInBounds i true).getD k false = true → (ops[k]?).bind Oper.dst = some d → listed.getD k false = true := fun k d hk hkd => ((listed_set hlt).1 hk).resolve_left (by
    rintro rfl
    rw [ho] at hkd
    have h5 : o.dst = some d := hkd
    rw [hd] at h5; cases h5)
  refine ⟨by simpa using h.lsize, h.tsize, h.defers, fun t ht => hsafe t b h2 _ _ _ hr' (h.base t ht), fun k t hk hkt => hsafe t b h2 _ _ _ hr' (h.done k t (hold k t hk hkt) hkt), below_setCells h.below b 0 cs h2 h.gle, by rw [size_setCells]; exact h.gle, fun q hq k hk hkd => ?_, h.closed.set h.lsize ho he, fun q hq r hr hne k m hk hkd hm' hmd => h.apart q hq r hr hne k m (hold k _ hk hkd) hkd (hold m _ hm' hmd) hmd⟩
  rcases hu' q hq with ⟨e1, e2⟩ | ⟨e1, e2⟩
  · refine ⟨b, by rw [e1]; exact hptr, h2, by rw [size_setCells]; exact h3, ?_, fun _ => ?_⟩
    · rw [hu2 q hq e1, ← hlen]
      exact hr'.put rfl fun v hv => (p.C.one w cs hc v hv).2
    · rw [hu2 q hq e1]
      exact Lies.put h3 hsoft hr'.there hc
  · obtain ⟨b', k1, k2, k3, k4, k5⟩ := h.made q hq k (hold k _ hk hkd) hkd
    have hne : b' ≠ b := by
      rintro rfl
      exact h.apart q hq p hm e1 k j (hold k _ hk hkd) hkd hj hjd (k1.trans hptr.symm)
    exact ⟨b', k1, k2, by rw [size_setCells]; exact k3, k4.other hne, fun hl => (k5 (((listed_set hlt).1 hl).resolve_left e2)).other hsoft hne⟩
theorem KInv5.step (hok : formOk ops base N = true) (hsafe : ∀ t, SafeG g (F t)) (hobs : ∀ j o', ops[j]? = some o' → KOb5 ops F base N P Q j o') {a0 : Act} {w0 : World} {listed : Array Bool} {a : Act} {w : World} (h : KInv5 ops F base N g P a0 w0 listed a w) {i : Nat} {o : Oper} (ho : ops[i]? = some o)
    (hl0 : listed.getD i false = false) (he : ∀ e ∈ o.after, Region.binds .any e = true → listed.getD e.on false = true) (K : Act → World → Prop) (hK : ∀ a' w', KInv5 ops F base N g P a0 w0 (listed.setIfInBounds i true) a' w' → K a' w') :
    (if Region.wanted o (yielded ops a.tmps) = true then Oper.wp Tryz.prog o a w K Q else K (a.put o.dst undef) w) := by
  have hdone : ∀ e ∈ o.after, Region.binds .any e = true → ∀ t, (ops[e.on]?).bind Oper.dst = some t → (F t).holds (a.tmps.getD t undef) w := fun e hm hb t ht => h.done e.on t (he e hm hb) ht
  cases hobs i o ho with
  | plain hob hp => exact hob a w K h.tsize h.base hdone fun v w' hb hF => hK _ _ (h.plain hok ho he hp hb hF)
  | alloc p hm hop hd hg hF hp hzd hrun =>
    rw [if_pos (by simp [Region.wanted, hg])]
    unfold Oper.wp
    rw [show (execOp a.eval o).run Tryz.prog w = .ok (.value (.pointer (some ⟨w.heap.size, 0, none⟩))) (w.alloc (Obj.cells p.z.toArray p.ty)) from by simp [execOp, hop, hrun w]]
    exact hK _ _ (h.alloc hok hobs ho hl0 he hd hF hp hzd)
  | store p hm hi hop hd hg hk hk2 hF hin hu hu2 =>
    rw [if_pos (by simp [Region.wanted, hg])]
    obtain ⟨e, hem, heb, hed⟩ := known_op5 hk
    obtain ⟨b, h1, h2, h3, h4, _⟩ := h.made p hm e.on (he e hem heb) hed
    have hf := known_fact h.base hdone hk2
    rw [hF] at hf
    obtain ⟨cs, hv, hc⟩ := hf
    have hlen : cs.length = p.C.len := p.C.size w cs hc
    have k1 : a.eval (.tmp p.slot) = .pointer (some ⟨b, 0, none⟩) := h1
    have k2 : a.eval (.tmp p.from_) = .agg cs.toArray := hv
    refine wp_store_mid p.ty (.tmp p.slot) (.tmp p.from_) hop b 0 cs.toArray k1 k2 (by rw [show cs.toArray.size = p.C.len from by simpa using hlen]; exact h4.there) (by rw [hin, ← hlen]; simp) (all_oneCell_toArray fun v hv => (p.C.one w cs hc v hv).1) ?_
    have hput : a.put o.dst undef = a := by rw [hd]; rfl
    rw [hput]
    exact hK _ _ (h.store hsafe ho he hm hd hu hu2 (he e hem heb) hed h2 h3 h1 h4 hc)
end
section
variable {ops : Array Oper} {Q : Exit → Act → World → Prop} {F : Nat → Fact} {base : List Nat} {N : Nat} {o : Oper}
end
end Go.Proofs.YtjfehdkfogdpgaaGreatDoor
namespace Go.Proofs.YtjfehdkfogdpgaaGreatDoor
open Go.RowKit
def TrimRel (B m : Nat) (zs : List Nat) (w : World) (out iv : Value) (wr : World) : Prop :=
  ∃ (k : Nat) (v : Value), k ≤ m ∧ out = v ∧ iv = .int .i64 (k : Int) ∧ Ow B wr v (zs.take k) ∧ Below B w wr ∧ B ≤ wr.heap.size
theorem Ow.grown {B : Nat} {w0 w w' : World} {v : Value} {zs : List Nat} (h : Ow B w v zs) (hg : w.grownBy w' v.ownBlock) (hb : Below B w0 w) (hB : B ≤ w.heap.size) : Below B w0 w' :=
  hb.grown hg hB (fun k' hk' => (World.ownsRow.lt h k' hk').1)
theorem digit_cell (w : World) (z : Nat) : (w.alloc (Obj.cells #[Value.int IntKind.u32 (z : Int)] 59)).cell? ⟨w.heap.size, 0, none⟩ = some (.int .u32 (z : Int)) := by
  simp
set_option maxRecDepth 100000 in
set_option maxHeartbeats 1000000 in
theorem refTrim_any (A : Option Addr) (c : Nat) (zs : List Nat) (w : World) (h : Rd w A zs) (hm : zs.length ≤ 1000) :
    Calls Tryz.prog 80 #[.slice A zs.length c] w fun e w' => ∃ A' c', e = .returned (nt A' (Nm.tlen zs) c') ∧ Nm.tlen zs ≤ c' ∧ Fr w.heap.size w' A' (zs.take (Nm.tlen zs)) ∧ Below w.heap.size w w' := by
  have ht := Nm.tlen_le zs
  go_enter Tryz.func80, Tryz.ntmps80
  go_wp2_with fail
  go_loop [3] (fun n => ∃ k : Nat, Nm.tlen zs ≤ k ∧ k ≤ zs.length ∧ n = .int .i64 k) (fun n => (intOf n).toNat)
  case atStart => exact ⟨_, ht, Nat.le_refl _, rfl⟩
  case round =>
    obtain ⟨k, hk1, hk2, rfl⟩ := hrel
    have hafter : Nm.tlen zs = k → True := fun _ => trivial
    clear hafter
    by_cases hk : 0 < k ∧ zs.getD (k - 1) 0 = 0
    · obtain ⟨hk0, hz⟩ := hk
      obtain ⟨k, rfl⟩ : ∃ j, k = j + 1 := ⟨k - 1, by omega⟩
      obtain ⟨g, off, hA, hcell⟩ := (h.alloc (Obj.cells #[Value.slice none 0 0] 24)).at_ (i := k) (by omega)
      subst hA
      have hck := hcell k (by omega)
      have hz' : zs[k]'(by omega) = 0 := by
        rw [show k + 1 - 1 = k from rfl, List.getD_eq_getElem?_getD, List.getElem?_eq_getElem (by omega : k < zs.length)] at hz
        exact hz
      have hlt : Nm.tlen zs ≤ k := by
        rcases Nat.lt_or_ge k (Nm.tlen zs) with h1 | h1
        · exact absurd hz' (Nm.tlen_last zs k (by omega) (by omega))
        · exact h1
      rw [hz'] at hck
      clear hcell hz hz'
      go_wp2_with fail
      exact ⟨⟨k, hlt, by omega, rfl⟩, by simp [intOf]⟩
    · have heq : Nm.tlen zs = k := by
        rcases Nat.eq_zero_or_pos k with h0 | h0
        · omega
        · rcases Nat.lt_or_ge (k - 1) (Nm.tlen zs) with h1 | h1
          · omega
          · exfalso
            have h2 := Nm.tlen_zero zs (k - 1) h1 (by omega)
            exact hk ⟨h0, by rw [List.getD_eq_getElem?_getD, List.getElem?_eq_getElem (by omega : k - 1 < zs.length)]; exact h2⟩
      have hgo : ∀ (Qx : Exit → Act → World → Prop), True := fun _ => trivial
      clear hgo
      rcases Nat.eq_zero_or_pos k with h0 | h0
      · have hT := Lib.hid heq
        subst h0
        clear hk
        go_wp2_with fail
        generalize hw1 : w.alloc (Obj.cells #[Value.slice none 0 0] 24) = w1
        have hs1 : w1.heap.size = w.heap.size + 1 := by rw [← hw1]; simp
        have hcell1 : w1.cell? ⟨w.heap.size, 0, none⟩ = some (.slice none 0 0) := by rw [← hw1]; simp
        have hfz1 : w1.frozen? ⟨w.heap.size, 0, none⟩ = false := by rw [← hw1]; simp
        have hb1 : Below w.heap.size w w1 := by rw [← hw1]; exact one _ _
        have h1 := h.alloc (Obj.cells #[Value.slice none 0 0] 24)
        rw [hw1] at h1
        clear hw1
        go_loopw [4, 5] (fun o i wr => TrimRel w1.heap.size (Nm.tlen zs) zs w1 o i wr) (fun _ i _ => zs.length - (intOf i).toNat)
        case atStart => exact ⟨0, _, Nat.zero_le _, rfl, rfl, by rw [List.take_zero]; exact Ow.nil _ _, Below.refl _ _, Nat.le_refl _⟩
        case round =>
          obtain ⟨j, v, hj, hv, rfl, how, hbj, hBj⟩ := hrel
          obtain rfl := hv.symm
          obtain ⟨k1, k2⟩ := seen hbj
          by_cases hlt : j < 0
          · omega
          · have hjm : j = Nm.tlen zs := by omega
            subst hjm
            obtain ⟨A', c', hv, hcc, hfr⟩ := how.slice
            have hlen : (zs.take (Nm.tlen zs)).length = Nm.tlen zs := by rw [List.length_take]; omega
            rw [hlen] at hv hcc
            subst hv
            have hcr : wr.cell? ⟨w.heap.size, 0, none⟩ = some (.slice none 0 0) := by rw [k1 _ _ (by omega)]; exact hcell1
            have hfr1 : wr.frozen? ⟨w.heap.size, 0, none⟩ = false := by rw [k2 _ _ (by omega)]; exact hfz1
            clear k1 k2
            go_wp2_with fail
            refine bodyPost_ret (v := nt A' (Nm.tlen zs) c') (by simp [results, Tryz.results80, go_sem, hcr] <;> omega) rfl ⟨A', c', rfl, hcc, ?_, ?_⟩
            · exact (hfr.mono (by omega)).setCell hcr (by simp)
            · exact (up hb1 hbj).setCell (Nat.le_refl _) _
      · have hk3 : zs.getD (k - 1) 0 ≠ 0 := fun e => hk ⟨h0, e⟩
        obtain ⟨k, rfl⟩ : ∃ j, k = j + 1 := ⟨k - 1, by omega⟩
        obtain ⟨g, off, hA, hcell⟩ := (h.alloc (Obj.cells #[Value.slice none 0 0] 24)).at_ (i := k) (by omega)
        have hkl : k < zs.length := hk2
        have hck := hcell k hkl
        have hz' : zs[k]'hkl ≠ 0 := by
          rw [show k + 1 - 1 = k from rfl, List.getD_eq_getElem?_getD, List.getElem?_eq_getElem hkl] at hk3
          exact hk3
        have hbz := digit_ne hz'
        have hT := Lib.hid heq
        clear hcell hk hk3 hz' heq
        subst hA
        go_wp2_with fail
        have heq := hT.out
        generalize hw1 : w.alloc (Obj.cells #[Value.slice none 0 0] 24) = w1
        have hs1 : w1.heap.size = w.heap.size + 1 := by rw [← hw1]; simp
        have hcell1 : w1.cell? ⟨w.heap.size, 0, none⟩ = some (.slice none 0 0) := by rw [← hw1]; simp
        have hfz1 : w1.frozen? ⟨w.heap.size, 0, none⟩ = false := by rw [← hw1]; simp
        have hb1 : Below w.heap.size w w1 := by rw [← hw1]; exact one _ _
        have h1 := h.alloc (Obj.cells #[Value.slice none 0 0] 24)
        rw [hw1] at h1
        clear hw1
        go_loopw [4, 5] (fun o i wr => TrimRel w1.heap.size (Nm.tlen zs) zs w1 o i wr) (fun _ i _ => zs.length - (intOf i).toNat)
        case atStart => exact ⟨0, _, Nat.zero_le _, rfl, rfl, by rw [List.take_zero]; exact Ow.nil _ _, Below.refl _ _, Nat.le_refl _⟩
        case round =>
          obtain ⟨j, v, hj, hv, rfl, how, hbj, hBj⟩ := hrel
          obtain rfl := hv.symm
          obtain ⟨k1, k2⟩ := seen hbj
          by_cases hlt : j < k + 1
          · have hlz : j < zs.length := by omega
            obtain ⟨g, off, hA, hr⟩ := (h1.below hbj).at_ hlz
            have hcj := hr j hlz
            obtain ⟨z, hz⟩ : ∃ z, zs[j] = z := ⟨_, rfl⟩
            rw [hz] at hcj
            have htk : zs.take (j + 1) = zs.take j ++ [z] := by rw [List.take_succ_eq_append_getElem hlz, hz]
            have Htk := Lib.hid htk
            cases hA
            clear hr hz htk
            go_wp2_with (at_builtin
                         refine wpList_push rfl (.tmp 25) (.tmp 30) rfl w1.heap.size v (zs.take j) z _ 1 rfl rfl (how.other (one _ _)) (by exact digit_cell _ z) (by simp; omega) (by simp; omega) ?_
                         intro v4 w4 hown4 hg4 hat4)
            have hb4 := hbj.grown (grown_alloc hg4) hBj (fun k' hk' => (World.ownsRow.lt how k' hk').1)
            rw [← Htk.out] at hown4
            refine ⟨⟨j + 1, v4, by omega, rfl, by go_num, hown4, hb4, Nat.le_trans hBj (grown_alloc hg4).size⟩, by simp [intOf]; omega⟩
          · have hjm : j = Nm.tlen zs := by omega
            subst hjm
            obtain ⟨A', c', hv, hcc, hfr⟩ := how.slice
            have hlen : (zs.take (Nm.tlen zs)).length = Nm.tlen zs := by rw [List.length_take]; omega
            rw [hlen] at hv hcc
            subst hv
            have hcr : wr.cell? ⟨w.heap.size, 0, none⟩ = some (.slice none 0 0) := by rw [k1 _ _ (by omega)]; exact hcell1
            have hfr1 : wr.frozen? ⟨w.heap.size, 0, none⟩ = false := by rw [k2 _ _ (by omega)]; exact hfz1
            clear k1 k2
            go_wp2_with fail
            refine bodyPost_ret (v := nt A' (Nm.tlen zs) c') (by simp [results, Tryz.results80, go_sem, hcr] <;> omega) rfl ⟨A', c', rfl, hcc, ?_, ?_⟩
            · exact (hfr.mono (by omega)).setCell hcr (by simp)
            · exact (up hb1 hbj).setCell (Nat.le_refl _) _
theorem refTrim_n {A : Option Addr} {n c : Nat} {zs rs : List Nat} {w : World} (h : Rd w A zs) (hl : zs.length = n) (hm : n ≤ 1000) (hd : Nm.Dig zs) (hr : Nm.nat (Nm.val zs) = rs) :
    Calls Tryz.prog 80 #[.slice A n c] w fun e w' => ∃ A' c', e = .returned (nt A' rs.length c') ∧ rs.length ≤ c' ∧ Fr w.heap.size w' A' rs ∧ Below w.heap.size w w' := by
  subst hl hr
  rw [← Nm.trim_eq hd]
  refine (refTrim_any A c zs w h hm).mono ?_
  rintro e w' ⟨A', c', rfl, hc, hf, hb⟩
  have hlen : (zs.take (Nm.tlen zs)).length = Nm.tlen zs := by rw [List.length_take]; have := Nm.tlen_le zs; omega
  exact ⟨A', c', by rw [hlen], by rw [hlen]; exact hc, hf, hb⟩
end Go.Proofs.YtjfehdkfogdpgaaGreatDoor
namespace Go.Proofs.YtjfehdkfogdpgaaGreatDoor
open Go.RowKit
theorem cmpI_cases (x y : Int) : (x < y ∧ cmpI x y = -1) ∨ (y < x ∧ cmpI x y = 1) ∨ (x = y ∧ cmpI x y = 0) := by
  unfold cmpI
  split
  · exact .inl ⟨by assumption, rfl⟩
  · split
    · exact .inr (.inl ⟨by assumption, rfl⟩)
    · exact .inr (.inr ⟨by omega, rfl⟩)
end Go.Proofs.YtjfehdkfogdpgaaGreatDoor
namespace Go.Proofs.YtjfehdkfogdpgaaGreatDoor
open Go.RowKit
theorem go_lss_u64 (b c : Int) (r : Bool) (hr : decide (b < c) = r) (a : Act) (w : World) (t s : Nat) (o : Oper) (ho : o.op = .binOp .lss 57 (.tmp t) (.tmp s) 57) (h1 : a.eval (.tmp t) = .int .u64 b) (h2 : a.eval (.tmp s) = .int .u64 c) :
    (execOp a.eval o).run Tryz.prog w = .ok (.value (.bool r)) w := by
  subst hr
  simp [execOp, ho, h1, h2]
  go_simp
theorem go_gtr_u64 (b c : Int) (r : Bool) (hr : decide (c < b) = r) (a : Act) (w : World) (t s : Nat) (o : Oper) (ho : o.op = .binOp .gtr 57 (.tmp t) (.tmp s) 57) (h1 : a.eval (.tmp t) = .int .u64 b) (h2 : a.eval (.tmp s) = .int .u64 c) :
    (execOp a.eval o).run Tryz.prog w = .ok (.value (.bool r)) w := by
  subst hr
  simp [execOp, ho, h1, h2]
  go_simp
theorem c_digit (xs : List Nat) (j : Nat) : ∀ v u w, (Fact.num xs).holds v w → (fI (j : Int)).holds u w → Calls Tryz.prog 82 #[v, u] w (Ret (Fact.eq (.int .u64 (Nm.dg xs j : Int))) w) := by
  rintro v u w ⟨A, c, rfl, h⟩ rfl
  exact (digit_any A xs.length c j xs w h.rd rfl (by have := h.small; omega) h.dig).mono fun e w' ⟨he, hb⟩ => ⟨_, he, hb, rfl⟩
set_option maxHeartbeats 400000 in
theorem refOf_any (n : Nat) (w : World) (hn : n < 18446744073709551616) :
    Calls Tryz.prog 47 #[.int .u64 n] w fun e w' => ∃ A c, e = .returned (nt A (Nm.nat n).length c) ∧ (Nm.nat n).length ≤ c ∧ Fr w.heap.size w' A (Nm.nat n) ∧ Below w.heap.size w w' := by
  have hv : Nm.val [n % 4294967296, n / 4294967296] = n := by simp only [Nm.val]; omega
  have hd : Nm.Dig [n % 4294967296, n / 4294967296] := Nm.Dig.mk (by omega) (Nm.Dig.mk (by omega) Nm.Dig.nil)
  have Hv := Lib.hid hv
  clear hv
  go_enter Tryz.func47, Tryz.ntmps47
  go_wp2_with fail
  have ho := Row.new (w.alloc (Obj.cells #[Value.slice none 0 0] 24)) 59 #[Value.int IntKind.u32 (↑n % 4294967296), Value.int IntKind.u32 (↑n / 4294967296)] [n % 4294967296, n / 4294967296] (by
    intro i hi
    match i, hi with
    | 0, _ => simp
    | 1, _ => simp)
  refine (refTrim_n (n := 2) (.inr ⟨_, _, rfl, by simpa using ho.1⟩) rfl (by omega) hd (by rw [Hv.out])).mono ?_
  rintro e w' ⟨A', c', rfl, hc', hf, hb⟩
  obtain ⟨k1, k2⟩ := seen hb
  have hcell : w'.cell? ⟨w.heap.size, 0, none⟩ = some (.slice none 0 0) := by
    rw [k1 _ _ (by simp; omega)]
    simp [World.cell?_alloc_lt]
  clear hn
  go_wp2
  refine bodyPost_ret (v := nt A' (Nm.nat n).length c') (by simp [results, Tryz.results47, go_sem, hcell]) rfl ⟨_, _, rfl, hc', ?_, ?_⟩
  · exact (hf.mono (by simp; omega)).setCell hcell (by simp)
  · exact (up (two _ _ _) hb).setCell (Nat.le_refl _) _
def rcmpF (b : Bool) (xs ys : List Nat) (j : Nat) (t : Nat) : Fact := (([(2, Fact.var xs), (3, Fact.var ys), (5, fI (j : Int)), (18, Fact.num xs), (19, fI (j : Int)), (20, Fact.eq (.int .u64 (Nm.dg xs j : Int))), (21, Fact.num ys), (22, fI (j : Int)), (23, Fact.eq (.int .u64 (Nm.dg ys j : Int))), (24, Fact.eq (.bool b))] : List (Nat × Fact)).lookup t).getD Fact.any
def rcmpG (b : Bool) (xs ys : List Nat) (j : Nat) (t : Nat) : Fact := (([(2, Fact.var xs), (3, Fact.var ys), (5, fI (j : Int)), (25, Fact.num xs), (26, fI (j : Int)), (27, Fact.eq (.int .u64 (Nm.dg xs j : Int))), (28, Fact.num ys), (29, fI (j : Int)), (30, Fact.eq (.int .u64 (Nm.dg ys j : Int))), (31, Fact.eq (.bool b))] : List (Nat × Fact)).lookup t).getD Fact.any
def CmpRel (b1 b2 : Nat) (A B : Option Addr) (c d : Nat) (xs ys : List Nat) (w : World) (iv : Value) (wr : World) : Prop :=
  ∃ k : Nat, k ≤ 400 ∧ iv = .int .i64 ((k : Int) - 1) ∧ Var wr b1 A xs.length c xs ∧ Var wr b2 B ys.length d ys ∧ Below w.heap.size w wr ∧ Hid (∀ j, k ≤ j → Nm.dg xs j = Nm.dg ys j)
theorem cmpI_lt' {x y : Nat} (h : x < y) : cmpI x y = -1 := by
  rcases cmpI_cases x y with h1 | h1 | h1 <;> omega
theorem cmpI_gt' {x y : Nat} (h : y < x) : cmpI x y = 1 := by
  rcases cmpI_cases x y with h1 | h1 | h1 <;> omega
theorem cmpI_eq' {x y : Nat} (h : x = y) : cmpI x y = 0 := by
  rcases cmpI_cases x y with h1 | h1 | h1 <;> omega
set_option maxRecDepth 100000 in
set_option maxHeartbeats 1000000 in
theorem refCmp_n {w : World} {A B : Option Addr} {n m c d : Nat} {xs ys : List Nat} (hx : Num w A n c xs) (hy : Num w B m d ys) :
    Calls Tryz.prog 56 #[nt A n c, nt B m d] w fun e w' => e = .returned (.int .i64 (cmpI (Nm.val xs) (Nm.val ys))) ∧ Below w.heap.size w w' := by
  obtain rfl := hx.len
  obtain rfl := hy.len
  have s1 := hx.small
  have s2 := hy.small
  have dx := hx.dig
  have dy := hy.dig
  rcases Nat.lt_or_ge xs.length ys.length with hle | hle
  · skip
    go_enter Tryz.func56, Tryz.ntmps56
    go_wp2_with fail
    have vx := Var.new hx
    have vx := vx.below (one _ (Obj.cells #[Value.slice B ys.length d] 24))
    have vy : Var _ (w.heap.size + 1) B ys.length d ys := Var.at_ (hy.below (one _ (Obj.cells #[Value.slice A xs.length c] 24))) (by simp)
    have hb := two w (Obj.cells #[Value.slice A xs.length c] 24) (Obj.cells #[Value.slice B ys.length d] 24)
    clear hx hy
    go_loopw [5] (fun i wr => CmpRel w.heap.size (w.heap.size + 1) A B c d xs ys w i wr) (fun i _ => (intOf i + 1).toNat)
    case atStart =>
      refine ⟨max xs.length ys.length, by omega, by congr 1; omega, vx, vy, hb, fun j hj => ?_⟩
      rw [Nm.dg_out (by omega), Nm.dg_out (by omega)]
    case round =>
      obtain ⟨k, hk, rfl, vx, vy, hb, heq⟩ := hrel
      rcases Nat.eq_zero_or_pos k with h0 | h0
      · subst h0
        have hfin : cmpI (Nm.val xs) (Nm.val ys) = 0 := cmpI_eq' (Nm.val_ext 400 xs ys (by omega) (by omega) fun j => heq.out j (Nat.zero_le _))
        have Hf := Lib.hid hfin
        clear hfin
        go_wp2_with fail
        go_ret
        exact ⟨ret_int Hf.out.symm, hb⟩
      · obtain ⟨j, rfl⟩ : ∃ j, k = j + 1 := ⟨k - 1, by omega⟩
        have hji : ((j + 1 : Nat) : Int) - 1 = (j : Int) := by omega
        rw [hji]
        go_wp2_with fail
        by_cases h1 : Nm.dg xs j < Nm.dg ys j
        · have hfin : cmpI (Nm.val xs) (Nm.val ys) = -1 := cmpI_lt' (Nm.lt_of_dg j xs ys dx dy (fun i hi => heq.out i (by omega)) h1)
          have Hf := Lib.hid hfin
          clear hfin
          refine wp_region_on (by kernel_rfl) (rcmpF true xs ys j) [2, 3, 5] 32 [18, 19, 20, 21, 22, 23, 24] rfl (by kernel_rfl) (by kernel_rfl) ?_ ?_ ?_
          · intro t ht
            simp only [List.mem_cons, List.not_mem_nil, or_false] at ht
            rcases ht with rfl | rfl | rfl
            · exact ⟨_, _, _, rfl, vx⟩
            · exact ⟨_, _, _, rfl, vy⟩
            · rfl
          · refine List.forall_mem_cons.2 ⟨ob_load 2 18 xs rfl rfl (by first | exact .inl rfl | exact .inr ⟨_, _, _, rfl, rfl, by kernel_rfl, by decide, rfl⟩) (by kernel_rfl) rfl rfl, ?_⟩
            refine List.forall_mem_cons.2 ⟨ob_copy 5 19 (.inl rfl) rfl (by first | exact .inl rfl | exact .inr ⟨_, _, _, rfl, rfl, by kernel_rfl, by decide, rfl⟩) (by kernel_rfl) rfl, ?_⟩
            refine List.forall_mem_cons.2 ⟨ob_call2 82 18 19 20 _ rfl rfl (by first | exact .inl rfl | exact .inr ⟨_, _, _, rfl, rfl, by kernel_rfl, by decide, rfl⟩) (by kernel_rfl) (by kernel_rfl) (by kernel_rfl) (c_digit xs j), ?_⟩
            refine List.forall_mem_cons.2 ⟨ob_load 3 21 ys rfl rfl (by first | exact .inl rfl | exact .inr ⟨_, _, _, rfl, rfl, by kernel_rfl, by decide, rfl⟩) (by kernel_rfl) rfl rfl, ?_⟩
            refine List.forall_mem_cons.2 ⟨ob_copy 5 22 (.inl rfl) rfl (by first | exact .inl rfl | exact .inr ⟨_, _, _, rfl, rfl, by kernel_rfl, by decide, rfl⟩) (by kernel_rfl) rfl, ?_⟩
            refine List.forall_mem_cons.2 ⟨ob_call2 82 21 22 23 _ rfl rfl (by first | exact .inl rfl | exact .inr ⟨_, _, _, rfl, rfl, by kernel_rfl, by decide, rfl⟩) (by kernel_rfl) (by kernel_rfl) (by kernel_rfl) (c_digit ys j), ?_⟩
            refine List.forall_mem_cons.2 ⟨ob_two 20 23 24 _ _ _ rfl (by first | exact .inl rfl | exact .inr ⟨_, _, _, rfl, rfl, by kernel_rfl, by decide, rfl⟩) (by kernel_rfl) (by kernel_rfl) rfl rfl rfl (fun a w h1 h2 => go_lss_u64 _ _ true (decide_eq_true (by omega)) a w 20 23 _ rfl h1 h2), ?_⟩
            exact fun _ h => absurd h List.not_mem_nil
          intro vv wv hvv hbv
          have hv24 : vv 24 = .bool true := hvv 24 (by decide)
          simp only [lay, List.foldl_cons, List.foldl_nil, List.setIfInBounds_toArray, List.set_cons_succ, List.set_cons_zero, hv24]
          have hb := up hb hbv
          go_wp2_with fail
          go_ret
          exact ⟨ret_int Hf.out.symm, hb⟩
        · by_cases h2 : Nm.dg ys j < Nm.dg xs j
          · have hfin : cmpI (Nm.val xs) (Nm.val ys) = 1 := cmpI_gt' (Nm.lt_of_dg j ys xs dy dx (fun i hi => (heq.out i (by omega)).symm) h2)
            have Hf := Lib.hid hfin
            clear hfin
            refine wp_region_on (by kernel_rfl) (rcmpF false xs ys j) [2, 3, 5] 32 [18, 19, 20, 21, 22, 23, 24] rfl (by kernel_rfl) (by kernel_rfl) ?_ ?_ ?_
            · intro t ht
              simp only [List.mem_cons, List.not_mem_nil, or_false] at ht
              rcases ht with rfl | rfl | rfl
              · exact ⟨_, _, _, rfl, vx⟩
              · exact ⟨_, _, _, rfl, vy⟩
              · rfl
            · refine List.forall_mem_cons.2 ⟨ob_load 2 18 xs rfl rfl (by first | exact .inl rfl | exact .inr ⟨_, _, _, rfl, rfl, by kernel_rfl, by decide, rfl⟩) (by kernel_rfl) rfl rfl, ?_⟩
              refine List.forall_mem_cons.2 ⟨ob_copy 5 19 (.inl rfl) rfl (by first | exact .inl rfl | exact .inr ⟨_, _, _, rfl, rfl, by kernel_rfl, by decide, rfl⟩) (by kernel_rfl) rfl, ?_⟩
              refine List.forall_mem_cons.2 ⟨ob_call2 82 18 19 20 _ rfl rfl (by first | exact .inl rfl | exact .inr ⟨_, _, _, rfl, rfl, by kernel_rfl, by decide, rfl⟩) (by kernel_rfl) (by kernel_rfl) (by kernel_rfl) (c_digit xs j), ?_⟩
              refine List.forall_mem_cons.2 ⟨ob_load 3 21 ys rfl rfl (by first | exact .inl rfl | exact .inr ⟨_, _, _, rfl, rfl, by kernel_rfl, by decide, rfl⟩) (by kernel_rfl) rfl rfl, ?_⟩
              refine List.forall_mem_cons.2 ⟨ob_copy 5 22 (.inl rfl) rfl (by first | exact .inl rfl | exact .inr ⟨_, _, _, rfl, rfl, by kernel_rfl, by decide, rfl⟩) (by kernel_rfl) rfl, ?_⟩
              refine List.forall_mem_cons.2 ⟨ob_call2 82 21 22 23 _ rfl rfl (by first | exact .inl rfl | exact .inr ⟨_, _, _, rfl, rfl, by kernel_rfl, by decide, rfl⟩) (by kernel_rfl) (by kernel_rfl) (by kernel_rfl) (c_digit ys j), ?_⟩
              refine List.forall_mem_cons.2 ⟨ob_two 20 23 24 _ _ _ rfl (by first | exact .inl rfl | exact .inr ⟨_, _, _, rfl, rfl, by kernel_rfl, by decide, rfl⟩) (by kernel_rfl) (by kernel_rfl) rfl rfl rfl (fun a w h1 h2 => go_lss_u64 _ _ false (decide_eq_false (by omega)) a w 20 23 _ rfl h1 h2), ?_⟩
              exact fun _ h => absurd h List.not_mem_nil
            intro vv wv hvv hbv
            have hv24 : vv 24 = .bool false := hvv 24 (by decide)
            simp only [lay, List.foldl_cons, List.foldl_nil, List.setIfInBounds_toArray, List.set_cons_succ, List.set_cons_zero, hv24]
            have hb := up hb hbv
            have vx := vx.below hbv
            have vy := vy.below hbv
            clear hbv hvv
            go_wp2_with fail
            refine wp_region_on (by kernel_rfl) (rcmpG true xs ys j) [2, 3, 5] 32 [25, 26, 27, 28, 29, 30, 31] rfl (by kernel_rfl) (by kernel_rfl) ?_ ?_ ?_
            · intro t ht
              simp only [List.mem_cons, List.not_mem_nil, or_false] at ht
              rcases ht with rfl | rfl | rfl
              · exact ⟨_, _, _, rfl, vx⟩
              · exact ⟨_, _, _, rfl, vy⟩
              · rfl
            · refine List.forall_mem_cons.2 ⟨ob_load 2 25 xs rfl rfl (by first | exact .inl rfl | exact .inr ⟨_, _, _, rfl, rfl, by kernel_rfl, by decide, rfl⟩) (by kernel_rfl) rfl rfl, ?_⟩
              refine List.forall_mem_cons.2 ⟨ob_copy 5 26 (.inl rfl) rfl (by first | exact .inl rfl | exact .inr ⟨_, _, _, rfl, rfl, by kernel_rfl, by decide, rfl⟩) (by kernel_rfl) rfl, ?_⟩
              refine List.forall_mem_cons.2 ⟨ob_call2 82 25 26 27 _ rfl rfl (by first | exact .inl rfl | exact .inr ⟨_, _, _, rfl, rfl, by kernel_rfl, by decide, rfl⟩) (by kernel_rfl) (by kernel_rfl) (by kernel_rfl) (c_digit xs j), ?_⟩
              refine List.forall_mem_cons.2 ⟨ob_load 3 28 ys rfl rfl (by first | exact .inl rfl | exact .inr ⟨_, _, _, rfl, rfl, by kernel_rfl, by decide, rfl⟩) (by kernel_rfl) rfl rfl, ?_⟩
              refine List.forall_mem_cons.2 ⟨ob_copy 5 29 (.inl rfl) rfl (by first | exact .inl rfl | exact .inr ⟨_, _, _, rfl, rfl, by kernel_rfl, by decide, rfl⟩) (by kernel_rfl) rfl, ?_⟩
              refine List.forall_mem_cons.2 ⟨ob_call2 82 28 29 30 _ rfl rfl (by first | exact .inl rfl | exact .inr ⟨_, _, _, rfl, rfl, by kernel_rfl, by decide, rfl⟩) (by kernel_rfl) (by kernel_rfl) (by kernel_rfl) (c_digit ys j), ?_⟩
              refine List.forall_mem_cons.2 ⟨ob_two 27 30 31 _ _ _ rfl (by first | exact .inl rfl | exact .inr ⟨_, _, _, rfl, rfl, by kernel_rfl, by decide, rfl⟩) (by kernel_rfl) (by kernel_rfl) rfl rfl rfl (fun a w h1 h2 => go_gtr_u64 _ _ true (decide_eq_true (by omega)) a w 27 30 _ rfl h1 h2), ?_⟩
              exact fun _ h => absurd h List.not_mem_nil
            intro vv wv hvv hbv
            have hv31 : vv 31 = .bool true := hvv 31 (by decide)
            simp only [lay, List.foldl_cons, List.foldl_nil, List.setIfInBounds_toArray, List.set_cons_succ, List.set_cons_zero, hv31]
            have hb := up hb hbv
            go_wp2_with fail
            go_ret
            exact ⟨ret_int Hf.out.symm, hb⟩
          · have heq' : ∀ i, j ≤ i → Nm.dg xs i = Nm.dg ys i := fun i hi => by
              rcases Nat.lt_or_ge j i with h3 | h3
              · exact heq.out i h3
              · rw [show i = j from by omega]; omega
            have Hq := Lib.hid heq'
            clear heq heq'
            refine wp_region_on (by kernel_rfl) (rcmpF false xs ys j) [2, 3, 5] 32 [18, 19, 20, 21, 22, 23, 24] rfl (by kernel_rfl) (by kernel_rfl) ?_ ?_ ?_
            · intro t ht
              simp only [List.mem_cons, List.not_mem_nil, or_false] at ht
              rcases ht with rfl | rfl | rfl
              · exact ⟨_, _, _, rfl, vx⟩
              · exact ⟨_, _, _, rfl, vy⟩
              · rfl
            · refine List.forall_mem_cons.2 ⟨ob_load 2 18 xs rfl rfl (by first | exact .inl rfl | exact .inr ⟨_, _, _, rfl, rfl, by kernel_rfl, by decide, rfl⟩) (by kernel_rfl) rfl rfl, ?_⟩
              refine List.forall_mem_cons.2 ⟨ob_copy 5 19 (.inl rfl) rfl (by first | exact .inl rfl | exact .inr ⟨_, _, _, rfl, rfl, by kernel_rfl, by decide, rfl⟩) (by kernel_rfl) rfl, ?_⟩
              refine List.forall_mem_cons.2 ⟨ob_call2 82 18 19 20 _ rfl rfl (by first | exact .inl rfl | exact .inr ⟨_, _, _, rfl, rfl, by kernel_rfl, by decide, rfl⟩) (by kernel_rfl) (by kernel_rfl) (by kernel_rfl) (c_digit xs j), ?_⟩
              refine List.forall_mem_cons.2 ⟨ob_load 3 21 ys rfl rfl (by first | exact .inl rfl | exact .inr ⟨_, _, _, rfl, rfl, by kernel_rfl, by decide, rfl⟩) (by kernel_rfl) rfl rfl, ?_⟩
              refine List.forall_mem_cons.2 ⟨ob_copy 5 22 (.inl rfl) rfl (by first | exact .inl rfl | exact .inr ⟨_, _, _, rfl, rfl, by kernel_rfl, by decide, rfl⟩) (by kernel_rfl) rfl, ?_⟩
              refine List.forall_mem_cons.2 ⟨ob_call2 82 21 22 23 _ rfl rfl (by first | exact .inl rfl | exact .inr ⟨_, _, _, rfl, rfl, by kernel_rfl, by decide, rfl⟩) (by kernel_rfl) (by kernel_rfl) (by kernel_rfl) (c_digit ys j), ?_⟩
              refine List.forall_mem_cons.2 ⟨ob_two 20 23 24 _ _ _ rfl (by first | exact .inl rfl | exact .inr ⟨_, _, _, rfl, rfl, by kernel_rfl, by decide, rfl⟩) (by kernel_rfl) (by kernel_rfl) rfl rfl rfl (fun a w h1 h2 => go_lss_u64 _ _ false (decide_eq_false (by omega)) a w 20 23 _ rfl h1 h2), ?_⟩
              exact fun _ h => absurd h List.not_mem_nil
            intro vv wv hvv hbv
            have hv24 : vv 24 = .bool false := hvv 24 (by decide)
            simp only [lay, List.foldl_cons, List.foldl_nil, List.setIfInBounds_toArray, List.set_cons_succ, List.set_cons_zero, hv24]
            have hb := up hb hbv
            have vx := vx.below hbv
            have vy := vy.below hbv
            clear hbv hvv
            go_wp2_with fail
            refine wp_region_on (by kernel_rfl) (rcmpG false xs ys j) [2, 3, 5] 32 [25, 26, 27, 28, 29, 30, 31] rfl (by kernel_rfl) (by kernel_rfl) ?_ ?_ ?_
            · intro t ht
              simp only [List.mem_cons, List.not_mem_nil, or_false] at ht
              rcases ht with rfl | rfl | rfl
              · exact ⟨_, _, _, rfl, vx⟩
              · exact ⟨_, _, _, rfl, vy⟩
              · rfl
            · refine List.forall_mem_cons.2 ⟨ob_load 2 25 xs rfl rfl (by first | exact .inl rfl | exact .inr ⟨_, _, _, rfl, rfl, by kernel_rfl, by decide, rfl⟩) (by kernel_rfl) rfl rfl, ?_⟩
              refine List.forall_mem_cons.2 ⟨ob_copy 5 26 (.inl rfl) rfl (by first | exact .inl rfl | exact .inr ⟨_, _, _, rfl, rfl, by kernel_rfl, by decide, rfl⟩) (by kernel_rfl) rfl, ?_⟩
              refine List.forall_mem_cons.2 ⟨ob_call2 82 25 26 27 _ rfl rfl (by first | exact .inl rfl | exact .inr ⟨_, _, _, rfl, rfl, by kernel_rfl, by decide, rfl⟩) (by kernel_rfl) (by kernel_rfl) (by kernel_rfl) (c_digit xs j), ?_⟩
              refine List.forall_mem_cons.2 ⟨ob_load 3 28 ys rfl rfl (by first | exact .inl rfl | exact .inr ⟨_, _, _, rfl, rfl, by kernel_rfl, by decide, rfl⟩) (by kernel_rfl) rfl rfl, ?_⟩
              refine List.forall_mem_cons.2 ⟨ob_copy 5 29 (.inl rfl) rfl (by first | exact .inl rfl | exact .inr ⟨_, _, _, rfl, rfl, by kernel_rfl, by decide, rfl⟩) (by kernel_rfl) rfl, ?_⟩
              refine List.forall_mem_cons.2 ⟨ob_call2 82 28 29 30 _ rfl rfl (by first | exact .inl rfl | exact .inr ⟨_, _, _, rfl, rfl, by kernel_rfl, by decide, rfl⟩) (by kernel_rfl) (by kernel_rfl) (by kernel_rfl) (c_digit ys j), ?_⟩
              refine List.forall_mem_cons.2 ⟨ob_two 27 30 31 _ _ _ rfl (by first | exact .inl rfl | exact .inr ⟨_, _, _, rfl, rfl, by kernel_rfl, by decide, rfl⟩) (by kernel_rfl) (by kernel_rfl) rfl rfl rfl (fun a w h1 h2 => go_gtr_u64 _ _ false (decide_eq_false (by omega)) a w 27 30 _ rfl h1 h2), ?_⟩
              exact fun _ h => absurd h List.not_mem_nil
            intro vv wv hvv hbv
            have hv31 : vv 31 = .bool false := hvv 31 (by decide)
            simp only [lay, List.foldl_cons, List.foldl_nil, List.setIfInBounds_toArray, List.set_cons_succ, List.set_cons_zero, hv31]
            have hb := up hb hbv
            have vx := vx.below hbv
            have vy := vy.below hbv
            clear hbv hvv
            go_wp2_with fail
            exact ⟨⟨j, by omega, rfl, vx, vy, hb, Hq⟩, by simp [intOf]⟩
  · skip
    go_enter Tryz.func56, Tryz.ntmps56
    go_wp2_with fail
    have vx := Var.new hx
    have vx := vx.below (one _ (Obj.cells #[Value.slice B ys.length d] 24))
    have vy : Var _ (w.heap.size + 1) B ys.length d ys := Var.at_ (hy.below (one _ (Obj.cells #[Value.slice A xs.length c] 24))) (by simp)
    have hb := two w (Obj.cells #[Value.slice A xs.length c] 24) (Obj.cells #[Value.slice B ys.length d] 24)
    clear hx hy
    go_loopw [5] (fun i wr => CmpRel w.heap.size (w.heap.size + 1) A B c d xs ys w i wr) (fun i _ => (intOf i + 1).toNat)
    case atStart =>
      refine ⟨max xs.length ys.length, by omega, by congr 1; omega, vx, vy, hb, fun j hj => ?_⟩
      rw [Nm.dg_out (by omega), Nm.dg_out (by omega)]
    case round =>
      obtain ⟨k, hk, rfl, vx, vy, hb, heq⟩ := hrel
      rcases Nat.eq_zero_or_pos k with h0 | h0
      · subst h0
        have hfin : cmpI (Nm.val xs) (Nm.val ys) = 0 := cmpI_eq' (Nm.val_ext 400 xs ys (by omega) (by omega) fun j => heq.out j (Nat.zero_le _))
        have Hf := Lib.hid hfin
        clear hfin
        go_wp2_with fail
        go_ret
        exact ⟨ret_int Hf.out.symm, hb⟩
      · obtain ⟨j, rfl⟩ : ∃ j, k = j + 1 := ⟨k - 1, by omega⟩
        have hji : ((j + 1 : Nat) : Int) - 1 = (j : Int) := by omega
        rw [hji]
        go_wp2_with fail
        by_cases h1 : Nm.dg xs j < Nm.dg ys j
        · have hfin : cmpI (Nm.val xs) (Nm.val ys) = -1 := cmpI_lt' (Nm.lt_of_dg j xs ys dx dy (fun i hi => heq.out i (by omega)) h1)
          have Hf := Lib.hid hfin
          clear hfin
          refine wp_region_on (by kernel_rfl) (rcmpF true xs ys j) [2, 3, 5] 32 [18, 19, 20, 21, 22, 23, 24] rfl (by kernel_rfl) (by kernel_rfl) ?_ ?_ ?_
          · intro t ht
            simp only [List.mem_cons, List.not_mem_nil, or_false] at ht
            rcases ht with rfl | rfl | rfl
            · exact ⟨_, _, _, rfl, vx⟩
            · exact ⟨_, _, _, rfl, vy⟩
            · rfl
          · refine List.forall_mem_cons.2 ⟨ob_load 2 18 xs rfl rfl (by first | exact .inl rfl | exact .inr ⟨_, _, _, rfl, rfl, by kernel_rfl, by decide, rfl⟩) (by kernel_rfl) rfl rfl, ?_⟩
            refine List.forall_mem_cons.2 ⟨ob_copy 5 19 (.inl rfl) rfl (by first | exact .inl rfl | exact .inr ⟨_, _, _, rfl, rfl, by kernel_rfl, by decide, rfl⟩) (by kernel_rfl) rfl, ?_⟩
            refine List.forall_mem_cons.2 ⟨ob_call2 82 18 19 20 _ rfl rfl (by first | exact .inl rfl | exact .inr ⟨_, _, _, rfl, rfl, by kernel_rfl, by decide, rfl⟩) (by kernel_rfl) (by kernel_rfl) (by kernel_rfl) (c_digit xs j), ?_⟩
            refine List.forall_mem_cons.2 ⟨ob_load 3 21 ys rfl rfl (by first | exact .inl rfl | exact .inr ⟨_, _, _, rfl, rfl, by kernel_rfl, by decide, rfl⟩) (by kernel_rfl) rfl rfl, ?_⟩
            refine List.forall_mem_cons.2 ⟨ob_copy 5 22 (.inl rfl) rfl (by first | exact .inl rfl | exact .inr ⟨_, _, _, rfl, rfl, by kernel_rfl, by decide, rfl⟩) (by kernel_rfl) rfl, ?_⟩
            refine List.forall_mem_cons.2 ⟨ob_call2 82 21 22 23 _ rfl rfl (by first | exact .inl rfl | exact .inr ⟨_, _, _, rfl, rfl, by kernel_rfl, by decide, rfl⟩) (by kernel_rfl) (by kernel_rfl) (by kernel_rfl) (c_digit ys j), ?_⟩
            refine List.forall_mem_cons.2 ⟨ob_two 20 23 24 _ _ _ rfl (by first | exact .inl rfl | exact .inr ⟨_, _, _, rfl, rfl, by kernel_rfl, by decide, rfl⟩) (by kernel_rfl) (by kernel_rfl) rfl rfl rfl (fun a w h1 h2 => go_lss_u64 _ _ true (decide_eq_true (by omega)) a w 20 23 _ rfl h1 h2), ?_⟩
            exact fun _ h => absurd h List.not_mem_nil
          intro vv wv hvv hbv
          have hv24 : vv 24 = .bool true := hvv 24 (by decide)
          simp only [lay, List.foldl_cons, List.foldl_nil, List.setIfInBounds_toArray, List.set_cons_succ, List.set_cons_zero, hv24]
          have hb := up hb hbv
          go_wp2_with fail
          go_ret
          exact ⟨ret_int Hf.out.symm, hb⟩
        · by_cases h2 : Nm.dg ys j < Nm.dg xs j
          · have hfin : cmpI (Nm.val xs) (Nm.val ys) = 1 := cmpI_gt' (Nm.lt_of_dg j ys xs dy dx (fun i hi => (heq.out i (by omega)).symm) h2)
            have Hf := Lib.hid hfin
            clear hfin
            refine wp_region_on (by kernel_rfl) (rcmpF false xs ys j) [2, 3, 5] 32 [18, 19, 20, 21, 22, 23, 24] rfl (by kernel_rfl) (by kernel_rfl) ?_ ?_ ?_
            · intro t ht
              simp only [List.mem_cons, List.not_mem_nil, or_false] at ht
              rcases ht with rfl | rfl | rfl
              · exact ⟨_, _, _, rfl, vx⟩
              · exact ⟨_, _, _, rfl, vy⟩
              · rfl
            · refine List.forall_mem_cons.2 ⟨ob_load 2 18 xs rfl rfl (by first | exact .inl rfl | exact .inr ⟨_, _, _, rfl, rfl, by kernel_rfl, by decide, rfl⟩) (by kernel_rfl) rfl rfl, ?_⟩
              refine List.forall_mem_cons.2 ⟨ob_copy 5 19 (.inl rfl) rfl (by first | exact .inl rfl | exact .inr ⟨_, _, _, rfl, rfl, by kernel_rfl, by decide, rfl⟩) (by kernel_rfl) rfl, ?_⟩
              refine List.forall_mem_cons.2 ⟨ob_call2 82 18 19 20 _ rfl rfl (by first | exact .inl rfl | exact .inr ⟨_, _, _, rfl, rfl, by kernel_rfl, by decide, rfl⟩) (by kernel_rfl) (by kernel_rfl) (by kernel_rfl) (c_digit xs j), ?_⟩
              refine List.forall_mem_cons.2 ⟨ob_load 3 21 ys rfl rfl (by first | exact .inl rfl | exact .inr ⟨_, _, _, rfl, rfl, by kernel_rfl, by decide, rfl⟩) (by kernel_rfl) rfl rfl, ?_⟩
              refine List.forall_mem_cons.2 ⟨ob_copy 5 22 (.inl rfl) rfl (by first | exact .inl rfl | exact .inr ⟨_, _, _, rfl, rfl, by kernel_rfl, by decide, rfl⟩) (by kernel_rfl) rfl, ?_⟩
              refine List.forall_mem_cons.2 ⟨ob_call2 82 21 22 23 _ rfl rfl (by first | exact .inl rfl | exact .inr ⟨_, _, _, rfl, rfl, by kernel_rfl, by decide, rfl⟩) (by kernel_rfl) (by kernel_rfl) (by kernel_rfl) (c_digit ys j), ?_⟩
              refine List.forall_mem_cons.2 ⟨ob_two 20 23 24 _ _ _ rfl (by first | exact .inl rfl | exact .inr ⟨_, _, _, rfl, rfl, by kernel_rfl, by decide, rfl⟩) (by kernel_rfl) (by kernel_rfl) rfl rfl rfl (fun a w h1 h2 => go_lss_u64 _ _ false (decide_eq_false (by omega)) a w 20 23 _ rfl h1 h2), ?_⟩
              exact fun _ h => absurd h List.not_mem_nil
            intro vv wv hvv hbv
            have hv24 : vv 24 = .bool false := hvv 24 (by decide)
            simp only [lay, List.foldl_cons, List.foldl_nil, List.setIfInBounds_toArray, List.set_cons_succ, List.set_cons_zero, hv24]
            have hb := up hb hbv
            have vx := vx.below hbv
            have vy := vy.below hbv
            clear hbv hvv
            go_wp2_with fail
            refine wp_region_on (by kernel_rfl) (rcmpG true xs ys j) [2, 3, 5] 32 [25, 26, 27, 28, 29, 30, 31] rfl (by kernel_rfl) (by kernel_rfl) ?_ ?_ ?_
            · intro t ht
              simp only [List.mem_cons, List.not_mem_nil, or_false] at ht
              rcases ht with rfl | rfl | rfl
              · exact ⟨_, _, _, rfl, vx⟩
              · exact ⟨_, _, _, rfl, vy⟩
              · rfl
            · refine List.forall_mem_cons.2 ⟨ob_load 2 25 xs rfl rfl (by first | exact .inl rfl | exact .inr ⟨_, _, _, rfl, rfl, by kernel_rfl, by decide, rfl⟩) (by kernel_rfl) rfl rfl, ?_⟩
              refine List.forall_mem_cons.2 ⟨ob_copy 5 26 (.inl rfl) rfl (by first | exact .inl rfl | exact .inr ⟨_, _, _, rfl, rfl, by kernel_rfl, by decide, rfl⟩) (by kernel_rfl) rfl, ?_⟩
              refine List.forall_mem_cons.2 ⟨ob_call2 82 25 26 27 _ rfl rfl (by first | exact .inl rfl | exact .inr ⟨_, _, _, rfl, rfl, by kernel_rfl, by decide, rfl⟩) (by kernel_rfl) (by kernel_rfl) (by kernel_rfl) (c_digit xs j), ?_⟩
              refine List.forall_mem_cons.2 ⟨ob_load 3 28 ys rfl rfl (by first | exact .inl rfl | exact .inr ⟨_, _, _, rfl, rfl, by kernel_rfl, by decide, rfl⟩) (by kernel_rfl) rfl rfl, ?_⟩
              refine List.forall_mem_cons.2 ⟨ob_copy 5 29 (.inl rfl) rfl (by first | exact .inl rfl | exact .inr ⟨_, _, _, rfl, rfl, by kernel_rfl, by decide, rfl⟩) (by kernel_rfl) rfl, ?_⟩
              refine List.forall_mem_cons.2 ⟨ob_call2 82 28 29 30 _ rfl rfl (by first | exact .inl rfl | exact .inr ⟨_, _, _, rfl, rfl, by kernel_rfl, by decide, rfl⟩) (by kernel_rfl) (by kernel_rfl) (by kernel_rfl) (c_digit ys j), ?_⟩
              refine List.forall_mem_cons.2 ⟨ob_two 27 30 31 _ _ _ rfl (by first | exact .inl rfl | exact .inr ⟨_, _, _, rfl, rfl, by kernel_rfl, by decide, rfl⟩) (by kernel_rfl) (by kernel_rfl) rfl rfl rfl (fun a w h1 h2 => go_gtr_u64 _ _ true (decide_eq_true (by omega)) a w 27 30 _ rfl h1 h2), ?_⟩
              exact fun _ h => absurd h List.not_mem_nil
            intro vv wv hvv hbv
            have hv31 : vv 31 = .bool true := hvv 31 (by decide)
            simp only [lay, List.foldl_cons, List.foldl_nil, List.setIfInBounds_toArray, List.set_cons_succ, List.set_cons_zero, hv31]
            have hb := up hb hbv
            go_wp2_with fail
            go_ret
            exact ⟨ret_int Hf.out.symm, hb⟩
          · have heq' : ∀ i, j ≤ i → Nm.dg xs i = Nm.dg ys i := fun i hi => by
              rcases Nat.lt_or_ge j i with h3 | h3
              · exact heq.out i h3
              · rw [show i = j from by omega]; omega
            have Hq := Lib.hid heq'
            clear heq heq'
            refine wp_region_on (by kernel_rfl) (rcmpF false xs ys j) [2, 3, 5] 32 [18, 19, 20, 21, 22, 23, 24] rfl (by kernel_rfl) (by kernel_rfl) ?_ ?_ ?_
            · intro t ht
              simp only [List.mem_cons, List.not_mem_nil, or_false] at ht
              rcases ht with rfl | rfl | rfl
              · exact ⟨_, _, _, rfl, vx⟩
              · exact ⟨_, _, _, rfl, vy⟩
              · rfl
            · refine List.forall_mem_cons.2 ⟨ob_load 2 18 xs rfl rfl (by first | exact .inl rfl | exact .inr ⟨_, _, _, rfl, rfl, by kernel_rfl, by decide, rfl⟩) (by kernel_rfl) rfl rfl, ?_⟩
              refine List.forall_mem_cons.2 ⟨ob_copy 5 19 (.inl rfl) rfl (by first | exact .inl rfl | exact .inr ⟨_, _, _, rfl, rfl, by kernel_rfl, by decide, rfl⟩) (by kernel_rfl) rfl, ?_⟩
              refine List.forall_mem_cons.2 ⟨ob_call2 82 18 19 20 _ rfl rfl (by first | exact .inl rfl | exact .inr ⟨_, _, _, rfl, rfl, by kernel_rfl, by decide, rfl⟩) (by kernel_rfl) (by kernel_rfl) (by kernel_rfl) (c_digit xs j), ?_⟩
              refine List.forall_mem_cons.2 ⟨ob_load 3 21 ys rfl rfl (by first | exact .inl rfl | exact .inr ⟨_, _, _, rfl, rfl, by kernel_rfl, by decide, rfl⟩) (by kernel_rfl) rfl rfl, ?_⟩
              refine List.forall_mem_cons.2 ⟨ob_copy 5 22 (.inl rfl) rfl (by first | exact .inl rfl | exact .inr ⟨_, _, _, rfl, rfl, by kernel_rfl, by decide, rfl⟩) (by kernel_rfl) rfl, ?_⟩
              refine List.forall_mem_cons.2 ⟨ob_call2 82 21 22 23 _ rfl rfl (by first | exact .inl rfl | exact .inr ⟨_, _, _, rfl, rfl, by kernel_rfl, by decide, rfl⟩) (by kernel_rfl) (by kernel_rfl) (by kernel_rfl) (c_digit ys j), ?_⟩
              refine List.forall_mem_cons.2 ⟨ob_two 20 23 24 _ _ _ rfl (by first | exact .inl rfl | exact .inr ⟨_, _, _, rfl, rfl, by kernel_rfl, by decide, rfl⟩) (by kernel_rfl) (by kernel_rfl) rfl rfl rfl (fun a w h1 h2 => go_lss_u64 _ _ false (decide_eq_false (by omega)) a w 20 23 _ rfl h1 h2), ?_⟩
              exact fun _ h => absurd h List.not_mem_nil
            intro vv wv hvv hbv
            have hv24 : vv 24 = .bool false := hvv 24 (by decide)
            simp only [lay, List.foldl_cons, List.foldl_nil, List.setIfInBounds_toArray, List.set_cons_succ, List.set_cons_zero, hv24]
            have hb := up hb hbv
            have vx := vx.below hbv
            have vy := vy.below hbv
            clear hbv hvv
            go_wp2_with fail
            refine wp_region_on (by kernel_rfl) (rcmpG false xs ys j) [2, 3, 5] 32 [25, 26, 27, 28, 29, 30, 31] rfl (by kernel_rfl) (by kernel_rfl) ?_ ?_ ?_
            · intro t ht
              simp only [List.mem_cons, List.not_mem_nil, or_false] at ht
              rcases ht with rfl | rfl | rfl
              · exact ⟨_, _, _, rfl, vx⟩
              · exact ⟨_, _, _, rfl, vy⟩
              · rfl
            · refine List.forall_mem_cons.2 ⟨ob_load 2 25 xs rfl rfl (by first | exact .inl rfl | exact .inr ⟨_, _, _, rfl, rfl, by kernel_rfl, by decide, rfl⟩) (by kernel_rfl) rfl rfl, ?_⟩
              refine List.forall_mem_cons.2 ⟨ob_copy 5 26 (.inl rfl) rfl (by first | exact .inl rfl | exact .inr ⟨_, _, _, rfl, rfl, by kernel_rfl, by decide, rfl⟩) (by kernel_rfl) rfl, ?_⟩
              refine List.forall_mem_cons.2 ⟨ob_call2 82 25 26 27 _ rfl rfl (by first | exact .inl rfl | exact .inr ⟨_, _, _, rfl, rfl, by kernel_rfl, by decide, rfl⟩) (by kernel_rfl) (by kernel_rfl) (by kernel_rfl) (c_digit xs j), ?_⟩
              refine List.forall_mem_cons.2 ⟨ob_load 3 28 ys rfl rfl (by first | exact .inl rfl | exact .inr ⟨_, _, _, rfl, rfl, by kernel_rfl, by decide, rfl⟩) (by kernel_rfl) rfl rfl, ?_⟩
              refine List.forall_mem_cons.2 ⟨ob_copy 5 29 (.inl rfl) rfl (by first | exact .inl rfl | exact .inr ⟨_, _, _, rfl, rfl, by kernel_rfl, by decide, rfl⟩) (by kernel_rfl) rfl, ?_⟩
              refine List.forall_mem_cons.2 ⟨ob_call2 82 28 29 30 _ rfl rfl (by first | exact .inl rfl | exact .inr ⟨_, _, _, rfl, rfl, by kernel_rfl, by decide, rfl⟩) (by kernel_rfl) (by kernel_rfl) (by kernel_rfl) (c_digit ys j), ?_⟩
              refine List.forall_mem_cons.2 ⟨ob_two 27 30 31 _ _ _ rfl (by first | exact .inl rfl | exact .inr ⟨_, _, _, rfl, rfl, by kernel_rfl, by decide, rfl⟩) (by kernel_rfl) (by kernel_rfl) rfl rfl rfl (fun a w h1 h2 => go_gtr_u64 _ _ false (decide_eq_false (by omega)) a w 27 30 _ rfl h1 h2), ?_⟩
              exact fun _ h => absurd h List.not_mem_nil
            intro vv wv hvv hbv
            have hv31 : vv 31 = .bool false := hvv 31 (by decide)
            simp only [lay, List.foldl_cons, List.foldl_nil, List.setIfInBounds_toArray, List.set_cons_succ, List.set_cons_zero, hv31]
            have hb := up hb hbv
            have vx := vx.below hbv
            have vy := vy.below hbv
            clear hbv hvv
            go_wp2_with fail
            exact ⟨⟨j, by omega, rfl, vx, vy, hb, Hq⟩, by simp [intOf]⟩
end Go.Proofs.YtjfehdkfogdpgaaGreatDoor
namespace Go.Proofs.YtjfehdkfogdpgaaGreatDoor
open Go.RowKit
theorem go_add_u64 (b c r : Int) (hr : b + c = r) (h0 : 0 ≤ r) (h1 : r < 18446744073709551616) (a : Act) (w : World) (t s : Nat) (o : Oper) (ho : o.op = .binOp .add 57 (.tmp t) (.tmp s) 57) (h2 : a.eval (.tmp t) = .int .u64 b) (h3 : a.eval (.tmp s) = .int .u64 c) :
    (execOp a.eval o).run Tryz.prog w = .ok (.value (.int .u64 r)) w := by
  subst hr
  have hw : IntKind.u64.wrap (b + c) = b + c := by
    simp [IntKind.wrap, IntKind.signed, IntKind.bits]
    omega
  simp [execOp, ho, h2, h3]
  go_simp
theorem mod_cell (w : World) (s : Nat) : (w.alloc (Obj.cells #[Value.int IntKind.u32 ((s : Int) % 4294967296)] 59)).cell? ⟨w.heap.size, 0, none⟩ = some (.int .u32 ((s % 4294967296 : Nat) : Int)) := by
  simp
theorem wrap_div {s : Nat} (h : s < 18446744073709551616) : IntKind.u64.wrap ((s : Int) / 4294967296) = ((s / 4294967296 : Nat) : Int) := by
  simp [IntKind.wrap, IntKind.signed, IntKind.bits]
  omega
theorem new_cell (w : World) (b : Nat) (v : Value) (t : TypeId) (h : b = w.heap.size) : (w.alloc (Obj.cells #[v] t)).cell? ⟨b, 0, none⟩ = some v := by
  subst h
  simp
theorem new_soft (w : World) (b : Nat) (v : Value) (t : TypeId) (h : b = w.heap.size) : (w.alloc (Obj.cells #[v] t)).frozen? ⟨b, 0, none⟩ = false := by
  subst h
  simp
def raddF (xs ys : List Nat) (k o s : Nat) (t : Nat) : Fact := (([(2, Fact.var xs), (3, Fact.var ys), (6, Fact.eq (.int .u64 (o : Int))), (7, fI (k : Int)), (8, Fact.eq (.int .u64 (s : Int))), (20, Fact.num xs), (21, fI (k : Int)), (22, Fact.eq (.int .u64 (Nm.dg xs k : Int))), (23, Fact.num ys), (24, fI (k : Int)), (25, Fact.eq (.int .u64 (Nm.dg ys k : Int))), (26, Fact.eq (.int .u64 ((Nm.dg xs k + Nm.dg ys k : Nat) : Int))), (27, Fact.eq (.int .u64 (o : Int))), (28, Fact.eq (.int .u64 (s : Int)))] : List (Nat × Fact)).lookup t).getD Fact.any
def AddRel (BB : Nat) (xs ys : List Nat) (w : World) (ov cv iv : Value) (wr : World) : Prop :=
  ∃ (k o : Nat) (rs : List Nat) (v : Value), k ≤ max xs.length ys.length + 1 ∧ ov = v ∧ Ow BB wr v rs ∧ Hid (rs.length = k) ∧ cv = .int .u64 (o : Int) ∧ o ≤ 1 ∧ iv = .int .i64 (k : Int) ∧ Nm.Dig rs ∧ Hid (Nm.val rs + 4294967296 ^ k * o = Nm.val (xs.take k) + Nm.val (ys.take k)) ∧ Below BB w wr ∧ BB ≤ wr.heap.size
set_option maxRecDepth 100000 in
set_option maxHeartbeats 1000000 in
theorem refAdd_n {w : World} {A B : Option Addr} {n m c d : Nat} {xs ys : List Nat} (hx : Num w A n c xs) (hy : Num w B m d ys) (rs : List Nat) (hr : Nm.nat (Nm.val xs + Nm.val ys) = rs) :
    Calls Tryz.prog 55 #[nt A n c, nt B m d] w fun e w' => ∃ A' c', e = .returned (nt A' rs.length c') ∧ rs.length ≤ c' ∧ Fr w.heap.size w' A' rs ∧ Below w.heap.size w w' := by
  subst hr
  obtain rfl := hx.len
  obtain rfl := hy.len
  have s1 := hx.small
  have s2 := hy.small
  have dx := hx.dig
  have dy := hy.dig
  rcases Nat.lt_or_ge xs.length ys.length with hle | hle
  · skip
    go_enter Tryz.func55, Tryz.ntmps55
    go_wp2_with fail
    have vx := Var.new hx
    have vx := vx.below (two _ (Obj.cells #[Value.slice B ys.length d] 24) (Obj.cells #[Value.slice none 0 0] 24))
    have vy : Var _ (w.heap.size + 1) B ys.length d ys := Var.at_ (hy.below (one _ (Obj.cells #[Value.slice A xs.length c] 24))) (by simp)
    have vy := vy.below (one _ (Obj.cells #[Value.slice none 0 0] 24))
    have hb1 := three w (Obj.cells #[Value.slice A xs.length c] 24) (Obj.cells #[Value.slice B ys.length d] 24) (Obj.cells #[Value.slice none 0 0] 24)
    clear hx hy
    generalize hw1 : ((w.alloc (Obj.cells #[Value.slice A xs.length c] 24)).alloc (Obj.cells #[Value.slice B ys.length d] 24)).alloc (Obj.cells #[Value.slice none 0 0] 24) = w1 at vx vy hb1 ⊢
    have hs1 : w1.heap.size = w.heap.size + 1 + 1 + 1 := by rw [← hw1]; simp
    have hcell1 : w1.cell? ⟨w.heap.size + 1 + 1, 0, none⟩ = some (.slice none 0 0) := by rw [← hw1]; exact new_cell _ _ _ _ (by simp)
    have hfz1 : w1.frozen? ⟨w.heap.size + 1 + 1, 0, none⟩ = false := by rw [← hw1]; exact new_soft _ _ _ _ (by simp)
    clear hw1
    go_loopw [5, 6, 7] (fun ov cv iv wr => AddRel w1.heap.size xs ys w1 ov cv iv wr) (fun _ _ i _ => 402 - (intOf i).toNat)
    case atStart => exact ⟨0, 0, [], _, by omega, rfl, Ow.nil _ _, rfl, rfl, by omega, rfl, Nm.Dig.nil, by show _ = _; simp [Nm.val], Below.refl _ _, Nat.le_refl _⟩
    case round =>
      obtain ⟨k, o, rs, v, hk, hv, how, hrl, rfl, ho, rfl, hrd, hval, hbj, hBj⟩ := hrel
      obtain rfl := hv.symm
      have vx := vx.below hbj
      have vy := vy.below hbj
      have kvx := vx.cell
      have kvy := vy.cell
      by_cases hlt : k ≤ max xs.length ys.length
      · obtain ⟨s, hs⟩ : ∃ s, Nm.dg xs k + Nm.dg ys k + o = s := ⟨_, rfl⟩
        have q1 := Nm.dg_lt dx k
        have q2 := Nm.dg_lt dy k
        have hs2 : s < 8589934592 := by omega
        have hstep : Hid (Nm.val (rs ++ [s % 4294967296]) + 4294967296 ^ (k + 1) * (s / 4294967296) = Nm.val (xs.take (k + 1)) + Nm.val (ys.take (k + 1))) := by
          show _ = _
          rw [Nm.val_append, Nm.val_take_dg, Nm.val_take_dg, hrl.out]
          have e := hval.out
          have e2 : Nm.val [s % 4294967296] = s % 4294967296 := by simp [Nm.val]
          rw [e2, Nat.pow_succ, Nat.mul_assoc]
          have e3 : s % 4294967296 + 4294967296 * (s / 4294967296) = Nm.dg xs k + Nm.dg ys k + o := by omega
          have e4 := congrArg (fun t => 4294967296 ^ k * t) e3
          simp only [Nat.mul_add] at e4
          omega
        have hdig : Nm.Dig (rs ++ [s % 4294967296]) := hrd.append (Nm.Dig.mk (by omega) Nm.Dig.nil)
        have Hs := Lib.hid hs
        have Hs2 := Lib.hid hs2
        have Q1 := Lib.hid q1
        have Q2 := Lib.hid q2
        have hkm : k ≤ 400 := by omega
        clear hval q1 q2 hs hs2
        go_wp2_with fail
        refine wp_region_on (by kernel_rfl) (raddF xs ys k o s) [2, 3, 7, 6] 39 [8, 20, 21, 22, 23, 24, 25, 26, 27, 28] rfl (by kernel_rfl) (by kernel_rfl) ?_ ?_ ?_
        · intro t ht
          simp only [List.mem_cons, List.not_mem_nil, or_false] at ht
          rcases ht with rfl | rfl | rfl | rfl
          · exact ⟨_, _, _, rfl, vx⟩
          · exact ⟨_, _, _, rfl, vy⟩
          · rfl
          · rfl
        · refine List.forall_mem_cons.2 ⟨ob_load 2 20 xs rfl rfl (by first | exact .inl rfl | exact .inr ⟨_, _, _, rfl, rfl, by kernel_rfl, by decide, rfl⟩) (by kernel_rfl) rfl rfl, ?_⟩
          refine List.forall_mem_cons.2 ⟨ob_copy 7 21 (.inl rfl) rfl (by first | exact .inl rfl | exact .inr ⟨_, _, _, rfl, rfl, by kernel_rfl, by decide, rfl⟩) (by kernel_rfl) rfl, ?_⟩
          refine List.forall_mem_cons.2 ⟨ob_call2 82 20 21 22 _ rfl rfl (by first | exact .inl rfl | exact .inr ⟨_, _, _, rfl, rfl, by kernel_rfl, by decide, rfl⟩) (by kernel_rfl) (by kernel_rfl) (by kernel_rfl) (c_digit xs k), ?_⟩
          refine List.forall_mem_cons.2 ⟨ob_load 3 23 ys rfl rfl (by first | exact .inl rfl | exact .inr ⟨_, _, _, rfl, rfl, by kernel_rfl, by decide, rfl⟩) (by kernel_rfl) rfl rfl, ?_⟩
          refine List.forall_mem_cons.2 ⟨ob_copy 7 24 (.inl rfl) rfl (by first | exact .inl rfl | exact .inr ⟨_, _, _, rfl, rfl, by kernel_rfl, by decide, rfl⟩) (by kernel_rfl) rfl, ?_⟩
          refine List.forall_mem_cons.2 ⟨ob_call2 82 23 24 25 _ rfl rfl (by first | exact .inl rfl | exact .inr ⟨_, _, _, rfl, rfl, by kernel_rfl, by decide, rfl⟩) (by kernel_rfl) (by kernel_rfl) (by kernel_rfl) (c_digit ys k), ?_⟩
          refine List.forall_mem_cons.2 ⟨ob_two 22 25 26 _ _ _ rfl (by first | exact .inl rfl | exact .inr ⟨_, _, _, rfl, rfl, by kernel_rfl, by decide, rfl⟩) (by kernel_rfl) (by kernel_rfl) rfl rfl rfl (fun a w h1 h2 => go_add_u64 _ _ _ (by have := Hs.out; omega) (by omega) (by have := Hs.out; have := Q1.out; have := Q2.out; omega) a w 22 25 _ rfl h1 h2), ?_⟩
          refine List.forall_mem_cons.2 ⟨ob_copy 6 27 (.inl rfl) rfl (by first | exact .inl rfl | exact .inr ⟨_, _, _, rfl, rfl, by kernel_rfl, by decide, rfl⟩) (by kernel_rfl) rfl, ?_⟩
          refine List.forall_mem_cons.2 ⟨ob_two 26 27 28 _ _ _ rfl (by first | exact .inl rfl | exact .inr ⟨_, _, _, rfl, rfl, by kernel_rfl, by decide, rfl⟩) (by kernel_rfl) (by kernel_rfl) rfl rfl rfl (fun a w h1 h2 => go_add_u64 _ _ _ (by have := Hs.out; omega) (by omega) (by have := Hs.out; have := Q1.out; have := Q2.out; omega) a w 26 27 _ rfl h1 h2), ?_⟩
          refine List.forall_mem_cons.2 ⟨ob_copy 28 8 (.inr rfl) rfl (by first | exact .inl rfl | exact .inr ⟨_, _, _, rfl, rfl, by kernel_rfl, by decide, rfl⟩) (by kernel_rfl) rfl, ?_⟩
          exact fun _ h => absurd h List.not_mem_nil
        intro vv wv hvv hbv
        have hv8 : vv 8 = .int .u64 (s : Int) := hvv 8 (by decide)
        simp only [lay, List.foldl_cons, List.foldl_nil, List.setIfInBounds_toArray, List.set_cons_succ, List.set_cons_zero, hv8]
        have vx := vx.below hbv
        have vy := vy.below hbv
        have how := how.other hbv
        have hbj := up hbj hbv
        have hBj := Nat.le_trans hBj hbv.size
        clear hbv hvv
        have kvx := vx.cell
        have kvy := vy.cell
        go_wp2_with (at_builtin
                     refine wpList_push rfl (.tmp 29) (.tmp 33) rfl w1.heap.size v rs (s % 4294967296) _ 1 rfl rfl (how.other (one _ _)) (by exact mod_cell _ s) (by rw [hrl.out]; omega) (by simp; omega) ?_
                     intro v4 w4 hown4 hg4 hat4)
        have hb4 := hbj.grown (grown_alloc hg4) hBj (fun k' hk' => (World.ownsRow.lt how k' hk').1)
        refine ⟨⟨k + 1, s / 4294967296, rs ++ [s % 4294967296], v4, by omega, rfl, hown4, ?_, congrArg (Value.int .u64) (wrap_div (by have := Hs2.out; omega)), by have := Hs2.out; omega, by go_num, hdig, hstep, hb4, Nat.le_trans hBj (grown_alloc hg4).size⟩, by simp [intOf]; omega⟩
        show _ = _
        rw [List.length_append, hrl.out]; rfl
      · have hkk : k = max xs.length ys.length + 1 := by omega
        have hfin : Nm.nat (Nm.val rs) = Nm.nat (Nm.val xs + Nm.val ys) := by
          have e := hval.out
          rw [List.take_of_length_le (by omega), List.take_of_length_le (by omega)] at e
          have b1 := Nat.lt_of_lt_of_le (Nm.val_lt dx) (Nat.pow_le_pow_right (by omega) (by omega : xs.length ≤ max xs.length ys.length))
          have b2 := Nat.lt_of_lt_of_le (Nm.val_lt dy) (Nat.pow_le_pow_right (by omega) (by omega : ys.length ≤ max xs.length ys.length))
          rw [hkk, Nat.pow_succ] at e
          generalize 4294967296 ^ max xs.length ys.length = P at e b1 b2
          rcases Nat.eq_zero_or_pos o with h0 | h0
          · subst h0
            rw [Nat.mul_zero, Nat.add_zero] at e
            rw [e]
          · exfalso
            have h1 : o = 1 := by omega
            subst h1
            omega
        have Hf := Lib.hid hfin
        obtain ⟨A', c', hve, hcc, hfr⟩ := how.slice
        subst hve
        have hrl2 : rs.length ≤ 401 := by rw [hrl.out]; omega
        clear hfin hval hkk
        go_wp2_with fail
        refine (refTrim_n hfr.rd rfl (by omega) hrd Hf.out).mono ?_
        rintro e w5 ⟨A5, c5, rfl, hc5, hf5, hb5⟩
        obtain ⟨k1, k2⟩ := seen (up hbj hb5)
        have hcr : w5.cell? ⟨w.heap.size + 1 + 1, 0, none⟩ = some (.slice none 0 0) := by rw [k1 _ _ (by omega)]; exact hcell1
        have hfr1 : w5.frozen? ⟨w.heap.size + 1 + 1, 0, none⟩ = false := by rw [k2 _ _ (by omega)]; exact hfz1
        clear k1 k2
        go_wp2_with fail
        refine bodyPost_ret (v := nt A5 (Nm.nat (Nm.val xs + Nm.val ys)).length c5) (by simp [results, Tryz.results55, go_sem, hcr]) rfl ⟨A5, c5, rfl, hc5, ?_, ?_⟩
        · exact (hf5.mono (by have := hbj.size; omega)).setCell hcr (by simp)
        · exact (up hb1 (up hbj hb5)).setCell (by show w.heap.size ≤ w.heap.size + 1 + 1; omega) _
  · skip
    go_enter Tryz.func55, Tryz.ntmps55
    go_wp2_with fail
    have vx := Var.new hx
    have vx := vx.below (two _ (Obj.cells #[Value.slice B ys.length d] 24) (Obj.cells #[Value.slice none 0 0] 24))
    have vy : Var _ (w.heap.size + 1) B ys.length d ys := Var.at_ (hy.below (one _ (Obj.cells #[Value.slice A xs.length c] 24))) (by simp)
    have vy := vy.below (one _ (Obj.cells #[Value.slice none 0 0] 24))
    have hb1 := three w (Obj.cells #[Value.slice A xs.length c] 24) (Obj.cells #[Value.slice B ys.length d] 24) (Obj.cells #[Value.slice none 0 0] 24)
    clear hx hy
    generalize hw1 : ((w.alloc (Obj.cells #[Value.slice A xs.length c] 24)).alloc (Obj.cells #[Value.slice B ys.length d] 24)).alloc (Obj.cells #[Value.slice none 0 0] 24) = w1 at vx vy hb1 ⊢
    have hs1 : w1.heap.size = w.heap.size + 1 + 1 + 1 := by rw [← hw1]; simp
    have hcell1 : w1.cell? ⟨w.heap.size + 1 + 1, 0, none⟩ = some (.slice none 0 0) := by rw [← hw1]; exact new_cell _ _ _ _ (by simp)
    have hfz1 : w1.frozen? ⟨w.heap.size + 1 + 1, 0, none⟩ = false := by rw [← hw1]; exact new_soft _ _ _ _ (by simp)
    clear hw1
    go_loopw [5, 6, 7] (fun ov cv iv wr => AddRel w1.heap.size xs ys w1 ov cv iv wr) (fun _ _ i _ => 402 - (intOf i).toNat)
    case atStart => exact ⟨0, 0, [], _, by omega, rfl, Ow.nil _ _, rfl, rfl, by omega, rfl, Nm.Dig.nil, by show _ = _; simp [Nm.val], Below.refl _ _, Nat.le_refl _⟩
    case round =>
      obtain ⟨k, o, rs, v, hk, hv, how, hrl, rfl, ho, rfl, hrd, hval, hbj, hBj⟩ := hrel
      obtain rfl := hv.symm
      have vx := vx.below hbj
      have vy := vy.below hbj
      have kvx := vx.cell
      have kvy := vy.cell
      by_cases hlt : k ≤ max xs.length ys.length
      · obtain ⟨s, hs⟩ : ∃ s, Nm.dg xs k + Nm.dg ys k + o = s := ⟨_, rfl⟩
        have q1 := Nm.dg_lt dx k
        have q2 := Nm.dg_lt dy k
        have hs2 : s < 8589934592 := by omega
        have hstep : Hid (Nm.val (rs ++ [s % 4294967296]) + 4294967296 ^ (k + 1) * (s / 4294967296) = Nm.val (xs.take (k + 1)) + Nm.val (ys.take (k + 1))) := by
          show _ = _
          rw [Nm.val_append, Nm.val_take_dg, Nm.val_take_dg, hrl.out]
          have e := hval.out
          have e2 : Nm.val [s % 4294967296] = s % 4294967296 := by simp [Nm.val]
          rw [e2, Nat.pow_succ, Nat.mul_assoc]
          have e3 : s % 4294967296 + 4294967296 * (s / 4294967296) = Nm.dg xs k + Nm.dg ys k + o := by omega
          have e4 := congrArg (fun t => 4294967296 ^ k * t) e3
          simp only [Nat.mul_add] at e4
          omega
        have hdig : Nm.Dig (rs ++ [s % 4294967296]) := hrd.append (Nm.Dig.mk (by omega) Nm.Dig.nil)
        have Hs := Lib.hid hs
        have Hs2 := Lib.hid hs2
        have Q1 := Lib.hid q1
        have Q2 := Lib.hid q2
        have hkm : k ≤ 400 := by omega
        clear hval q1 q2 hs hs2
        go_wp2_with fail
        refine wp_region_on (by kernel_rfl) (raddF xs ys k o s) [2, 3, 7, 6] 39 [8, 20, 21, 22, 23, 24, 25, 26, 27, 28] rfl (by kernel_rfl) (by kernel_rfl) ?_ ?_ ?_
        · intro t ht
          simp only [List.mem_cons, List.not_mem_nil, or_false] at ht
          rcases ht with rfl | rfl | rfl | rfl
          · exact ⟨_, _, _, rfl, vx⟩
          · exact ⟨_, _, _, rfl, vy⟩
          · rfl
          · rfl
        · refine List.forall_mem_cons.2 ⟨ob_load 2 20 xs rfl rfl (by first | exact .inl rfl | exact .inr ⟨_, _, _, rfl, rfl, by kernel_rfl, by decide, rfl⟩) (by kernel_rfl) rfl rfl, ?_⟩
          refine List.forall_mem_cons.2 ⟨ob_copy 7 21 (.inl rfl) rfl (by first | exact .inl rfl | exact .inr ⟨_, _, _, rfl, rfl, by kernel_rfl, by decide, rfl⟩) (by kernel_rfl) rfl, ?_⟩
          refine List.forall_mem_cons.2 ⟨ob_call2 82 20 21 22 _ rfl rfl (by first | exact .inl rfl | exact .inr ⟨_, _, _, rfl, rfl, by kernel_rfl, by decide, rfl⟩) (by kernel_rfl) (by kernel_rfl) (by kernel_rfl) (c_digit xs k), ?_⟩
          refine List.forall_mem_cons.2 ⟨ob_load 3 23 ys rfl rfl (by first | exact .inl rfl | exact .inr ⟨_, _, _, rfl, rfl, by kernel_rfl, by decide, rfl⟩) (by kernel_rfl) rfl rfl, ?_⟩
          refine List.forall_mem_cons.2 ⟨ob_copy 7 24 (.inl rfl) rfl (by first | exact .inl rfl | exact .inr ⟨_, _, _, rfl, rfl, by kernel_rfl, by decide, rfl⟩) (by kernel_rfl) rfl, ?_⟩
          refine List.forall_mem_cons.2 ⟨ob_call2 82 23 24 25 _ rfl rfl (by first | exact .inl rfl | exact .inr ⟨_, _, _, rfl, rfl, by kernel_rfl, by decide, rfl⟩) (by kernel_rfl) (by kernel_rfl) (by kernel_rfl) (c_digit ys k), ?_⟩
          refine List.forall_mem_cons.2 ⟨ob_two 22 25 26 _ _ _ rfl (by first | exact .inl rfl | exact .inr ⟨_, _, _, rfl, rfl, by kernel_rfl, by decide, rfl⟩) (by kernel_rfl) (by kernel_rfl) rfl rfl rfl (fun a w h1 h2 => go_add_u64 _ _ _ (by have := Hs.out; omega) (by omega) (by have := Hs.out; have := Q1.out; have := Q2.out; omega) a w 22 25 _ rfl h1 h2), ?_⟩
          refine List.forall_mem_cons.2 ⟨ob_copy 6 27 (.inl rfl) rfl (by first | exact .inl rfl | exact .inr ⟨_, _, _, rfl, rfl, by kernel_rfl, by decide, rfl⟩) (by kernel_rfl) rfl, ?_⟩
          refine List.forall_mem_cons.2 ⟨ob_two 26 27 28 _ _ _ rfl (by first | exact .inl rfl | exact .inr ⟨_, _, _, rfl, rfl, by kernel_rfl, by decide, rfl⟩) (by kernel_rfl) (by kernel_rfl) rfl rfl rfl (fun a w h1 h2 => go_add_u64 _ _ _ (by have := Hs.out; omega) (by omega) (by have := Hs.out; have := Q1.out; have := Q2.out; omega) a w 26 27 _ rfl h1 h2), ?_⟩
          refine List.forall_mem_cons.2 ⟨ob_copy 28 8 (.inr rfl) rfl (by first | exact .inl rfl | exact .inr ⟨_, _, _, rfl, rfl, by kernel_rfl, by decide, rfl⟩) (by kernel_rfl) rfl, ?_⟩
          exact fun _ h => absurd h List.not_mem_nil
        intro vv wv hvv hbv
        have hv8 : vv 8 = .int .u64 (s : Int) := hvv 8 (by decide)
        simp only [lay, List.foldl_cons, List.foldl_nil, List.setIfInBounds_toArray, List.set_cons_succ, List.set_cons_zero, hv8]
        have vx := vx.below hbv
        have vy := vy.below hbv
        have how := how.other hbv
        have hbj := up hbj hbv
        have hBj := Nat.le_trans hBj hbv.size
        clear hbv hvv
        have kvx := vx.cell
        have kvy := vy.cell
        go_wp2_with (at_builtin
                     refine wpList_push rfl (.tmp 29) (.tmp 33) rfl w1.heap.size v rs (s % 4294967296) _ 1 rfl rfl (how.other (one _ _)) (by exact mod_cell _ s) (by rw [hrl.out]; omega) (by simp; omega) ?_
                     intro v4 w4 hown4 hg4 hat4)
        have hb4 := hbj.grown (grown_alloc hg4) hBj (fun k' hk' => (World.ownsRow.lt how k' hk').1)
        refine ⟨⟨k + 1, s / 4294967296, rs ++ [s % 4294967296], v4, by omega, rfl, hown4, ?_, congrArg (Value.int .u64) (wrap_div (by have := Hs2.out; omega)), by have := Hs2.out; omega, by go_num, hdig, hstep, hb4, Nat.le_trans hBj (grown_alloc hg4).size⟩, by simp [intOf]; omega⟩
        show _ = _
        rw [List.length_append, hrl.out]; rfl
      · have hkk : k = max xs.length ys.length + 1 := by omega
        have hfin : Nm.nat (Nm.val rs) = Nm.nat (Nm.val xs + Nm.val ys) := by
          have e := hval.out
          rw [List.take_of_length_le (by omega), List.take_of_length_le (by omega)] at e
          have b1 := Nat.lt_of_lt_of_le (Nm.val_lt dx) (Nat.pow_le_pow_right (by omega) (by omega : xs.length ≤ max xs.length ys.length))
          have b2 := Nat.lt_of_lt_of_le (Nm.val_lt dy) (Nat.pow_le_pow_right (by omega) (by omega : ys.length ≤ max xs.length ys.length))
          rw [hkk, Nat.pow_succ] at e
          generalize 4294967296 ^ max xs.length ys.length = P at e b1 b2
          rcases Nat.eq_zero_or_pos o with h0 | h0
          · subst h0
            rw [Nat.mul_zero, Nat.add_zero] at e
            rw [e]
          · exfalso
            have h1 : o = 1 := by omega
            subst h1
            omega
        have Hf := Lib.hid hfin
        obtain ⟨A', c', hve, hcc, hfr⟩ := how.slice
        subst hve
        have hrl2 : rs.length ≤ 401 := by rw [hrl.out]; omega
        clear hfin hval hkk
        go_wp2_with fail
        refine (refTrim_n hfr.rd rfl (by omega) hrd Hf.out).mono ?_
        rintro e w5 ⟨A5, c5, rfl, hc5, hf5, hb5⟩
        obtain ⟨k1, k2⟩ := seen (up hbj hb5)
        have hcr : w5.cell? ⟨w.heap.size + 1 + 1, 0, none⟩ = some (.slice none 0 0) := by rw [k1 _ _ (by omega)]; exact hcell1
        have hfr1 : w5.frozen? ⟨w.heap.size + 1 + 1, 0, none⟩ = false := by rw [k2 _ _ (by omega)]; exact hfz1
        clear k1 k2
        go_wp2_with fail
        refine bodyPost_ret (v := nt A5 (Nm.nat (Nm.val xs + Nm.val ys)).length c5) (by simp [results, Tryz.results55, go_sem, hcr]) rfl ⟨A5, c5, rfl, hc5, ?_, ?_⟩
        · exact (hf5.mono (by have := hbj.size; omega)).setCell hcr (by simp)
        · exact (up hb1 (up hbj hb5)).setCell (by show w.heap.size ≤ w.heap.size + 1 + 1; omega) _
end Go.Proofs.YtjfehdkfogdpgaaGreatDoor
namespace Go.Proofs.YtjfehdkfogdpgaaGreatDoor
open Go.RowKit
theorem go_addc_u64 (b c r : Int) (hr : b + c = r) (h0 : 0 ≤ r) (h1 : r < 18446744073709551616) (a : Act) (w : World) (s : Nat) (o : Oper) (ho : o.op = .binOp .add 57 (.const (.int .u64 b)) (.tmp s) 57) (h3 : a.eval (.tmp s) = .int .u64 c) :
    (execOp a.eval o).run Tryz.prog w = .ok (.value (.int .u64 r)) w := by
  subst hr
  have hw : IntKind.u64.wrap (b + c) = b + c := by
    simp [IntKind.wrap, IntKind.signed, IntKind.bits]
    omega
  have h2 : a.eval (.const (.int .u64 b)) = .int .u64 b := rfl
  simp [execOp, ho, h2, h3]
  go_simp
theorem go_sub_u64 (b c r : Int) (hr : b - c = r) (h0 : 0 ≤ r) (h1 : r < 18446744073709551616) (a : Act) (w : World) (t s : Nat) (o : Oper) (ho : o.op = .binOp .sub 57 (.tmp t) (.tmp s) 57) (h2 : a.eval (.tmp t) = .int .u64 b) (h3 : a.eval (.tmp s) = .int .u64 c) :
    (execOp a.eval o).run Tryz.prog w = .ok (.value (.int .u64 r)) w := by
  subst hr
  have hw : IntKind.u64.wrap (b - c) = b - c := by
    simp [IntKind.wrap, IntKind.signed, IntKind.bits]
    omega
  simp [execOp, ho, h2, h3]
  go_simp
theorem wrap_borrow {s : Nat} (h : s < 8589934592) : IntKind.u64.wrap (1 - IntKind.u64.wrap ((s : Int) / 4294967296)) = ((1 - s / 4294967296 : Nat) : Int) := by
  rw [wrap_div (by omega)]
  simp [IntKind.wrap, IntKind.signed, IntKind.bits]
  omega
def rsubF (xs ys : List Nat) (k o s : Nat) (t : Nat) : Fact := (([(2, Fact.var xs), (3, Fact.var ys), (7, Fact.eq (.int .u64 (o : Int))), (8, fI (k : Int)), (9, Fact.eq (.int .u64 (s : Int))), (22, Fact.num xs), (23, fI (k : Int)), (24, Fact.eq (.int .u64 (Nm.dg xs k : Int))), (25, Fact.eq (.int .u64 ((4294967296 + Nm.dg xs k : Nat) : Int))), (26, Fact.num ys), (27, fI (k : Int)), (28, Fact.eq (.int .u64 (Nm.dg ys k : Int))), (29, Fact.eq (.int .u64 ((4294967296 + Nm.dg xs k - Nm.dg ys k : Nat) : Int))), (30, Fact.eq (.int .u64 (o : Int))), (31, Fact.eq (.int .u64 (s : Int)))] : List (Nat × Fact)).lookup t).getD Fact.any
def SubRel (BB : Nat) (xs ys : List Nat) (w : World) (ov cv iv : Value) (wr : World) : Prop :=
  ∃ (k o : Nat) (rs : List Nat) (v : Value), k ≤ xs.length ∧ ov = v ∧ Ow BB wr v rs ∧ Hid (rs.length = k) ∧ cv = .int .u64 (o : Int) ∧ o ≤ 1 ∧ iv = .int .i64 (k : Int) ∧ Nm.Dig rs ∧ Hid (Nm.val rs + Nm.val (ys.take k) = Nm.val (xs.take k) + 4294967296 ^ k * o) ∧ Below BB w wr ∧ BB ≤ wr.heap.size
set_option maxRecDepth 100000 in
set_option maxHeartbeats 1000000 in
theorem refSub_lt {w : World} {A B : Option Addr} {n m c d : Nat} {xs ys : List Nat} (hx : Num w A n c xs) (hy : Num w B m d ys) (hcmp : cmpI (Nm.val xs) (Nm.val ys) = -1) (rs : List Nat) (hr : rs = []) :
    Calls Tryz.prog 57 #[nt A n c, nt B m d] w fun e w' => ∃ A' c', e = .returned (.tuple #[nt A' rs.length c', .bool false]) ∧ rs.length ≤ c' ∧ Fr w.heap.size w' A' rs ∧ Below w.heap.size w w' := by
  subst hr
  obtain rfl := hx.len
  obtain rfl := hy.len
  have s1 := hx.small
  have s2 := hy.small
  have dx := hx.dig
  have dy := hy.dig
  go_enter Tryz.func57, Tryz.ntmps57
  go_wp2_with fail
  have vx := Var.new hx
  have vx := vx.below (two _ (Obj.cells #[Value.slice B ys.length d] 24) (Obj.cells #[Value.slice none 0 0] 24))
  have vy : Var _ (w.heap.size + 1) B ys.length d ys := Var.at_ (hy.below (one _ (Obj.cells #[Value.slice A xs.length c] 24))) (by simp)
  have vy := vy.below (one _ (Obj.cells #[Value.slice none 0 0] 24))
  have hb1 := three w (Obj.cells #[Value.slice A xs.length c] 24) (Obj.cells #[Value.slice B ys.length d] 24) (Obj.cells #[Value.slice none 0 0] 24)
  clear hx hy
  have hcell0 : (((w.alloc (Obj.cells #[Value.slice A xs.length c] 24)).alloc (Obj.cells #[Value.slice B ys.length d] 24)).alloc (Obj.cells #[Value.slice none 0 0] 24)).cell? ⟨w.heap.size + 1 + 1, 0, none⟩ = some (.slice none 0 0) := new_cell _ _ _ _ (by simp)
  have hfz0 : (((w.alloc (Obj.cells #[Value.slice A xs.length c] 24)).alloc (Obj.cells #[Value.slice B ys.length d] 24)).alloc (Obj.cells #[Value.slice none 0 0] 24)).frozen? ⟨w.heap.size + 1 + 1, 0, none⟩ = false := new_soft _ _ _ _ (by simp)
  have hs0 : (((w.alloc (Obj.cells #[Value.slice A xs.length c] 24)).alloc (Obj.cells #[Value.slice B ys.length d] 24)).alloc (Obj.cells #[Value.slice none 0 0] 24)).heap.size = w.heap.size + 1 + 1 + 1 := by simp
  refine (hcmp ▸ refCmp_n vx.num vy.num).mono ?_
  rintro e w1 ⟨rfl, hs⟩
  obtain ⟨k1, k2⟩ := seen hs
  have hcell1 : w1.cell? ⟨w.heap.size + 1 + 1, 0, none⟩ = some (.slice none 0 0) := by rw [k1 _ _ (by omega)]; exact hcell0
  have hfz1 : w1.frozen? ⟨w.heap.size + 1 + 1, 0, none⟩ = false := by rw [k2 _ _ (by omega)]; exact hfz0
  have hs1 : w.heap.size + 1 + 1 + 1 ≤ w1.heap.size := by have := hs.size; omega
  have vx := vx.below hs
  have vy := vy.below hs
  have hb1 := up hb1 hs
  clear k1 k2 hs hcell0 hfz0 hs0
  go_wp2_with fail
  refine bodyPost_ret (v := .tuple #[nt none 0 0, .bool false]) (by simp [results, Tryz.results57, go_sem, hcell1]) rfl ⟨none, 0, rfl, Nat.le_refl _, .inl rfl, ?_⟩
  exact hb1.setCell (by show w.heap.size ≤ w.heap.size + 1 + 1; omega) _
set_option maxRecDepth 100000 in
set_option maxHeartbeats 1000000 in
theorem refSub_ge {w : World} {A B : Option Addr} {n m c d : Nat} {xs ys : List Nat} (hx : Num w A n c xs) (hy : Num w B m d ys) (a : Int) (hcmp : cmpI (Nm.val xs) (Nm.val ys) = a) (ha : 0 ≤ a) (hge : Nm.val ys ≤ Nm.val xs) (rs : List Nat) (hr : Nm.nat (Nm.val xs - Nm.val ys) = rs) :
    Calls Tryz.prog 57 #[nt A n c, nt B m d] w fun e w' => ∃ A' c', e = .returned (.tuple #[nt A' rs.length c', .bool true]) ∧ rs.length ≤ c' ∧ Fr w.heap.size w' A' rs ∧ Below w.heap.size w w' := by
  subst hr
  obtain rfl := hx.len
  obtain rfl := hy.len
  have s1 := hx.small
  have s2 := hy.small
  have dx := hx.dig
  have dy := hy.dig
  go_enter Tryz.func57, Tryz.ntmps57
  go_wp2_with fail
  have vx := Var.new hx
  have vx := vx.below (two _ (Obj.cells #[Value.slice B ys.length d] 24) (Obj.cells #[Value.slice none 0 0] 24))
  have vy : Var _ (w.heap.size + 1) B ys.length d ys := Var.at_ (hy.below (one _ (Obj.cells #[Value.slice A xs.length c] 24))) (by simp)
  have vy := vy.below (one _ (Obj.cells #[Value.slice none 0 0] 24))
  have hb1 := three w (Obj.cells #[Value.slice A xs.length c] 24) (Obj.cells #[Value.slice B ys.length d] 24) (Obj.cells #[Value.slice none 0 0] 24)
  clear hx hy
  have hcell0 : (((w.alloc (Obj.cells #[Value.slice A xs.length c] 24)).alloc (Obj.cells #[Value.slice B ys.length d] 24)).alloc (Obj.cells #[Value.slice none 0 0] 24)).cell? ⟨w.heap.size + 1 + 1, 0, none⟩ = some (.slice none 0 0) := new_cell _ _ _ _ (by simp)
  have hfz0 : (((w.alloc (Obj.cells #[Value.slice A xs.length c] 24)).alloc (Obj.cells #[Value.slice B ys.length d] 24)).alloc (Obj.cells #[Value.slice none 0 0] 24)).frozen? ⟨w.heap.size + 1 + 1, 0, none⟩ = false := new_soft _ _ _ _ (by simp)
  have hs0 : (((w.alloc (Obj.cells #[Value.slice A xs.length c] 24)).alloc (Obj.cells #[Value.slice B ys.length d] 24)).alloc (Obj.cells #[Value.slice none 0 0] 24)).heap.size = w.heap.size + 1 + 1 + 1 := by simp
  refine (hcmp ▸ refCmp_n vx.num vy.num).mono ?_
  rintro e w1 ⟨rfl, hs⟩
  obtain ⟨k1, k2⟩ := seen hs
  have hcell1 : w1.cell? ⟨w.heap.size + 1 + 1, 0, none⟩ = some (.slice none 0 0) := by rw [k1 _ _ (by omega)]; exact hcell0
  have hfz1 : w1.frozen? ⟨w.heap.size + 1 + 1, 0, none⟩ = false := by rw [k2 _ _ (by omega)]; exact hfz0
  have hs1 : w.heap.size + 1 + 1 + 1 ≤ w1.heap.size := by have := hs.size; omega
  have vx := vx.below hs
  have vy := vy.below hs
  have hb1 := up hb1 hs
  clear k1 k2 hs hcell0 hfz0 hs0
  have kvx := vx.cell
  have kvy := vy.cell
  have ha0 : ¬ a < 0 := by omega
  clear hcmp ha
  go_wp2_with fail
  go_loopw [6, 7, 8] (fun ov cv iv wr => SubRel w1.heap.size xs ys w1 ov cv iv wr) (fun _ _ i _ => 402 - (intOf i).toNat)
  case atStart => exact ⟨0, 0, [], _, by omega, rfl, Ow.nil _ _, rfl, rfl, by omega, rfl, Nm.Dig.nil, by show _ = _; simp [Nm.val], Below.refl _ _, Nat.le_refl _⟩
  case round =>
    obtain ⟨k, o, rs, v, hk, hv, how, hrl, rfl, ho, rfl, hrd, hval, hbj, hBj⟩ := hrel
    obtain rfl := hv.symm
    have vx := vx.below hbj
    have vy := vy.below hbj
    have kvx := vx.cell
    have kvy := vy.cell
    by_cases hlt : k < xs.length
    · have q1 := Nm.dg_lt dx k
      have q2 := Nm.dg_lt dy k
      obtain ⟨s, hs⟩ : ∃ s, 4294967296 + Nm.dg xs k - Nm.dg ys k - o = s := ⟨_, rfl⟩
      have hs2 : s < 8589934592 := by omega
      have hstep : Hid (Nm.val (rs ++ [s % 4294967296]) + Nm.val (ys.take (k + 1)) = Nm.val (xs.take (k + 1)) + 4294967296 ^ (k + 1) * (1 - s / 4294967296)) := by
        show _ = _
        rw [Nm.val_append, Nm.val_take_dg, Nm.val_take_dg, hrl.out]
        have e := hval.out
        have e2 : Nm.val [s % 4294967296] = s % 4294967296 := by simp [Nm.val]
        rw [e2, Nat.pow_succ, Nat.mul_assoc]
        have e3 : s % 4294967296 + Nm.dg ys k + o = Nm.dg xs k + 4294967296 * (1 - s / 4294967296) := by omega
        have e4 := congrArg (fun t => 4294967296 ^ k * t) e3
        simp only [Nat.mul_add] at e4
        omega
      have hdig : Nm.Dig (rs ++ [s % 4294967296]) := hrd.append (Nm.Dig.mk (by omega) Nm.Dig.nil)
      have Hs := Lib.hid hs
      have Hs2 := Lib.hid hs2
      have Q1 := Lib.hid q1
      have Q2 := Lib.hid q2
      have hkm : k ≤ 400 := by omega
      clear hval q1 q2 hs hs2
      go_wp2_with fail
      refine wp_region_on (by kernel_rfl) (rsubF xs ys k o s) [2, 3, 8, 7] 43 [9, 22, 23, 24, 25, 26, 27, 28, 29, 30, 31] rfl (by kernel_rfl) (by kernel_rfl) ?_ ?_ ?_
      · intro t ht
        simp only [List.mem_cons, List.not_mem_nil, or_false] at ht
        rcases ht with rfl | rfl | rfl | rfl
        · exact ⟨_, _, _, rfl, vx⟩
        · exact ⟨_, _, _, rfl, vy⟩
        · rfl
        · rfl
      · refine List.forall_mem_cons.2 ⟨ob_load 2 22 xs rfl rfl (by first | exact .inl rfl | exact .inr ⟨_, _, _, rfl, rfl, by kernel_rfl, by decide, rfl⟩) (by kernel_rfl) rfl rfl, ?_⟩
        refine List.forall_mem_cons.2 ⟨ob_copy 8 23 (.inl rfl) rfl (by first | exact .inl rfl | exact .inr ⟨_, _, _, rfl, rfl, by kernel_rfl, by decide, rfl⟩) (by kernel_rfl) rfl, ?_⟩
        refine List.forall_mem_cons.2 ⟨ob_call2 82 22 23 24 _ rfl rfl (by first | exact .inl rfl | exact .inr ⟨_, _, _, rfl, rfl, by kernel_rfl, by decide, rfl⟩) (by kernel_rfl) (by kernel_rfl) (by kernel_rfl) (c_digit xs k), ?_⟩
        refine List.forall_mem_cons.2 ⟨ob_one 24 25 _ _ rfl (by first | exact .inl rfl | exact .inr ⟨_, _, _, rfl, rfl, by kernel_rfl, by decide, rfl⟩) (by kernel_rfl) rfl rfl (fun a w h1 => go_addc_u64 _ _ _ (by have := Hs.out; have := Q1.out; have := Q2.out; omega) (by have := Hs.out; have := Q1.out; have := Q2.out; omega) (by have := Hs.out; have := Q1.out; have := Q2.out; omega) a w 24 _ rfl h1), ?_⟩
        refine List.forall_mem_cons.2 ⟨ob_load 3 26 ys rfl rfl (by first | exact .inl rfl | exact .inr ⟨_, _, _, rfl, rfl, by kernel_rfl, by decide, rfl⟩) (by kernel_rfl) rfl rfl, ?_⟩
        refine List.forall_mem_cons.2 ⟨ob_copy 8 27 (.inl rfl) rfl (by first | exact .inl rfl | exact .inr ⟨_, _, _, rfl, rfl, by kernel_rfl, by decide, rfl⟩) (by kernel_rfl) rfl, ?_⟩
        refine List.forall_mem_cons.2 ⟨ob_call2 82 26 27 28 _ rfl rfl (by first | exact .inl rfl | exact .inr ⟨_, _, _, rfl, rfl, by kernel_rfl, by decide, rfl⟩) (by kernel_rfl) (by kernel_rfl) (by kernel_rfl) (c_digit ys k), ?_⟩
        refine List.forall_mem_cons.2 ⟨ob_two 25 28 29 _ _ _ rfl (by first | exact .inl rfl | exact .inr ⟨_, _, _, rfl, rfl, by kernel_rfl, by decide, rfl⟩) (by kernel_rfl) (by kernel_rfl) rfl rfl rfl (fun a w h1 h2 => go_sub_u64 _ _ _ (by have := Hs.out; have := Q1.out; have := Q2.out; omega) (by have := Hs.out; have := Q1.out; have := Q2.out; omega) (by have := Hs.out; have := Q1.out; have := Q2.out; omega) a w 25 28 _ rfl h1 h2), ?_⟩
        refine List.forall_mem_cons.2 ⟨ob_copy 7 30 (.inl rfl) rfl (by first | exact .inl rfl | exact .inr ⟨_, _, _, rfl, rfl, by kernel_rfl, by decide, rfl⟩) (by kernel_rfl) rfl, ?_⟩
        refine List.forall_mem_cons.2 ⟨ob_two 29 30 31 _ _ _ rfl (by first | exact .inl rfl | exact .inr ⟨_, _, _, rfl, rfl, by kernel_rfl, by decide, rfl⟩) (by kernel_rfl) (by kernel_rfl) rfl rfl rfl (fun a w h1 h2 => go_sub_u64 _ _ _ (by have := Hs.out; have := Q1.out; have := Q2.out; omega) (by have := Hs.out; have := Q1.out; have := Q2.out; omega) (by have := Hs.out; have := Q1.out; have := Q2.out; omega) a w 29 30 _ rfl h1 h2), ?_⟩
        refine List.forall_mem_cons.2 ⟨ob_copy 31 9 (.inr rfl) rfl (by first | exact .inl rfl | exact .inr ⟨_, _, _, rfl, rfl, by kernel_rfl, by decide, rfl⟩) (by kernel_rfl) rfl, ?_⟩
        exact fun _ h => absurd h List.not_mem_nil
      intro vv wv hvv hbv
      have hv9 : vv 9 = .int .u64 (s : Int) := hvv 9 (by decide)
      simp only [lay, List.foldl_cons, List.foldl_nil, List.setIfInBounds_toArray, List.set_cons_succ, List.set_cons_zero, hv9]
      have how := how.other hbv
      have hbj := up hbj hbv
      have hBj := Nat.le_trans hBj hbv.size
      clear hbv hvv kvx kvy
      go_wp2_with (at_builtin
                   refine wpList_push rfl (.tmp 32) (.tmp 36) rfl w1.heap.size v rs (s % 4294967296) _ 1 rfl rfl (how.other (one _ _)) (by exact mod_cell _ s) (by rw [hrl.out]; omega) (by simp; omega) ?_
                   intro v4 w4 hown4 hg4 hat4)
      have hb4 := hbj.grown (grown_alloc hg4) hBj (fun k' hk' => (World.ownsRow.lt how k' hk').1)
      refine ⟨⟨k + 1, 1 - s / 4294967296, rs ++ [s % 4294967296], v4, by omega, rfl, hown4, ?_, congrArg (Value.int .u64) (wrap_borrow Hs2.out), by omega, by go_num, hdig, hstep, hb4, Nat.le_trans hBj (grown_alloc hg4).size⟩, by simp [intOf]; omega⟩
      show _ = _
      rw [List.length_append, hrl.out]; rfl
    · have hkk : k = xs.length := by omega
      have hfin : Nm.nat (Nm.val rs) = Nm.nat (Nm.val xs - Nm.val ys) := by
        have e := hval.out
        have b1 := Nm.val_lt dx
        have b3 := Nm.val_lt hrd
        have hY : Nm.val (ys.take k) = Nm.val ys := by
          rcases Nat.lt_or_ge ys.length k with h3 | h3
          · rw [List.take_of_length_le (by omega)]
          · have h4 := Nm.val_split ys k h3
            have h5 : Nm.val (ys.drop k) = 0 := by
              rcases Nat.eq_zero_or_pos (Nm.val (ys.drop k)) with h6 | h6
              · exact h6
              · have h7 := Nat.mul_le_mul_left (4294967296 ^ k) h6
                rw [hkk] at h7 h4
                omega
            rw [h5] at h4
            omega
        rw [hY, List.take_of_length_le (by omega)] at e
        rw [hrl.out, hkk] at b3
        rw [hkk] at e
        have ho : o = 0 := by
          rcases Nat.eq_zero_or_pos o with h0 | h0
          · exact h0
          · have h1 : o = 1 := by omega
            subst h1
            omega
        rw [ho, Nat.mul_zero] at e
        congr 1
        omega
      have Hf := Lib.hid hfin
      obtain ⟨A', c', hve, hcc, hfr⟩ := how.slice
      subst hve
      have hrl2 : rs.length ≤ 401 := by rw [hrl.out]; omega
      clear hfin hval hkk
      go_wp2_with fail
      refine (refTrim_n hfr.rd rfl (by omega) hrd Hf.out).mono ?_
      rintro e w5 ⟨A5, c5, rfl, hc5, hf5, hb5⟩
      obtain ⟨k1, k2⟩ := seen (up hbj hb5)
      have hcr : w5.cell? ⟨w.heap.size + 1 + 1, 0, none⟩ = some (.slice none 0 0) := by rw [k1 _ _ (by omega)]; exact hcell1
      have hfr1 : w5.frozen? ⟨w.heap.size + 1 + 1, 0, none⟩ = false := by rw [k2 _ _ (by omega)]; exact hfz1
      clear k1 k2
      go_wp2_with fail
      refine bodyPost_ret (v := .tuple #[nt A5 (Nm.nat (Nm.val xs - Nm.val ys)).length c5, .bool true]) (by simp [results, Tryz.results57, go_sem, hcr]) rfl ⟨A5, c5, rfl, hc5, ?_, ?_⟩
      · exact (hf5.mono (by have := hbj.size; omega)).setCell hcr (by simp)
      · exact (up hb1 (up hbj hb5)).setCell (by show w.heap.size ≤ w.heap.size + 1 + 1; omega) _
theorem refSub_n {w : World} {A B : Option Addr} {n m c d : Nat} {xs ys : List Nat} (hx : Num w A n c xs) (hy : Num w B m d ys) (rs : List Nat) (b : Bool) (hr : Nm.nat (Nm.val xs - Nm.val ys) = rs) (hb : decide (Nm.val ys ≤ Nm.val xs) = b) :
    Calls Tryz.prog 57 #[nt A n c, nt B m d] w fun e w' => ∃ A' c', e = .returned (.tuple #[nt A' rs.length c', .bool b]) ∧ rs.length ≤ c' ∧ Fr w.heap.size w' A' rs ∧ Below w.heap.size w w' := by
  subst hb
  rcases Nat.lt_or_ge (Nm.val xs) (Nm.val ys) with h | h
  · rw [decide_eq_false (by omega)]
    rw [show Nm.val xs - Nm.val ys = 0 from by omega, Nm.nat_zero] at hr
    exact refSub_lt hx hy (cmpI_lt' h) rs hr.symm
  · rw [decide_eq_true h]
    refine refSub_ge hx hy _ rfl ?_ h rs hr
    rcases cmpI_cases (Nm.val xs) (Nm.val ys) with h1 | h1 | h1 <;> omega
end Go.Proofs.YtjfehdkfogdpgaaGreatDoor
namespace Go.Proofs.YtjfehdkfogdpgaaGreatDoor
open Go.RowKit
namespace Nm
theorem val_set (zs : List Nat) (j s : Nat) (h : j < zs.length) : val (zs.set j s) + 4294967296 ^ j * zs[j] = val zs + 4294967296 ^ j * s := by
  induction zs generalizing j with
  | nil => simp at h
  | cons z zs ih =>
    cases j with
    | zero => simp [val]; omega
    | succ j =>
      have := ih j (by simpa using h)
      simp only [List.set_cons_succ, val, List.getElem_cons_succ, Nat.pow_succ]
      have e := congrArg (fun t => 4294967296 * t) this
      simp only [Nat.mul_add] at e
      rw [Nat.mul_comm (4294967296 ^ j) 4294967296, Nat.mul_assoc, Nat.mul_assoc]
      omega
theorem mul_digit {ps qs : List Nat} {j k t o x y p s V : Nat} (hj : j = k + t) (h : j < qs.length) (hp : qs[j] = p) (hs : s = x * y + p + o) (hv : val qs + 4294967296 ^ j * o = val ps + 4294967296 ^ k * (x * V)) :
    val (qs.set j (s % 4294967296)) + 4294967296 ^ (j + 1) * (s / 4294967296) = val ps + 4294967296 ^ k * (x * (V + 4294967296 ^ t * y)) := by
  have h1 := val_set qs j (s % 4294967296) h
  rw [hp] at h1
  have h2 : s % 4294967296 + 4294967296 * (s / 4294967296) = x * y + p + o := by omega
  have h3 := congrArg (fun u => 4294967296 ^ j * u) h2
  have h4 : 4294967296 ^ k * (x * (4294967296 ^ t * y)) = 4294967296 ^ j * (x * y) := by
    rw [hj, Nat.pow_add, Nat.mul_left_comm x, Nat.mul_assoc]
  simp only [Nat.mul_add] at h3 ⊢
  rw [Nat.pow_succ, Nat.mul_assoc]
  omega
end Nm
def RMulRel (G m n : Nat) (X Y : List Nat) (W : World) (iv : Value) (wr : World) : Prop :=
  ∃ (k : Nat) (ps : List Nat), k ≤ m ∧ iv = .int .i64 (k : Int) ∧ Hid (ps.length = m + n) ∧ Nm.Dig ps ∧ Hid (∀ j, k + n ≤ j → j < m + n → ps[j]? = some 0) ∧ Hid (Nm.val ps = Nm.val (X.take k) * Nm.val Y) ∧ Own wr G 0 ps ∧ Below W.heap.size W wr
def RInRel (G k m n x : Nat) (ps Y : List Nat) (W : World) (cv tv : Value) (wr : World) : Prop :=
  ∃ (t o : Nat) (qs : List Nat), t ≤ n ∧ cv = .int .u64 (o : Int) ∧ o < 4294967296 ∧ tv = .int .i64 (t : Int) ∧ Hid (qs.length = m + n) ∧ Nm.Dig qs ∧ Hid (∀ j, k + t ≤ j → qs[j]? = ps[j]?) ∧ Hid (Nm.val qs + 4294967296 ^ (k + t) * o = Nm.val ps + 4294967296 ^ k * (x * Nm.val (Y.take t))) ∧ Own wr G 0 qs ∧ Below W.heap.size W wr
set_option maxRecDepth 100000 in
set_option maxHeartbeats 1000000 in
theorem refMul_n {w : World} {A B : Option Addr} {n m c d : Nat} {xs ys : List Nat} (hx : Num w A n c xs) (hy : Num w B m d ys) (zs : List Nat) (hr : Nm.nat (Nm.val xs * Nm.val ys) = zs) :
    Calls Tryz.prog 54 #[nt A n c, nt B m d] w fun e w' => ∃ A' c', e = .returned (nt A' zs.length c') ∧ zs.length ≤ c' ∧ Fr w.heap.size w' A' zs ∧ Below w.heap.size w w' := by
  subst hr
  obtain ⟨W, hW, hWs, hW0, hW1, hW2, hWf, hWb⟩ := three_cells w (Value.slice A n c) (Value.slice B m d) (Value.slice none 0 0) 24
  have rX := hx.rd.below hWb
  have rY := hy.rd.below hWb
  have lX := Lib.hid hx.len
  have lY := Lib.hid hy.len
  have s1 := hx.small
  have s2 := hy.small
  have dX := hx.dig
  have dY := hy.dig
  have HWs := Lib.hid hWs
  have hmk := fun W => make32 (n + m) (n + m) (Nat.le_refl _) (by omega) ((n : Int) + (m : Int)) ((n : Int) + (m : Int)) (by omega) (by omega) W
  clear hx hy hWs
  go_enter Tryz.func54, Tryz.ntmps54
  go_wp2_with fail
  have hbase : Below W.heap.size W (W.alloc (Obj.cells (madeCells #[Value.int IntKind.u32 0] (n + m)) 59)) := one _ _
  go_loopw [6] (fun iv wr => RMulRel W.heap.size n m xs ys W iv wr) (fun i _ => n - (intOf i).toNat)
  case atStart => exact ⟨0, List.replicate (n + m) 0, Nat.zero_le _, rfl, by show _ = _; simp, Nm.dig_replicate _, fun j _ hj => by rw [List.getElem?_replicate, if_pos hj], by show _ = _; rw [Nm.val_replicate]; simp [Nm.val], own_made W (n + m), hbase⟩
  case round =>
    obtain ⟨k, ps, hk, rfl, hl, hpd, hz, hv, hown, hb⟩ := hrel
    obtain ⟨k1, k2⟩ := seen hb
    have kx : wr.cell? ⟨w.heap.size, 0, none⟩ = some (.slice A n c) := (k1 _ _ (by rw [HWs.out]; omega)).trans hW0
    have ky : wr.cell? ⟨w.heap.size + 1, 0, none⟩ = some (.slice B m d) := (k1 _ _ (by rw [HWs.out]; omega)).trans hW1
    by_cases hlt : k < n
    · have hkX : k < xs.length := by rw [lX.out]; exact hlt
      obtain ⟨x, hx⟩ : ∃ x, xs[k] = x := ⟨_, rfl⟩
      have hxlt : x < 4294967296 := by rw [← hx]; exact dX.at_ hkX
      have Hx := Lib.hid hx
      clear hx k1 k2
      go_wp2_with fail
      go_loopw [7, 8] (fun cv tv wr2 => RInRel W.heap.size k n m x ps ys W cv tv wr2) (fun _ t _ => m - (intOf t).toNat)
      case atStart => exact ⟨0, 0, ps, Nat.zero_le _, rfl, by omega, rfl, hl, hpd, fun _ _ => rfl, by show _ = _; simp [Nm.val], hown, hb⟩
      case round =>
        obtain ⟨t, o, qs, ht, rfl, ho, rfl, hl2, hqd, hsame, hv2, hown2, hb2⟩ := hrel
        obtain ⟨k1, k2⟩ := seen hb2
        have kx2 : wr.cell? ⟨w.heap.size, 0, none⟩ = some (.slice A n c) := (k1 _ _ (by rw [HWs.out]; omega)).trans hW0
        have ky2 : wr.cell? ⟨w.heap.size + 1, 0, none⟩ = some (.slice B m d) := (k1 _ _ (by rw [HWs.out]; omega)).trans hW1
        clear k1 k2 kx ky
        by_cases htl : t < m
        · have hkt : k + t < qs.length := by rw [hl2.out]; omega
          have htY : t < ys.length := by rw [lY.out]; exact htl
          have c3 := hown2.1 (k + t) hkt
          have f3 := hown2.2 (k + t) hkt
          rw [Nat.zero_add] at c3 f3
          obtain ⟨q, hq⟩ : ∃ q, qs[k + t] = q := ⟨_, rfl⟩
          rw [hq] at c3
          have hqlt : q < 4294967296 := by rw [← hq]; exact hqd.at_ hkt
          obtain ⟨g1, off1, hA, hr1⟩ := (rX.below hb2).at_ hkX
          have c1 := hr1 k hkX
          rw [Hx.out] at c1
          obtain ⟨g2, off2, hB, hr2⟩ := (rY.below hb2).at_ htY
          have c2 := hr2 t htY
          obtain ⟨y, hy⟩ : ∃ y, ys[t] = y := ⟨_, rfl⟩
          rw [hy] at c2
          have hylt : y < 4294967296 := by rw [← hy]; exact dY.at_ htY
          have hple := prod_le hxlt hylt
          obtain ⟨p, hp⟩ : ∃ p, x * y = p := ⟨_, rfl⟩
          rw [hp] at hple
          have hpi : (x : Int) * (y : Int) = (p : Int) := by rw [← hp]; simp
          have hval := Nm.mul_digit (s := p + q + o) rfl hkt hq (by rw [hp]) hv2.out
          have htk : Nm.val (ys.take (t + 1)) = Nm.val (ys.take t) + 4294967296 ^ t * y := by rw [Nm.val_take_succ ys t htY, hy]
          rw [← htk] at hval
          have Hval := Lib.hid hval
          have hix := fun V => index32 V W.heap.size 0 (n + m) (n + m) (k + t) ((k : Int) + (t : Int)) (by omega) (by omega)
          subst hA
          subst hB
          clear hr1 hr2 hq hy hp hval htk
          go_wp2_with fail
          go_quiet (fail)
          go_wp2_with fail
          have hmod : ((p : Int) + (q : Int) + (o : Int)) % 4294967296 = (((p + q + o) % 4294967296 : Nat) : Int) := by simp
          rw [hmod]
          refine ⟨⟨t + 1, (p + q + o) / 4294967296, qs.set (k + t) ((p + q + o) % 4294967296), by omega, by go_num, by omega, by go_num, ?_, hqd.set _ (by omega), fun j hj => ?_, Hval.out, ?_, ?_⟩, by simp [intOf]; omega⟩
          · show _ = _
            rw [List.length_set]; exact hl2.out
          · rw [List.getElem?_set_ne (by omega)]
            exact hsame.out j (by omega)
          · have := (show Own (wr.drewN nq) W.heap.size 0 qs from hown2).set (k + t) ((p + q + o) % 4294967296)
            rwa [Nat.zero_add] at this
          · exact (below_drewN hb2 nq).setCell (Nat.le_refl _) _
        · have htm : t = m := by omega
          have hkm : k + m < qs.length := by rw [hl2.out]; omega
          have c3 := hown2.1 (k + m) hkm
          have f3 := hown2.2 (k + m) hkm
          rw [Nat.zero_add] at c3 f3
          have hq0 : qs[k + m] = 0 := by
            have h1 := hsame.out (k + m) (by omega)
            rw [hz.out (k + m) (by omega) (by omega), List.getElem?_eq_getElem hkm] at h1
            exact Option.some.inj h1
          have hval : Nm.val (qs.set (k + m) o) = Nm.val (xs.take (k + 1)) * Nm.val ys := by
            have h1 := Nm.val_set qs (k + m) o hkm
            rw [hq0, Nat.mul_zero, Nat.add_zero] at h1
            have h2 := hv2.out
            rw [htm, List.take_of_length_le (by rw [lY.out]; exact Nat.le_refl _)] at h2
            rw [h1, h2, hv.out, Nm.val_take_succ xs k hkX, Hx.out, Nat.add_mul, Nat.mul_assoc]
          rw [hq0] at c3
          have Hval := Lib.hid hval
          have Htm := Lib.hid htm
          have hix := fun V => index32 V W.heap.size 0 (n + m) (n + m) (k + m) ((k : Int) + (m : Int)) (by omega) (by omega)
          clear hq0 hval htm
          go_wp2_with fail
          refine ⟨⟨k + 1, qs.set (k + m) o, by omega, by go_num, ?_, hqd.set _ ho, fun j h1 h2 => ?_, Hval.out, ?_, hb2.setCell (Nat.le_refl _) _⟩, by simp [intOf]; omega⟩
          · show _ = _
            rw [List.length_set]; exact hl2.out
          · rw [List.getElem?_set_ne (by omega), hsame.out j (by have := Htm.out; omega)]
            exact hz.out j (by omega) h2
          · have := hown2.set (k + m) o
            rwa [Nat.zero_add] at this
    · have hkk : k = n := by omega
      have hval : Nm.nat (Nm.val ps) = Nm.nat (Nm.val xs * Nm.val ys) := by
        have h1 := hv.out
        rw [hkk, List.take_of_length_le (Nat.le_of_eq lX.out)] at h1
        rw [h1]
      have Hval := Lib.hid hval
      clear hkk hval k1 k2
      go_wp2_with fail
      refine (refTrim_n (.inr ⟨_, _, rfl, hown.1⟩) hl.out (by omega) hpd Hval.out).mono ?_
      rintro e w5 ⟨A5, c5, rfl, hc5, hf5, hb5⟩
      have hb5' : Below W.heap.size W w5 := up hb hb5
      obtain ⟨k1, k2⟩ := seen hb5'
      have hcr : w5.cell? ⟨w.heap.size + 1 + 1, 0, none⟩ = some (.slice none 0 0) := (k1 _ _ (by rw [HWs.out]; omega)).trans hW2
      have hfr : w5.frozen? ⟨w.heap.size + 1 + 1, 0, none⟩ = false := (k2 _ _ (by rw [HWs.out]; omega)).trans hWf
      have hsz : w.heap.size ≤ wr.heap.size := Nat.le_trans hWb.size hb.size
      clear k1 k2 hW hW0 hW1 hW2 hWf
      go_wp2_with fail
      refine bodyPost_ret (v := nt A5 (Nm.nat (Nm.val xs * Nm.val ys)).length c5) (by simp [results, Tryz.results54, go_sem, hcr]) rfl ⟨_, _, rfl, hc5, ?_, ?_⟩
      · exact (hf5.mono hsz).setCell hcr (by simp)
      · exact (up hWb hb5').setCell (by show w.heap.size ≤ w.heap.size + 1 + 1; omega) _
end Go.Proofs.YtjfehdkfogdpgaaGreatDoor
namespace Go.Proofs.YtjfehdkfogdpgaaGreatDoor
open Go.RowKit
theorem Nm.blen_step {x b : Nat} (h : 0 < x) (hb : Nm.blen x = b) : Nm.blen (x / 2) + 1 = b := by rw [← hb, Nm.blen_half h]
set_option maxRecDepth 100000 in
set_option maxHeartbeats 1000000 in
theorem refBits_n {w : World} {A : Option Addr} {n c : Nat} {xs : List Nat} (hx : Num w A n c xs) (ht : Nm.tlen xs = n) (v : Nat) (hv : Nm.blen (Nm.val xs) = v) :
    Calls Tryz.prog 86 #[nt A n c] w fun e w' => e = .returned (.int .i64 (v : Int)) ∧ Below w.heap.size w w' := by
  have hl := hx.len
  have hsm := hx.small
  rcases Nat.eq_zero_or_pos n with h0 | h0
  · have hx0 : xs = [] := List.eq_nil_of_length_eq_zero (by omega)
    have hv0 : v = 0 := by rw [← hv, hx0]; decide
    subst hv0
    subst h0
    clear hv ht
    go_enter Tryz.func86, Tryz.ntmps86
    go_wp2_with fail
    go_ret
    exact ⟨rfl, one _ _⟩
  · obtain ⟨m, rfl⟩ : ∃ m, n = m + 1 := ⟨n - 1, by omega⟩
    obtain ⟨g, off, rfl, hr⟩ := (hx.rd.alloc (Obj.cells #[Value.slice A (m + 1) c] 24)).at_ (i := m) (by omega)
    have hck := hr m (by omega)
    have hnz := Nm.tlen_last xs m ht (by omega)
    obtain ⟨x, hxx⟩ : ∃ x, xs[m]'(by omega) = x := ⟨_, rfl⟩
    rw [hxx] at hck hnz
    have hxlt : x < 4294967296 := by rw [← hxx]; exact hx.dig.at_ (by omega)
    have hval : 32 * m + Nm.blen x = v := by
      have h1 := Nm.val_take_succ xs m (by omega)
      rw [List.take_of_length_le (by omega), hxx] at h1
      have h2 : Nm.val (xs.take m) < 4294967296 ^ m := by
        have := Nm.val_lt (hx.dig.take m)
        rwa [List.length_take, Nat.min_eq_left (by omega)] at this
      rw [← hv, h1, Nm.blen_top h2 (by omega)]
    have hbl := Nm.blen_lt (x := x) (k := 32) (by omega)
    have hv3 : v ≤ 13000 := by omega
    have Hval := Lib.hid hval
    have Hxlt := Lib.hid hxlt
    clear hr hxx hnz ht hv hval hx hl hxlt
    go_enter Tryz.func86, Tryz.ntmps86
    go_wp2_with fail
    go_loop [3, 4] (fun nv xv => ∃ y k : Nat, xv = .int .u32 (y : Int) ∧ nv = .int .i64 (k : Int) ∧ Hid (y < 4294967296) ∧ Hid (k + Nm.blen y = v) ∧ k ≤ 13000) (fun _ x => (intOf x).toNat)
    case atStart => exact ⟨x, 32 * m, rfl, by go_num, Hxlt, Hval, by omega⟩
    case round =>
      obtain ⟨y, k, rfl, rfl, hy, hk, hk3⟩ := hrel
      rcases Nat.eq_zero_or_pos y with hy0 | hy0
      · subst hy0
        have hfin : k = v := by have := hk.out; rwa [show Nm.blen 0 = 0 from rfl, Nat.add_zero] at this
        subst hfin
        clear hk
        go_wp2_with fail
        go_ret
        exact ⟨rfl, one _ _⟩
      · have hs := Nm.blen_step hy0 rfl
        have hk4 := hk.out
        have hk5 : k + 1 + Nm.blen (y / 2) = v := by omega
        have Hk5 := Lib.hid hk5
        clear hk4 hk5 hs
        go_wp2_with fail
        have hmod : (y : Int) / 2 % 4294967296 = ((y / 2 : Nat) : Int) := by have := hy.out; omega
        rw [hmod]
        refine ⟨⟨y / 2, k + 1, rfl, by go_num, ?_, Hk5, by have := Hk5.out; omega⟩, by simp [intOf]; omega⟩
        show _ < _
        have := hy.out
        omega
end Go.Proofs.YtjfehdkfogdpgaaGreatDoor
namespace Go.Proofs.YtjfehdkfogdpgaaGreatDoor
open Go.RowKit
theorem c_refCmp (xs ys : List Nat) : ∀ v u w, (Fact.num xs).holds v w → (Fact.num ys).holds u w → Calls Tryz.prog 56 #[v, u] w (Ret (fI (cmpI (Nm.val xs) (Nm.val ys))) w) := by
  rintro v u w ⟨A, c, rfl, h⟩ ⟨B, d, rfl, k⟩
  exact (refCmp_n h k).mono fun e w' ⟨he, hb⟩ => ⟨_, he, hb, rfl⟩
theorem c_refAdd (xs ys rs : List Nat) (hr : Nm.nat (Nm.val xs + Nm.val ys) = rs) (hm : rs.length ≤ 400) : ∀ v u w, (Fact.num xs).holds v w → (Fact.num ys).holds u w → Calls Tryz.prog 55 #[v, u] w (Ret (Fact.num rs) w) := by
  rintro v u w ⟨A, c, rfl, h⟩ ⟨B, d, rfl, k⟩
  exact (refAdd_n h k rs hr).mono fun e w' ⟨A', c', he, hc, hf, hb⟩ => ⟨_, he, hb, num_of_fr hf hc (hr ▸ Nm.dig_nat _) hm⟩
theorem c_refMul (xs ys rs : List Nat) (hr : Nm.nat (Nm.val xs * Nm.val ys) = rs) (hm : rs.length ≤ 400) : ∀ v u w, (Fact.num xs).holds v w → (Fact.num ys).holds u w → Calls Tryz.prog 54 #[v, u] w (Ret (Fact.num rs) w) := by
  rintro v u w ⟨A, c, rfl, h⟩ ⟨B, d, rfl, k⟩
  exact (refMul_n h k rs hr).mono fun e w' ⟨A', c', he, hc, hf, hb⟩ => ⟨_, he, hb, num_of_fr hf hc (hr ▸ Nm.dig_nat _) hm⟩
end Go.Proofs.YtjfehdkfogdpgaaGreatDoor
namespace Go.Proofs.YtjfehdkfogdpgaaGreatDoor
open Go.RowKit
def seqOk (ops : Array Oper) (k : Nat) : Bool := (List.range ops.size).all fun i => match ops[i]? with
  | none => true
  | some o => (o.after.all fun e => !Region.binds .any e || decide (e.on < i)) && (decide (i < k) || (List.range i).all fun j => o.after.any fun e => Region.binds .any e && e.on == j)
section
variable {ops : Array Oper} {Q : Exit → Act → World → Prop} {F : Nat → Fact} {base : List Nat} {N : Nat}
theorem seqOk_at {k : Nat} (h : seqOk ops k = true) {i : Nat} {o : Oper} (ho : ops[i]? = some o) :
    (∀ e ∈ o.after, Region.binds .any e = true → e.on < i) ∧ (k ≤ i → ∀ j, j < i → ∃ e ∈ o.after, Region.binds .any e = true ∧ e.on = j) := by
  have hi : i < ops.size := (Array.getElem?_eq_some_iff.1 ho).1
  have h1 := List.all_eq_true.1 h i (List.mem_range.2 hi)
  simp only [ho, Bool.and_eq_true] at h1
  refine ⟨fun e he hb => ?_, fun hk j hj => ?_⟩
  · have := Array.all_eq_true_iff_forall_mem.1 h1.1 e he
    simpa [hb] using this
  · have h2 := h1.2
    rw [Bool.or_eq_true] at h2
    rcases h2 with h2 | h2
    · have := of_decide_eq_true h2
      omega
    · have h3 := List.all_eq_true.1 h2 j (List.mem_range.2 hj)
      rw [Array.any_eq_true'] at h3
      obtain ⟨e, he, h4⟩ := h3
      simp only [Bool.and_eq_true, beq_iff_eq] at h4
      exact ⟨e, he, h4.1, h4.2⟩
theorem getD_of {listed : Array Bool} {i : Nat} {b : Bool} (h : listed.getD i b = !b) (c : Bool) : listed.getD i c = !b := by
  rw [Array.getD_eq_getD_getElem?] at h ⊢
  cases hl : listed[i]? with
  | none => rw [hl] at h; cases b <;> cases h
  | some x => rw [hl] at h; exact h
theorem wpAny_tail {k0 : Nat} (hok : seqOk ops k0 = true) : ∀ (m fuel k : Nat) (listed : Array Bool) (a : Act) (w : World), k + m = ops.size → k0 ≤ k → (∀ i, i < k → listed.getD i false = true) → (∀ i, k ≤ i → i < ops.size → listed.getD i true = false) → listed.size = ops.size →
    wpList Tryz.prog ops Q (ops.toList.drop k) a w → m ≤ fuel → wpAny Tryz.prog .any ops Q fuel listed a w := by
  intro m
  induction m with
  | zero =>
    intro fuel k listed a w hk _ hl _ hs hw _
    have hr : Region.ready .any ops listed = [] := by
      cases hr : Region.ready .any ops listed with
      | nil => rfl
      | cons i rs =>
        exfalso
        have hm : i ∈ Region.ready .any ops listed := by rw [hr]; simp
        obtain ⟨h1, o, ho, _⟩ := mem_ready.1 hm
        have hi := (Array.getElem?_eq_some_iff.1 ho).1
        have h2 := hl i (by omega)
        have h3 : listed.getD i false = false := getD_of (b := true) h1 false
        rw [h3] at h2
        cases h2
    have hq : Q .normal a w := by
      rw [List.drop_of_length_le (by simp; omega)] at hw
      exact hw
    cases fuel with
    | zero => exact ⟨hr, hq⟩
    | succ fuel => exact ⟨fun _ => hq, fun i hi => by rw [hr] at hi; cases hi⟩
  | succ m ih =>
    intro fuel k listed a w hk hk0 hl hn hs hw hf
    obtain ⟨fuel, rfl⟩ : ∃ f, fuel = f + 1 := ⟨fuel - 1, by omega⟩
    have hlt : k < ops.size := by omega
    have hok' : ops[k]? = some ops[k] := Array.getElem?_eq_getElem hlt
    have hready : k ∈ Region.ready .any ops listed := mem_ready.2 ⟨hn k (Nat.le_refl _) hlt, ops[k], hok', fun e he hb => hl _ ((seqOk_at hok hok').1 e he hb)⟩
    refine ⟨fun h => (by rw [h] at hready; cases hready), fun i hi => ?_⟩
    obtain ⟨h1, o, ho, hedges⟩ := mem_ready.1 hi
    have hil := (Array.getElem?_eq_some_iff.1 ho).1
    have hik : i = k := by
      have h3 : listed.getD i false = false := getD_of (b := true) h1 false
      rcases Nat.lt_trichotomy i k with h | h | h
      · rw [hl i h] at h3; cases h3
      · exact h
      · exfalso
        obtain ⟨e, he, hb, heq⟩ := (seqOk_at hok ho).2 (by omega) k h
        have h4 := hedges e he hb
        rw [heq] at h4
        have h5 := hn k (Nat.le_refl _) hlt
        have h6 : listed.getD k false = false := getD_of (b := true) h5 false
        rw [h6] at h4
        cases h4
    subst hik
    have hd : ops.toList.drop i = o :: ops.toList.drop (i + 1) := by
      have h7 : i < ops.toList.length := by simpa using hil
      rw [List.drop_eq_getElem_cons h7]
      have h8 := (Array.getElem?_eq_some_iff.1 ho).2
      simp [h8]
    rw [hd] at hw
    have hnext : ∀ a' w', wpList Tryz.prog ops Q (ops.toList.drop (i + 1)) a' w' → wpAny Tryz.prog .any ops Q fuel (listed.setIfInBounds i true) a' w' := fun a' w' h' => by
      refine ih fuel (i + 1) _ a' w' (by omega) (by omega) (fun j hj => ?_) (fun j hj1 hj2 => ?_) (by simpa using hs) h' (by omega)
      · by_cases hji : j = i
        · subst hji
          simp [Array.getD_eq_getD_getElem?, hs, hlt]
        · simpa only [Array.getD_eq_getD_getElem?, Array.getElem?_setIfInBounds, if_neg (Ne.symm hji)] using hl j (by omega)
      · have hji : j ≠ i := by omega
        simpa only [Array.getD_eq_getD_getElem?, Array.getElem?_setIfInBounds, if_neg (Ne.symm hji)] using hn j (by omega) hj2
    unfold wpOp
    rw [ho]
    unfold wpList at hw
    show if Region.wanted o (yielded ops a.tmps) = true then _ else _
    split
    · rename_i hwant
      rw [if_pos hwant] at hw
      exact hw.imp (Oper.wp_mono hnext) id
    · rename_i hwant
      rw [if_neg hwant] at hw
      exact hnext _ _ hw
theorem wpAny_first {n : Nat} (hok : formOk ops base N = true) (hsq : seqOk ops n = true) (hn : n ≤ ops.size) {a0 : Act} {w0 : World} (hstep : ∀ i o, i < n → ops[i]? = some o → Ob ops Q F base N o)
    (hend : ∀ a w, a.defers = a0.defers → a.tmps.size = N → (∀ t ∈ base, (F t).holds (a.tmps.getD t undef) w) → (∀ (i t : Nat), i < n → (ops[i]?).bind Oper.dst = some t → (F t).holds (a.tmps.getD t undef) w) →
      (∀ (t : Nat), (∀ (i : Nat), i < n → (ops[i]?).bind Oper.dst ≠ some t) → a.tmps.getD t undef = a0.tmps.getD t undef) → Below w0.heap.size w0 w → wpList Tryz.prog ops Q (ops.toList.drop n) a w) :
    ∀ (fuel : Nat) (listed : Array Bool) (a : Act) (w : World), listed.size = ops.size → a.tmps.size = N → a.defers = a0.defers → (∀ t ∈ base, (F t).holds (a.tmps.getD t undef) w) →
      (∀ (i t : Nat), listed.getD i false = true → (ops[i]?).bind Oper.dst = some t → (F t).holds (a.tmps.getD t undef) w) → (∀ (t : Nat), (∀ (i : Nat), i < n → (ops[i]?).bind Oper.dst ≠ some t) → a.tmps.getD t undef = a0.tmps.getD t undef) →
      Below w0.heap.size w0 w → (∀ i, n ≤ i → i < ops.size → listed.getD i true = false) → left_ listed ops.size ≤ fuel → wpAny Tryz.prog .any ops Q fuel listed a w := by
  intro fuel
  induction fuel with
  | zero =>
    intro listed a w hs hN hd hb hdone hoth hbel hrest hl
    by_cases hall : ∀ i, i < n → listed.getD i false = true
    · refine wpAny_tail hsq (ops.size - n) 0 n listed a w (by omega) (Nat.le_refl _) hall hrest hs (hend a w hd hN hb (fun i t hi ht => hdone i t (hall i hi) ht) hoth hbel) ?_
      rcases Nat.lt_or_ge n ops.size with h | h
      · exfalso
        have := left_step h hs (hrest n (Nat.le_refl _) h)
        omega
      · omega
    · exfalso
      apply hall
      intro i hi
      cases hg : listed.getD i false with
      | true => rfl
      | false =>
        exfalso
        have hg' : listed.getD i true = false := by
          rw [Array.getD_eq_getD_getElem?, Array.getElem?_eq_getElem (by omega)] at hg ⊢
          exact hg
        have := left_step (by omega : i < ops.size) hs hg'
        omega
  | succ fuel ih =>
    intro listed a w hs hN hd hb hdone hoth hbel hrest hl
    by_cases hall : ∀ i, i < n → listed.getD i false = true
    · refine wpAny_tail hsq (ops.size - n) (fuel + 1) n listed a w (by omega) (Nat.le_refl _) hall hrest hs (hend a w hd hN hb (fun i t hi ht => hdone i t (hall i hi) ht) hoth hbel) ?_
      refine Nat.le_trans ?_ hl
      unfold left_
      have e : ops.size - n = ((List.range' n (ops.size - n)).filter fun i => !listed.getD i true).length := by
        rw [List.filter_eq_self.2]
        · simp
        · intro i hi
          have := List.mem_range'.1 hi
          rw [hrest i (by omega) (by omega)]; rfl
      rw [e]
      refine List.Sublist.length_le (List.Sublist.filter _ ?_)
      rw [List.range_eq_range']
      have h5 : List.range' 0 ops.size = List.range' 0 n ++ List.range' n (ops.size - n) := by
        have := List.range'_append (s := 0) (m := n) (n := ops.size - n) (step := 1)
        simp only [Nat.zero_add, Nat.one_mul] at this
        rw [this, Nat.add_sub_of_le hn]
      rw [h5]
      exact List.sublist_append_right _ _
    · refine ⟨fun hr => ?_, fun i hi => ?_⟩
      · exfalso
        exact hall fun i hi => all_listed hok hs hr i (by omega)
      · obtain ⟨h1, o, ho, hedges⟩ := mem_ready.1 hi
        have hil := (Array.getElem?_eq_some_iff.1 ho).1
        have hin : i < n := by
          rcases Nat.lt_or_ge i n with h | h
          · exact h
          · exfalso
            refine hall fun j hj => ?_
            obtain ⟨e, he, hbd, heq⟩ := (seqOk_at hsq ho).2 h j (by omega)
            rw [← heq]
            exact hedges e he hbd
        obtain ⟨_, hdst⟩ := formOk_at hok ho
        refine wpOp_step ho fun K' hK => hstep i o hin ho a w K' hN hb (fun e he hb' t het => hdone e.on t (hedges e he hb') het) fun v w' hb' hF => hK _ _ ?_
        refine ih _ _ _ (by simpa using hs) ?_ ?_ (fun t ht => ?_) (fun j t hj hjt => ?_) (fun t ht => ?_) (up hbel hb') (fun j hj1 hj2 => ?_) ?_
        · cases o.dst <;> simpa [Act.put] using hN
        · cases o.dst <;> simpa [Act.put] using hd
        · rw [getD_put_other (fun e => (hdst t e).2.1 ht)]
          exact (F t).stable _ _ _ (hb t ht) hb'
        · by_cases hji : j = i
          · subst hji
            rw [ho] at hjt
            have hjt' : o.dst = some t := hjt
            rw [hjt', getD_put_same (by rw [hN]; exact (hdst t hjt').1)]
            exact hF t hjt'
          · have hl' : listed.getD j false = true := by
              simpa only [Array.getD_eq_getD_getElem?, Array.getElem?_setIfInBounds, if_neg (Ne.symm hji)] using hj
            rw [getD_put_other (fun e => (hdst t e).2.2 j hji hjt)]
            exact (F t).stable _ _ _ (hdone j t hl' hjt) hb'
        · rw [getD_put_other (fun e => ht i hin (by rw [ho]; exact e))]
          exact hoth t ht
        · simpa only [Array.getD_eq_getD_getElem?, Array.getElem?_setIfInBounds, if_neg (by omega : ¬ i = j)] using hrest j hj1 hj2
        · have := left_step hil hs h1
          omega
end
theorem wp_region_then {Q : Exit → Act → World → Prop} {id : Nat} {l : List Oper} {a : Act} {w : World} (hm : Tryz.prog.follows .mixedOrders = true) (F : Nat → Fact) (base : List Nat) (N n : Nat) (ds : List Nat) (hN : a.tmps.size = N) (hok : formOk l.toArray base N = true) (hsq : seqOk l.toArray n = true) (hn : n ≤ l.length) (hds : dstsOk (l.take n) ds = true)
    (hbase : ∀ t ∈ base, (F t).holds (a.tmps.getD t undef) w) (hstep : ∀ o ∈ l.take n, Ob l.toArray Q F base N o)
    (hend : ∀ (v : Nat → Value) w', (∀ t ∈ ds, (F t).holds (v t) w') → Below w.heap.size w w' → wpList Tryz.prog l.toArray Q (l.drop n) { tmps := lay a.tmps ds v, defers := a.defers } w') : (Code.region id l.toArray true).wp Tryz.prog Q a w := by
  refine wp_region_any hm (wpAny_first (a0 := a) (w0 := w) (n := n) hok hsq (by simpa using hn) (fun i o hi ho => hstep o ?_) ?_ _ _ _ _ (by simp) hN rfl (fun t ht => ?_) (fun i t hi _ => ?_) (fun _ _ => rfl) (Below.refl _ _).drew (fun i hi1 hi2 => ?_) ?_)
  · rw [List.getElem?_toArray] at ho
    refine List.mem_of_getElem? (i := i) ?_
    rw [List.getElem?_take, if_pos hi, ho]
  · intro a' w' hdef hsz hbs hall hoth hbel
    have hw : ∀ t ∈ ds, ∃ i, i < n ∧ (l.toArray[i]?).bind Oper.dst = some t := fun t ht => by
      have h1 := hds
      simp only [dstsOk, Bool.and_eq_true] at h1
      obtain ⟨o, ho, hd⟩ := List.any_eq_true.1 (List.all_eq_true.1 h1.2 t ht)
      obtain ⟨i, hi⟩ := List.getElem?_of_mem ho
      have hlt : i < (l.take n).length := (List.getElem?_eq_some_iff.1 hi).1
      have hin : i < n := by rw [List.length_take] at hlt; omega
      rw [List.getElem?_take, if_pos hin] at hi
      exact ⟨i, hin, by rw [List.getElem?_toArray, hi]; exact (by simpa using hd)⟩
    have h := hend (fun t => a'.tmps.getD t undef) w' (fun t ht => by
      obtain ⟨i, hin, hi⟩ := hw t ht
      exact hall i t hin hi) hbel
    have heq : a' = { tmps := lay a.tmps ds fun t => a'.tmps.getD t undef, defers := a.defers } := by
      obtain ⟨ts, df⟩ := a'
      have hdef' : df = a.defers := hdef
      subst hdef'
      congr 1
      have hsz' : ts.size = N := hsz
      refine Array.ext_getElem? fun t => ?_
      rcases Nat.lt_or_ge t N with hlt | hge
      · by_cases htd : t ∈ ds
        · rw [lay_at ds _ _ t htd (by omega), Array.getD_eq_getD_getElem?, Array.getElem?_eq_getElem (by omega)]; rfl
        · rw [lay_other ds _ _ t htd]
          have := hoth t fun i hin hi => by
            have h1 := hds
            simp only [dstsOk, Bool.and_eq_true] at h1
            rw [List.getElem?_toArray] at hi
            cases hl : l[i]? with
            | none => rw [hl] at hi; cases hi
            | some o =>
              rw [hl] at hi
              have hm' : o ∈ l.take n := List.mem_of_getElem? (i := i) (by rw [List.getElem?_take, if_pos hin, hl])
              have h2 := List.all_eq_true.1 h1.1 o hm'
              have h3 : o.dst = some t := hi
              rw [h3] at h2
              exact htd (by simpa using h2)
          have h2 : ts.getD t undef = a.tmps.getD t undef := this
          rw [Array.getD_eq_getD_getElem?, Array.getD_eq_getD_getElem?, Array.getElem?_eq_getElem (by omega), Array.getElem?_eq_getElem (by omega)] at h2
          rw [Array.getElem?_eq_getElem (by omega), Array.getElem?_eq_getElem (by omega)]
          exact congrArg some h2
      · rw [Array.getElem?_eq_none (by omega), Array.getElem?_eq_none (by rw [lay_size]; omega)]
    rw [heq]
    exact h
  · exact (F t).stable _ _ _ (hbase t ht) (Below.refl _ _).drew
  · rw [Array.getD_eq_getD_getElem?, Array.getElem?_replicate] at hi
    split at hi <;> simp at hi
  · rw [Array.getD_eq_getD_getElem?, Array.getElem?_replicate, if_pos hi2]; rfl
  · unfold left_
    exact Nat.le_trans (List.length_filter_le _ _) (by simp)
end Go.Proofs.YtjfehdkfogdpgaaGreatDoor
namespace Go.Proofs.YtjfehdkfogdpgaaGreatDoor
open Go.RowKit
theorem c_refOf (n : Nat) (hn : n < 18446744073709551616) : ∀ v w, (Fact.eq (.int .u64 (n : Int))).holds v w → Calls Tryz.prog 47 #[v] w (Ret (Fact.num (Nm.nat n)) w) := by
  rintro v w rfl
  exact (refOf_any n w hn).mono fun e w' ⟨A, c, he, hc, hf, hb⟩ => ⟨_, he, hb, num_of_fr hf hc (Nm.dig_nat _) (Nat.le_trans (Nm.nat_len (k := 2) (by omega)) (by decide))⟩
def smallF (xs : List Nat) (k d : Nat) (t : Nat) : Fact := (([(1, Fact.eq (.int .u64 (k : Int))), (2, Fact.eq (.int .u64 (d : Int))), (3, Fact.var xs), (7, Fact.num xs), (8, Fact.eq (.int .u64 (k : Int))), (9, Fact.num (Nm.nat k)), (10, Fact.num (Nm.nat (Nm.val xs * k))), (11, Fact.eq (.int .u64 (d : Int))), (12, Fact.num (Nm.nat d)), (13, Fact.num (Nm.nat (Nm.val xs * k + d)))] : List (Nat × Fact)).lookup t).getD Fact.any
theorem small_len {xs : List Nat} {k d n : Nat} (hx : Nm.Dig xs) (hn : xs.length ≤ n) (hk : k < 4294967296) (hd : d < 4294967296) : (Nm.nat (Nm.val xs * k)).length ≤ n + 1 ∧ (Nm.nat (Nm.val xs * k + d)).length ≤ n + 1 := by
  have h1 : Nm.val xs < 4294967296 ^ n := Nat.lt_of_lt_of_le (Nm.val_lt hx) (Nat.pow_le_pow_right (by omega) hn)
  have h2 : Nm.val xs * k + d < 4294967296 ^ (n + 1) := by
    have h3 : Nm.val xs * k ≤ Nm.val xs * 4294967295 := Nat.mul_le_mul_left _ (by omega)
    rw [Nat.pow_succ]
    omega
  exact ⟨Nm.nat_len (by omega), Nm.nat_len h2⟩
set_option maxRecDepth 100000 in
set_option maxHeartbeats 1000000 in
theorem small_n {w : World} {A : Option Addr} {n c : Nat} {xs : List Nat} (hx : Num w A n c xs) (hn : n ≤ 390) (k d : Nat) (hk : Hid (k < 4294967296)) (hd : Hid (d < 4294967296)) (rs : List Nat) (hr : Nm.nat (Nm.val xs * k + d) = rs) :
    Calls Tryz.prog 94 #[nt A n c, .int .u64 (k : Int), .int .u64 (d : Int)] w fun e w' => ∃ A' c', e = .returned (nt A' rs.length c') ∧ Num w' A' rs.length c' rs ∧ Below w.heap.size w w' := by
  subst hr
  obtain rfl := hx.len
  have h1 := Lib.hid (small_len (d := d) hx.dig hn hk.out hd.out).1
  have h2 := Lib.hid (small_len hx.dig hn hk.out hd.out).2
  go_enter Tryz.func94, Tryz.ntmps94
  go_wp2_with fail
  have vx := (Var.new hx).below (one _ (Obj.cells #[Value.slice none 0 0] 24))
  have hb1 := two w (Obj.cells #[Value.slice A xs.length c] 24) (Obj.cells #[Value.slice none 0 0] 24)
  generalize hw1 : (w.alloc (Obj.cells #[Value.slice A xs.length c] 24)).alloc (Obj.cells #[Value.slice none 0 0] 24) = w1 at vx hb1 ⊢
  have hs1 : w1.heap.size = w.heap.size + 1 + 1 := by rw [← hw1]; simp
  have hcell1 : w1.cell? ⟨w.heap.size + 1, 0, none⟩ = some (.slice none 0 0) := by rw [← hw1]; exact new_cell _ _ _ _ (by simp)
  have hfz1 : w1.frozen? ⟨w.heap.size + 1, 0, none⟩ = false := by rw [← hw1]; exact new_soft _ _ _ _ (by simp)
  clear hw1
  refine wp_region_then (by kernel_rfl) (smallF xs k d) [3, 1, 2] 14 7 [7, 8, 9, 10, 11, 12, 13] rfl (by kernel_rfl) (by kernel_rfl) (by decide) (by kernel_rfl) ?_ ?_ ?_
  · intro t ht
    simp only [List.mem_cons, List.not_mem_nil, or_false] at ht
    rcases ht with rfl | rfl | rfl
    · exact ⟨_, _, _, rfl, vx⟩
    · rfl
    · rfl
  · refine List.forall_mem_cons.2 ⟨ob_load 3 7 xs rfl rfl (by first | exact .inl rfl | exact .inr ⟨_, _, _, rfl, rfl, by kernel_rfl, by decide, rfl⟩) (by kernel_rfl) rfl rfl, ?_⟩
    refine List.forall_mem_cons.2 ⟨ob_copy 1 8 (.inl rfl) rfl (by first | exact .inl rfl | exact .inr ⟨_, _, _, rfl, rfl, by kernel_rfl, by decide, rfl⟩) (by kernel_rfl) rfl, ?_⟩
    refine List.forall_mem_cons.2 ⟨ob_call1 47 8 9 _ rfl rfl (by first | exact .inl rfl | exact .inr ⟨_, _, _, rfl, rfl, by kernel_rfl, by decide, rfl⟩) (by kernel_rfl) (by kernel_rfl) (c_refOf k (by have := hk.out; omega)), ?_⟩
    refine List.forall_mem_cons.2 ⟨ob_call2 54 7 9 10 _ rfl rfl (by first | exact .inl rfl | exact .inr ⟨_, _, _, rfl, rfl, by kernel_rfl, by decide, rfl⟩) (by kernel_rfl) (by kernel_rfl) (by kernel_rfl) (c_refMul xs (Nm.nat k) (Nm.nat (Nm.val xs * k)) (by rw [Nm.val_nat]) (by have := h1.out; omega)), ?_⟩
    refine List.forall_mem_cons.2 ⟨ob_copy 2 11 (.inl rfl) rfl (by first | exact .inl rfl | exact .inr ⟨_, _, _, rfl, rfl, by kernel_rfl, by decide, rfl⟩) (by kernel_rfl) rfl, ?_⟩
    refine List.forall_mem_cons.2 ⟨ob_call1 47 11 12 _ rfl rfl (by first | exact .inl rfl | exact .inr ⟨_, _, _, rfl, rfl, by kernel_rfl, by decide, rfl⟩) (by kernel_rfl) (by kernel_rfl) (c_refOf d (by have := hd.out; omega)), ?_⟩
    refine List.forall_mem_cons.2 ⟨ob_call2 55 10 12 13 _ rfl rfl (by first | exact .inl rfl | exact .inr ⟨_, _, _, rfl, rfl, by kernel_rfl, by decide, rfl⟩) (by kernel_rfl) (by kernel_rfl) (by kernel_rfl) (c_refAdd (Nm.nat (Nm.val xs * k)) (Nm.nat d) (Nm.nat (Nm.val xs * k + d)) (by rw [Nm.val_nat, Nm.val_nat]) (by have := h2.out; omega)), ?_⟩
    exact fun _ h => absurd h List.not_mem_nil
  intro vv wv hvv hbv
  obtain ⟨Ar, cr, hv13, nr⟩ := hvv 13 (by decide)
  simp only [lay, List.foldl_cons, List.foldl_nil, List.setIfInBounds_toArray, List.set_cons_succ, List.set_cons_zero, List.drop_succ_cons, List.drop_zero, hv13]
  obtain ⟨k1, k2⟩ := seen hbv
  have hcr : wv.cell? ⟨w.heap.size + 1, 0, none⟩ = some (.slice none 0 0) := by rw [k1 _ _ (by omega)]; exact hcell1
  have hfr : wv.frozen? ⟨w.heap.size + 1, 0, none⟩ = false := by rw [k2 _ _ (by omega)]; exact hfz1
  clear k1 k2
  go_wp2_with fail
  refine bodyPost_ret (v := nt Ar (Nm.nat (Nm.val xs * k + d)).length cr) (by simp [results, Tryz.results94, go_sem, hcr]) rfl ⟨Ar, cr, rfl, ⟨nr.rd.setCell hcr (by simp), rfl, nr.cap, nr.dig, nr.small⟩, ?_⟩
  exact (up hb1 hbv).setCell (by show w.heap.size ≤ w.heap.size + 1; omega) _
end Go.Proofs.YtjfehdkfogdpgaaGreatDoor
namespace Go.Proofs.YtjfehdkfogdpgaaGreatDoor
open Go.RowKit
namespace Nm
theorem dg_div (k : Nat) : ∀ (zs : List Nat), Dig zs → dg zs k = val zs / 4294967296 ^ k % 4294967296 := by
  induction k with
  | zero =>
    intro zs h
    have h0 := dg_lt h 0
    rw [val_tail zs, Nat.pow_zero, Nat.div_one]
    omega
  | succ k ih =>
    intro zs h
    have h0 := dg_lt h 0
    rw [← dg_tail, ih zs.tail (dig_tail h), val_tail zs, Nat.pow_succ, Nat.mul_comm (4294967296 ^ k), ← Nat.div_div_eq_div_mul]
    congr 2
    omega
theorem bit_at {V q r x : Nat} (hr : r < 32) (hx : x = V / 4294967296 ^ q % 4294967296) : x / 2 ^ r % 2 = V / 2 ^ (32 * q + r) % 2 := by
  subst hx
  obtain ⟨t, ht⟩ : ∃ t, 32 = r + (t + 1) := ⟨31 - r, by omega⟩
  have h1 : 4294967296 = 2 ^ r * 2 ^ (t + 1) := by rw [← Nat.pow_add, ← ht]
  have h2 : V / 4294967296 ^ q % 4294967296 / 2 ^ r = V / 4294967296 ^ q / 2 ^ r % 2 ^ (t + 1) := by
    conv => lhs; rw [show V / 4294967296 ^ q % 4294967296 = V / 4294967296 ^ q % (2 ^ r * 2 ^ (t + 1)) from by rw [← h1]]
    rw [Nat.mod_mul_right_div_self]
  rw [h2, Nat.mod_mod_of_dvd _ (by rw [Nat.pow_succ]; exact Nat.dvd_mul_left 2 _), Nat.div_div_eq_div_mul, pow_two, ← Nat.pow_add]
theorem bit_step (V k : Nat) : V / 2 ^ k = 2 * (V / 2 ^ (k + 1)) + V / 2 ^ k % 2 := by
  rw [Nat.pow_succ, ← Nat.div_div_eq_div_mul]
  omega
theorem nat_len_le' {zs : List Nat} {v : Nat} (hd : Dig zs) (h : v ≤ val zs) : (nat v).length ≤ zs.length := nat_len (Nat.lt_of_le_of_lt h (val_lt hd))
end Nm
set_option maxHeartbeats 400000 in
theorem bit_any (A : Option Addr) (n c i : Nat) (zs : List Nat) (w : World) (h : Rd w A zs) (hl : zs.length = n) (hm : n ≤ 400) (hzd : Nm.Dig zs) (hi : i ≤ 1000000) :
    Calls Tryz.prog 87 #[nt A n c, .int .i64 (i : Int)] w fun e w' => e = .returned (.int .u64 ((Nm.val zs / 2 ^ i % 2 : Nat) : Int)) ∧ Below w.heap.size w w' := by
  have hq := Nm.dg_div (i / 32) zs hzd
  have hfin := fun x (hx : x = Nm.val zs / 4294967296 ^ (i / 32) % 4294967296) => Nm.bit_at (V := Nm.val zs) (q := i / 32) (r := i % 32) (by omega) hx
  rw [Nat.div_add_mod] at hfin
  have hdl := Nm.dg_lt hzd (i / 32)
  have Hfin := Lib.hid (hfin _ hq)
  have hdiv : (i : Int) / 32 = ((i / 32 : Nat) : Int) := by simp
  have hcall := fun W (hr : Rd W A zs) => digit_any A n c (i / 32) zs W hr hl (by omega) hzd
  have h1 := h.alloc (Obj.cells #[Value.slice A n c] 24)
  obtain ⟨x, hx⟩ : ∃ x, Nm.dg zs (i / 32) = x := ⟨_, rfl⟩
  rw [hx] at Hfin hdl
  simp only [hx] at hcall
  have Hdl := Lib.hid hdl
  have hmod : (i : Int) % 32 = ((i % 32 : Nat) : Int) := by simp
  obtain ⟨r, hr⟩ : ∃ r, i % 32 = r := ⟨_, rfl⟩
  rw [hr] at Hfin hmod
  have hr32 : r < 32 := by omega
  obtain ⟨q, hqq⟩ : ∃ q, i / 32 = q := ⟨_, rfl⟩
  rw [hqq] at hdiv hcall
  clear hq hfin hx hdl hr hqq hl
  go_enter Tryz.func87, Tryz.ntmps87
  go_wp2_with fail
  refine (hcall _ h1).mono ?_
  rintro e w1 ⟨rfl, hs⟩
  have hb := up (one _ _) hs
  clear hs h h1
  go_wp2_with fail
  go_loop [5, 6] (fun xv kv => ∃ k y : Nat, k ≤ r ∧ kv = .int .i64 (k : Int) ∧ xv = .int .u64 (y : Int) ∧ Hid (y = x / 2 ^ k) ∧ y ≤ 4294967295) (fun _ k => r - (intOf k).toNat)
  case atStart => exact ⟨0, x, Nat.zero_le _, rfl, rfl, by show _ = _; simp, by have := Hdl.out; omega⟩
  case round =>
    obtain ⟨k, y, hk, rfl, rfl, hy, hy3⟩ := hrel
    by_cases hlt : k < r
    · have hstep : y / 2 = x / 2 ^ (k + 1) := by rw [hy.out, Nat.div_div_eq_div_mul, Nat.pow_succ]
      have Hstep := Lib.hid hstep
      clear hstep
      go_wp2_with fail
      exact ⟨⟨k + 1, y / 2, by omega, by go_num, by first | rfl | go_num, Hstep, by omega⟩, by simp [intOf]; omega⟩
    · have hkr : k = r := by omega
      subst hkr
      have hf : y % 2 = Nm.val zs / 2 ^ i % 2 := by rw [hy.out]; exact Hfin.out
      have Hf := Lib.hid hf
      clear hf
      go_wp2_with fail
      go_ret
      exact ⟨ret_int (by have := congrArg (fun t : Nat => (t : Int)) Hf.out; simpa using this), hb⟩
end Go.Proofs.YtjfehdkfogdpgaaGreatDoor
namespace Go.Proofs.YtjfehdkfogdpgaaGreatDoor
open Go.RowKit
theorem c_bit (xs : List Nat) (k : Nat) (hk : k ≤ 1000000) : ∀ v u w, (Fact.num xs).holds v w → (fI (k : Int)).holds u w → Calls Tryz.prog 87 #[v, u] w (Ret (Fact.eq (.int .u64 (Nm.val xs / 2 ^ k % 2 : Nat))) w) := by
  rintro v u w ⟨A, c, rfl, h⟩ rfl
  exact (bit_any A xs.length c k xs w h.rd rfl h.small h.dig hk).mono fun e w' ⟨he, hb⟩ => ⟨_, he, hb, rfl⟩
theorem c_refOne : ∀ w, Calls Tryz.prog 47 #[.int .u64 1] w (Ret (Fact.num (Nm.nat 1)) w) := fun w => c_refOf 1 (by decide) _ w rfl
theorem Var.put {w : World} {b n c : Nat} {A B : Option Addr} {n' c' : Nat} {ys zs : List Nat} (h : Var w b B n' c' ys) (k : Num w A n c zs) : Var (w.setCell ⟨b, 0, none⟩ (.slice A n c)) b A n c zs :=
  ⟨by simpa using h.lt, World.cell?_setCell_same (u := _) _ _ _ h.cell, ⟨k.rd.setCell h.cell (by simp), k.len, k.cap, k.dig, k.small⟩⟩
theorem Var.other {w : World} {b b' n c : Nat} {A : Option Addr} {zs : List Nat} {u v : Value} (h : Var w b A n c zs) (hc : w.cell? ⟨b', 0, none⟩ = some u) (hu : ∀ n, u ≠ .int .u32 n) (hne : b ≠ b') : Var (w.setCell ⟨b', 0, none⟩ v) b A n c zs :=
  ⟨by simpa using h.lt, by rw [World.cell?_setCell_other _ _ _ _ (by intro e; injection e; omega)]; exact h.cell, ⟨h.num.rd.setCell hc hu, h.num.len, h.num.cap, h.num.dig, h.num.small⟩⟩
theorem num_drew {w : World} {A : Option Addr} {n c : Nat} {zs : List Nat} (h : Num w A n c zs) : Num w.drew A n c zs := ⟨h.rd.drew, h.len, h.cap, h.dig, h.small⟩
theorem soft_set {w : World} {p q : Addr} {v : Value} (h : w.frozen? q = false) : (w.setCell p v).frozen? q = false := by rw [World.frozen?_setCell]; exact h
theorem six_cells (w : World) (a b : Value) : ∃ W, (((((w.alloc (Obj.cells #[a] 24)).alloc (Obj.cells #[b] 24)).alloc (Obj.cells #[Value.slice none 0 0] 24)).alloc (Obj.cells #[Value.slice none 0 0] 24)).alloc (Obj.cells #[Value.slice none 0 0] 24)).alloc (Obj.cells #[Value.slice none 0 0] 24) = W ∧ W.heap.size = w.heap.size + 1 + 1 + 1 + 1 + 1 + 1 ∧
    W.cell? ⟨w.heap.size, 0, none⟩ = some a ∧ W.cell? ⟨w.heap.size + 1, 0, none⟩ = some b ∧ W.cell? ⟨w.heap.size + 1 + 1, 0, none⟩ = some (.slice none 0 0) ∧ W.cell? ⟨w.heap.size + 1 + 1 + 1, 0, none⟩ = some (.slice none 0 0) ∧ W.cell? ⟨w.heap.size + 1 + 1 + 1 + 1, 0, none⟩ = some (.slice none 0 0) ∧ W.cell? ⟨w.heap.size + 1 + 1 + 1 + 1 + 1, 0, none⟩ = some (.slice none 0 0) ∧
    W.frozen? ⟨w.heap.size + 1 + 1, 0, none⟩ = false ∧ W.frozen? ⟨w.heap.size + 1 + 1 + 1, 0, none⟩ = false ∧ W.frozen? ⟨w.heap.size + 1 + 1 + 1 + 1, 0, none⟩ = false ∧ W.frozen? ⟨w.heap.size + 1 + 1 + 1 + 1 + 1, 0, none⟩ = false ∧ Below w.heap.size w W := by
  refine ⟨_, rfl, by simp, ?_, ?_, ?_, ?_, ?_, ?_, ?_, ?_, ?_, ?_, up (three w _ _ _) (three _ _ _ _)⟩
  · refine ((seen (one _ _)).1 _ _ (by simp <;> omega)).trans ?_
    refine ((seen (one _ _)).1 _ _ (by simp <;> omega)).trans ?_
    refine ((seen (one _ _)).1 _ _ (by simp <;> omega)).trans ?_
    refine ((seen (one _ _)).1 _ _ (by simp <;> omega)).trans ?_
    refine ((seen (one _ _)).1 _ _ (by simp <;> omega)).trans ?_
    exact new_cell _ _ _ _ (by simp)
  · refine ((seen (one _ _)).1 _ _ (by simp <;> omega)).trans ?_
    refine ((seen (one _ _)).1 _ _ (by simp <;> omega)).trans ?_
    refine ((seen (one _ _)).1 _ _ (by simp <;> omega)).trans ?_
    refine ((seen (one _ _)).1 _ _ (by simp <;> omega)).trans ?_
    exact new_cell _ _ _ _ (by simp)
  · refine ((seen (one _ _)).1 _ _ (by simp <;> omega)).trans ?_
    refine ((seen (one _ _)).1 _ _ (by simp <;> omega)).trans ?_
    refine ((seen (one _ _)).1 _ _ (by simp <;> omega)).trans ?_
    exact new_cell _ _ _ _ (by simp)
  · refine ((seen (one _ _)).1 _ _ (by simp <;> omega)).trans ?_
    refine ((seen (one _ _)).1 _ _ (by simp <;> omega)).trans ?_
    exact new_cell _ _ _ _ (by simp)
  · refine ((seen (one _ _)).1 _ _ (by simp <;> omega)).trans ?_
    exact new_cell _ _ _ _ (by simp)
  · exact new_cell _ _ _ _ (by simp)
  · refine ((seen (one _ _)).2 _ _ (by simp <;> omega)).trans ?_
    refine ((seen (one _ _)).2 _ _ (by simp <;> omega)).trans ?_
    refine ((seen (one _ _)).2 _ _ (by simp <;> omega)).trans ?_
    exact new_soft _ _ _ _ (by simp)
  · refine ((seen (one _ _)).2 _ _ (by simp <;> omega)).trans ?_
    refine ((seen (one _ _)).2 _ _ (by simp <;> omega)).trans ?_
    exact new_soft _ _ _ _ (by simp)
  · refine ((seen (one _ _)).2 _ _ (by simp <;> omega)).trans ?_
    exact new_soft _ _ _ _ (by simp)
  · exact new_soft _ _ _ _ (by simp)
def divF (xs : List Nat) (R0 k : Nat) (t : Nat) : Fact := (([(2, Fact.var xs), (8, Fact.var (Nm.nat (R0))), (9, fI (k : Int)), (25, Fact.num (Nm.nat (R0))), (26, Fact.num (Nm.nat (R0))), (27, Fact.num (Nm.nat (2 * R0))), (28, Fact.num xs), (29, fI (k : Int)), (30, Fact.eq (.int .u64 ((Nm.val xs / 2 ^ k % 2) : Nat))), (31, Fact.num (Nm.nat (Nm.val xs / 2 ^ k % 2))), (32, Fact.num (Nm.nat (2 * R0 + Nm.val xs / 2 ^ k % 2)))] : List (Nat × Fact)).lookup t).getD Fact.any
def divG (Q0 : Nat) (t : Nat) : Fact := (([(7, Fact.var (Nm.nat (2 * Q0))), (46, Fact.num (Nm.nat (2 * Q0))), (47, Fact.num (Nm.nat 1)), (48, Fact.num (Nm.nat (2 * Q0 + 1)))] : List (Nat × Fact)).lookup t).getD Fact.any
def RDivRel (b : Nat) (xs ys : List Nat) (w : World) (iv : Value) (wr : World) : Prop :=
  ∃ (k : Nat) (A B : Option Addr) (n m c d : Nat), k ≤ 10000 ∧ iv = .int .i64 ((k : Int) - 1) ∧ Var wr (b + 1 + 1 + 1 + 1) A n c (Nm.nat (Nm.val xs / 2 ^ k / Nm.val ys)) ∧ Var wr (b + 1 + 1 + 1 + 1 + 1) B m d (Nm.nat (Nm.val xs / 2 ^ k % Nm.val ys)) ∧ wr.frozen? ⟨b + 1 + 1 + 1 + 1, 0, none⟩ = false ∧ wr.frozen? ⟨b + 1 + 1 + 1 + 1 + 1, 0, none⟩ = false ∧ Below (b + 1 + 1 + 1 + 1) w wr
theorem Nm.div_bit {V Y k : Nat} (hY : 0 < Y) : (2 * (V / 2 ^ (k + 1) % Y) + V / 2 ^ k % 2 < Y → V / 2 ^ k / Y = 2 * (V / 2 ^ (k + 1) / Y) ∧ V / 2 ^ k % Y = 2 * (V / 2 ^ (k + 1) % Y) + V / 2 ^ k % 2) ∧
    (Y ≤ 2 * (V / 2 ^ (k + 1) % Y) + V / 2 ^ k % 2 → V / 2 ^ k / Y = 2 * (V / 2 ^ (k + 1) / Y) + 1 ∧ V / 2 ^ k % Y = 2 * (V / 2 ^ (k + 1) % Y) + V / 2 ^ k % 2 - Y) := by
  have h1 := Nm.bit_step V k
  have h2 := Nat.div_add_mod (V / 2 ^ (k + 1)) Y
  have h3 := Nat.mod_lt (V / 2 ^ (k + 1)) hY
  have h4 := Nat.mod_lt (V / 2 ^ k) (show 0 < 2 by decide)
  generalize V / 2 ^ (k + 1) = T at *
  generalize V / 2 ^ k = S at *
  generalize T / Y = q at *
  generalize T % Y = r at *
  generalize S % 2 = e at *
  have h5 : S = Y * (2 * q) + (2 * r + e) := by
    rw [h1, ← h2, Nat.mul_left_comm Y 2 q]
    omega
  refine ⟨fun h => ?_, fun h => ?_⟩
  · rw [h5, Nat.mul_add_div hY, Nat.div_eq_of_lt h, Nat.mul_add_mod, Nat.mod_eq_of_lt h]
    exact ⟨rfl, rfl⟩
  · have h6 : S = Y * (2 * q + 1) + (2 * r + e - Y) := by rw [h5, Nat.mul_succ]; omega
    have h7 : 2 * r + e - Y < Y := by omega
    rw [h6, Nat.mul_add_div hY, Nat.div_eq_of_lt h7, Nat.mul_add_mod, Nat.mod_eq_of_lt h7]
    exact ⟨rfl, rfl⟩
set_option maxRecDepth 100000 in
set_option maxHeartbeats 2000000 in
theorem refDivMod_n {w : World} {A B : Option Addr} {n m c d : Nat} {xs ys : List Nat} (hx : Num w A n c xs) (hy : Num w B m d ys) (hn : n ≤ 300) (hm : m ≤ 300) (htx : Nm.tlen xs = n) (hty : Nm.tlen ys = m) (h0 : 0 < m) (qs rs : List Nat) (hq : Nm.nat (Nm.val xs / Nm.val ys) = qs) (hr : Nm.nat (Nm.val xs % Nm.val ys) = rs) :
    Calls Tryz.prog 63 #[nt A n c, nt B m d] w fun e w' => ∃ A1 c1 A2 c2, e = .returned (.tuple #[nt A1 qs.length c1, nt A2 rs.length c2, .int .i64 0]) ∧ Num w' A1 qs.length c1 qs ∧ Num w' A2 rs.length c2 rs ∧ Below w.heap.size w w' := by
  subst hq hr
  obtain rfl := hx.len
  obtain rfl := hy.len
  have hlx : xs.length = xs.length := rfl
  have hly : ys.length = ys.length := rfl
  obtain ⟨W, hW, hWs, hW0, hW1, hW2, hW3, hW4, hW5, hf2, hf3, hf4, hf5, hWb⟩ := six_cells w (.slice A xs.length c) (.slice B ys.length d)
  have vx : Var W w.heap.size A xs.length c xs := ⟨by omega, hW0, hx.below hWb⟩
  have vy : Var W (w.heap.size + 1) B ys.length d ys := ⟨by omega, hW1, hy.below hWb⟩
  have hY : 0 < Nm.val ys := by
    have h1 := Nm.tlen_pos_val (zs := ys) (by omega)
    have h2 : 0 < 4294967296 ^ (Nm.tlen ys - 1) := Nat.pow_pos (by decide)
    omega
  have HY := Lib.hid hY
  have HWs := Lib.hid hWs
  have hxd := hx.dig
  have hyd := hy.dig
  have hm0 : ((ys.length : Int) == 0) = false := digit_ne (by omega)
  have hbl : Nm.blen (Nm.val xs) ≤ 9600 := by
    have h1 : Nm.val xs < 2 ^ (32 * xs.length) := by rw [← Nm.pow_two]; exact Nm.val_lt hx.dig
    have := Nm.blen_lt h1
    omega
  obtain ⟨bl, hbe⟩ : ∃ bl, Nm.blen (Nm.val xs) = bl := ⟨_, rfl⟩
  rw [hbe] at hbl
  have hend : Nm.val xs / 2 ^ bl = 0 := by
    apply Nat.div_eq_of_lt
    rw [← hbe]
    unfold Nm.blen
    split
    · rename_i h; rw [h]; decide
    · exact Nat.lt_log2_self
  have Hend := Lib.hid hend
  have Hbe := Lib.hid hbe
  have HW := Lib.hid hW
  clear hY hWs hty hly hlx h0 hbe hend hW
  go_enter Tryz.func63, Tryz.ntmps63
  go_wp2_with fail
  rw [HW.out]
  refine (refBits_n vx.num htx bl Hbe.out).mono ?_
  rintro e w1 ⟨rfl, hs⟩
  have vx := vx.below hs
  have vy := vy.below hs
  obtain ⟨k1, k2⟩ := seen hs
  have hsz := HWs.out
  have hcells : w1.cell? ⟨w.heap.size + 1 + 1, 0, none⟩ = some (.slice none 0 0) ∧ w1.cell? ⟨w.heap.size + 1 + 1 + 1, 0, none⟩ = some (.slice none 0 0) ∧ w1.cell? ⟨w.heap.size + 1 + 1 + 1 + 1, 0, none⟩ = some (.slice none 0 0) ∧ w1.cell? ⟨w.heap.size + 1 + 1 + 1 + 1 + 1, 0, none⟩ = some (.slice none 0 0) :=
    ⟨(k1 _ _ (by omega)).trans hW2, (k1 _ _ (by omega)).trans hW3, (k1 _ _ (by omega)).trans hW4, (k1 _ _ (by omega)).trans hW5⟩
  have hsoft : w1.frozen? ⟨w.heap.size + 1 + 1, 0, none⟩ = false ∧ w1.frozen? ⟨w.heap.size + 1 + 1 + 1, 0, none⟩ = false ∧ w1.frozen? ⟨w.heap.size + 1 + 1 + 1 + 1, 0, none⟩ = false ∧ w1.frozen? ⟨w.heap.size + 1 + 1 + 1 + 1 + 1, 0, none⟩ = false :=
    ⟨(k2 _ _ (by omega)).trans hf2, (k2 _ _ (by omega)).trans hf3, (k2 _ _ (by omega)).trans hf4, (k2 _ _ (by omega)).trans hf5⟩
  have hsz1 : w.heap.size + 1 + 1 + 1 + 1 + 1 + 1 ≤ w1.heap.size := by have := hs.size; omega
  have hb1 := up hWb hs
  clear hs k1 k2 hW0 hW1 hW2 hW3 hW4 hW5 hf2 hf3 hf4 hf5 hWb hsz htx
  go_wp2_with fail
  go_loopw [9] (fun iv wr => RDivRel w.heap.size xs ys w1 iv wr) (fun i _ => (intOf i + 1).toNat)
  case atStart =>
    refine ⟨bl, none, none, 0, 0, 0, 0, by omega, rfl, ?_, ?_, hsoft.2.2.1, hsoft.2.2.2, Below.refl _ _⟩
    · rw [Hend.out, Nat.zero_div, Nm.nat_zero]
      exact ⟨by omega, hcells.2.2.1, .inl rfl, rfl, Nat.le_refl _, Nm.Dig.nil, by decide⟩
    · rw [Hend.out, Nat.zero_mod, Nm.nat_zero]
      exact ⟨by omega, hcells.2.2.2, .inl rfl, rfl, Nat.le_refl _, Nm.Dig.nil, by decide⟩
  case round =>
    obtain ⟨k, Aq, Ar, nq, nr', cq, cr, hk, rfl, vq, vr, fq, fr, hbj⟩ := hrel
    obtain rfl := vq.num.len
    obtain rfl := vr.num.len
    have hbw : Below w.heap.size w wr := hb1.trans (hbj.mono (by omega))
    have hszj := hbj.size
    have vx2 : Var wr w.heap.size A xs.length c xs := ⟨by omega, (hbj.cell (p := ⟨w.heap.size, 0, none⟩) (by show w.heap.size < _; omega)).trans vx.cell, hx.below hbw⟩
    have vy2 : Var wr (w.heap.size + 1) B ys.length d ys := ⟨by omega, (hbj.cell (p := ⟨w.heap.size + 1, 0, none⟩) (by show w.heap.size + 1 < _; omega)).trans vy.cell, hy.below hbw⟩
    rcases Nat.eq_zero_or_pos k with hk0 | hk0
    · subst hk0
      rw [Nat.pow_zero, Nat.div_one] at vq vr
      have c2 : wr.cell? ⟨w.heap.size + 1 + 1, 0, none⟩ = some (.slice none 0 0) := (hbj.cell (p := ⟨w.heap.size + 1 + 1, 0, none⟩) (by show w.heap.size + 1 + 1 < _; omega)).trans hcells.1
      have c3 : wr.cell? ⟨w.heap.size + 1 + 1 + 1, 0, none⟩ = some (.slice none 0 0) := (hbj.cell (p := ⟨w.heap.size + 1 + 1 + 1, 0, none⟩) (by show w.heap.size + 1 + 1 + 1 < _; omega)).trans hcells.2.1
      have g2 : wr.frozen? ⟨w.heap.size + 1 + 1, 0, none⟩ = false := (hbj.frozen (p := ⟨w.heap.size + 1 + 1, 0, none⟩) (by show w.heap.size + 1 + 1 < _; omega)).trans hsoft.1
      have g3 : wr.frozen? ⟨w.heap.size + 1 + 1 + 1, 0, none⟩ = false := (hbj.frozen (p := ⟨w.heap.size + 1 + 1 + 1, 0, none⟩) (by show w.heap.size + 1 + 1 + 1 < _; omega)).trans hsoft.2.1
      have kq := vq.cell
      have kr := vr.cell
      go_wp2_with fail
      go_region
      rename_i hK
      refine hK _ _ ?_
      apply wp_ret
      refine bodyPost_ret (v := .tuple #[nt Aq (Nm.nat (Nm.val xs / Nm.val ys)).length cq, nt Ar (Nm.nat (Nm.val xs % Nm.val ys)).length cr, .int .i64 0]) ?_ rfl ⟨Aq, cq, Ar, cr, rfl, ?_, ?_, ?_⟩
      · simp [results, Tryz.results63, go_sem, c2, c3]
      · refine num_drew ((vq.other (v := .slice Aq (Nm.nat (Nm.val xs / Nm.val ys)).length cq) c2 (by simp) (by omega)).other (b' := w.heap.size + 1 + 1 + 1) (u := .slice none 0 0) (v := .slice Ar (Nm.nat (Nm.val xs % Nm.val ys)).length cr) (by rw [World.cell?_setCell_other _ _ _ _ (by intro e; injection e; omega)]; exact c3) (by simp) (by omega)).num
      · refine num_drew ((vr.other (v := .slice Aq (Nm.nat (Nm.val xs / Nm.val ys)).length cq) c2 (by simp) (by omega)).other (b' := w.heap.size + 1 + 1 + 1) (u := .slice none 0 0) (v := .slice Ar (Nm.nat (Nm.val xs % Nm.val ys)).length cr) (by rw [World.cell?_setCell_other _ _ _ _ (by intro e; injection e; omega)]; exact c3) (by simp) (by omega)).num
      · exact ((hbw.setCell (by show w.heap.size ≤ w.heap.size + 1 + 1; omega) _).setCell (by show w.heap.size ≤ w.heap.size + 1 + 1 + 1; omega) _).drew
    · obtain ⟨k, rfl⟩ : ∃ j, k = j + 1 := ⟨k - 1, by omega⟩
      have hji : ((k + 1 : Nat) : Int) - 1 = (k : Int) := by omega
      rw [hji]
      have hdb := Nm.div_bit (V := Nm.val xs) (Y := Nm.val ys) (k := k) HY.out
      have hR0lt : Nm.val xs / 2 ^ (k + 1) % Nm.val ys < Nm.val ys := Nat.mod_lt _ HY.out
      obtain ⟨R0, hR0⟩ : ∃ R0, Nm.val xs / 2 ^ (k + 1) % Nm.val ys = R0 := ⟨_, rfl⟩
      obtain ⟨Q0, hQ0⟩ : ∃ Q0, Nm.val xs / 2 ^ (k + 1) / Nm.val ys = Q0 := ⟨_, rfl⟩
      rw [hR0] at vr hdb hR0lt
      rw [hQ0] at vq hdb
      have hbit := Nat.mod_lt (Nm.val xs / 2 ^ k) (show 0 < 2 by decide)
      have hZ : 2 * R0 + Nm.val xs / 2 ^ k % 2 < 2 * Nm.val ys := by omega
      have hYn := Nm.val_lt hyd
      have hl3 : (Nm.nat (2 * R0 + Nm.val xs / 2 ^ k % 2)).length ≤ 301 := Nat.le_trans (Nm.nat_len (k := ys.length + 1) (by rw [Nat.pow_succ]; omega)) (by omega)
      have hl2 : (Nm.nat (2 * R0)).length ≤ 301 := Nat.le_trans (Nm.nat_len (k := ys.length + 1) (by rw [Nat.pow_succ]; omega)) (by omega)
      have hQV : 2 * Q0 ≤ Nm.val xs := by
        have h1 : Q0 ≤ Nm.val xs / 2 ^ (k + 1) := by rw [← hQ0]; exact Nat.div_le_self _ _
        have h2 := Nm.bit_step (Nm.val xs) k
        have h3 : Nm.val xs / 2 ^ k ≤ Nm.val xs := Nat.div_le_self _ _
        omega
      have hl4 : (Nm.nat (2 * Q0)).length ≤ 300 := Nat.le_trans (Nm.nat_len_le' hxd hQV) hn
      have Hl2 : Hid ((Nm.nat (2 * R0)).length ≤ 400) := by show _ ≤ 400; omega
      have Hl3 : Hid ((Nm.nat (2 * R0 + Nm.val xs / 2 ^ k % 2)).length ≤ 400) := by show _ ≤ 400; omega
      have Hl4 := Lib.hid hl4
      have Hk : Hid (k ≤ 1000000) := by show k ≤ 1000000; omega
      have Hdb := Lib.hid hdb
      have HZ := Lib.hid hZ
      clear hdb hR0lt hR0 hQ0 hbit hZ hYn hl3 hl2 hl4 hQV
      have vx := vx2
      go_wp2_with fail
      refine wp_region_then (by kernel_rfl) (divF xs R0 k) [8, 2, 9] 51 8 [25, 26, 27, 28, 29, 30, 31, 32] rfl (by kernel_rfl) (by kernel_rfl) (by decide) (by kernel_rfl) ?_ ?_ ?_
      · intro t ht
        simp only [List.mem_cons, List.not_mem_nil, or_false] at ht
        rcases ht with rfl | rfl | rfl
        · exact ⟨_, _, _, rfl, vr⟩
        · exact ⟨_, _, _, rfl, vx⟩
        · rfl
      · refine List.forall_mem_cons.2 ⟨ob_load 8 25 (Nm.nat (R0)) rfl rfl (by first | exact .inl rfl | exact .inr ⟨_, _, _, rfl, rfl, by kernel_rfl, by decide, rfl⟩) (by kernel_rfl) rfl rfl, ?_⟩
        refine List.forall_mem_cons.2 ⟨ob_load 8 26 (Nm.nat (R0)) rfl rfl (by first | exact .inl rfl | exact .inr ⟨_, _, _, rfl, rfl, by kernel_rfl, by decide, rfl⟩) (by kernel_rfl) rfl rfl, ?_⟩
        refine List.forall_mem_cons.2 ⟨ob_call2 55 25 26 27 _ rfl rfl (by first | exact .inl rfl | exact .inr ⟨_, _, _, rfl, rfl, by kernel_rfl, by decide, rfl⟩) (by kernel_rfl) (by kernel_rfl) (by kernel_rfl) (c_refAdd (Nm.nat (R0)) (Nm.nat (R0)) (Nm.nat (2 * R0)) (by rw [Nm.val_nat, Nat.two_mul]) Hl2.out), ?_⟩
        refine List.forall_mem_cons.2 ⟨ob_load 2 28 xs rfl rfl (by first | exact .inl rfl | exact .inr ⟨_, _, _, rfl, rfl, by kernel_rfl, by decide, rfl⟩) (by kernel_rfl) rfl rfl, ?_⟩
        refine List.forall_mem_cons.2 ⟨ob_copy 9 29 (.inl rfl) rfl (by first | exact .inl rfl | exact .inr ⟨_, _, _, rfl, rfl, by kernel_rfl, by decide, rfl⟩) (by kernel_rfl) rfl, ?_⟩
        refine List.forall_mem_cons.2 ⟨ob_call2 87 28 29 30 _ rfl rfl (by first | exact .inl rfl | exact .inr ⟨_, _, _, rfl, rfl, by kernel_rfl, by decide, rfl⟩) (by kernel_rfl) (by kernel_rfl) (by kernel_rfl) (c_bit xs k Hk.out), ?_⟩
        refine List.forall_mem_cons.2 ⟨ob_call1 47 30 31 _ rfl rfl (by first | exact .inl rfl | exact .inr ⟨_, _, _, rfl, rfl, by kernel_rfl, by decide, rfl⟩) (by kernel_rfl) (by kernel_rfl) (c_refOf (Nm.val xs / 2 ^ k % 2) (by have := Nat.mod_lt (Nm.val xs / 2 ^ k) (show 0 < 2 by decide); omega)), ?_⟩
        refine List.forall_mem_cons.2 ⟨ob_call2 55 27 31 32 _ rfl rfl (by first | exact .inl rfl | exact .inr ⟨_, _, _, rfl, rfl, by kernel_rfl, by decide, rfl⟩) (by kernel_rfl) (by kernel_rfl) (by kernel_rfl) (c_refAdd (Nm.nat (2 * R0)) (Nm.nat (Nm.val xs / 2 ^ k % 2)) (Nm.nat (2 * R0 + Nm.val xs / 2 ^ k % 2)) (by rw [Nm.val_nat, Nm.val_nat]) Hl3.out), ?_⟩
        exact fun _ h => absurd h List.not_mem_nil
      intro vv wv hvv hbv
      obtain ⟨Ax, cx, hv32, nr⟩ := hvv 32 (by decide)
      simp only [lay, List.foldl_cons, List.foldl_nil, List.setIfInBounds_toArray, List.set_cons_succ, List.set_cons_zero, List.drop_succ_cons, List.drop_zero, hv32]
      have gq := fq
      have gr := fr
      have vy := vy2
      clear fq fr vx2 vy2 hbw
      have hszr := hbj.size
      have gq := ((seen hbv).2 _ 0 vq.lt).trans gq
      have gr := ((seen hbv).2 _ 0 vr.lt).trans gr
      have hbj := hbj.trans (hbv.mono (by omega))
      have vq := vq.below hbv
      have vr := vr.below hbv
      have vx := vx.below hbv
      have vy := vy.below hbv
      have hcc := vr.cell
      have hff := gr
      have vq := vq.other (v := .slice Ax (Nm.nat (2 * R0 + Nm.val xs / 2 ^ k % 2)).length cx) hcc (by simp) (by omega)
      have vx := vx.other (v := .slice Ax (Nm.nat (2 * R0 + Nm.val xs / 2 ^ k % 2)).length cx) hcc (by simp) (by omega)
      have vy := vy.other (v := .slice Ax (Nm.nat (2 * R0 + Nm.val xs / 2 ^ k % 2)).length cx) hcc (by simp) (by omega)
      have vr := vr.put nr
      have hbj : Below (w.heap.size + 1 + 1 + 1 + 1) w1 (wv.setCell ⟨w.heap.size + 1 + 1 + 1 + 1 + 1, 0, none⟩ (.slice Ax (Nm.nat (2 * R0 + Nm.val xs / 2 ^ k % 2)).length cx)) := hbj.setCell (by show w.heap.size + 1 + 1 + 1 + 1 ≤ w.heap.size + 1 + 1 + 1 + 1 + 1; omega) _
      have gq := soft_set (p := ⟨w.heap.size + 1 + 1 + 1 + 1 + 1, 0, none⟩) (v := .slice Ax (Nm.nat (2 * R0 + Nm.val xs / 2 ^ k % 2)).length cx) gq
      have gr := soft_set (p := ⟨w.heap.size + 1 + 1 + 1 + 1 + 1, 0, none⟩) (v := .slice Ax (Nm.nat (2 * R0 + Nm.val xs / 2 ^ k % 2)).length cx) gr
      clear hbv hvv nr
      have kvq := vq.cell
      go_wp2_with fail
      clear hcc hff
      refine (refAdd_n vq.num vq.num (Nm.nat (2 * Q0)) (by rw [Nm.val_nat, Nat.two_mul])).mono ?_
      rintro e w4 ⟨A4, c4, rfl, hc4, hf4, hs4⟩
      have n4 := hf4.num hc4 (Nm.dig_nat _) (by have := Hl4.out; omega)
      have hszr := hbj.size
      have gq := ((seen hs4).2 _ 0 vq.lt).trans gq
      have gr := ((seen hs4).2 _ 0 vr.lt).trans gr
      have hbj := hbj.trans (hs4.mono (by omega))
      have vq := vq.below hs4
      have vr := vr.below hs4
      have vx := vx.below hs4
      have vy := vy.below hs4
      have kvq := vq.cell
      have hcc := vq.cell
      have hff := gq
      have vr := vr.other (v := .slice A4 (Nm.nat (2 * Q0)).length c4) hcc (by simp) (by omega)
      have vx := vx.other (v := .slice A4 (Nm.nat (2 * Q0)).length c4) hcc (by simp) (by omega)
      have vy := vy.other (v := .slice A4 (Nm.nat (2 * Q0)).length c4) hcc (by simp) (by omega)
      have vq := vq.put n4
      have hbj : Below (w.heap.size + 1 + 1 + 1 + 1) w1 (w4.setCell ⟨w.heap.size + 1 + 1 + 1 + 1, 0, none⟩ (.slice A4 (Nm.nat (2 * Q0)).length c4)) := hbj.setCell (by show w.heap.size + 1 + 1 + 1 + 1 ≤ w.heap.size + 1 + 1 + 1 + 1; omega) _
      have gq := soft_set (p := ⟨w.heap.size + 1 + 1 + 1 + 1, 0, none⟩) (v := .slice A4 (Nm.nat (2 * Q0)).length c4) gq
      have gr := soft_set (p := ⟨w.heap.size + 1 + 1 + 1 + 1, 0, none⟩) (v := .slice A4 (Nm.nat (2 * Q0)).length c4) gr
      clear hs4 hc4 hf4 n4
      have kvr := vr.cell
      have kvy := vy.cell
      by_cases hlt : (2 * R0 + Nm.val xs / 2 ^ k % 2) < Nm.val ys
      · skip
        have hcmp : cmpI ((Nm.val (Nm.nat (2 * R0 + Nm.val xs / 2 ^ k % 2)) : Nat) : Int) ((Nm.val ys : Nat) : Int) = -1 := by rw [Nm.val_nat]; exact cmpI_lt' hlt
        have Hnew := Lib.hid (Hdb.out.1 hlt)
        have Hcmp := Lib.hid hcmp
        clear hcmp hlt
        go_wp2_with fail
        clear hcc hff
        refine (Hcmp.out ▸ refCmp_n vr.num vy.num).mono ?_
        rintro e w5 ⟨rfl, hs5⟩
        have hszr := hbj.size
        have gq := ((seen hs5).2 _ 0 vq.lt).trans gq
        have gr := ((seen hs5).2 _ 0 vr.lt).trans gr
        have hbj := hbj.trans (hs5.mono (by omega))
        have vq := vq.below hs5
        have vr := vr.below hs5
        have vx := vx.below hs5
        have vy := vy.below hs5
        clear hs5 kvq kvr kvy
        go_wp2_with fail
        rw [← Hnew.out.1] at vq
        rw [← Hnew.out.2] at vr
        exact ⟨⟨k, A4, Ax, _, _, c4, cx, by omega, rfl, vq, vr, gq, gr, hbj⟩, by simp [intOf]⟩
      · skip
        have hge : Nm.val ys ≤ (2 * R0 + Nm.val xs / 2 ^ k % 2) := by omega
        obtain ⟨z, hz⟩ : ∃ z, cmpI ((Nm.val (Nm.nat (2 * R0 + Nm.val xs / 2 ^ k % 2)) : Nat) : Int) ((Nm.val ys : Nat) : Int) = z := ⟨_, rfl⟩
        have hz0 : 0 ≤ z := by
          rw [← hz, Nm.val_nat]
          rcases cmpI_cases (((2 * R0 + Nm.val xs / 2 ^ k % 2) : Nat) : Int) ((Nm.val ys : Nat) : Int) with h1 | h1 | h1 <;> omega
        have Hnew := Lib.hid (Hdb.out.2 hge)
        have Hcmp := Lib.hid hz
        have Hge := Lib.hid hge
        clear hz hge hlt
        go_wp2_with fail
        clear hcc hff
        refine (Hcmp.out ▸ refCmp_n vr.num vy.num).mono ?_
        rintro e w5 ⟨rfl, hs5⟩
        have hszr := hbj.size
        have gq := ((seen hs5).2 _ 0 vq.lt).trans gq
        have gr := ((seen hs5).2 _ 0 vr.lt).trans gr
        have hbj := hbj.trans (hs5.mono (by omega))
        have vq := vq.below hs5
        have vr := vr.below hs5
        have vx := vx.below hs5
        have vy := vy.below hs5
        clear hs5 kvq kvr kvy
        have kvr := vr.cell
        have kvy := vy.cell
        go_wp2_with fail
        refine (refSub_n vr.num vy.num (Nm.nat (2 * R0 + Nm.val xs / 2 ^ k % 2 - Nm.val ys)) true (by rw [Nm.val_nat]) (by rw [Nm.val_nat]; exact decide_eq_true Hge.out)).mono ?_
        rintro e w6 ⟨A6, c6, rfl, hc6, hf6, hs6⟩
        have hl6 : (Nm.nat (2 * R0 + Nm.val xs / 2 ^ k % 2 - Nm.val ys)).length ≤ 400 := by have := Nm.nat_len_le' (zs := Nm.nat (2 * R0 + Nm.val xs / 2 ^ k % 2)) (v := (2 * R0 + Nm.val xs / 2 ^ k % 2) - Nm.val ys) (Nm.dig_nat _) (by rw [Nm.val_nat]; exact Nat.sub_le _ _); have := Hl3.out; omega
        have n6 := hf6.num hc6 (Nm.dig_nat _) hl6
        have hszr := hbj.size
        have gq := ((seen hs6).2 _ 0 vq.lt).trans gq
        have gr := ((seen hs6).2 _ 0 vr.lt).trans gr
        have hbj := hbj.trans (hs6.mono (by omega))
        have vq := vq.below hs6
        have vr := vr.below hs6
        have vx := vx.below hs6
        have vy := vy.below hs6
        have kvr := vr.cell
        have hcc := vr.cell
        have hff := gr
        have vq := vq.other (v := .slice A6 (Nm.nat (2 * R0 + Nm.val xs / 2 ^ k % 2 - Nm.val ys)).length c6) hcc (by simp) (by omega)
        have vx := vx.other (v := .slice A6 (Nm.nat (2 * R0 + Nm.val xs / 2 ^ k % 2 - Nm.val ys)).length c6) hcc (by simp) (by omega)
        have vy := vy.other (v := .slice A6 (Nm.nat (2 * R0 + Nm.val xs / 2 ^ k % 2 - Nm.val ys)).length c6) hcc (by simp) (by omega)
        have vr := vr.put n6
        have hbj : Below (w.heap.size + 1 + 1 + 1 + 1) w1 (w6.setCell ⟨w.heap.size + 1 + 1 + 1 + 1 + 1, 0, none⟩ (.slice A6 (Nm.nat (2 * R0 + Nm.val xs / 2 ^ k % 2 - Nm.val ys)).length c6)) := hbj.setCell (by show w.heap.size + 1 + 1 + 1 + 1 ≤ w.heap.size + 1 + 1 + 1 + 1 + 1; omega) _
        have gq := soft_set (p := ⟨w.heap.size + 1 + 1 + 1 + 1 + 1, 0, none⟩) (v := .slice A6 (Nm.nat (2 * R0 + Nm.val xs / 2 ^ k % 2 - Nm.val ys)).length c6) gq
        have gr := soft_set (p := ⟨w.heap.size + 1 + 1 + 1 + 1 + 1, 0, none⟩) (v := .slice A6 (Nm.nat (2 * R0 + Nm.val xs / 2 ^ k % 2 - Nm.val ys)).length c6) gr
        clear hs6 hc6 hf6 n6 hl6 kvy
        have hQ3 : (Nm.nat (2 * Q0 + 1)).length ≤ 400 := by
          have h1 : 2 * Q0 + 1 ≤ Nm.val xs := by rw [← Hnew.out.1]; exact Nat.le_trans (Nat.div_le_self _ _) (Nat.div_le_self _ _)
          have := Nm.nat_len_le' hxd h1
          omega
        have Hq3 := Lib.hid hQ3
        clear hQ3
        have kvq := vq.cell
        go_wp2_with fail
        clear hcc hff
        refine wp_region_then (by kernel_rfl) (divG Q0) [7] 51 3 [46, 47, 48] rfl (by kernel_rfl) (by kernel_rfl) (by decide) (by kernel_rfl) ?_ ?_ ?_
        · intro t ht
          simp only [List.mem_cons, List.not_mem_nil, or_false] at ht
          rcases ht with rfl
          · exact ⟨_, _, _, rfl, vq⟩
        · refine List.forall_mem_cons.2 ⟨ob_load 7 46 (Nm.nat (2 * Q0)) rfl rfl (by first | exact .inl rfl | exact .inr ⟨_, _, _, rfl, rfl, by kernel_rfl, by decide, rfl⟩) (by kernel_rfl) rfl rfl, ?_⟩
          refine List.forall_mem_cons.2 ⟨ob_callc 47 _ 47 _ rfl rfl (by first | exact .inl rfl | exact .inr ⟨_, _, _, rfl, rfl, by kernel_rfl, by decide, rfl⟩) (by kernel_rfl) c_refOne, ?_⟩
          refine List.forall_mem_cons.2 ⟨ob_call2 55 46 47 48 _ rfl rfl (by first | exact .inl rfl | exact .inr ⟨_, _, _, rfl, rfl, by kernel_rfl, by decide, rfl⟩) (by kernel_rfl) (by kernel_rfl) (by kernel_rfl) (c_refAdd (Nm.nat (2 * Q0)) (Nm.nat 1) (Nm.nat (2 * Q0 + 1)) (by rw [Nm.val_nat, Nm.val_nat]) Hq3.out), ?_⟩
          exact fun _ h => absurd h List.not_mem_nil
        intro vv wv_ hvv hbv
        obtain ⟨Ay, cy, hv48, nq⟩ := hvv 48 (by decide)
        simp only [lay, List.foldl_cons, List.foldl_nil, List.setIfInBounds_toArray, List.set_cons_succ, List.set_cons_zero, List.drop_succ_cons, List.drop_zero, hv48]
        have hszr := hbj.size
        have gq := ((seen hbv).2 _ 0 vq.lt).trans gq
        have gr := ((seen hbv).2 _ 0 vr.lt).trans gr
        have hbj := hbj.trans (hbv.mono (by omega))
        have vq := vq.below hbv
        have vr := vr.below hbv
        have vx := vx.below hbv
        have vy := vy.below hbv
        have kvq := vq.cell
        have hcc := vq.cell
        have hff := gq
        have vr := vr.other (v := .slice Ay (Nm.nat (2 * Q0 + 1)).length cy) hcc (by simp) (by omega)
        have vx := vx.other (v := .slice Ay (Nm.nat (2 * Q0 + 1)).length cy) hcc (by simp) (by omega)
        have vy := vy.other (v := .slice Ay (Nm.nat (2 * Q0 + 1)).length cy) hcc (by simp) (by omega)
        have vq := vq.put nq
        have hbj : Below (w.heap.size + 1 + 1 + 1 + 1) w1 (wv_.setCell ⟨w.heap.size + 1 + 1 + 1 + 1, 0, none⟩ (.slice Ay (Nm.nat (2 * Q0 + 1)).length cy)) := hbj.setCell (by show w.heap.size + 1 + 1 + 1 + 1 ≤ w.heap.size + 1 + 1 + 1 + 1; omega) _
        have gq := soft_set (p := ⟨w.heap.size + 1 + 1 + 1 + 1, 0, none⟩) (v := .slice Ay (Nm.nat (2 * Q0 + 1)).length cy) gq
        have gr := soft_set (p := ⟨w.heap.size + 1 + 1 + 1 + 1, 0, none⟩) (v := .slice Ay (Nm.nat (2 * Q0 + 1)).length cy) gr
        clear hbv hvv
        go_wp2_with fail
        exact ⟨⟨k, Ay, A6, (Nm.nat (2 * Q0 + 1)).length, (Nm.nat (2 * R0 + Nm.val xs / 2 ^ k % 2 - Nm.val ys)).length, cy, c6, by omega, rfl, by rw [Hnew.out.1]; exact vq, by rw [Hnew.out.2]; exact vr, gq, gr, hbj⟩, by simp [intOf]⟩
end Go.Proofs.YtjfehdkfogdpgaaGreatDoor
namespace Go.Proofs.YtjfehdkfogdpgaaGreatDoor
open Go.RowKit
set_option maxHeartbeats 400000 in
theorem zeros32_any (x : Nat) (w : World) (hx : x < 4294967296) :
    Calls Tryz.prog 111 #[.int .u32 x] w fun e w' => e = .returned (.int .i64 ((32 - Nm.blen x : Nat) : Int)) ∧ w = w' := by
  have hb := Nm.blen_lt (x := x) (k := 32) (by omega)
  go_enter Tryz.func111, Tryz.ntmps111
  go_wp2_with fail
  refine (len32_any x _ hx).mono ?_
  rintro e w1 ⟨rfl, rfl⟩
  go_wp2_with fail
  go_ret
  exact ⟨ret_int (by omega), rfl⟩
namespace Nm
theorem sub_step {rs zs ys : List Nat} {k x D f p c o s o' : Nat} (h1 : k < rs.length) (h2 : k < zs.length) (h3 : k < ys.length) (hx : zs[k] = x) (hD : ys[k] = D) (hp : D * f = p)
    (hv : val (rs.take k) + f * val (ys.take k) = val (zs.take k) + 4294967296 ^ k * (c + o)) (hs : s + (c + p) % 4294967296 + o = x + 4294967296 * o') :
    val ((rs.set k s).take (k + 1)) + f * val (ys.take (k + 1)) = val (zs.take (k + 1)) + 4294967296 ^ (k + 1) * ((c + p) / 4294967296 + o') := by
  have e1 := val_take_succ (rs.set k s) k (by simpa using h1)
  rw [take_set_other] at e1
  simp only [List.getElem_set_self] at e1
  have e2 := val_take_succ zs k h2
  have e3 := val_take_succ ys k h3
  rw [e1, e2, e3, hx, hD, Nat.pow_succ, Nat.mul_assoc]
  have e4 : s + p + (c + o) = x + 4294967296 * ((c + p) / 4294967296 + o') := by omega
  have e5 := congrArg (fun t => 4294967296 ^ k * t) e4
  have e6 : f * (val (ys.take k) + 4294967296 ^ k * D) = f * val (ys.take k) + 4294967296 ^ k * p := by
    rw [Nat.mul_add, ← hp, Nat.mul_left_comm, Nat.mul_comm f D]
  rw [e6]
  simp only [Nat.mul_add] at e5 hv ⊢
  omega
theorem sub_last {rs zs ys : List Nat} {n x f c o s o' : Nat} (h1 : rs.length = n + 1) (h2 : zs.length = n + 1) (h3 : ys.length = n) (hx : zs[n]'(by omega) = x)
    (hv : val (rs.take n) + f * val (ys.take n) = val (zs.take n) + 4294967296 ^ n * (c + o)) (hs : s + c + o = x + 4294967296 * o') :
    val (rs.set n s) + f * val ys = val zs + 4294967296 ^ (n + 1) * o' := by
  have e1 := val_take_succ (rs.set n s) n (by simp; omega)
  rw [take_set_other, List.take_of_length_le (by simp; omega)] at e1
  simp only [List.getElem_set_self] at e1
  have e2 := val_take_succ zs n (by omega)
  rw [List.take_of_length_le (by omega)] at e2
  rw [List.take_of_length_le (by omega : ys.length ≤ n)] at hv
  rw [e1, e2, hx, Nat.pow_succ, Nat.mul_assoc]
  have e5 := congrArg (fun t => 4294967296 ^ n * t) hs
  simp only [Nat.mul_add] at e5 hv ⊢
  omega
end Nm
set_option maxHeartbeats 1000000 in
theorem subtractTimes_any (g off n c d f : Nat) (B : Option Addr) (zs ys : List Nat) (w : World) (ho : Own w g off zs) (hy : Rd w B ys) (hfar : Off g B ys) (hzd : Nm.Dig zs) (hyd : Nm.Dig ys) (hl0 : zs.length = n + 1) (hyl : ys.length = n) (hm : n ≤ 1000) (hf : f < 4294967296) :
    Calls Tryz.prog 123 #[.slice (some ⟨g, off, none⟩) (n + 1) c, .slice B n d, .int .u32 f] w fun e w' => ∃ (rs : List Nat) (o : Nat), e = .returned (.int .u32 o) ∧ Hid (rs.length = n + 1) ∧ Nm.Dig rs ∧ o ≤ 1 ∧ Hid (Nm.val rs + f * Nm.val ys = Nm.val zs + 4294967296 ^ (n + 1) * o) ∧ Wr w w' g off rs := by
  have HL := Lib.hid hl0
  have HY := Lib.hid hyl
  clear hl0 hyl
  go_enter Tryz.func123, Tryz.ntmps123
  go_wp2_with fail
  go_loopw [7, 8, 13] (fun cv bv iv wr => ∃ (k c o : Nat) (rs : List Nat), k ≤ n ∧ iv = .int .i64 k ∧ cv = .int .u64 c ∧ c < 4294967296 ∧ bv = .int .u32 o ∧ o ≤ 1 ∧ Hid (rs.length = n + 1) ∧ Nm.Dig rs ∧ Hid (∀ j, k ≤ j → rs[j]? = zs[j]?) ∧ Hid (Nm.val (rs.take k) + f * Nm.val (ys.take k) = Nm.val (zs.take k) + 4294967296 ^ k * (c + o)) ∧ Wr w wr g off rs) (fun _ _ i _ => n - (intOf i).toNat)
  case atStart => exact ⟨0, 0, 0, zs, Nat.zero_le _, rfl, rfl, by omega, rfl, Nat.zero_le _, HL.out, hzd, fun _ _ => rfl, by show _ = _; simp [Nm.val], Wr.refl ho⟩
  case round =>
    obtain ⟨k, cc, o, rs, hk, rfl, rfl, hcc, rfl, hco, hl, hrd, hrest, hv, hw⟩ := hrel
    have hkr : k < rs.length := by rw [hl.out]; omega
    have hkz : k < zs.length := by rw [HL.out]; omega
    have c1 := hw.own.1 k hkr
    have f1 := hw.own.2 k hkr
    obtain ⟨x, hx⟩ : ∃ x, rs[k] = x := ⟨_, rfl⟩
    rw [hx] at c1
    have hxlt : x < 4294967296 := by rw [← hx]; exact hrd.at_ hkr
    have hzk : zs[k] = x := by
      have := hrest.out k (Nat.le_refl _)
      rw [List.getElem?_eq_getElem hkr, List.getElem?_eq_getElem hkz] at this
      injection this with this
      rw [← this, hx]
    have Hzk := Lib.hid hzk
    clear hx hzk
    by_cases hlt : k < n
    · have hky : k < ys.length := by rw [HY.out]; exact hlt
      obtain ⟨g', off', hB, hr⟩ := (hy.wr hw hfar).at_ hky
      have c2 := hr k hky
      obtain ⟨D, hD⟩ : ∃ D, ys[k] = D := ⟨_, rfl⟩
      rw [hD] at c2
      have hDlt : D < 4294967296 := by rw [← hD]; exact hyd.at_ hky
      have HD := Lib.hid hD
      have hple := prod_le hDlt hf
      obtain ⟨p, hp⟩ : ∃ p, D * f = p := ⟨_, rfl⟩
      rw [hp] at hple
      have hpi : (D : Int) * (f : Int) = (p : Int) := by rw [← hp]; simp
      have HP := Lib.hid hp
      subst hB
      clear hr hD hp
      go_wp2_with fail
      have hmod : (((cc : Int) + (p : Int)) % 4294967296) = (((cc + p) % 4294967296 : Nat) : Int) := by omega
      rw [hmod]
      refine (sub32_any x ((cc + p) % 4294967296) o _ hxlt (by omega) hco).mono ?_
      rintro e w2 ⟨s, o', rfl, hs, rfl⟩
      have hstep := Nm.sub_step hkr hkz hky Hzk.out HD.out HP.out hv.out hs.out.1
      have Hstep := Lib.hid hstep
      have hwset := hw.set k hkr s
      have ho1 := hs.out.2.2
      clear hstep hmod
      go_wp2_with fail
      have hdiv : (((cc : Int) + (p : Int)) / 4294967296) = (((cc + p) / 4294967296 : Nat) : Int) := by omega
      go_roundw
      case rel =>
        refine ⟨k + 1, (cc + p) / 4294967296, o', rs.set k s, by omega, by go_num, by rw [hdiv], by omega, rfl, ho1, ?_, hrd.set k hs.out.2.1, ?_, Hstep, hwset⟩
        · show _ = _
          rw [List.length_set]; exact hl.out
        · intro j hj
          rw [List.getElem?_set_ne (by omega)]
          exact hrest.out j (by omega)
      case measure => simp [intOf]; omega
    · have hkn : k = n := by omega
      subst hkn
      go_wp2_with fail
      refine (sub32_any x cc o _ hxlt hcc hco).mono ?_
      rintro e w2 ⟨s, o', rfl, hs, rfl⟩
      have hlast := Nm.sub_last hl.out HL.out HY.out Hzk.out hv.out hs.out.1
      have Hlast := Lib.hid hlast
      have hwset := hw.set k hkr s
      have ho1 := hs.out.2.2
      clear hlast
      go_wp2_with fail
      go_ret
      refine ⟨rs.set k s, o', rfl, ?_, hrd.set k hs.out.2.1, ho1, Hlast, hwset⟩
      show _ = _
      rw [List.length_set]; exact hl.out
end Go.Proofs.YtjfehdkfogdpgaaGreatDoor
namespace Go.Proofs.YtjfehdkfogdpgaaGreatDoor
open Go.RowKit
namespace Nm
theorem est_up {U V P U3 V2 ul vl Q : Nat} (hU : U = U3 * P + ul) (hul : ul < P) (hV : V = V2 * P + vl) (hQ : Q * V ≤ U) : Q * V2 ≤ U3 := by
  rcases Nat.lt_or_ge U3 (Q * V2) with h | h
  · exfalso
    have h1 := Nat.mul_le_mul_right P (Nat.succ_le_of_lt h)
    have h2 : Q * (V2 * P) ≤ Q * V := Nat.mul_le_mul_left Q (by omega)
    rw [← Nat.mul_assoc] at h2
    rw [Nat.succ_mul] at h1
    omega
  · exact h
theorem est_le {U V P U3 V2 ul vl Q q : Nat} (hU : U = U3 * P + ul) (hV : V = V2 * P + vl) (hvl : vl < P) (hq : q * V2 ≤ U3) (hlt : U < (Q + 1) * V) (hb : q ≤ V2) : q ≤ Q + 1 := by
  rcases Nat.lt_or_ge (Q + 1) q with h | h
  · exfalso
    obtain ⟨t, rfl⟩ : ∃ t, q = t + 1 := ⟨q - 1, by omega⟩
    have h1 : (Q + 1) * V ≤ t * V := Nat.mul_le_mul_right V (by omega)
    have h2 : t * V ≤ t * ((V2 + 1) * P) := Nat.mul_le_mul_left t (by rw [Nat.succ_mul]; omega)
    have h3 := Nat.mul_le_mul_right P hq
    have h4 : t * ((V2 + 1) * P) = t * V2 * P + t * P := by rw [← Nat.mul_assoc, Nat.mul_succ, Nat.add_mul]
    have h5 : (t + 1) * V2 * P = t * V2 * P + V2 * P := by rw [Nat.succ_mul, Nat.add_mul]
    have h6 : t * P ≤ V2 * P := Nat.mul_le_mul_right P (by omega)
    omega
  · exact h
theorem est_lead {U V P a b e L N ul vl : Nat} (hU : U = ((a * 4294967296 + b) * 4294967296 + e) * P + ul) (hV : V = (L * 4294967296 + N) * P + vl) (hvl : vl < P) (hN : N < 4294967296) (h : U < 4294967296 * V) : a ≤ L := by
  rcases Nat.lt_or_ge L a with h1 | h1
  · exfalso
    have h2 : 4294967296 * V < 4294967296 * ((L * 4294967296 + N + 1) * P) := by
      have : V < (L * 4294967296 + N + 1) * P := by rw [hV, Nat.succ_mul]; omega
      omega
    have h3 : (4294967296 * (L * 4294967296 + N + 1)) * P ≤ ((a * 4294967296 + b) * 4294967296 + e) * P := Nat.mul_le_mul_right P (by omega)
    rw [Nat.mul_assoc] at h3
    omega
  · exact h1
theorem est_init {T L N e Q : Nat} (hL : 0 < L) (he : e < 4294967296) (h : Q * (L * 4294967296 + N) ≤ T * 4294967296 + e) : Q ≤ T / L := by
  rw [Nat.le_div_iff_mul_le hL]
  have h1 : Q * (L * 4294967296) ≤ Q * (L * 4294967296 + N) := Nat.mul_le_mul_left Q (by omega)
  rw [← Nat.mul_assoc] at h1
  omega
theorem est_more {T L N e Q q r : Nat} (h : Q * (L * 4294967296 + N) ≤ T * 4294967296 + e) (hr : q * L + r = T) (hq : r * 4294967296 + e < q * N) : Q < q := by
  rcases Nat.lt_or_ge Q q with h1 | h1
  · exact h1
  · exfalso
    have h2 : q * (L * 4294967296 + N) ≤ Q * (L * 4294967296 + N) := Nat.mul_le_mul_right _ h1
    rw [Nat.mul_add, ← Nat.mul_assoc] at h2
    omega
theorem est_done {T L N e q r : Nat} (hr : q * L + r = T) (hq : q * N ≤ r * 4294967296 + e) : q * (L * 4294967296 + N) ≤ T * 4294967296 + e := by
  rw [Nat.mul_add, ← Nat.mul_assoc]
  omega
theorem est_big {T L N e q r : Nat} (hr : q * L + r = T) (hr2 : 4294967296 ≤ r) (hq : q ≤ 4294967295) (hN : N < 4294967296) : q * (L * 4294967296 + N) ≤ T * 4294967296 + e := by
  have h1 : q * N ≤ 4294967295 * 4294967295 := Nat.mul_le_mul hq (by omega)
  rw [Nat.mul_add, ← Nat.mul_assoc]
  omega
theorem est_small {T L a b q r : Nat} (hr : q * L + r = T) (hT : T = a * 4294967296 + b) (ha : a ≤ L) (hb : b < 4294967296) (hr2 : 4294967296 ≤ r) : q ≤ 4294967295 := by
  rcases Nat.lt_or_ge 4294967295 q with h | h
  · exfalso
    have h1 : 4294967296 * L ≤ q * L := Nat.mul_le_mul_right L (by omega)
    omega
  · exact h
theorem est_start {T L a b : Nat} (hT : T = a * 4294967296 + b) (ha : a ≤ L) (hb : b < 4294967296) (hL : 2147483648 ≤ L) : T / L ≤ 4294967297 := by
  have : T / L < 4294967298 := by
    rw [Nat.div_lt_iff_lt_mul (by omega)]
    omega
  omega
theorem two_top (zs : List Nat) (n : Nat) (hl : zs.length = n + 2) : val zs = (zs[n + 1]'(by omega) * 4294967296 + zs[n]'(by omega)) * 4294967296 ^ n + val (zs.take n) := by
  have h1 := val_take_succ zs n (by omega)
  have h2 := val_take_succ zs (n + 1) (by omega)
  rw [List.take_of_length_le (by omega)] at h2
  rw [h2, h1]
  generalize zs[n + 1]'(by omega) = x
  generalize zs[n]'(by omega) = y
  generalize val (zs.take n) = z
  rw [Nat.pow_succ]
  generalize 4294967296 ^ n = P
  have e1 : (x * 4294967296 + y) * P = P * 4294967296 * x + P * y := by
    rw [Nat.add_mul, Nat.mul_comm y P, Nat.mul_comm (x * 4294967296) P, Nat.mul_comm x, Nat.mul_assoc]
  omega
theorem three_top (zs : List Nat) (n : Nat) (hl : zs.length = n + 3) : val zs = ((zs[n + 2]'(by omega) * 4294967296 + zs[n + 1]'(by omega)) * 4294967296 + zs[n]'(by omega)) * 4294967296 ^ n + val (zs.take n) := by
  have h1 := val_take_succ zs n (by omega)
  have h2 : val zs = (zs[n + 2]'(by omega) * 4294967296 + zs[n + 1]'(by omega)) * 4294967296 ^ (n + 1) + val (zs.take (n + 1)) := two_top zs (n + 1) (by omega)
  rw [h2, h1]
  obtain ⟨x, hx⟩ : ∃ x, zs[n + 2]'(by omega) * 4294967296 + zs[n + 1]'(by omega) = x := ⟨_, rfl⟩
  rw [hx]
  generalize zs[n]'(by omega) = y
  generalize val (zs.take n) = z
  rw [Nat.pow_succ]
  generalize 4294967296 ^ n = P
  have e1 : (x * 4294967296 + y) * P = x * (P * 4294967296) + P * y := by
    rw [Nat.add_mul, Nat.mul_comm y P, Nat.mul_assoc, Nat.mul_comm P 4294967296]
  omega
end Nm
end Go.Proofs.YtjfehdkfogdpgaaGreatDoor
namespace Go.Proofs.YtjfehdkfogdpgaaGreatDoor
open Go.RowKit
theorem or_low (h l : Nat) (hh : h < 4294967296) (hl : l < 4294967296) : bits .or .u64 ((h : Int) * 4294967296) (l : Int) = ((h * 4294967296 + l : Nat) : Int) := by
  have := u64_or_nat (h * 4294967296) l (by omega) (by omega)
  rw [show ((h : Int) * 4294967296) = ((h * 4294967296 : Nat) : Int) from by omega, this]
  have h2 := Nat.shiftLeft_add_eq_or_of_lt (b := l) (i := 32) (by omega) h
  rw [Nat.shiftLeft_eq] at h2
  rw [← h2]
set_option maxRecDepth 20000 in
set_option maxHeartbeats 1000000 in
theorem estimate_any (g off c d m : Nat) (B : Option Addr) (zs ys : List Nat) (w : World) (hx : Row w g off zs) (hy : Rd w B ys) (hzd : Nm.Dig zs) (hyd : Nm.Dig ys) (hl : zs.length = m + 3) (hyl : ys.length = m + 2) (hm : m ≤ 1000) (htop : 2147483648 ≤ ys[m + 1]'(by omega)) (hlt : Nm.val zs < 4294967296 * Nm.val ys) :
    Calls Tryz.prog 122 #[.slice (some ⟨g, off, none⟩) (m + 3) c, .slice B (m + 2) d] w fun e w' => ∃ q n : Nat, e = .returned (.int .u32 q) ∧ Hid (Nm.val zs / Nm.val ys ≤ q ∧ q ≤ Nm.val zs / Nm.val ys + 1 ∧ q < 4294967296) ∧ w' = w.drewN n := by
  obtain ⟨g', off', rfl, hr⟩ := hy.at_ (i := m + 1) (by omega)
  have hU := Nm.three_top zs m hl
  have hV := Nm.two_top ys m hyl
  have hul : Nm.val (zs.take m) < 4294967296 ^ m := by have := Nm.val_lt (hzd.take m); rwa [List.length_take, Nat.min_eq_left (by omega)] at this
  have hvl : Nm.val (ys.take m) < 4294967296 ^ m := by have := Nm.val_lt (hyd.take m); rwa [List.length_take, Nat.min_eq_left (by omega)] at this
  have ca := hx (m + 2) (by omega)
  have cb := hx (m + 1) (by omega)
  have ce := hx m (by omega)
  have cL := hr (m + 1) (by omega)
  have cN := hr m (by omega)
  have la := hzd.at_ (i := m + 2) (by omega)
  have lb := hzd.at_ (i := m + 1) (by omega)
  have le := hzd.at_ (i := m) (by omega)
  have lL := hyd.at_ (i := m + 1) (by omega)
  have lN := hyd.at_ (i := m) (by omega)
  obtain ⟨a, ha⟩ : ∃ a, zs[m + 2]'(by omega) = a := ⟨_, rfl⟩
  obtain ⟨b, hb⟩ : ∃ b, zs[m + 1]'(by omega) = b := ⟨_, rfl⟩
  obtain ⟨e, he⟩ : ∃ e, zs[m]'(by omega) = e := ⟨_, rfl⟩
  obtain ⟨L, hL⟩ : ∃ L, ys[m + 1]'(by omega) = L := ⟨_, rfl⟩
  obtain ⟨N, hN⟩ : ∃ N, ys[m]'(by omega) = N := ⟨_, rfl⟩
  rw [ha] at hU ca la
  rw [hb] at hU cb lb
  rw [he] at hU ce le
  rw [hL] at hV cL lL htop
  rw [hN] at hV cN lN
  obtain ⟨V, hVV⟩ : ∃ V, Nm.val ys = V := ⟨_, rfl⟩
  obtain ⟨U, hUU⟩ : ∃ U, Nm.val zs = U := ⟨_, rfl⟩
  rw [hVV, hUU]
  rw [hVV] at hV hlt
  rw [hUU] at hU hlt
  have hLa := Nm.est_lead hU hV hvl lN hlt
  obtain ⟨T, hT⟩ : ∃ T, a * 4294967296 + b = T := ⟨_, rfl⟩
  rw [hT] at hU
  have hV0 : 0 < V := by
    rcases Nat.eq_zero_or_pos V with h | h
    · subst h; omega
    · exact h
  obtain ⟨Q, hQ⟩ : ∃ Q, U / V = Q := ⟨_, rfl⟩
  have hQ1 : Q * V ≤ U := by rw [← hQ]; exact Nat.div_mul_le_self U V
  have hQ2 : U < (Q + 1) * V := by
    have h1 := Nat.div_add_mod U V
    have h2 := Nat.mod_lt U hV0
    rw [hQ] at h1
    rw [Nat.succ_mul, Nat.mul_comm]
    omega
  have hQb : Q ≤ 4294967295 := by
    have : Q < 4294967296 := by rw [← hQ, Nat.div_lt_iff_lt_mul hV0]; exact hlt
    omega
  rw [hQ]
  have hup := Nm.est_up hU hul hV hQ1
  have hor := or_low a b la lb
  rw [hT] at hor
  have hst := Nm.est_start hT.symm hLa lb htop
  have hin := Nm.est_init (by omega : 0 < L) le hup
  have hdm := Nat.div_add_mod T L
  have hrl : T % L < L := Nat.mod_lt _ (by omega)
  have hTdiv : (T : Int) / (L : Int) = ((T / L : Nat) : Int) := by simp
  have hTmod : (T : Int) % (L : Int) = ((T % L : Nat) : Int) := by simp
  obtain ⟨q0, hq0⟩ : ∃ q0, T / L = q0 := ⟨_, rfl⟩
  obtain ⟨r0, hr0⟩ : ∃ r0, T % L = r0 := ⟨_, rfl⟩
  rw [hq0] at hst hin hdm hTdiv
  rw [hr0] at hdm hrl hTmod
  rw [Nat.mul_comm] at hdm
  have hL0 : ((L : Int) != 0) = true := by rw [bne_iff_ne]; omega
  have HU := Lib.hid hU
  have HV := Lib.hid hV
  have Hvl := Lib.hid hvl
  have HLa := Lib.hid hLa
  have HT := Lib.hid hT
  have HQ2 := Lib.hid hQ2
  have Hup := Lib.hid hup
  have Hin := Lib.hid hin
  have Hdm := Lib.hid hdm
  have Htop := Lib.hid htop
  have HQb := Lib.hid hQb
  have Hdone : Hid (∀ q, q ≤ 4294967295 → q * (L * 4294967296 + N) ≤ T * 4294967296 + e → q ≤ Q + 1) := fun q h1 h2 => Nm.est_le hU hV hvl h2 hQ2 (by omega)
  have HlL : Hid (L ≤ 4294967295) := by show L ≤ 4294967295; omega
  clear hx hy hr hzd hyd hl hyl hU hV hul hvl ha hb he hL hN hVV hUU hlt hLa hT hV0 hQ hQ1 hQ2 hup hin hdm hq0 hr0 htop hQb
  go_enter Tryz.func122, Tryz.ntmps122
  go_wp2_with fail
  go_quiet (fail)
  go_wp2_with fail
  go_quiet (fail)
  go_wp2_with fail
  go_quiet (fail)
  go_wp2_with fail
  go_loop [9, 10] (fun qv rv => ∃ q r : Nat, qv = .int .u64 (q : Int) ∧ rv = .int .u64 (r : Int) ∧ q ≤ 4294967297 ∧ r ≤ 8589934591 ∧ Hid (q * L + r = T) ∧ Hid (Q ≤ q)) (fun q _ => (intOf q).toNat)
  case atStart => exact ⟨q0, r0, rfl, by rw [hTmod], hst, by have := HlL.out; omega, Hdm, Hin⟩
  case round =>
    obtain ⟨q, r, rfl, rfl, hq, hr, hqr, hQq⟩ := hrel
    by_cases h1 : r ≤ 4294967295
    · by_cases h2 : q ≤ 4294967295
      · have hple : q * N ≤ 18446744065119617025 := by
          have := Nat.mul_le_mul (show q ≤ 4294967295 from h2) (show N ≤ 4294967295 by omega)
          omega
        obtain ⟨p, hp⟩ : ∃ p, q * N = p := ⟨_, rfl⟩
        obtain ⟨S, hS⟩ : ∃ S, r * 4294967296 + e = S := ⟨_, rfl⟩
        have hpi : (q : Int) * (N : Int) = (p : Int) := by rw [← hp]; simp
        have hor2 := or_low r e (by omega) le
        rw [hp] at hple
        rw [hS] at hor2
        have hp0 := Lib.hid hp
        have hS0 := Lib.hid hS
        clear hp hS
        by_cases h3 : S < p
        · have hmore := Nm.est_more Hup.out hqr.out (by rw [hp0.out, hS0.out]; exact h3)
          have Hmore := Lib.hid hmore
          have hq1 : 1 ≤ q := by omega
          have hqi : (q : Int) - 1 = ((q - 1 : Nat) : Int) := by omega
          have hstep : (q - 1) * L + (r + L) = T := by
            have h5 := hqr.out
            obtain ⟨t, rfl⟩ : ∃ t, q = t + 1 := ⟨q - 1, by omega⟩
            rw [Nat.succ_mul] at h5
            rw [Nat.add_sub_cancel]
            omega
          have Hstep := Lib.hid hstep
          have hL1 := HlL.out
          have Hqi := Lib.hid hqi
          clear hmore hstep hqi
          go_wp2_with fail
          refine ⟨⟨q - 1, by omega, r + L, by omega, by omega, by omega, Hstep, ?_⟩, by simp [intOf]; omega⟩
          show _ ≤ _
          have := Hmore.out
          omega
        · have hfin := Hdone.out q h2 (Nm.est_done hqr.out (by rw [hp0.out, hS0.out]; omega))
          have Hfin := Lib.hid hfin
          clear hfin
          go_wp2_with fail
          go_ret
          exact ⟨q, ret_int rfl, ⟨hQq.out, Hfin.out, by omega⟩, _, rfl⟩
      · have hstep : (q - 1) * L + (r + L) = T := by
          have h5 := hqr.out
          obtain ⟨t, rfl⟩ : ∃ t, q = t + 1 := ⟨q - 1, by omega⟩
          rw [Nat.succ_mul] at h5
          rw [Nat.add_sub_cancel]
          omega
        have Hmore : Hid (Q < q) := by show Q < q; have := HQb.out; omega
        have Hstep := Lib.hid hstep
        have hq1 : 1 ≤ q := by omega
        have hL1 := HlL.out
        have h2' : 4294967296 ≤ q := by omega
        clear hstep h2
        go_wp2_with fail
        refine ⟨⟨q - 1, by omega, r + L, by omega, by omega, by omega, Hstep, ?_⟩, by simp [intOf]; omega⟩
        show _ ≤ _
        have := Hmore.out
        omega
    · have h2 := Nm.est_small hqr.out HT.out.symm HLa.out lb (by omega)
      have hfin := Hdone.out q h2 (Nm.est_big hqr.out (by omega) h2 lN)
      have Hfin := Lib.hid hfin
      clear hfin
      go_wp2_with fail
      go_ret
      exact ⟨q, ret_int rfl, ⟨hQq.out, Hfin.out, by omega⟩, _, rfl⟩
end Go.Proofs.YtjfehdkfogdpgaaGreatDoor
namespace Go.Proofs.YtjfehdkfogdpgaaGreatDoor
open Go.RowKit
theorem Wr.trans {w w1 w2 : World} {g off : Nat} {zs rs : List Nat} (h : Wr w w1 g off zs) (k : Wr w1 w2 g off rs) (hl : zs.length = rs.length) : Wr w w2 g off rs :=
  ⟨⟨k.grown.os.trans h.grown.os, k.grown.tape.trans h.grown.tape, k.grown.output.trans h.grown.output, Nat.le_trans h.grown.size k.grown.size, fun i hi hne => (k.grown.block i (by have := h.size; omega) hne).trans (h.grown.block i hi hne)⟩,
    k.size.trans h.size, k.own, fun o ho => (k.rest o ho).trans (h.rest o (by rw [hl]; exact ho)), fun o => (k.soft o).trans (h.soft o)⟩
theorem addTo_m {g off n m c d : Nat} {B : Option Addr} {zs ys : List Nat} {w : World} (ho : Own w g off zs) (hy : Rd w B ys) (hf : Off g B ys) (hzd : Nm.Dig zs) (hyd : Nm.Dig ys) (hl : zs.length = n) (hyl : ys.length = m) (hm : n ≤ 1000) (hn : m ≤ 1000) :
    Calls Tryz.prog 77 #[.slice (some ⟨g, off, none⟩) n c, .slice B m d] w fun e w' => ∃ (rs : List Nat) (o : Nat), e = .returned (.tuple #[]) ∧ rs.length = n ∧ Nm.Dig rs ∧ o ≤ 1 ∧ Hid (Nm.val rs + 4294967296 ^ n * o = Nm.val zs + Nm.val (ys.take n)) ∧ Wr w w' g off rs := by
  subst hl hyl
  exact addTo_any g off c B d zs ys w ho hy hf hzd hyd hm hn
namespace Nm
theorem step_zero {U V Q q R : Nat} (hV : 0 < V) (hQ : U / V = Q) (h1 : Q ≤ q) (h : R + q * V = U) : q = Q ∧ R = U % V := by
  have h2 := Nat.div_add_mod U V
  have h3 := Nat.mod_lt U hV
  rw [hQ] at h2
  have h4 : q = Q := by
    rcases Nat.lt_or_ge Q q with h5 | h5
    · exfalso
      have h6 : (Q + 1) * V ≤ q * V := Nat.mul_le_mul_right V h5
      rw [Nat.succ_mul, Nat.mul_comm] at h6
      omega
    · omega
  subst h4
  rw [Nat.mul_comm] at h2
  exact ⟨rfl, by omega⟩
theorem step_one {U V Q q R R2 P o2 : Nat} (hV : 0 < V) (hQ : U / V = Q) (h1 : Q ≤ q) (h2 : q ≤ Q + 1) (h : R + q * V = U + P) (hR : R < P) (hR2 : R2 < P) (ho2 : o2 ≤ 1) (h5 : R2 + P * o2 = R + V) : q = Q + 1 ∧ R2 = U % V := by
  have h3 := Nat.div_add_mod U V
  have h4 := Nat.mod_lt U hV
  rw [hQ, Nat.mul_comm] at h3
  have h6 : q = Q + 1 := by
    rcases Nat.lt_or_ge Q q with h7 | h7
    · omega
    · exfalso
      have h8 : q = Q := by omega
      subst h8
      omega
  subst h6
  rw [Nat.succ_mul] at h
  refine ⟨rfl, ?_⟩
  rcases Nat.eq_zero_or_pos o2 with h7 | h7
  · subst h7
    omega
  · have h8 : o2 = 1 := by omega
    subst h8
    omega
end Nm
set_option maxRecDepth 20000 in
set_option maxHeartbeats 1000000 in
theorem divideStep_any (g off c d m : Nat) (B : Option Addr) (zs ys : List Nat) (w : World) (ho : Own w g off zs) (hy : Rd w B ys) (hf : Off g B ys) (hzd : Nm.Dig zs) (hyd : Nm.Dig ys) (hl : zs.length = m + 3) (hyl : ys.length = m + 2) (hm : m ≤ 900) (htop : 2147483648 ≤ ys[m + 1]'(by omega)) (hlt : Nm.val zs < 4294967296 * Nm.val ys) :
    Calls Tryz.prog 113 #[.slice (some ⟨g, off, none⟩) (m + 3) c, .slice B (m + 2) d] w fun e w' => ∃ (q : Nat) (rs : List Nat), e = .returned (.int .u32 q) ∧ Hid (q = Nm.val zs / Nm.val ys ∧ q < 4294967296) ∧ Hid (rs.length = m + 3) ∧ Nm.Dig rs ∧ Hid (Nm.val rs = Nm.val zs % Nm.val ys) ∧ Wr w w' g off rs := by
  have hV0 : 0 < Nm.val ys := by
    rcases Nat.eq_zero_or_pos (Nm.val ys) with h | h
    · rw [h] at hlt; omega
    · exact h
  have hVP : Nm.val ys ≤ 4294967296 ^ (m + 3) := by
    have := Nm.val_lt hyd
    rw [hyl] at this
    exact Nat.le_trans (Nat.le_of_lt this) (Nat.pow_le_pow_right (by omega) (by omega))
  have hest := estimate_any g off c d m B zs ys w ho.1 hy hzd hyd hl hyl (by omega) htop hlt
  have Hest := Lib.hid hest
  have HV0 := Lib.hid hV0
  have HVP := Lib.hid hVP
  have Hl := Lib.hid hl
  have Hyl := Lib.hid hyl
  clear hest hV0 hVP hl hyl htop hlt
  go_enter Tryz.func113, Tryz.ntmps113
  go_wp2_with fail
  refine Hest.out.mono ?_
  rintro e w1 ⟨q, nd, rfl, hq, rfl⟩
  go_wp2_with fail
  refine (subtractTimes_any g off (m + 2) c d q B zs ys (w.drewN nd) (show Own (w.drewN nd) g off zs from ho) (show Rd (w.drewN nd) B ys from hy) hf hzd hyd Hl.out Hyl.out (by omega) hq.out.2.2).mono ?_
  rintro e w2 ⟨rs, o, rfl, hrl, hrd, hol, hv, hw⟩
  have hw2 : Wr w w2 g off rs := ((Wr.refl ho).drewN nd).trans hw (by rw [Hl.out, hrl.out])
  rcases Nat.eq_zero_or_pos o with h0 | h0
  · subst h0
    have hfin := Nm.step_zero HV0.out rfl hq.out.1 (by have := hv.out; rw [Nat.mul_zero, Nat.add_zero] at this; exact this)
    have Hf := Lib.hid hfin
    clear hfin
    go_wp2_with fail
    go_ret
    exact ⟨q, rs, rfl, ⟨Hf.out.1, hq.out.2.2⟩, hrl, hrd, Hf.out.2, hw2⟩
  · have ho1 : o = 1 := by omega
    subst ho1
    go_wp2_with fail
    refine (addTo_m hw2.own (hy.wr hw2 hf) hf hrd hyd hrl.out Hyl.out (by omega) (by omega)).mono ?_
    rintro e w3 ⟨rs2, o2, rfl, hrl2, hrd2, ho2, hv2, hw3⟩
    have hfin : q = Nm.val zs / Nm.val ys + 1 ∧ Nm.val rs2 = Nm.val zs % Nm.val ys := by
      have h1 := Nm.val_lt hrd
      have h2 := Nm.val_lt hrd2
      rw [hrl.out] at h1
      rw [hrl2] at h2
      have h3 := hv2.out
      rw [List.take_of_length_le (by rw [Hyl.out]; omega)] at h3
      have h4 := hv.out
      rw [Nat.mul_one] at h4
      exact Nm.step_one HV0.out rfl hq.out.1 hq.out.2.1 h4 h1 h2 ho2 h3
    have Hf := Lib.hid hfin
    have hqi : 1 ≤ q := by rw [hfin.1]; exact Nat.le_add_left _ _
    clear hfin
    go_wp2_with fail
    go_ret
    refine ⟨q - 1, rs2, ret_int ?_, ⟨Nat.sub_eq_of_eq_add Hf.out.1, by have := hq.out.2.2; omega⟩, hrl2, hrd2, Hf.out.2, hw2.trans hw3 (by rw [hrl.out, hrl2])⟩
    have := hq.out.2.2
    omega
end Go.Proofs.YtjfehdkfogdpgaaGreatDoor
namespace Go.Proofs.YtjfehdkfogdpgaaGreatDoor
open Go.RowKit
theorem pow_split {s : Nat} (hs : s < 32) : 4294967296 = 2 ^ (32 - s) * 2 ^ s := by
  rw [← Nat.pow_add, show 32 - s + s = 32 from by omega]
theorem up_or {D s l : Nat} (hs : s < 32) (hl : l < 2 ^ s) : bits .or .u32 ((D : Int) * 2 ^ s % 4294967296) (l : Int) = ((D * 2 ^ s % 4294967296 + l : Nat) : Int) ∧ D * 2 ^ s % 4294967296 + l < 4294967296 := by
  have hp := pow_split hs
  have h1 : D * 2 ^ s % 4294967296 = D % 2 ^ (32 - s) * 2 ^ s := by rw [hp, Nat.mul_mod_mul_right]
  have h2 : D % 2 ^ (32 - s) < 2 ^ (32 - s) := Nat.mod_lt _ (Nat.pow_pos (by omega))
  have h3 : (D % 2 ^ (32 - s) + 1) * 2 ^ s ≤ 2 ^ (32 - s) * 2 ^ s := Nat.mul_le_mul_right _ h2
  rw [← hp, Nat.succ_mul] at h3
  have h4 : D * 2 ^ s % 4294967296 < 4294967296 := Nat.mod_lt _ (by decide)
  have h5 : l < 4294967296 := by omega
  have h6 := Nat.shiftLeft_add_eq_or_of_lt hl (D % 2 ^ (32 - s))
  rw [Nat.shiftLeft_eq] at h6
  refine ⟨?_, by rw [h1]; omega⟩
  rw [show ((D : Int) * 2 ^ s % 4294967296) = ((D * 2 ^ s % 4294967296 : Nat) : Int) from by simp, u32_or_nat _ _ h4 h5, h1, ← h6]
def UpRel (BB n s : Nat) (zs : List Nat) (w : World) (ov lv iv : Value) (wr : World) : Prop :=
  ∃ (k l : Nat) (rs : List Nat) (v : Value), k ≤ n ∧ ov = v ∧ Ow BB wr v rs ∧ Hid (rs.length = k) ∧ lv = .int .u32 (l : Int) ∧ Hid (l < 2 ^ s) ∧ iv = .int .i64 (k : Int) ∧ Nm.Dig rs ∧ Hid (Nm.val rs + 4294967296 ^ k * l = Nm.val (zs.take k) * 2 ^ s) ∧ Below BB w wr ∧ BB ≤ wr.heap.size
set_option maxRecDepth 20000 in
set_option maxHeartbeats 1000000 in
theorem shiftUp_any (A : Option Addr) (n c s : Nat) (zs : List Nat) (w : World) (h : Rd w A zs) (hzd : Nm.Dig zs) (hl : zs.length = n) (hm : n ≤ 1000) (hs : s < 32) :
    Calls Tryz.prog 112 #[.slice A n c, .int .i64 (s : Int)] w fun e w' => ∃ (A' : Option Addr) (c' : Nat) (rs : List Nat), e = .returned (.slice A' (n + 1) c') ∧ n + 1 ≤ c' ∧ Hid (rs.length = n + 1) ∧ Nm.Dig rs ∧ Hid (Nm.val rs = Nm.val zs * 2 ^ s) ∧ Fr w.heap.size w' A' rs ∧ Below w.heap.size w w' := by
  have hmk := fun W => make32 0 (n + 1) (Nat.zero_le _) (by omega) 0 ((n : Int) + 1) rfl (by omega) W
  have Hl := Lib.hid hl
  clear hl
  go_enter Tryz.func112, Tryz.ntmps112
  go_wp2_with fail
  go_loopw [5, 6, 15] (fun ov lv iv wr => UpRel w.heap.size n s zs w ov lv iv wr) (fun _ _ i _ => n - (intOf i).toNat)
  case atStart =>
    refine ⟨0, 0, [], _, Nat.zero_le _, rfl, ?_, rfl, rfl, Nat.pow_pos (by omega), rfl, Nm.Dig.nil, by show _ = _; simp [Nm.val], one _ _, by simp⟩
    refine ⟨by simp [dcells], .inr ⟨w.heap.size, n + 1, _, rfl, Nat.le_refl _, (MapKept.heap_alloc w _).1, Nat.zero_le _, by simp only [maxLen]; omega, ?_, by simp [dcells]⟩⟩
    have h1 := toList_madeCells_one (Value.int .u32 0) (n + 1)
    have h2 := congrArg List.length h1
    simpa using h2
  case round =>
    obtain ⟨k, l, rs, v, hk, hv, how, hrl, rfl, hls, rfl, hrd, hval, hbj, hBj⟩ := hrel
    obtain rfl := hv.symm
    by_cases hlt : k < n
    · have hkz : k < zs.length := by rw [Hl.out]; exact hlt
      obtain ⟨g, off, hA, hr⟩ := (h.below hbj).at_ hkz
      have c1 := hr k hkz
      obtain ⟨D, hD⟩ : ∃ D, zs[k] = D := ⟨_, rfl⟩
      rw [hD] at c1
      have hor := up_or (D := D) hs hls.out
      obtain ⟨z, hz⟩ : ∃ z, D * 2 ^ s % 4294967296 + l = z := ⟨_, rfl⟩
      rw [hz] at hor
      obtain ⟨hor, hz32⟩ := hor
      have Hz := Lib.hid hz
      have Hz32 := Lib.hid hz32
      subst hA
      have HD := Lib.hid hD
      clear hr hz hz32 hD
      go_wp2_with (at_builtin
                   refine wpList_push rfl (.tmp 19) (.tmp 25) rfl w.heap.size v rs z _ 1 rfl rfl (how.other (one _ _)) (by exact digit_cell _ z) (by rw [hrl.out]; omega) (by simp; omega) ?_
                   intro v4 w4 hown4 hg4 hat4)
      have hb4 := hbj.grown (grown_alloc hg4) hBj (fun k' hk' => (World.ownsRow.lt how k' hk').1)
      have hmul := pow_split hs
      have hDlt : D < 2 ^ (32 - s) * 2 ^ s := by rw [← hmul, ← HD.out]; exact hzd.at_ hkz
      have hstep : Hid (Nm.val (rs ++ [z]) + 4294967296 ^ (k + 1) * (D / 2 ^ (32 - s)) = Nm.val (zs.take (k + 1)) * 2 ^ s) := by
        show _ = _
        have e1 := hval.out
        have e2 : D * 2 ^ s % 4294967296 + 4294967296 * (D / 2 ^ (32 - s)) = D * 2 ^ s := by
          have h1 := Nat.mod_add_div (D * 2 ^ s) 4294967296
          have h2 : D * 2 ^ s / 4294967296 = D / 2 ^ (32 - s) := by rw [hmul]; exact Nat.mul_div_mul_right _ _ (Nat.pow_pos (by omega))
          rw [h2] at h1
          exact h1
        have e3 : z + 4294967296 * (D / 2 ^ (32 - s)) = D * 2 ^ s + l := by rw [← Hz.out]; omega
        have e4 := congrArg (fun t => 4294967296 ^ k * t) e3
        simp only [Nat.mul_add] at e4
        have e5 : Nm.val [z] = z := by simp [Nm.val]
        rw [Nm.val_append, e5, hrl.out, Nm.val_take_succ zs k hkz, HD.out, Nat.pow_succ, Nat.mul_assoc, Nat.add_mul, Nat.mul_assoc]
        omega
      refine ⟨⟨k + 1, D / 2 ^ (32 - s), rs ++ [z], v4, by omega, rfl, hown4, ?_, by simp, ?_, by go_num, hrd.append (Nm.Dig.mk Hz32.out Nm.Dig.nil), hstep, hb4, Nat.le_trans hBj (grown_alloc hg4).size⟩, by simp [intOf]; omega⟩
      · show _ = _
        rw [List.length_append, hrl.out]; rfl
      · show _ < _
        exact Nat.div_lt_of_lt_mul hDlt
    · have hkn : k = n := by omega
      subst hkn
      have hl32 : l < 4294967296 := by
        have h1 := hls.out
        have h2 : 2 ^ s ≤ 2 ^ 32 := Nat.pow_le_pow_right (by omega) (by omega)
        omega
      have Hl32 := Lib.hid hl32
      clear hl32
      go_wp2_with (at_builtin
                   refine wpList_push rfl (.tmp 32) (.tmp 34) rfl w.heap.size v rs l _ 1 rfl rfl (how.other (one _ _)) (by exact digit_cell _ l) (by rw [hrl.out]; omega) (by simp; omega) ?_
                   intro v4 w4 hown4 hg4 hat4)
      have hb4 := hbj.grown (grown_alloc hg4) hBj (fun k' hk' => (World.ownsRow.lt how k' hk').1)
      obtain ⟨A', c', hve, hcc, hfr⟩ := hown4.slice
      have hlen : (rs ++ [l]).length = k + 1 := by rw [List.length_append, hrl.out]; rfl
      rw [hlen] at hve hcc
      subst hve
      go_ret
      refine ⟨A', c', rfl, hcc, rs ++ [l], hlen, hrd.append (Nm.Dig.mk Hl32.out Nm.Dig.nil), ?_, hfr, hb4⟩
      show _ = _
      have e1 := hval.out
      have e5 : Nm.val [l] = l := by simp [Nm.val]
      rw [List.take_of_length_le (by rw [Hl.out]; exact Nat.le_refl _)] at e1
      rw [Nm.val_append, e5, hrl.out]
      exact e1
end Go.Proofs.YtjfehdkfogdpgaaGreatDoor
namespace Go.Proofs.YtjfehdkfogdpgaaGreatDoor
open Go.RowKit
theorem down_or {d s r : Nat} (hs : s < 32) (hd : d < 4294967296) (hr : r < 2 ^ s) : bits .or .u32 ((d : Int) / 2 ^ s) ((r * 2 ^ (32 - s) : Nat) : Int) = ((d / 2 ^ s + r * 2 ^ (32 - s) : Nat) : Int) ∧ d / 2 ^ s + r * 2 ^ (32 - s) < 4294967296 := by
  have hp := pow_split hs
  have h1 : d / 2 ^ s < 2 ^ (32 - s) := Nat.div_lt_of_lt_mul (by rw [Nat.mul_comm, ← hp]; exact hd)
  have h3 : (r + 1) * 2 ^ (32 - s) ≤ 2 ^ s * 2 ^ (32 - s) := Nat.mul_le_mul_right _ hr
  rw [Nat.mul_comm (2 ^ s), ← hp, Nat.succ_mul] at h3
  have h6 := Nat.shiftLeft_add_eq_or_of_lt h1 r
  rw [Nat.shiftLeft_eq] at h6
  have hlt : d / 2 ^ s + r * 2 ^ (32 - s) < 4294967296 := by
    generalize d / 2 ^ s = D at h1
    generalize 2 ^ (32 - s) = P at h1 h3
    generalize r * P = R at h3
    omega
  have hl2 : d / 2 ^ s < 4294967296 := Nat.lt_of_le_of_lt (Nat.le_add_right _ _) hlt
  have hl3 : r * 2 ^ (32 - s) < 4294967296 := Nat.lt_of_le_of_lt (Nat.le_add_left _ _) hlt
  refine ⟨?_, hlt⟩
  rw [show ((d : Int) / 2 ^ s) = ((d / 2 ^ s : Nat) : Int) from by simp, u32_or_nat _ _ hl2 hl3, Nat.or_comm, ← h6, Nat.add_comm]
theorem down_high {d s : Nat} (hs : s < 32) : d * 2 ^ (32 - s) % 4294967296 = d % 2 ^ s * 2 ^ (32 - s) := by
  have hp := pow_split hs
  rw [hp, Nat.mul_comm (2 ^ (32 - s)) (2 ^ s), Nat.mul_mod_mul_right]
theorem down_val {d s Z : Nat} (hs : s < 32) : (d + 4294967296 * Z) / 2 ^ s = d / 2 ^ s + Z % 2 ^ s * 2 ^ (32 - s) + 4294967296 * (Z / 2 ^ s) ∧ (d + 4294967296 * Z) % 2 ^ s = d % 2 ^ s := by
  have hp := pow_split hs
  have h0 : 0 < 2 ^ s := Nat.pow_pos (by omega)
  have h1 : 4294967296 * Z = 2 ^ s * (2 ^ (32 - s) * Z) := by rw [← Nat.mul_assoc, Nat.mul_comm (2 ^ s), ← hp]
  have h2 := Nat.div_add_mod Z (2 ^ s)
  have h3 : 2 ^ (32 - s) * Z = Z % 2 ^ s * 2 ^ (32 - s) + 4294967296 * (Z / 2 ^ s) := by
    have h4 := congrArg (fun t => 2 ^ (32 - s) * t) h2
    simp only [Nat.mul_add] at h4
    rw [← Nat.mul_assoc, ← hp, Nat.mul_comm (2 ^ (32 - s)) (Z % 2 ^ s)] at h4
    omega
  refine ⟨?_, ?_⟩
  · rw [h1, Nat.add_mul_div_left _ _ h0, h3, Nat.add_assoc]
  · rw [h1, Nat.add_mul_mod_self_left]
set_option maxRecDepth 20000 in
set_option maxHeartbeats 1000000 in
theorem shiftDown_any (A : Option Addr) (n c s : Nat) (zs : List Nat) (w : World) (h : Rd w A zs) (hzd : Nm.Dig zs) (hl : zs.length = n) (hm : n ≤ 1000) (hs : s < 32) :
    Calls Tryz.prog 114 #[.slice A n c, .int .i64 (s : Int)] w fun e w' => ∃ (A' : Option Addr) (c' : Nat) (rs : List Nat), e = .returned (.slice A' n c') ∧ n ≤ c' ∧ Hid (rs.length = n) ∧ Nm.Dig rs ∧ Hid (Nm.val rs = Nm.val zs / 2 ^ s) ∧ Fr w.heap.size w' A' rs ∧ Below w.heap.size w w' := by
  have hmk := fun W => make32 n n (Nat.le_refl _) (by omega) (n : Int) (n : Int) rfl rfl W
  have Hl := Lib.hid hl
  clear hl
  go_enter Tryz.func114, Tryz.ntmps114
  go_wp2_with fail
  go_loopw [6, 14] (fun hv iv wr => ∃ (k r : Nat) (qs : List Nat), k ≤ n ∧ iv = .int .i64 (k : Int) ∧ hv = .int .u32 ((r * 2 ^ (32 - s) : Nat) : Int) ∧ Hid (r = Nm.val (zs.drop (n - k)) % 2 ^ s) ∧ Hid (qs.length = n) ∧ Nm.Dig qs ∧ Hid (Nm.val (qs.drop (n - k)) = Nm.val (zs.drop (n - k)) / 2 ^ s) ∧ Own wr w.heap.size 0 qs ∧ Below w.heap.size w wr) (fun _ i _ => n - (intOf i).toNat)
  case atStart =>
    refine ⟨0, 0, List.replicate n 0, Nat.zero_le _, rfl, by simp, ?_, by show _ = _; simp, Nm.dig_replicate _, ?_, own_made w n, one _ _⟩
    · show _ = _
      rw [Nat.sub_zero, List.drop_of_length_le (by rw [Hl.out]; exact Nat.le_refl _)]
      simp [Nm.val]
    · show _ = _
      rw [Nat.sub_zero, List.drop_of_length_le (by simp), List.drop_of_length_le (by rw [Hl.out]; exact Nat.le_refl _)]
      simp [Nm.val]
  case round =>
    obtain ⟨k, r, qs, hk, rfl, rfl, hr, hql, hqd, hqv, hown, hb⟩ := hrel
    by_cases hlt : k < n
    · obtain ⟨i, hi⟩ : ∃ i, n = i + 1 + k := ⟨n - 1 - k, by omega⟩
      have hiz : i < zs.length := by rw [Hl.out]; omega
      have hiq : i < qs.length := by rw [hql.out]; omega
      obtain ⟨g, off, hA, hcell⟩ := h.at_ hiz
      have hg := hcell.lt (by omega)
      have hgne : ¬ g = w.heap.size := by omega
      have c1 := ((seen hb).1 g (off + i) hg).trans (hcell i hiz)
      obtain ⟨d, hd⟩ : ∃ d, zs[i] = d := ⟨_, rfl⟩
      rw [hd] at c1
      have hdlt : d < 4294967296 := by rw [← hd]; exact hzd.at_ hiz
      have c2 := hown.1 i hiq
      have f2 := hown.2 i hiq
      rw [Nat.zero_add] at c2 f2
      have hr2 := hr.out
      have hqv2 := hqv.out
      rw [show n - k = i + 1 from by omega] at hr2 hqv2
      have hrlt : r < 2 ^ s := by rw [hr2]; exact Nat.mod_lt _ (Nat.pow_pos (by omega))
      obtain ⟨hor, hz32⟩ := down_or hs hdlt hrlt
      obtain ⟨z, hz⟩ : ∃ z, d / 2 ^ s + r * 2 ^ (32 - s) = z := ⟨_, rfl⟩
      rw [hz] at hor hz32
      obtain ⟨hh, hhe⟩ : ∃ hh, r * 2 ^ (32 - s) = hh := ⟨_, rfl⟩
      rw [hhe] at hor ⊢
      have hdv := down_val (d := d) (Z := Nm.val (zs.drop (i + 1))) hs
      rw [← hr2, ← hqv2, hz] at hdv
      have hdz : Nm.val (zs.drop i) = d + 4294967296 * Nm.val (zs.drop (i + 1)) := by rw [Nm.val_drop zs i hiz, hd]
      rw [← hdz] at hdv
      have hdq : Nm.val ((qs.set i z).drop i) = z + 4294967296 * Nm.val (qs.drop (i + 1)) := by
        rw [List.drop_eq_getElem_cons (by simpa using hiq), List.getElem_set_self, List.drop_set_of_lt (by omega)]
        rfl
      have hhigh := down_high (d := d) hs
      have Hi := Lib.hid hi
      have Hdv := Lib.hid hdv
      have Hdq := Lib.hid hdq
      have Hhigh := Lib.hid hhigh
      have Hz32 := Lib.hid hz32
      have ix := fun V => index32 V w.heap.size 0 n n i ((n : Int) - 1 - (k : Int)) (by omega) (by omega)
      have iy := fun V => index32 V g off n c i ((n : Int) - 1 - (k : Int)) (by omega) (by omega)
      subst hA
      clear hcell hd hr2 hqv2 hrlt hz hhe hdv hdz hdq hhigh hi hz32
      go_wp2_with fail
      have hii : n - (k + 1) = i := by have := Hi.out; omega
      refine ⟨⟨k + 1, d % 2 ^ s, qs.set i z, by omega, by go_num, by rw [← Hhigh.out]; simp, ?_, ?_, hqd.set _ Hz32.out, ?_, ?_, hb.setCell (Nat.le_refl _) _⟩, by simp [intOf]; omega⟩
      · show _ = _
        rw [hii]
        exact Hdv.out.2.symm
      · show _ = _
        rw [List.length_set]; exact hql.out
      · show _ = _
        rw [hii, Hdq.out]
        exact Hdv.out.1.symm
      · have := hown.set i z
        rwa [Nat.zero_add] at this
    · have hkn : k = n := by omega
      subst hkn
      have hfin : Nm.val qs = Nm.val zs / 2 ^ s := by
        have h1 := hqv.out
        rw [Nat.sub_self, List.drop_zero, List.drop_zero] at h1
        exact h1
      have Hf := Lib.hid hfin
      clear hfin
      go_wp2_with fail
      go_ret
      exact ⟨some ⟨w.heap.size, 0, none⟩, k, qs, rfl, Nat.le_refl _, hql, hqd, Hf, .inr ⟨_, _, rfl, Nat.le_refl _, hown⟩, hb⟩
end Go.Proofs.YtjfehdkfogdpgaaGreatDoor
namespace Go.Proofs.YtjfehdkfogdpgaaGreatDoor
open Go.RowKit
namespace Nm
theorem val_small {zs : List Nat} {n : Nat} (h : val zs < 4294967296 ^ n) : val (zs.take n) = val zs ∧ val (zs.drop n) = 0 := by
  rcases Nat.lt_or_ge zs.length n with h1 | h1
  · rw [List.take_of_length_le (by omega), List.drop_of_length_le (by omega)]
    exact ⟨rfl, rfl⟩
  · have h2 := val_split zs n h1
    rcases Nat.eq_zero_or_pos (val (zs.drop n)) with h3 | h3
    · rw [h3] at h2
      exact ⟨by omega, h3⟩
    · exfalso
      have h4 := Nat.mul_le_mul_left (4294967296 ^ n) h3
      omega
theorem top_norm {ys vs : List Nat} {n s x : Nat} (hyl : ys.length = n + 1) (hvl : vs.length = n + 1) (hvd : Dig vs) (hx : ys[n]'(by omega) = x) (hs : 2147483648 ≤ x * 2 ^ s) (hv : val vs = val ys * 2 ^ s) : 2147483648 ≤ vs[n]'(by omega) := by
  have h1 := val_take_succ ys n (by omega)
  have h2 := val_take_succ vs n (by omega)
  rw [List.take_of_length_le (by omega), hx] at h1
  rw [List.take_of_length_le (by omega)] at h2
  have h3 := val_lt (hvd.take n)
  rw [List.length_take, Nat.min_eq_left (by omega)] at h3
  obtain ⟨t, ht⟩ : ∃ t, vs[n]'(by omega) = t := ⟨_, rfl⟩
  rw [ht] at h2 ⊢
  rcases Nat.lt_or_ge t 2147483648 with h4 | h4
  · exfalso
    have h5 : val vs < 4294967296 ^ n * 2147483648 := by
      have h6 : 4294967296 ^ n * (t + 1) ≤ 4294967296 ^ n * 2147483648 := Nat.mul_le_mul_left _ h4
      rw [Nat.mul_succ] at h6
      omega
    have h7 : 4294967296 ^ n * x * 2 ^ s ≤ val ys * 2 ^ s := Nat.mul_le_mul_right _ (by omega)
    have h8 : 4294967296 ^ n * 2147483648 ≤ 4294967296 ^ n * (x * 2 ^ s) := Nat.mul_le_mul_left _ hs
    rw [← Nat.mul_assoc] at h8
    omega
  · exact h4
theorem zeros_norm {x : Nat} (h0 : 0 < x) (hx : x < 4294967296) : 32 - blen x < 32 ∧ 2147483648 ≤ x * 2 ^ (32 - blen x) ∧ (x + 1) * 2 ^ (32 - blen x) ≤ 4294967296 := by
  have h1 : blen x = Nat.log2 x + 1 := by unfold blen; rw [if_neg (by omega)]
  have h2 : 2 ^ Nat.log2 x ≤ x := Nat.log2_self_le (by omega)
  have h3 : x < 2 ^ (Nat.log2 x + 1) := Nat.lt_log2_self
  have h4 := blen_lt (x := x) (k := 32) (by omega)
  obtain ⟨b, hb⟩ : ∃ b, Nat.log2 x = b := ⟨_, rfl⟩
  rw [hb] at h1 h2 h3
  rw [h1] at h4 ⊢
  refine ⟨by omega, ?_, ?_⟩
  · have h5 : 2 ^ b * 2 ^ (32 - (b + 1)) ≤ x * 2 ^ (32 - (b + 1)) := Nat.mul_le_mul_right _ h2
    rw [← Nat.pow_add, show b + (32 - (b + 1)) = 31 from by omega] at h5
    exact h5
  · have h5 : (x + 1) * 2 ^ (32 - (b + 1)) ≤ 2 ^ (b + 1) * 2 ^ (32 - (b + 1)) := Nat.mul_le_mul_right _ h3
    rw [← Nat.pow_add, show b + 1 + (32 - (b + 1)) = 32 from by omega] at h5
    exact h5
theorem norm_fits {ys : List Nat} {n s x : Nat} (hyd : Dig ys) (hyl : ys.length = n + 1) (hx : ys[n]'(by omega) = x) (h : (x + 1) * 2 ^ s ≤ 4294967296) : val ys * 2 ^ s < 4294967296 ^ (n + 1) := by
  have h1 := val_take_succ ys n (by omega)
  rw [List.take_of_length_le (by omega), hx] at h1
  have h3 := val_lt (hyd.take n)
  rw [List.length_take, Nat.min_eq_left (by omega)] at h3
  have h0 : 0 < 2 ^ s := Nat.pow_pos (by omega)
  have h4 : val ys < 4294967296 ^ n * (x + 1) := by rw [Nat.mul_succ]; omega
  have h5 : val ys * 2 ^ s < 4294967296 ^ n * (x + 1) * 2 ^ s := Nat.mul_lt_mul_of_pos_right h4 h0
  have h6 : 4294967296 ^ n * ((x + 1) * 2 ^ s) ≤ 4294967296 ^ n * 4294967296 := Nat.mul_le_mul_left _ h
  rw [← Nat.mul_assoc] at h6
  rw [Nat.pow_succ]
  omega
theorem long_start {us vs xs : List Nat} {L n s : Nat} (hxd : Dig xs) (hxl : xs.length + 1 = L + (n + 1)) (hul : us.length = L + (n + 1)) (hu : val us = val xs * 2 ^ s) (hs : s < 32) (hvl : vs.length = n + 1) (htop : 2147483648 ≤ vs[n]'(by omega)) : val (us.drop L) < val vs := by
  have h1 := val_split us L (by omega)
  have h2 := val_take_succ vs n (by omega)
  rw [List.take_of_length_le (by omega)] at h2
  have h3 : 4294967296 ^ n * 2147483648 ≤ val vs := by
    have := Nat.mul_le_mul_left (4294967296 ^ n) htop
    omega
  have h4 := val_lt hxd
  rw [show xs.length = L + n from by omega, Nat.pow_add] at h4
  have h0 : 0 < 2 ^ s := Nat.pow_pos (by omega)
  have h5 : val xs * 2 ^ s < 4294967296 ^ L * 4294967296 ^ n * 2 ^ s := Nat.mul_lt_mul_of_pos_right h4 h0
  have h6 : 2 ^ s ≤ 2147483648 := by
    have : 2 ^ s ≤ 2 ^ 31 := Nat.pow_le_pow_right (by omega) (by omega)
    exact this
  have h7 : 4294967296 ^ n * 2 ^ s ≤ 4294967296 ^ n * 2147483648 := Nat.mul_le_mul_left _ h6
  rw [← hu, Nat.mul_assoc] at h5
  have h8 : 4294967296 ^ L * val (us.drop L) < 4294967296 ^ L * (4294967296 ^ n * 2 ^ s) := by omega
  have h9 := Nat.lt_of_mul_lt_mul_left h8
  omega
theorem drop_put (qs : List Nat) (j d : Nat) (h : j < qs.length) : val ((qs.set j d).drop j) = d + 4294967296 * val (qs.drop (j + 1)) := by
  rw [List.drop_eq_getElem_cons (by simpa using h), List.getElem_set_self, List.drop_set_of_lt (by omega)]
  rfl
theorem long_step {rs qs part rs' : List Nat} {i n Q V U : Nat} (hi : i < qs.length) (hir : i + n + 1 ≤ rs.length) (hpart : part = (rs.drop i).take (n + 1)) (hl' : rs'.length = n + 1) (hrd : Dig rs)
    (hV : V ≤ 4294967296 ^ n) (hlt : val (rs.drop (i + 1)) < V) (hU : U = 4294967296 ^ (i + 1) * val (qs.drop (i + 1)) * V + val rs) (hQ : Q = val part / V) (hR : val rs' = val part % V) :
    val part < 4294967296 * V ∧ val ((rs.take i ++ rs' ++ rs.drop (i + rs'.length)).drop i) < V ∧ U = 4294967296 ^ i * val ((qs.set i Q).drop i) * V + val (rs.take i ++ rs' ++ rs.drop (i + rs'.length)) := by
  have h1 := val_small (n := n) (Nat.lt_of_lt_of_le hlt hV)
  have hV0 : 0 < V := by omega
  have hir' : i < rs.length := by omega
  have hd : val (rs.drop i) = rs[i] + 4294967296 * val (rs.drop (i + 1)) := val_drop rs i hir'
  have hpv : val part = val (rs.drop i) := by
    rw [hpart, List.drop_eq_getElem_cons hir', List.take_succ_cons]
    show rs[i] + 4294967296 * val ((rs.drop (i + 1)).take n) = rs[i] + 4294967296 * val (rs.drop (i + 1))
    rw [h1.1]
  have hrl := hrd.at_ hir'
  have hplt : val part < 4294967296 * V := by
    rw [hpv, hd]
    omega
  have hz : val (rs.drop (i + rs'.length)) = 0 := by
    have := h1.2
    rw [List.drop_drop] at this
    rw [hl', show i + (n + 1) = i + 1 + n from by omega]
    exact this
  have hlen : (rs.take i).length = i := by rw [List.length_take]; omega
  have hdrop : (rs.take i ++ rs' ++ rs.drop (i + rs'.length)).drop i = rs' ++ rs.drop (i + rs'.length) := by
    rw [List.append_assoc, List.drop_append, hlen, Nat.sub_self, List.drop_of_length_le (by omega)]
    rfl
  have hv2 : val (rs' ++ rs.drop (i + rs'.length)) = val rs' := by rw [val_append, hz, Nat.mul_zero, Nat.add_zero]
  refine ⟨hplt, ?_, ?_⟩
  · rw [hdrop, hv2, hR]
    exact Nat.mod_lt _ hV0
  · have h3 : val rs = val (rs.take i) + 4294967296 ^ i * val part := by rw [hpv]; exact val_split rs i (by omega)
    have h4 : val (rs.take i ++ rs' ++ rs.drop (i + rs'.length)) = val (rs.take i) + 4294967296 ^ i * val rs' := by
      rw [List.append_assoc, val_append, hv2, hlen]
    have h5 := Nat.div_add_mod (val part) V
    rw [← hQ, ← hR] at h5
    rw [h4, drop_put qs i Q hi, hU, h3, ← h5]
    rw [Nat.mul_add (4294967296 ^ i) (V * Q), Nat.mul_add (4294967296 ^ i) Q, Nat.add_mul, Nat.pow_succ, Nat.mul_comm V Q]
    rw [Nat.mul_assoc (4294967296 ^ i) 4294967296, Nat.mul_assoc (4294967296 ^ i) Q V]
    omega
theorem long_end {X Y Q R s : Nat} (h : X * 2 ^ s = Q * (Y * 2 ^ s) + R) (hR : R < Y * 2 ^ s) : X = Q * Y + R / 2 ^ s ∧ R / 2 ^ s < Y := by
  have h0 : 0 < 2 ^ s := Nat.pow_pos (by omega)
  refine ⟨?_, by rw [Nat.div_lt_iff_lt_mul h0]; exact hR⟩
  rw [← Nat.mul_assoc] at h
  have h1 : R = (X - Q * Y) * 2 ^ s := by rw [Nat.sub_mul]; omega
  have h2 : Q * Y ≤ X := by
    rcases Nat.lt_or_ge X (Q * Y) with h3 | h3
    · exfalso
      have h4 : (X + 1) * 2 ^ s ≤ Q * Y * 2 ^ s := Nat.mul_le_mul_right _ h3
      rw [Nat.succ_mul] at h4
      omega
    · exact h3
  rw [h1, Nat.mul_div_cancel _ h0]
  omega
end Nm
theorem slice_hm (g off N C j k : Nat) (a b : Int) (ha : a = (j : Int)) (hb : b = (k : Int)) (h1 : j ≤ k) (h2 : k ≤ C) (h3 : 0 < k) (W : World) :
    (Instr.sliceAt 22 (.slice (some ⟨g, off, none⟩) N C) none (some (.int .i64 a)) (some (.int .i64 b))).run Tryz.prog W = .ok (.slice (some ⟨g, off, none⟩) j k) W := by
  obtain ⟨t, ht, _, hs, _⟩ := info35_parts
  subst ha hb
  have hu : Tryz.prog.underlying 22 = some (.slice (Tryz.prog.elem 22)) := by kernel_rfl
  have he : Tryz.prog.elem 22 = 59 := by kernel_rfl
  rw [run_sliceAt_slice (h := hu), run_slice_hm (ht := hu) (h0 := by omega) (h2 := by omega) (h3 := by omega), he]
  simp [sliced, sizeOf, typeInfo, ht, hs, Addr.add_lit, show k ≠ 0 from by omega]
end Go.Proofs.YtjfehdkfogdpgaaGreatDoor
namespace Go.Proofs.YtjfehdkfogdpgaaGreatDoor
open Go.RowKit
theorem divideStep_n (g off c d N K : Nat) (B : Option Addr) (zs ys : List Nat) (w : World) (ho : Own w g off zs) (hy : Rd w B ys) (hf : Off g B ys) (hzd : Nm.Dig zs) (hyd : Nm.Dig ys) (hl : zs.length = N + 1) (hyl : ys.length = N) (hK : K = N + 1) (hN : 2 ≤ N) (hm : N ≤ 900) (htop : 2147483648 ≤ ys[N - 1]'(by omega)) (hlt : Nm.val zs < 4294967296 * Nm.val ys) :
    Calls Tryz.prog 113 #[.slice (some ⟨g, off, none⟩) K c, .slice B N d] w fun e w' => ∃ (q : Nat) (rs : List Nat), e = .returned (.int .u32 q) ∧ Hid (q = Nm.val zs / Nm.val ys ∧ q < 4294967296) ∧ Hid (rs.length = N + 1) ∧ Nm.Dig rs ∧ Hid (Nm.val rs = Nm.val zs % Nm.val ys) ∧ Wr w w' g off rs := by
  subst hK
  obtain ⟨m, rfl⟩ : ∃ m, N = m + 2 := ⟨N - 2, by omega⟩
  exact divideStep_any g off c d m B zs ys w ho hy hf hzd hyd hl hyl (by omega) htop hlt
def LongRel (G g2 off2 L M : Nat) (B1 : Option Addr) (vs : List Nat) (U : Nat) (w : World) (iv : Value) (wr : World) : Prop :=
  ∃ (k : Nat) (qs rs : List Nat), k ≤ L ∧ iv = .int .i64 (k : Int) ∧ Hid (qs.length = L) ∧ Nm.Dig qs ∧ Hid (rs.length = M + 1) ∧ Nm.Dig rs ∧ Hid (U = 4294967296 ^ (L - k) * Nm.val (qs.drop (L - k)) * Nm.val vs + Nm.val rs) ∧ Hid (Nm.val (rs.drop (L - k)) < Nm.val vs) ∧ Own wr G 0 qs ∧ Own wr g2 off2 rs ∧ Rd wr B1 vs ∧ Below w.heap.size w wr
set_option maxRecDepth 20000 in
set_option maxHeartbeats 2000000 in
theorem divideLong_any (A B : Option Addr) (X Y : List Nat) (M N : Nat) (w : World) (hx : Rd w A X) (hy : Rd w B Y) (hxd : Nm.Dig X) (hyd : Nm.Dig Y) (hXl : X.length = M) (hYl : Y.length = N) (hM : M ≤ 900) (hN : 2 ≤ N) (hNM : N ≤ M) (ht : Nm.tlen Y = N) :
    Calls Tryz.prog 103 #[.slice A M M, .slice B N N] w (DivPost w X Y) := by
  have hYi : N - 1 < Y.length := by omega
  have hlen : Y[N - 1]'hYi ≠ 0 := Nm.tlen_last Y (N - 1) (by omega) (by omega)
  obtain ⟨g, off, hB, hr⟩ := hy.at_ (i := N - 1) hYi
  have ctop := hr (N - 1) hYi
  have htlt := hyd.at_ (i := N - 1) hYi
  obtain ⟨x, hxx⟩ : ∃ x, Y[N - 1]'hYi = x := ⟨_, rfl⟩
  rw [hxx] at hlen ctop htlt
  obtain ⟨hs32, hnorm, hnormlt⟩ := Nm.zeros_norm (by omega : 0 < x) htlt
  obtain ⟨s, hs⟩ : ∃ s, 32 - Nm.blen x = s := ⟨_, rfl⟩
  have hz := fun W => zeros32_any x W htlt
  rw [hs] at hs32 hnorm hnormlt
  simp only [hs] at hz
  have Hz := Lib.hid hz
  have Hxx := Lib.hid hxx
  have Hnorm := Lib.hid hnorm
  have Hnormlt := Lib.hid hnormlt
  have HXl := Lib.hid hXl
  have HYl := Lib.hid hYl
  have HT := Lib.hid ht
  have ix := fun V => index32 V g off N N (N - 1) ((N : Int) - 1) (by omega) (by omega)
  subst hB
  clear hr htlt hxx hs hz hlen hnorm hnormlt hXl hYl ht
  go_enter Tryz.func103, Tryz.ntmps103
  go_wp2_with fail
  refine (Hz.out _).mono ?_
  rintro e w1 ⟨rfl, rfl⟩
  go_wp2_with fail
  refine (shiftUp_any _ N N s Y _ hy hyd HYl.out (by omega) hs32).mono ?_
  rintro e w1 ⟨A1, c1, ws, rfl, hc1, hwl, hwd, hwv, hwf, hb1⟩
  obtain ⟨g1, off1, rfl, hg1, ho1⟩ := hwf.own (by intro e; have := hwl.out; rw [e] at this; simp at this)
  have hsl1 := fun V => slice_hm g1 off1 (N + 1) c1 N N (N : Int) (N : Int) rfl rfl (Nat.le_refl _) (by omega) (by omega) V
  have hx1 := hx.below hb1
  go_wp2_with fail
  refine (shiftUp_any _ M M s X _ hx1 hxd HXl.out (by omega) hs32).mono ?_
  rintro e w2 ⟨A2, c2, us, rfl, hc2, hul, hud, huv, huf, hb2⟩
  obtain ⟨g2, off2, rfl, hg2, ho2⟩ := huf.own (by intro e; have := hul.out; rw [e] at this; simp at this)
  obtain ⟨L, hL⟩ : ∃ L, M + 1 = L + N := ⟨M + 1 - N, by omega⟩
  have hL1 : 1 ≤ L := by omega
  have hLM : L ≤ M := by omega
  have hmk := fun V => make32 L L (Nat.le_refl _) (by omega) (L : Int) (L : Int) rfl rfl V
  obtain ⟨n, hn⟩ : ∃ n, N = n + 1 := ⟨N - 1, by omega⟩
  obtain ⟨vs, hvs⟩ : ∃ vs, ws.take N = vs := ⟨_, rfl⟩
  have hvl : vs.length = N := by rw [← hvs, List.length_take]; have := hwl.out; omega
  have hvd : Nm.Dig vs := by rw [← hvs]; exact hwd.take N
  have hfit : Nm.val Y * 2 ^ s < 4294967296 ^ N := by
    subst hn
    exact Nm.norm_fits hyd HYl.out Hxx.out Hnormlt.out
  have hvv : Nm.val vs = Nm.val Y * 2 ^ s := by
    rw [← hvs, (Nm.val_small (n := N) (by rw [hwv.out]; exact hfit)).1, hwv.out]
  have hvi : N - 1 < vs.length := by omega
  have hvtop : 2147483648 ≤ vs[N - 1]'hvi := by
    subst hn
    exact Nm.top_norm HYl.out hvl hvd Hxx.out Hnorm.out hvv
  have hstart : Nm.val (us.drop L) < Nm.val vs := by
    subst hn
    exact Nm.long_start hxd (by rw [HXl.out]; exact hL) (by rw [hul.out]; exact hL) huv.out hs32 hvl hvtop
  have hg1w : g1 < w1.heap.size := ho1.1.lt (by have := hwl.out; omega)
  have hg2w : g2 < w2.heap.size := ho2.1.lt (by have := hul.out; omega)
  have hw12 := hb2.size
  have hg12 : g1 ≠ g2 := by omega
  have hg1G : g1 ≠ w2.heap.size := by omega
  have hg2G : g2 ≠ w2.heap.size := by omega
  have hwg2 : w.heap.size ≤ g2 := Nat.le_trans hb1.size hg2
  have hwG : w.heap.size ≤ w2.heap.size := Nat.le_trans hb1.size hw12
  have hrv1 : Rd w2 (some ⟨g1, off1, none⟩) vs := by
    have h1 : Rd w1 (some ⟨g1, off1, none⟩) ws := .inr ⟨_, _, rfl, ho1.1⟩
    have h2 := (h1.below hb2).take N
    rwa [hvs] at h2
  have hb12 := up hb1 hb2
  have hone := one w2 (Obj.cells (madeCells #[Value.int IntKind.u32 0] L) 59)
  have Hvl := Lib.hid hvl
  have Hvv := Lib.hid hvv
  have Hfit := Lib.hid hfit
  have Hvtop := Lib.hid hvtop
  have HL := Lib.hid hL
  have HU := Lib.hid (rfl : Nm.val X * 2 ^ s = Nm.val X * 2 ^ s)
  have hfirst : LongRel w2.heap.size g2 off2 L M (some ⟨g1, off1, none⟩) vs (Nm.val X * 2 ^ s) w (.int .i64 0) (w2.alloc (Obj.cells (madeCells #[Value.int IntKind.u32 0] L) 59)) := by
    refine ⟨0, List.replicate L 0, us, Nat.zero_le _, rfl, by show _ = _; simp, Nm.dig_replicate _, hul, hud, ?_, hstart, own_made w2 L, ho2.of_block (hone.block g2 hg2w), hrv1.below hone, up hb12 hone⟩
    show _ = _
    rw [Nat.sub_zero, List.drop_of_length_le (by simp), huv.out]
    simp [Nm.val]
  have Hfirst := Lib.hid hfirst
  clear hvl hvv hfit hvtop hstart hfirst hone hn hvs
  go_wp2_with fail
  go_loopw [35] (fun iv wr => LongRel w2.heap.size g2 off2 L M (some ⟨g1, off1, none⟩) vs (Nm.val X * 2 ^ s) w iv wr) (fun i _ => L - (intOf i).toNat)
  case atStart => exact Hfirst.out
  case round =>
    obtain ⟨k, qs, rs, hk, rfl, hql, hqd, hrl, hrd, hUv, hlt, hownq, hownr, hrv, hb⟩ := hrel
    by_cases hkl : k < L
    · obtain ⟨i, hi⟩ : ∃ i, L = i + 1 + k := ⟨L - 1 - k, by omega⟩
      have hsl := fun V => slice32 g2 off2 (L + N) c2 i (i + N + 1) ((L : Int) - 1 - (k : Int)) ((L : Int) - 1 - (k : Int) + (N : Int) + 1) (by omega) (by omega) (by omega) (by omega) (by omega) V
      rw [show i + N + 1 - i = N + 1 from by omega] at hsl
      have hix := fun V => index32 V w2.heap.size 0 L L i ((L : Int) - 1 - (k : Int)) (by omega) (by omega)
      have hiq : i < qs.length := by rw [hql.out]; omega
      have hir : i + N + 1 ≤ rs.length := by rw [hrl.out]; omega
      have hUv2 := hUv.out
      have hlt2 := hlt.out
      rw [show L - k = i + 1 from by omega] at hUv2 hlt2
      have hpart := hownr.part i (N + 1)
      obtain ⟨part, hpe⟩ : ∃ part, (rs.drop i).take (N + 1) = part := ⟨_, rfl⟩
      have hpl : part.length = N + 1 := by rw [← hpe, List.length_take, List.length_drop]; omega
      have hpd : Nm.Dig part := by rw [← hpe]; exact (hrd.drop i).take (N + 1)
      have hVb : Nm.val vs ≤ 4294967296 ^ N := by rw [Hvv.out]; exact Nat.le_of_lt Hfit.out
      have hround := fun (rs' : List Nat) (Q : Nat) (hl' : rs'.length = N + 1) (hQ : Q = Nm.val part / Nm.val vs) (hR : Nm.val rs' = Nm.val part % Nm.val vs) => Nm.long_step hiq hir hpe.symm hl' hrd hVb hlt2 hUv2 hQ hR
      have hplt : Nm.val part < 4294967296 * Nm.val vs := by
        have h1 := Nm.val_small (n := N) (Nat.lt_of_lt_of_le hlt2 hVb)
        have hir' : i < rs.length := by omega
        have hd : Nm.val (rs.drop i) = rs[i] + 4294967296 * Nm.val (rs.drop (i + 1)) := Nm.val_drop rs i hir'
        have hpv : Nm.val part = Nm.val (rs.drop i) := by
          rw [← hpe, List.drop_eq_getElem_cons hir', List.take_succ_cons]
          show rs[i] + 4294967296 * Nm.val ((rs.drop (i + 1)).take N) = rs[i] + 4294967296 * Nm.val (rs.drop (i + 1))
          rw [h1.1]
        have := hrd.at_ hir'
        rw [hpv, hd]
        omega
      rw [hpe] at hpart
      have hcall := divideStep_n g2 (off2 + i) (c2 - i) N N (N + 1) (some ⟨g1, off1, none⟩) part vs wr hpart hrv (.inr ⟨_, _, rfl, hg12⟩) hpd hvd hpl Hvl.out rfl hN (by omega) Hvtop.out hplt
      have Hcall := Lib.hid hcall
      have Hround := Lib.hid hround
      have Hi := Lib.hid hi
      clear hUv2 hlt2 hpart hpe hpl hpd hVb hround hplt hcall hi
      go_wp2_with fail
      refine Hcall.out.mono ?_
      rintro e w3 ⟨q, rs', rfl, hq, hrl', hrd', hrv', hwr⟩
      have hownr2 := hownr.splice (k := i) hwr (by rw [hrl'.out]; omega)
      have hownq3 : Own w3 w2.heap.size 0 qs := hownq.of_block (hwr.grown.block w2.heap.size (hownq.1.lt (by omega)) (by intro e; injection e with e; omega))
      have hrv3 := hrv.wr hwr (.inr ⟨_, _, rfl, hg12⟩)
      have hb3 := Wr.below hb hwr (by omega : w.heap.size ≤ g2) hb.size
      have c3 := hownq3.1 i hiq
      have f3 := hownq3.2 i hiq
      have hset := (Wr.refl hownq3).set i hiq q
      rw [Nat.zero_add] at c3 f3 hset
      have hownr4 := hownr2.of_block (hset.grown.block g2 (hownr2.1.lt (by rw [List.length_append, List.length_append, hrl'.out]; omega)) (by intro e; injection e with e; omega))
      have hrv4 := hrv3.wr hset (.inr ⟨_, _, rfl, hg1G⟩)
      have hb4 : Below w.heap.size w (w3.setCell ⟨w2.heap.size, i, none⟩ (.int .u32 (q : Int))) := hb3.setCell hwG _
      have hnew := Hround.out rs' q hrl'.out hq.out.1 hrv'.out
      have Hnew := Lib.hid hnew
      have Hset := Lib.hid hset
      clear hnew hset
      go_wp2_with fail
      go_roundw
      case rel =>
        have hii : L - (k + 1) = i := by have := Hi.out; omega
        refine ⟨k + 1, qs.set i q, rs.take i ++ rs' ++ rs.drop (i + rs'.length), by omega, by go_num, ?_, hqd.set _ hq.out.2, ?_, ((hrd.take i).append hrd').append (hrd.drop _), ?_, ?_, Hset.out.own, hownr4, hrv4, hb4⟩
        · show _ = _
          rw [List.length_set]; exact hql.out
        · show _ = _
          have := hrl.out
          have := hrl'.out
          simp
          omega
        · show _ = _
          rw [hii]
          exact Hnew.out.2.2
        · show _ < _
          rw [hii]
          exact Hnew.out.2.1
      case measure => simp [intOf]; omega
    · have hkL : k = L := by omega
      subst hkL
      have hsl := fun V => slice_hm g2 off2 (k + N) c2 N N (N : Int) (N : Int) rfl rfl (Nat.le_refl _) (by omega) (by omega) V
      have hUv2 := hUv.out
      have hlt2 := hlt.out
      rw [Nat.sub_self, List.drop_zero] at hlt2
      rw [Nat.sub_self, List.drop_zero, Nat.pow_zero, Nat.one_mul, Hvv.out] at hUv2
      rw [Hvv.out] at hlt2
      have hend := Nm.long_end hUv2 hlt2
      have hval : Nm.val (rs.take N) = Nm.val rs := (Nm.val_small (n := N) (Nat.lt_trans hlt2 Hfit.out)).1
      have hdown := shiftDown_any (some ⟨g2, off2, none⟩) N N s (rs.take N) wr ((Rd.take (.inr ⟨_, _, rfl, hownr.1⟩) N)) (hrd.take N) (by rw [List.length_take, hrl.out]; omega) (by omega) hs32
      rw [hval] at hdown
      have Hend := Lib.hid hend
      have Hdown := Lib.hid hdown
      clear hUv2 hlt2 hend hval hdown
      go_wp2_with fail
      refine Hdown.out.mono ?_
      rintro e w4 ⟨A4, c4, ds, rfl, hc4, hdl, hdd, hdv, hdf, hb4⟩
      go_wp2_with fail
      go_ret2
      refine ⟨some ⟨w2.heap.size, 0, none⟩, A4, k, c4, qs, ds, by rw [hql.out, hdl.out]; rfl, by rw [hql.out]; exact Nat.le_refl _, by rw [hdl.out]; exact hc4, by rw [hql.out, HXl.out]; exact hLM, by rw [hdl.out, HYl.out]; omega, hqd, hdd, Fr.below (.inr ⟨_, _, rfl, hwG, hownq⟩) hb4, hdf.mono hb.size, ?_, up hb hb4⟩
      show _ ∧ _
      rw [hdv.out]
      exact Hend.out
set_option maxHeartbeats 400000 in
theorem divide_long (A B : Option Addr) (X Y : List Nat) (n m : Nat) (w : World) (hx : Rd w A X) (hy : Rd w B Y) (hxd : Nm.Dig X) (hyd : Nm.Dig Y) (hXl : X.length = n) (hYl : Y.length = m) (hn : n ≤ 900) (hm : 2 ≤ m) (hmn : m ≤ n) (ht : Nm.tlen Y = m) :
    Calls Tryz.prog 85 #[.slice A n n, .slice B m m] w (DivPost w X Y) := by
  have hcall := divideLong_any A B X Y n m w hx hy hxd hyd hXl hYl hn hm hmn ht
  have Hcall := Lib.hid hcall
  clear hcall hXl hYl ht
  go_enter Tryz.func85, Tryz.ntmps85
  go_wp2_with fail
  refine Hcall.out.mono ?_
  rintro e w' ⟨A1, A2, c1, c2, qs, rs, rfl, h1, h2, h3, h4, h5, h6, h7, h8, h9, h10⟩
  go_wp2_with fail
  go_ret2
  exact ⟨A1, A2, c1, c2, qs, rs, rfl, h1, h2, h3, h4, h5, h6, h7, h8, h9, h10⟩
theorem divOk_all : DivOk 900 := by
  intro A B X Y n m w hx hy hxd hyd hXl hYl hn hm0 hm ht
  rcases Nat.lt_or_ge n m with h | h
  · exact divide_less A B X Y n m w hx hxd hXl hYl hn ht h
  · rcases Nat.lt_or_ge 1 m with h1 | h1
    · exact divide_long A B X Y n m w hx hy hxd hyd hXl hYl hn h1 h ht
    · exact divide_one A B X Y n m w hx hy hxd hyd hXl hYl hn (by omega) ht (by omega)
end Go.Proofs.YtjfehdkfogdpgaaGreatDoor

/-
  A region whose first operations only add memory, in any order, and whose last ones each come behind all before them. No conditions beyond those that it names.
-/
import Derived.Test.YtcjaaijohapeaaaDoorK03
namespace Go.Proofs.YtcjaaijohapeaaaDoor
open Go.RowKit
/-- The operations that an operation waits for, by way of others too, as bits of a number. -/
def maskOf (acc : List Nat) (es : List Nat) : Nat := es.foldl (fun m e => m ||| (1 <<< e) ||| acc.getD e 0) 0
def masks : List Nat → List (List Nat) → List Nat
  | acc, [] => acc
  | acc, es :: ess => masks (acc ++ [maskOf acc es]) ess
def edgesOf (o : Oper) : List Nat := (o.after.toList.filter fun e => Region.binds .any e).map fun e => e.on
theorem edgesOf_mem {o : Oper} {j : Nat} : j ∈ edgesOf o ↔ ∃ e ∈ o.after, Region.binds .any e = true ∧ e.on = j := by
  simp [edgesOf, and_assoc]
/-- From index k on, each operation comes behind all before it. -/
def seqC (ops : List Oper) (k : Nat) : Bool :=
  true && (List.range ops.length).all fun i => decide (i < k) || (List.range i).all fun j => ((masks [] (ops.map edgesOf)).getD i 0).testBit j
theorem maskOf_sound (L : Nat → Prop) (acc : List Nat) (hacc : ∀ e j, (acc.getD e 0).testBit j = true → L e → L j) :
    ∀ (es : List Nat) (m : Nat), (∀ e ∈ es, L e) → (∀ j, m.testBit j = true → L j) → ∀ j, (es.foldl (fun m e => m ||| (1 <<< e) ||| acc.getD e 0) m).testBit j = true → L j := by
  intro es
  induction es with
  | nil => intro m _ hm j hj; exact hm j hj
  | cons e es ih =>
    intro m hes hm j hj
    refine ih _ (fun x hx => hes x (List.mem_cons_of_mem _ hx)) (fun i hi => ?_) j hj
    have he := hes e (List.mem_cons_self ..)
    simp only [Nat.testBit_or, Bool.or_eq_true] at hi
    rcases hi with (hi | hi) | hi
    · exact hm i hi
    · rw [Nat.one_shiftLeft, Nat.testBit_two_pow] at hi
      have : e = i := of_decide_eq_true hi
      subst this
      exact he
    · exact hacc e i hi he
theorem masks_sound (L : Nat → Prop) (ess0 : List (List Nat)) (hcl : ∀ i es, ess0[i]? = some es → L i → ∀ e ∈ es, L e) :
    ∀ (ess : List (List Nat)) (acc : List Nat), (∀ i, ess[i]? = ess0[acc.length + i]?) → (∀ i j, (acc.getD i 0).testBit j = true → (∀ es, ess0[i]? = some es → ∀ e ∈ es, L e) → L j) →
      ∀ i j, ((masks acc ess).getD i 0).testBit j = true → (∀ es, ess0[i]? = some es → ∀ e ∈ es, L e) → L j := by
  intro ess
  induction ess with
  | nil => intro acc _ h; exact h
  | cons es ess ih =>
    intro acc heq h
    refine ih (acc ++ [maskOf acc es]) (fun i => ?_) (fun i j hj hL => ?_)
    · have := heq (i + 1)
      simp only [List.length_append, List.length_cons, List.length_nil]
      rw [show acc.length + (0 + 1) + i = acc.length + (i + 1) from by omega, ← this]
      simp
    · rcases Nat.lt_trichotomy i acc.length with h1 | h1 | h1
      · rw [List.getD_eq_getElem?_getD, List.getElem?_append_left h1, ← List.getD_eq_getElem?_getD] at hj
        exact h i j hj hL
      · subst h1
        rw [List.getD_eq_getElem?_getD, List.getElem?_append_right (Nat.le_refl _)] at hj
        simp only [Nat.sub_self, List.getElem?_cons_zero, Option.getD_some] at hj
        have he : ess0[acc.length]? = some es := by
          have := heq 0
          rw [Nat.add_zero] at this
          rw [← this]
          rfl
        exact maskOf_sound L acc (fun e j' hj' hLe => h e j' hj' fun es' hes' => hcl e es' hes' hLe) es 0 (hL es he) (fun _ hb => by simp at hb) j hj
      · rw [List.getD_eq_getElem?_getD, List.getElem?_eq_none (by simp; omega)] at hj
        simp at hj
section
variable {ops : Array Oper} {Q : Exit → Act → World → Prop} {F : Nat → Fact} {base : List Nat} {N : Nat} {D : List Nat}
theorem seqC_at {k : Nat} (h : seqC ops.toList k = true) (L : Nat → Prop) (hcl : ∀ i o, ops[i]? = some o → L i → ∀ e ∈ o.after, Region.binds .any e = true → L e.on)
    {i : Nat} {o : Oper} (ho : ops[i]? = some o) (hk : k ≤ i) (hL : ∀ e ∈ o.after, Region.binds .any e = true → L e.on) : ∀ j, j < i → L j := by
  intro j hj
  have hi : i < ops.size := (Array.getElem?_eq_some_iff.1 ho).1
  simp only [seqC, Bool.and_eq_true] at h
  have h1 := List.all_eq_true.1 h.2 i (List.mem_range.2 (by simpa using hi))
  rw [Bool.or_eq_true] at h1
  rcases h1 with h1 | h1
  · have := of_decide_eq_true h1
    omega
  · have h2 := List.all_eq_true.1 h1 j (List.mem_range.2 hj)
    have hmap : ∀ (m : Nat) (es : List Nat), (ops.toList.map edgesOf)[m]? = some es → ∃ o, ops[m]? = some o ∧ edgesOf o = es := fun m es hm => by
      rw [List.getElem?_map, Array.getElem?_toList] at hm
      cases hq : ops[m]? with
      | none => rw [hq] at hm; cases hm
      | some o' => rw [hq] at hm; exact ⟨o', rfl, by simpa using hm⟩
    refine masks_sound L (ops.toList.map edgesOf) (fun m es hm hLm e he => ?_) _ [] (fun m => by simp) (fun m j' hb => by simp at hb) i j h2 fun es hes e he => ?_
    · obtain ⟨o', ho', rfl⟩ := hmap m es hm
      obtain ⟨e', he', hb', rfl⟩ := edgesOf_mem.1 he
      exact hcl m o' ho' hLm e' he' hb'
    · obtain ⟨o', ho', rfl⟩ := hmap i es hes
      rw [ho] at ho'
      injection ho' with ho'
      subst ho'
      obtain ⟨e', he', hb', rfl⟩ := edgesOf_mem.1 he
      exact hL e' he' hb'
/-- An array of flags that holds each flag's edges. -/
def Closed (ops : Array Oper) (listed : Array Bool) : Prop := ∀ i o, ops[i]? = some o → listed.getD i false = true → ∀ e ∈ o.after, Region.binds .any e = true → listed.getD e.on false = true
theorem listed_set {listed : Array Bool} {i j : Nat} (hi : i < listed.size) : (listed.setIfInBounds i true).getD j false = true ↔ j = i ∨ listed.getD j false = true := by
  by_cases hji : j = i
  · subst hji
    simp [Array.getD_eq_getD_getElem?, hi]
  · simp only [Array.getD_eq_getD_getElem?, Array.getElem?_setIfInBounds, if_neg (Ne.symm hji), hji, false_or]
theorem Closed.set {listed : Array Bool} (h : Closed ops listed) (hs : listed.size = ops.size) {i : Nat} {o : Oper} (ho : ops[i]? = some o) (he : ∀ e ∈ o.after, Region.binds .any e = true → listed.getD e.on false = true) : Closed ops (listed.setIfInBounds i true) := by
  have hlt : i < listed.size := by rw [hs]; exact (Array.getElem?_eq_some_iff.1 ho).1
  intro j o' ho' hl e hm hb
  rw [listed_set hlt] at hl ⊢
  rcases hl with rfl | hl
  · rw [ho] at ho'
    injection ho' with ho'
    subst ho'
    exact .inr (he e hm hb)
  · exact .inr (h j o' ho' hl e hm hb)
theorem flip_getD {listed : Array Bool} {i : Nat} {b : Bool} (h : listed.getD i b = !b) (c : Bool) : listed.getD i c = !b := by
  rw [Array.getD_eq_getD_getElem?] at h ⊢
  cases hl : listed[i]? with
  | none => rw [hl] at h; cases b <;> cases h
  | some x => rw [hl] at h; exact h
theorem wpAny_seqTail {k0 : Nat} (hok : seqC ops.toList k0 = true) (hback : ∀ i o, ops[i]? = some o → ∀ e ∈ o.after, Region.binds .any e = true → e.on < i) : ∀ (m fuel k : Nat) (listed : Array Bool) (a : Act) (w : World), k + m = ops.size → k0 ≤ k → (∀ i, i < k → listed.getD i false = true) → (∀ i, k ≤ i → i < ops.size → listed.getD i true = false) → listed.size = ops.size → Closed ops listed →
    wpList Tryd.prog ops Q (ops.toList.drop k) a w → m ≤ fuel → wpAny Tryd.prog .any ops Q fuel listed a w := by
  intro m
  induction m with
  | zero =>
    intro fuel k listed a w hk _ hl _ hs _ hw _
    have hr : Region.ready .any ops listed = [] := by
      cases hr : Region.ready .any ops listed with
      | nil => rfl
      | cons i rs =>
        exfalso
        have hm : i ∈ Region.ready .any ops listed := by rw [hr]; simp
        obtain ⟨h1, o, ho, _⟩ := mem_ready.1 hm
        have hi := (Array.getElem?_eq_some_iff.1 ho).1
        have h2 := hl i (by omega)
        have h3 : listed.getD i false = false := flip_getD (b := true) h1 false
        rw [h3] at h2
        cases h2
    have hq : Q .normal a w := by
      rw [List.drop_of_length_le (by simp; omega)] at hw
      exact hw
    cases fuel with
    | zero => exact ⟨hr, hq⟩
    | succ fuel => exact ⟨fun _ => hq, fun i hi => by rw [hr] at hi; cases hi⟩
  | succ m ih =>
    intro fuel k listed a w hk hk0 hl hn hs hcl hw hf
    obtain ⟨fuel, rfl⟩ : ∃ f, fuel = f + 1 := ⟨fuel - 1, by omega⟩
    have hlt : k < ops.size := by omega
    have hok' : ops[k]? = some ops[k] := Array.getElem?_eq_getElem hlt
    have hready : k ∈ Region.ready .any ops listed := mem_ready.2 ⟨hn k (Nat.le_refl _) hlt, ops[k], hok', fun e he hb => hl _ (hback k _ hok' e he hb)⟩
    refine ⟨fun h => (by rw [h] at hready; cases hready), fun i hi => ?_⟩
    obtain ⟨h1, o, ho, hedges⟩ := mem_ready.1 hi
    have hil := (Array.getElem?_eq_some_iff.1 ho).1
    have hik : i = k := by
      have h3 : listed.getD i false = false := flip_getD (b := true) h1 false
      rcases Nat.lt_trichotomy i k with h | h | h
      · rw [hl i h] at h3; cases h3
      · exact h
      · exfalso
        have h4 := seqC_at hok (fun j => listed.getD j false = true) (fun j o' ho' hj => hcl j o' ho' hj) ho (by omega) hedges k h
        have h5 := hn k (Nat.le_refl _) hlt
        have h6 : listed.getD k false = false := flip_getD (b := true) h5 false
        rw [h6] at h4
        cases h4
    subst hik
    have hd : ops.toList.drop i = o :: ops.toList.drop (i + 1) := by
      have h7 : i < ops.toList.length := by simpa using hil
      rw [List.drop_eq_getElem_cons h7]
      have h8 := (Array.getElem?_eq_some_iff.1 ho).2
      simp [h8]
    rw [hd] at hw
    have hnext : ∀ a' w', wpList Tryd.prog ops Q (ops.toList.drop (i + 1)) a' w' → wpAny Tryd.prog .any ops Q fuel (listed.setIfInBounds i true) a' w' := fun a' w' h' => by
      refine ih fuel (i + 1) _ a' w' (by omega) (by omega) (fun j hj => ?_) (fun j hj1 hj2 => ?_) (by simpa using hs) (hcl.set hs ho hedges) h' (by omega)
      · by_cases hji : j = i
        · subst hji
          simp [Array.getD_eq_getD_getElem?, hs, hlt]
        · simpa only [Array.getD_eq_getD_getElem?, Array.getElem?_setIfInBounds, if_neg (Ne.symm hji)] using hl j (by omega)
      · have hji : j ≠ i := by omega
        simpa only [Array.getD_eq_getD_getElem?, Array.getElem?_setIfInBounds, if_neg (Ne.symm hji)] using hn j (by omega) hj2
    unfold wpOp
    rw [ho]
    unfold wpList at hw
    show if Region.wanted o (yielded ops a.tmps) = true then _ else _
    split
    · rename_i hwant
      rw [if_pos hwant] at hw
      exact hw.imp (Oper.wp_mono hnext) id
    · rename_i hwant
      rw [if_neg hwant] at hw
      exact hnext _ _ hw
/-- The obligation of oneG operation; oneG that makes a variable of D shows that it is the newest block. -/
def Obn (ops : Array Oper) (Q : Exit → Act → World → Prop) (F : Nat → Fact) (base : List Nat) (N : Nat) (D : List Nat) (o : Oper) : Prop := ∀ (a : Act) (w : World) (K : Act → World → Prop), a.tmps.size = N → (∀ t ∈ base, (F t).holds (a.tmps.getD t undef) w) →
  (∀ e ∈ o.after, Region.binds .any e = true → ∀ t, (ops[e.on]?).bind Oper.dst = some t → (F t).holds (a.tmps.getD t undef) w) →
  (∀ v w', Below w.heap.size w w' → (∀ t, o.dst = some t → (F t).holds v w') → (∀ t ∈ D, o.dst = some t → v = .pointer (some ⟨w.heap.size, 0, none⟩) ∧ w.heap.size < w'.heap.size) → K (a.put o.dst v) w') →
  (if Region.wanted o (yielded ops a.tmps) = true then Oper.wp Tryd.prog o a w K Q else K (a.put o.dst undef) w)
theorem Ob.new_ {o : Oper} (h : Ob ops Q F base N o) (hD : (match o.dst with | some t => D.contains t | none => false) = false) : Obn ops Q F base N D o := by
  intro a w K hN hb hp hK
  refine h a w K hN hb hp fun v w' hb' hF => hK v w' hb' hF fun t ht hd => ?_
  rw [hd] at hD
  have h1 : D.contains t = true := List.contains_iff_mem.2 ht
  have h2 : D.contains t = false := hD
  rw [h1] at h2
  cases h2
/-- The variables of D that are there lie at and behind g, apart from oneG another. -/
def News (g : Nat) (D : List Nat) (ops : Array Oper) (listed : Array Bool) (a : Act) (w : World) : Prop :=
  (∀ s ∈ D, ∀ i, listed.getD i false = true → (ops[i]?).bind Oper.dst = some s → ∃ b, a.tmps.getD s undef = .pointer (some ⟨b, 0, none⟩) ∧ g ≤ b ∧ b < w.heap.size) ∧
  (∀ s ∈ D, ∀ t ∈ D, s ≠ t → ∀ i k, listed.getD i false = true → (ops[i]?).bind Oper.dst = some s → listed.getD k false = true → (ops[k]?).bind Oper.dst = some t → a.tmps.getD s undef ≠ a.tmps.getD t undef)
theorem News.step (hok : formOk ops base N = true) {g : Nat} {listed : Array Bool} {a : Act} {w w' : World} (h : News g D ops listed a w) (hs : listed.size = ops.size) (hN : a.tmps.size = N) (hg : g ≤ w.heap.size) {i : Nat} {o : Oper} (ho : ops[i]? = some o) {v : Value}
    (hb : Below w.heap.size w w') (hv : ∀ t ∈ D, o.dst = some t → v = .pointer (some ⟨w.heap.size, 0, none⟩) ∧ w.heap.size < w'.heap.size) : News g D ops (listed.setIfInBounds i true) (a.put o.dst v) w' := by
  have hlt : i < listed.size := by rw [hs]; exact (Array.getElem?_eq_some_iff.1 ho).1
  obtain ⟨_, hdst⟩ := formOk_at hok ho
  have hval : ∀ s ∈ D, ∀ j, (listed.setIfInBounds i true).getD j false = true → (ops[j]?).bind Oper.dst = some s → (j = i ∧ o.dst = some s ∧ (a.put o.dst v).tmps.getD s undef = .pointer (some ⟨w.heap.size, 0, none⟩) ∧ w.heap.size < w'.heap.size) ∨
      (listed.getD j false = true ∧ (a.put o.dst v).tmps.getD s undef = a.tmps.getD s undef) := fun s hsD j hj hjs => by
    by_cases hji : j = i
    · subst hji
      rw [ho] at hjs
      have hjs' : o.dst = some s := hjs
      obtain ⟨h1, h2⟩ := hv s hsD hjs'
      refine .inl ⟨rfl, hjs', ?_, h2⟩
      rw [hjs', getD_put_same (by rw [hN]; exact (hdst s hjs').1)]
      exact h1
    · refine .inr ⟨((listed_set hlt).1 hj).resolve_left hji, ?_⟩
      exact getD_put_other fun e => (hdst s e).2.2 j hji hjs
  refine ⟨fun s hsD j hj hjs => ?_, fun s hsD t htD hne j k hj hjs hk hkt => ?_⟩
  · rcases hval s hsD j hj hjs with ⟨_, _, h1, h2⟩ | ⟨h1, h2⟩
    · exact ⟨_, h1, hg, h2⟩
    · obtain ⟨b, h3, h4, h5⟩ := h.1 s hsD j h1 hjs
      exact ⟨b, h2.trans h3, h4, Nat.lt_of_lt_of_le h5 hb.size⟩
  · rcases hval s hsD j hj hjs with ⟨rfl, h0, h1, _⟩ | ⟨h1, h2⟩
    · rcases hval t htD k hk hkt with ⟨rfl, h5, _, _⟩ | ⟨h5, h6⟩
      · rw [h0] at h5
        injection h5 with h5
        exact absurd h5 hne
      · obtain ⟨b, h7, _, h8⟩ := h.1 t htD k h5 hkt
        rw [h1, h6, h7]
        intro e
        injection e with e
        injection e with e
        injection e with e
        omega
    · rcases hval t htD k hk hkt with ⟨rfl, _, h5, _⟩ | ⟨h5, h6⟩
      · obtain ⟨b, h7, _, h8⟩ := h.1 s hsD j h1 hjs
        rw [h5, h2, h7]
        intro e
        injection e with e
        injection e with e
        injection e with e
        omega
      · rw [h2, h6]
        exact h.2 s hsD t htD hne j k h1 hjs h5 hkt
theorem wpAny_seqFirst {n g : Nat} (hok : formOk ops base N = true) (hsq : seqC ops.toList n = true) (hn : n ≤ ops.size) {a0 : Act} {w0 : World} (hg : g = w0.heap.size) (hstep : ∀ i o, i < n → ops[i]? = some o → Obn ops Q F base N D o)
    (hend : ∀ listed a w, a.defers = a0.defers → a.tmps.size = N → (∀ t ∈ base, (F t).holds (a.tmps.getD t undef) w) → (∀ (i t : Nat), i < n → (ops[i]?).bind Oper.dst = some t → (F t).holds (a.tmps.getD t undef) w) →
      (∀ (t : Nat), (∀ (i : Nat), i < n → (ops[i]?).bind Oper.dst ≠ some t) → a.tmps.getD t undef = a0.tmps.getD t undef) → Below w0.heap.size w0 w → (∀ i, i < n → listed.getD i false = true) → News g D ops listed a w → wpList Tryd.prog ops Q (ops.toList.drop n) a w) :
    ∀ (fuel : Nat) (listed : Array Bool) (a : Act) (w : World), listed.size = ops.size → a.tmps.size = N → a.defers = a0.defers → (∀ t ∈ base, (F t).holds (a.tmps.getD t undef) w) →
      (∀ (i t : Nat), listed.getD i false = true → (ops[i]?).bind Oper.dst = some t → (F t).holds (a.tmps.getD t undef) w) → (∀ (t : Nat), (∀ (i : Nat), i < n → (ops[i]?).bind Oper.dst ≠ some t) → a.tmps.getD t undef = a0.tmps.getD t undef) →
      Below w0.heap.size w0 w → (∀ i, n ≤ i → i < ops.size → listed.getD i true = false) → Closed ops listed → News g D ops listed a w → left_ listed ops.size ≤ fuel → wpAny Tryd.prog .any ops Q fuel listed a w := by
  have hback : ∀ i o, ops[i]? = some o → ∀ e ∈ o.after, Region.binds .any e = true → e.on < i := fun i o ho => (formOk_at hok ho).1
  intro fuel
  induction fuel with
  | zero =>
    intro listed a w hs hN hd hb hdone hoth hbel hrest hcl hnew hl
    by_cases hall : ∀ i, i < n → listed.getD i false = true
    · refine wpAny_seqTail hsq hback (ops.size - n) 0 n listed a w (by omega) (Nat.le_refl _) hall hrest hs hcl (hend listed a w hd hN hb (fun i t hi ht => hdone i t (hall i hi) ht) hoth hbel hall hnew) ?_
      rcases Nat.lt_or_ge n ops.size with h | h
      · exfalso
        have := left_step h hs (hrest n (Nat.le_refl _) h)
        omega
      · omega
    · exfalso
      apply hall
      intro i hi
      cases hg' : listed.getD i false with
      | true => rfl
      | false =>
        exfalso
        have hg' : listed.getD i true = false := by
          rw [Array.getD_eq_getD_getElem?, Array.getElem?_eq_getElem (by omega)] at hg' ⊢
          exact hg'
        have := left_step (by omega : i < ops.size) hs hg'
        omega
  | succ fuel ih =>
    intro listed a w hs hN hd hb hdone hoth hbel hrest hcl hnew hl
    by_cases hall : ∀ i, i < n → listed.getD i false = true
    · refine wpAny_seqTail hsq hback (ops.size - n) (fuel + 1) n listed a w (by omega) (Nat.le_refl _) hall hrest hs hcl (hend listed a w hd hN hb (fun i t hi ht => hdone i t (hall i hi) ht) hoth hbel hall hnew) ?_
      refine Nat.le_trans ?_ hl
      unfold left_
      have e : ops.size - n = ((List.range' n (ops.size - n)).filter fun i => !listed.getD i true).length := by
        rw [List.filter_eq_self.2]
        · simp
        · intro i hi
          have := List.mem_range'.1 hi
          rw [hrest i (by omega) (by omega)]; rfl
      rw [e]
      refine List.Sublist.length_le (List.Sublist.filter _ ?_)
      rw [List.range_eq_range']
      have h5 : List.range' 0 ops.size = List.range' 0 n ++ List.range' n (ops.size - n) := by
        have := List.range'_append (s := 0) (m := n) (n := ops.size - n) (step := 1)
        simp only [Nat.zero_add, Nat.one_mul] at this
        rw [this, Nat.add_sub_of_le hn]
      rw [h5]
      exact List.sublist_append_right _ _
    · refine ⟨fun hr => ?_, fun i hi => ?_⟩
      · exfalso
        exact hall fun i hi => all_listed hok hs hr i (by omega)
      · obtain ⟨h1, o, ho, hedges⟩ := mem_ready.1 hi
        have hil := (Array.getElem?_eq_some_iff.1 ho).1
        have hin : i < n := by
          rcases Nat.lt_or_ge i n with h | h
          · exact h
          · exact absurd (fun j hj => seqC_at hsq (fun j => listed.getD j false = true) (fun j o' ho' hj => hcl j o' ho' hj) ho h hedges j (by omega)) hall
        obtain ⟨_, hdst⟩ := formOk_at hok ho
        refine wpOp_step ho fun K' hK => hstep i o hin ho a w K' hN hb (fun e he hb' t het => hdone e.on t (hedges e he hb') het) fun v w' hb' hF hv => hK _ _ ?_
        refine ih _ _ _ (by simpa using hs) ?_ ?_ (fun t ht => ?_) (fun j t hj hjt => ?_) (fun t ht => ?_) (upG hbel hb') (fun j hj1 hj2 => ?_) (hcl.set hs ho hedges) (hnew.step hok hs hN (by rw [hg]; exact hbel.size) ho hb' hv) ?_
        · cases o.dst <;> simpa [Act.put] using hN
        · cases o.dst <;> simpa [Act.put] using hd
        · rw [getD_put_other (fun e => (hdst t e).2.1 ht)]
          exact (F t).stable _ _ _ (hb t ht) hb'
        · by_cases hji : j = i
          · subst hji
            rw [ho] at hjt
            have hjt' : o.dst = some t := hjt
            rw [hjt', getD_put_same (by rw [hN]; exact (hdst t hjt').1)]
            exact hF t hjt'
          · have hl' : listed.getD j false = true := by
              simpa only [Array.getD_eq_getD_getElem?, Array.getElem?_setIfInBounds, if_neg (Ne.symm hji)] using hj
            rw [getD_put_other (fun e => (hdst t e).2.2 j hji hjt)]
            exact (F t).stable _ _ _ (hdone j t hl' hjt) hb'
        · rw [getD_put_other (fun e => ht i hin (by rw [ho]; exact e))]
          exact hoth t ht
        · simpa only [Array.getD_eq_getD_getElem?, Array.getElem?_setIfInBounds, if_neg (by omega : ¬ i = j)] using hrest j hj1 hj2
        · have := left_step hil hs h1
          omega
end
/-- **A region whose first n operations only add new memory, in any order, and whose others come behind**: the others are then run in their order. The variables of D that it makes lie apart. -/
theorem wp_region_seq {Q : Exit → Act → World → Prop} {id : Nat} {l : List Oper} {a : Act} {w : World} (hm : Tryd.prog.follows .mixedOrders = true) (F : Nat → Fact) (base D : List Nat) (N n : Nat) (ds : List Nat) (hN : a.tmps.size = N) (hok : formOk l.toArray base N = true) (hsq : seqC l n = true) (hn : n ≤ l.length) (hds : dstsOk (l.take n) ds = true) (hD : (D.all fun d => ds.contains d) = true)
    (hbase : ∀ t ∈ base, (F t).holds (a.tmps.getD t undef) w) (hstep : ∀ o ∈ l.take n, Obn l.toArray Q F base N D o)
    (hend : ∀ (v : Nat → Value) w', (∀ t ∈ ds, (F t).holds (v t) w') → Below w.heap.size w w' → (∀ s ∈ D, ∃ b, v s = .pointer (some ⟨b, 0, none⟩) ∧ w.heap.size ≤ b ∧ b < w'.heap.size) → (∀ s ∈ D, ∀ t ∈ D, s ≠ t → v s ≠ v t) →
      wpList Tryd.prog l.toArray Q (l.drop n) { tmps := lay a.tmps ds v, defers := a.defers } w') : (Code.region id l.toArray true).wp Tryd.prog Q a w := by
  have hnone : ∀ i, (Array.replicate l.length false).getD i false = true → False := fun i hi => by
    rw [Array.getD_eq_getD_getElem?, Array.getElem?_replicate] at hi
    split at hi <;> simp at hi
  refine wp_region_any hm (wpAny_seqFirst (a0 := a) (w0 := w) (n := n) (D := D) hok (by simpa using hsq) (by simpa using hn) rfl (fun i o hi ho => hstep o ?_) ?_ _ _ _ _ (by simp) hN rfl (fun t ht => ?_) (fun i t hi _ => (hnone i hi).elim) (fun _ _ => rfl) (Below.refl _ _).drew (fun i hi1 hi2 => ?_) (fun i _ _ hi => (hnone i hi).elim) ⟨fun _ _ i hi => (hnone i hi).elim, fun _ _ _ _ _ i _ hi => (hnone i hi).elim⟩ ?_)
  · rw [List.getElem?_toArray] at ho
    refine List.mem_of_getElem? (i := i) ?_
    rw [List.getElem?_take, if_pos hi, ho]
  · intro listed a' w' hdef hsz hbs hall hoth hbel hlst hnews
    have hw : ∀ t ∈ ds, ∃ i, i < n ∧ (l.toArray[i]?).bind Oper.dst = some t := fun t ht => by
      have h1 := hds
      simp only [dstsOk, Bool.and_eq_true] at h1
      obtain ⟨o, ho, hd⟩ := List.any_eq_true.1 (List.all_eq_true.1 h1.2 t ht)
      obtain ⟨i, hi⟩ := List.getElem?_of_mem ho
      have hlt : i < (l.take n).length := (List.getElem?_eq_some_iff.1 hi).1
      have hin : i < n := by rw [List.length_take] at hlt; omega
      rw [List.getElem?_take, if_pos hin] at hi
      exact ⟨i, hin, by rw [List.getElem?_toArray, hi]; exact (by simpa using hd)⟩
    have hDs : ∀ s ∈ D, s ∈ ds := fun s hs => List.contains_iff_mem.1 (List.all_eq_true.1 hD s hs)
    have h := hend (fun t => a'.tmps.getD t undef) w' (fun t ht => by
      obtain ⟨i, hin, hi⟩ := hw t ht
      exact hall i t hin hi) hbel (fun s hs => by
      obtain ⟨i, hin, hi⟩ := hw s (hDs s hs)
      exact hnews.1 s hs i (hlst i hin) hi) (fun s hs t ht hne => by
      obtain ⟨i, hin, hi⟩ := hw s (hDs s hs)
      obtain ⟨k, hkn, hk⟩ := hw t (hDs t ht)
      exact hnews.2 s hs t ht hne i k (hlst i hin) hi (hlst k hkn) hk)
    have heq : a' = { tmps := lay a.tmps ds fun t => a'.tmps.getD t undef, defers := a.defers } := by
      obtain ⟨ts, df⟩ := a'
      have hdef' : df = a.defers := hdef
      subst hdef'
      congr 1
      have hsz' : ts.size = N := hsz
      refine Array.ext_getElem? fun t => ?_
      rcases Nat.lt_or_ge t N with hlt | hge
      · by_cases htd : t ∈ ds
        · rw [lay_at ds _ _ t htd (by omega), Array.getD_eq_getD_getElem?, Array.getElem?_eq_getElem (by omega)]; rfl
        · rw [lay_other ds _ _ t htd]
          have := hoth t fun i hin hi => by
            have h1 := hds
            simp only [dstsOk, Bool.and_eq_true] at h1
            rw [List.getElem?_toArray] at hi
            cases hl : l[i]? with
            | none => rw [hl] at hi; cases hi
            | some o =>
              rw [hl] at hi
              have hm' : o ∈ l.take n := List.mem_of_getElem? (i := i) (by rw [List.getElem?_take, if_pos hin, hl])
              have h2 := List.all_eq_true.1 h1.1 o hm'
              have h3 : o.dst = some t := hi
              rw [h3] at h2
              exact htd (by simpa using h2)
          have h2 : ts.getD t undef = a.tmps.getD t undef := this
          rw [Array.getD_eq_getD_getElem?, Array.getD_eq_getD_getElem?, Array.getElem?_eq_getElem (by omega), Array.getElem?_eq_getElem (by omega)] at h2
          rw [Array.getElem?_eq_getElem (by omega), Array.getElem?_eq_getElem (by omega)]
          exact congrArg some h2
      · rw [Array.getElem?_eq_none (by omega), Array.getElem?_eq_none (by rw [lay_size]; omega)]
    rw [heq]
    exact h
  · exact (F t).stable _ _ _ (hbase t ht) (Below.refl _ _).drew
  · rw [Array.getD_eq_getD_getElem?, Array.getElem?_replicate, if_pos hi2]; rfl
  · unfold left_
    exact Nat.le_trans (List.length_filter_le _ _) (by simp)
end Go.Proofs.YtcjaaijohapeaaaDoor

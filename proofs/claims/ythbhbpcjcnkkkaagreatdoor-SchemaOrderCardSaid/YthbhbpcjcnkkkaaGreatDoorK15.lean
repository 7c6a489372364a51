/-
  The reference's looking up by name, with the very value that it returns. No conditions beyond those that each names.
-/
import Derived.Test.YthbhbpcjcnkkkaaGreatDoorK07
import Derived.Test.YthbhbpcjcnkkkaaGreatDoorK04
import Derived.Test.YthbhbpcjcnkkkaaGreatDoorK13
namespace Go.Proofs.YthbhbpcjcnkkkaaGreatDoor
open Go.RowKit

set_option maxRecDepth 100000 in
set_option maxHeartbeats 1000000 in
theorem refStruct_ex (S : Sch) (nm : List UInt8) (v : Value) (w : World) (hv : ScV w S v) (hn : S.structs.length ≤ 1000) :
    ∃ u, StV w ((fst_ St.name S.structs nm).getD st0) u ∧ ∀ W, Below w.heap.size w W → Calls Tryz.prog 14 #[v, .string (bs nm)] W (Ib (.tuple #[u, .bool (fst_ St.name S.structs nm).isSome]) W) := by
  obtain ⟨A, c, A2, c2, rfl, hS⟩ := hv
  have hL := hS.st
  obtain ⟨m, hm⟩ : ∃ m, S.enums.length = m := ⟨_, rfl⟩
  obtain ⟨n, hn2⟩ : ∃ n, S.structs.length = n := ⟨_, rfl⟩
  have HN := Lib.hid hn2
  obtain ⟨K, hK⟩ : ∃ K, S.structs.findIdx (fun t => decide (t.name = nm)) = K := ⟨_, rfl⟩
  have hmin : ∀ j (hj : j < S.structs.length), j < K → (S.structs[j]'hj).name ≠ nm := fun j hj hjk => by
    have := List.not_of_lt_findIdx (xs := S.structs) (p := fun t => decide (t.name = nm)) (i := j) (by rw [hK]; exact hjk)
    simpa using this
  rw [hn2, hm]
  rw [hn2] at hn
  by_cases hKn : K < S.structs.length
  · have hname : (S.structs[K]'hKn).name = nm := by
      have := List.findIdx_getElem (xs := S.structs) (p := fun t => decide (t.name = nm)) (w := by rw [hK]; exact hKn)
      simp only [hK] at this
      simpa using this
    have hf := fst_at (key := St.name) hKn hmin hname
    rw [hf]
    obtain ⟨a, ha, hA⟩ := hL.get hKn
    obtain ⟨A3, c3, h0, h1, hV⟩ := hA.val
    refine ⟨_, hV, fun W hW => ?_⟩
    have HM := Lib.hid hmin
    have hKn9 : K < n := by omega
    have h0 := cell_next hW h0
    have h1 := cell_next hW h1
    skip
    have hblk : (a.add (K * 2)).block < W.heap.size := blk_lt h0
    subst ha
    have HNM := Lib.hid hname
    have HA := Lib.hid hL
    generalize hteq : S.structs[K]'hKn = t at *
    subst hname
    have q1 := sq_t t.name
    clear hV hA hf hmin hn2 hm hK
    go_enter Tryz.func14, Tryz.ntmps14
    go_wp2_with fail
    go_loop [6] (fun i => ∃ k : Nat, k ≤ K ∧ i = .int .i64 (k : Int)) (fun i => n - (intOf i).toNat)
    case atStart => exact ⟨0, by omega, rfl⟩
    case round =>
      obtain ⟨k, hk, rfl⟩ := hrel
      by_cases hlt : k < K
      · have hkn : k < n := by omega
        obtain ⟨a', ha', hA⟩ := HA.out.get (i := k) (by omega)
        cases ha'
        have e := HM.out k (by omega) hlt
        have e0 := cell_next hW hA.1
        have hblk2 : (a.add (k * 2)).block < W.heap.size := blk_lt e0
        generalize S.structs[k]'(by omega) = t2 at *
        have q2 := sq_f e
        clear hA
        go_wp2_with fail
        go_round
        case rel => exact ⟨k + 1, by omega, by go_num⟩
        case measure => simp [intOf]; omega
      · obtain rfl : k = K := by omega
        go_wp2_with fail
        exact bodyPost_ret (v := .tuple #[.agg #[.string (bs t.name), .slice A3 t.fields.length c3], .bool true]) (by simp [results, Tryz.results14, go_sem]) rfl ⟨rfl, ab2 _ _ _⟩
  · have hf : fst_ St.name S.structs nm = none := fst_end fun j hj => hmin j hj (by omega)
    rw [hf]
    refine ⟨_, StV.zero w, fun W hW => ?_⟩
    have HM := Lib.hid (show ∀ j (hj : j < S.structs.length), (S.structs[j]'hj).name ≠ nm from fun j hj => hmin j hj (by omega))
    have HA := Lib.hid hL
    clear hf hmin hn2 hm hK hKn
    go_enter Tryz.func14, Tryz.ntmps14
    go_wp2_with fail
    go_loop [6] (fun i => ∃ k : Nat, k ≤ n ∧ i = .int .i64 (k : Int)) (fun i => n - (intOf i).toNat)
    case atStart => exact ⟨0, by omega, rfl⟩
    case round =>
      obtain ⟨k, hk, rfl⟩ := hrel
      by_cases hlt : k < n
      · have hkm : k < S.structs.length := by rw [HN.out]; exact hlt
        obtain ⟨a', rfl, hA⟩ := HA.out.get (i := k) hkm
        have e := HM.out k hkm
        have e0 := cell_next hW hA.1
        have hblk2 : (a'.add (k * 2)).block < W.heap.size := blk_lt e0
        generalize S.structs[k]'hkm = t2 at *
        have q2 := sq_f e
        clear hA
        go_wp2_with fail
        go_round
        case rel => exact ⟨k + 1, by omega, by go_num⟩
        case measure => simp [intOf]; omega
      · obtain rfl : k = n := by omega
        go_wp2_with fail
        exact bodyPost_ret (v := .tuple #[.agg #[.string ⟨#[]⟩, .slice none 0 0], .bool false]) (by simp [results, Tryz.results14, go_sem]) rfl ⟨rfl, ab2 _ _ _⟩

set_option maxRecDepth 100000 in
set_option maxHeartbeats 1000000 in
theorem refEnum_ex (S : Sch) (nm : List UInt8) (v : Value) (w : World) (hv : ScV w S v) (hn : S.enums.length ≤ 1000) :
    ∃ u, EnV w ((fst_ En.name S.enums nm).getD en0) u ∧ ∀ W, Below w.heap.size w W → Calls Tryz.prog 16 #[v, .string (bs nm)] W (Ib (.tuple #[u, .bool (fst_ En.name S.enums nm).isSome]) W) := by
  obtain ⟨A, c, A2, c2, rfl, hS⟩ := hv
  have hL := hS.en
  obtain ⟨m, hm⟩ : ∃ m, S.structs.length = m := ⟨_, rfl⟩
  obtain ⟨n, hn2⟩ : ∃ n, S.enums.length = n := ⟨_, rfl⟩
  have HN := Lib.hid hn2
  obtain ⟨K, hK⟩ : ∃ K, S.enums.findIdx (fun t => decide (t.name = nm)) = K := ⟨_, rfl⟩
  have hmin : ∀ j (hj : j < S.enums.length), j < K → (S.enums[j]'hj).name ≠ nm := fun j hj hjk => by
    have := List.not_of_lt_findIdx (xs := S.enums) (p := fun t => decide (t.name = nm)) (i := j) (by rw [hK]; exact hjk)
    simpa using this
  rw [hn2, hm]
  rw [hn2] at hn
  by_cases hKn : K < S.enums.length
  · have hname : (S.enums[K]'hKn).name = nm := by
      have := List.findIdx_getElem (xs := S.enums) (p := fun t => decide (t.name = nm)) (w := by rw [hK]; exact hKn)
      simp only [hK] at this
      simpa using this
    have hf := fst_at (key := En.name) hKn hmin hname
    rw [hf]
    obtain ⟨a, ha, hA⟩ := hL.get hKn
    obtain ⟨A3, c3, A4, c4, h0, h1, h2, hV⟩ := hA.val
    refine ⟨_, hV, fun W hW => ?_⟩
    have HM := Lib.hid hmin
    have hKn9 : K < n := by omega
    have h0 := cell_next hW h0
    have h1 := cell_next hW h1
    have h2 := cell_next hW h2
    have hblk : (a.add (K * 3)).block < W.heap.size := blk_lt h0
    subst ha
    have HNM := Lib.hid hname
    have HA := Lib.hid hL
    generalize hteq : S.enums[K]'hKn = t at *
    subst hname
    have q1 := sq_t t.name
    clear hV hA hf hmin hn2 hm hK
    go_enter Tryz.func16, Tryz.ntmps16
    go_wp2_with fail
    go_loop [6] (fun i => ∃ k : Nat, k ≤ K ∧ i = .int .i64 (k : Int)) (fun i => n - (intOf i).toNat)
    case atStart => exact ⟨0, by omega, rfl⟩
    case round =>
      obtain ⟨k, hk, rfl⟩ := hrel
      by_cases hlt : k < K
      · have hkn : k < n := by omega
        obtain ⟨a', ha', hA⟩ := HA.out.get (i := k) (by omega)
        cases ha'
        have e := HM.out k (by omega) hlt
        have e0 := cell_next hW hA.1
        have hblk2 : (a.add (k * 3)).block < W.heap.size := blk_lt e0
        generalize S.enums[k]'(by omega) = t2 at *
        have q2 := sq_f e
        clear hA
        go_wp2_with fail
        go_round
        case rel => exact ⟨k + 1, by omega, by go_num⟩
        case measure => simp [intOf]; omega
      · obtain rfl : k = K := by omega
        go_wp2_with fail
        exact bodyPost_ret (v := .tuple #[.agg #[.string (bs t.name), .slice A3 t.names.length c3, .slice A4 t.nums.length c4], .bool true]) (by simp [results, Tryz.results16, go_sem]) rfl ⟨rfl, ab2 _ _ _⟩
  · have hf : fst_ En.name S.enums nm = none := fst_end fun j hj => hmin j hj (by omega)
    rw [hf]
    refine ⟨_, EnV.zero w, fun W hW => ?_⟩
    have HM := Lib.hid (show ∀ j (hj : j < S.enums.length), (S.enums[j]'hj).name ≠ nm from fun j hj => hmin j hj (by omega))
    have HA := Lib.hid hL
    clear hf hmin hn2 hm hK hKn
    go_enter Tryz.func16, Tryz.ntmps16
    go_wp2_with fail
    go_loop [6] (fun i => ∃ k : Nat, k ≤ n ∧ i = .int .i64 (k : Int)) (fun i => n - (intOf i).toNat)
    case atStart => exact ⟨0, by omega, rfl⟩
    case round =>
      obtain ⟨k, hk, rfl⟩ := hrel
      by_cases hlt : k < n
      · have hkm : k < S.enums.length := by rw [HN.out]; exact hlt
        obtain ⟨a', rfl, hA⟩ := HA.out.get (i := k) hkm
        have e := HM.out k hkm
        have e0 := cell_next hW hA.1
        have hblk2 : (a'.add (k * 3)).block < W.heap.size := blk_lt e0
        generalize S.enums[k]'hkm = t2 at *
        have q2 := sq_f e
        clear hA
        go_wp2_with fail
        go_round
        case rel => exact ⟨k + 1, by omega, by go_num⟩
        case measure => simp [intOf]; omega
      · obtain rfl : k = n := by omega
        go_wp2_with fail
        exact bodyPost_ret (v := .tuple #[.agg #[.string ⟨#[]⟩, .slice none 0 0, .slice none 0 0], .bool false]) (by simp [results, Tryz.results16, go_sem]) rfl ⟨rfl, ab2 _ _ _⟩
end Go.Proofs.YthbhbpcjcnkkkaaGreatDoor
/-
  A region whose order Go leaves open, with one new variable that is stored into once. No conditions beyond those that it names.
-/
namespace Go.Proofs.YthbhbpcjcnkkkaaGreatDoor
open Go.RowKit
/-- All edges go back. -/
def backOk (ops : Array Oper) : Bool := (List.range ops.size).all fun i => match ops[i]? with
  | none => true
  | some o => o.after.all fun e => !Region.binds .any e || decide (e.on < i)
theorem backOk_at {ops : Array Oper} (h : backOk ops = true) {i : Nat} {o : Oper} (ho : ops[i]? = some o) : ∀ e ∈ o.after, Region.binds .any e = true → e.on < i := by
  have hi : i < ops.size := (Array.getElem?_eq_some_iff.1 ho).1
  have h1 := List.all_eq_true.1 h i (List.mem_range.2 hi)
  simp only [ho] at h1
  intro e he hb
  have := Array.all_eq_true_iff_forall_mem.1 h1 e he
  simpa [hb] using this
theorem all_listed_back {ops : Array Oper} (hok : backOk ops = true) {listed : Array Bool} (hl : listed.size = ops.size) (hr : Region.ready .any ops listed = []) : ∀ i, i < ops.size → listed.getD i false = true := by
  intro i
  induction i using Nat.strongRecOn with
  | _ i ih =>
    intro hi
    cases hg : listed.getD i false with
    | true => rfl
    | false =>
      exfalso
      have hmem : i ∈ Region.ready .any ops listed := by
        refine mem_ready.2 ⟨?_, ops[i], Array.getElem?_eq_getElem hi, fun e he hb => ?_⟩
        · rw [Array.getD_eq_getD_getElem?, Array.getElem?_eq_getElem (by omega)] at hg ⊢
          exact hg
        · have := backOk_at hok (Array.getElem?_eq_getElem hi) e he hb
          exact ih e.on this (by omega)
      rw [hr] at hmem
      cases hmem
section
variable {ops : Array Oper} {Q : Exit → Act → World → Prop}
theorem wpAny_inv (hok : backOk ops = true) (I : Array Bool → Act → World → Prop)
    (hstep : ∀ i o listed a w, ops[i]? = some o → listed.size = ops.size → listed.getD i false = false → (∀ e ∈ o.after, Region.binds .any e = true → listed.getD e.on false = true) → I listed a w →
      ∀ K : Act → World → Prop, (∀ a' w', I (listed.setIfInBounds i true) a' w' → K a' w') → (if Region.wanted o (yielded ops a.tmps) = true then Oper.wp Tryz.prog o a w K Q else K (a.put o.dst undef) w))
    (hend : ∀ listed a w, listed.size = ops.size → (∀ i, i < ops.size → listed.getD i false = true) → I listed a w → Q .normal a w) :
    ∀ (fuel : Nat) (listed : Array Bool) (a : Act) (w : World), listed.size = ops.size → I listed a w → left_ listed ops.size ≤ fuel → wpAny Tryz.prog .any ops Q fuel listed a w := by
  have hfin : ∀ (listed : Array Bool) (a : Act) (w : World), listed.size = ops.size → I listed a w → Region.ready .any ops listed = [] → Q .normal a w := fun listed a w hs h hr =>
    hend listed a w hs (all_listed_back hok hs hr) h
  intro fuel
  induction fuel with
  | zero =>
    intro listed a w hs h hl
    have hr : Region.ready .any ops listed = [] := by
      cases hr : Region.ready .any ops listed with
      | nil => rfl
      | cons i rs =>
        exfalso
        have hm : i ∈ Region.ready .any ops listed := by rw [hr]; simp
        obtain ⟨h1, o, ho, _⟩ := mem_ready.1 hm
        have := left_step (Array.getElem?_eq_some_iff.1 ho).1 hs h1
        omega
    exact ⟨hr, hfin listed a w hs h hr⟩
  | succ fuel ih =>
    intro listed a w hs h hl
    refine ⟨hfin listed a w hs h, fun i hi => ?_⟩
    obtain ⟨h1, o, ho, hedges⟩ := mem_ready.1 hi
    have hlt : i < ops.size := (Array.getElem?_eq_some_iff.1 ho).1
    refine wpOp_step ho fun K' hK => hstep i o listed a w ho hs (flip_getD (b := true) h1 false) hedges h K' fun a' w' h' => hK _ _ (ih _ _ _ (by simpa using hs) h' ?_)
    have := left_step hlt hs h1
    omega
end
/-- **A region whose order Go leaves open**: what each operation keeps, whichever comes when, holds behind it. -/
theorem wp_region_inv {Q : Exit → Act → World → Prop} {id : Nat} {l : List Oper} {a : Act} {w : World} (hm : Tryz.prog.follows .mixedOrders = true) (hok : backOk l.toArray = true) (I : Array Bool → Act → World → Prop)
    (h0 : I (Array.replicate l.length false) a w.drew)
    (hstep : ∀ i o listed a w, l.toArray[i]? = some o → listed.size = l.toArray.size → listed.getD i false = false → (∀ e ∈ o.after, Region.binds .any e = true → listed.getD e.on false = true) → I listed a w →
      ∀ K : Act → World → Prop, (∀ a' w', I (listed.setIfInBounds i true) a' w' → K a' w') → (if Region.wanted o (yielded l.toArray a.tmps) = true then Oper.wp Tryz.prog o a w K Q else K (a.put o.dst undef) w))
    (hend : ∀ listed a w, listed.size = l.toArray.size → (∀ i, i < l.toArray.size → listed.getD i false = true) → I listed a w → Q .normal a w) : (Code.region id l.toArray true).wp Tryz.prog Q a w := by
  refine wp_region_any hm (wpAny_inv hok I hstep hend _ _ _ _ (by simp) (by simpa using h0) ?_)
  unfold left_
  exact Nat.le_trans (List.length_filter_le _ _) (by simp)

/-- A fact that a store into newer memory leaves as it is. -/
def Fact.SoftG (F : Fact) (g : Nat) : Prop := ∀ v w w' b, F.holds v w → g ≤ w.heap.size → g ≤ b → w.grownBy w' (some b) → F.holds v w'
def ptr0 (b : Nat) : Value := .pointer (some ⟨b, 0, none⟩)
section
variable (ops : Array Oper) (F : Nat → Fact) (base : List Nat) (N : Nat) (g : Nat) (p k : Nat) (zs vs : List Value)
structure XInv (a0 : Act) (w0 : World) (listed : Array Bool) (a : Act) (w : World) : Prop where
  tsize : a.tmps.size = N
  defers : a.defers = a0.defers
  base : ∀ t ∈ base, (F t).holds (a.tmps.getD t undef) w
  done : ∀ (i t : Nat), listed.getD i false = true → (ops[i]?).bind Oper.dst = some t → (F t).holds (a.tmps.getD t undef) w
  other : ∀ (t : Nat), (∀ (i : Nat), (ops[i]?).bind Oper.dst ≠ some t) → a.tmps.getD t undef = a0.tmps.getD t undef
  below : Below g w0 w
  gle : g ≤ w.heap.size
  made : ∀ i, listed.getD i false = true → (ops[i]?).bind Oper.dst = some p → ∃ b, a.tmps.getD p undef = ptr0 b ∧ g ≤ b ∧ (listed.getD k false = false → Bx w b zs) ∧ (listed.getD k false = true → Bx w b vs)
  closed : ∀ i o, ops[i]? = some o → listed.getD i false = true → ∀ e ∈ o.after, Region.binds .any e = true → listed.getD e.on false = true
/-- What an operation of such a region must show. -/
inductive XOb (f : Nat) (Q : Exit → Act → World → Prop) (i : Nat) (o : Oper) : Prop
  | plain (h : Ob ops Q F base N o) (hp : o.dst ≠ some p) (hk : i ≠ k) : XOb f Q i o
  | alloc (hd : o.dst = some p) (hg : o.guard = none) (hF : F p = Fact.any) (hk : i ≠ k) (hrun : ∀ (a : Act) (w : World), ∃ w', (execOp a.eval o).run Tryz.prog w = .ok (.value (ptr0 w.heap.size)) w' ∧ Below w.heap.size w w' ∧ Bx w' w.heap.size zs) : XOb f Q i o
  | store (hi : i = k) (hd : o.dst = none) (hg : o.guard = none) (hkn : known ops [] o p = true) (hk2 : known ops base o f = true)
      (hrun : ∀ (a : Act) (w : World) (b : Nat), a.tmps.getD p undef = ptr0 b → Bx w b zs → (F f).holds (a.tmps.getD f undef) w → ∃ w', (execOp a.eval o).run Tryz.prog w = .ok .skip w' ∧ w.grownBy w' (some b) ∧ Bx w' b vs) : XOb f Q i o
end
section
variable {ops : Array Oper} {Q : Exit → Act → World → Prop} {F : Nat → Fact} {base : List Nat} {N g : Nat} {p k f : Nat} {zs vs : List Value}
theorem XInv.closed' {a0 : Act} {w0 : World} {listed : Array Bool} {a : Act} {w : World} (h : XInv ops F base N g p k zs vs a0 w0 listed a w) (hs : listed.size = ops.size) {i : Nat} {o : Oper} (ho : ops[i]? = some o)
    (he : ∀ e ∈ o.after, Region.binds .any e = true → listed.getD e.on false = true) : ∀ j o', ops[j]? = some o' → (listed.setIfInBounds i true).getD j false = true → ∀ e ∈ o'.after, Region.binds .any e = true → (listed.setIfInBounds i true).getD e.on false = true := by
  have hlt : i < listed.size := by rw [hs]; exact (Array.getElem?_eq_some_iff.1 ho).1
  intro j o' ho' hl e hm hb
  rw [listed_set hlt] at hl ⊢
  rcases hl with rfl | hl
  · rw [ho] at ho'
    injection ho' with ho'
    subst ho'
    exact .inr (he e hm hb)
  · exact .inr (h.closed j o' ho' hl e hm hb)
theorem known_opX {o : Oper} {t : Nat} (hk : known ops [] o t = true) : ∃ e ∈ o.after, Region.binds .any e = true ∧ (ops[e.on]?).bind Oper.dst = some t := by
  unfold known at hk
  simp only [List.contains_nil, Bool.false_or] at hk
  obtain ⟨e, he, h⟩ := Array.any_eq_true'.1 hk
  simp only [Bool.and_eq_true, beq_iff_eq] at h
  exact ⟨e, he, h.1, h.2⟩
theorem XInv.step (hok : formOk ops base N = true) (hsoft : ∀ t, (F t).SoftG g) (hobs : ∀ j o', ops[j]? = some o' → XOb ops F base N p k zs vs f Q j o') {a0 : Act} {w0 : World} {listed : Array Bool} {a : Act} {w : World} (h : XInv ops F base N g p k zs vs a0 w0 listed a w) (hs : listed.size = ops.size) {i : Nat} {o : Oper} (ho : ops[i]? = some o)
    (hl0 : listed.getD i false = false) (he : ∀ e ∈ o.after, Region.binds .any e = true → listed.getD e.on false = true) (K : Act → World → Prop) (hK : ∀ a' w', XInv ops F base N g p k zs vs a0 w0 (listed.setIfInBounds i true) a' w' → K a' w') :
    (if Region.wanted o (yielded ops a.tmps) = true then Oper.wp Tryz.prog o a w K Q else K (a.put o.dst undef) w) := by
  have hdone : ∀ e ∈ o.after, Region.binds .any e = true → ∀ t, (ops[e.on]?).bind Oper.dst = some t → (F t).holds (a.tmps.getD t undef) w := fun e hm hb t ht => h.done e.on t (he e hm hb) ht
  have hlt : i < listed.size := by rw [hs]; exact (Array.getElem?_eq_some_iff.1 ho).1
  obtain ⟨_, hd⟩ := formOk_at hok ho
  cases hobs i o ho with
  | plain hob hp hk =>
    refine hob a w K h.tsize h.base hdone fun v w' hb hF => hK _ _ ?_
    refine ⟨?_, ?_, fun t ht => ?_, fun j t hj hjt => ?_, fun t ht => ?_, h.below.trans (hb.mono h.gle), Nat.le_trans h.gle hb.size, fun j hj hjd => ?_, h.closed' hs ho he⟩
    · cases o.dst <;> simpa [Act.put] using h.tsize
    · cases o.dst <;> simpa [Act.put] using h.defers
    · rw [getD_put_other (fun e => (hd t e).2.1 ht)]
      exact (F t).stable _ _ _ (h.base t ht) hb
    · by_cases hji : j = i
      · subst hji
        rw [ho] at hjt
        have hjt' : o.dst = some t := hjt
        rw [hjt', getD_put_same (by rw [h.tsize]; exact (hd t hjt').1)]
        exact hF t hjt'
      · have hl : listed.getD j false = true := ((listed_set hlt).1 hj).resolve_left hji
        rw [getD_put_other (fun e => (hd t e).2.2 j hji hjt)]
        exact (F t).stable _ _ _ (h.done j t hl hjt) hb
    · rw [getD_put_other (fun e => ht i (by rw [ho]; exact e))]
      exact h.other t ht
    · have hj' : listed.getD j false = true := ((listed_set hlt).1 hj).resolve_left (by
        rintro rfl
        rw [ho] at hjd
        exact hp hjd)
      obtain ⟨b, h1, h2, h3, h4⟩ := h.made j hj' hjd
      have hkk : (listed.setIfInBounds i true).getD k false = listed.getD k false := by
        have := listed_set (j := k) hlt
        cases hx : listed.getD k false
        · rw [Bool.eq_false_iff]
          intro hc
          rcases this.1 hc with e | e
          · exact hk e.symm
          · rw [hx] at e; cases e
        · exact this.2 (.inr hx)
      rw [hkk]
      exact ⟨b, by rw [getD_put_other hp]; exact h1, h2, fun hl => (h3 hl).next hb, fun hl => (h4 hl).next hb⟩
  | alloc hds hg hF hk hrun =>
    obtain ⟨w', hr, hb, hx⟩ := hrun a w
    rw [if_pos (by simp [Region.wanted, hg])]
    unfold Oper.wp
    rw [hr]
    have hps := (hd p hds)
    have hput : (a.put o.dst (ptr0 w.heap.size)).tmps.getD p undef = ptr0 w.heap.size := by
      rw [hds, getD_put_same (by rw [h.tsize]; exact hps.1)]
    have hold : ∀ t, t ≠ p → (a.put o.dst (ptr0 w.heap.size)).tmps.getD t undef = a.tmps.getD t undef := fun t ht => getD_put_other (by rw [hds]; intro e; injection e with e; exact ht e.symm)
    have hnk : listed.getD k false = false := by
      cases hc : listed.getD k false with
      | false => rfl
      | true =>
        exfalso
        have hlt2 : k < ops.size := by
          rcases Nat.lt_or_ge k listed.size with h1 | h1
          · rw [← hs]; exact h1
          · rw [Array.getD_eq_getD_getElem?, Array.getElem?_eq_none h1] at hc; cases hc
        have ho' : ops[k]? = some ops[k] := Array.getElem?_eq_getElem hlt2
        cases hobs k _ ho' with
        | plain _ _ h2 => exact h2 rfl
        | alloc _ _ _ h2 => exact h2 rfl
        | store _ _ _ hkn _ _ =>
          obtain ⟨e, hem, hb', hdst⟩ := known_opX hkn
          have h4 := h.closed _ _ ho' hc e hem hb'
          have h5 : e.on = i := by
            by_cases h6 : e.on = i
            · exact h6
            · exact absurd hdst (hps.2.2 e.on h6)
          rw [h5, hl0] at h4
          cases h4
    have hnk2 : (listed.setIfInBounds i true).getD k false = false := by
      rw [Bool.eq_false_iff]
      intro hc
      rcases (listed_set hlt).1 hc with e | e
      · exact hk e.symm
      · rw [hnk] at e; cases e
    refine hK _ _ ⟨?_, ?_, fun t ht => ?_, fun j t hj hjt => ?_, fun t ht => ?_, h.below.trans (hb.mono h.gle), Nat.le_trans h.gle hb.size, fun j hj hjd => ?_, h.closed' hs ho he⟩
    · cases o.dst <;> simpa [Act.put] using h.tsize
    · cases o.dst <;> simpa [Act.put] using h.defers
    · rw [hold t (fun e => hps.2.1 (e ▸ ht))]
      exact (F t).stable _ _ _ (h.base t ht) hb
    · by_cases hts : t = p
      · subst hts
        rw [hF]
        trivial
      · rw [hold t hts]
        refine (F t).stable _ _ _ (h.done j t (((listed_set hlt).1 hj).resolve_left ?_) hjt) hb
        rintro rfl
        rw [ho] at hjt
        exact hts (by have h5 : o.dst = some t := hjt; rw [hds] at h5; injection h5 with h5; exact h5.symm)
    · rw [hold t (by rintro rfl; exact ht i (by rw [ho]; exact hds))]
      exact h.other t ht
    · exact ⟨w.heap.size, hput, h.gle, fun _ => hx, fun hl => by rw [hnk2] at hl; cases hl⟩
  | store hi hd0 hg hkn hk2 hrun =>
    have hlk : listed.getD k false = false := by rw [← hi]; exact hl0
    rw [if_pos (by simp [Region.wanted, hg])]
    obtain ⟨e, hem, heb, hed⟩ := known_opX hkn
    obtain ⟨b, h1, h2, h3, _⟩ := h.made e.on (he e hem heb) hed
    have hf := known_fact h.base hdone hk2
    obtain ⟨w', hr, hgw, hx⟩ := hrun a w b h1 (h3 hlk) hf
    unfold Oper.wp
    rw [hr]
    have hput : a.put o.dst undef = a := by rw [hd0]; rfl
    show K (a.put o.dst undef) _
    rw [hput]
    have hold : ∀ m d, (listed.setIfInBounds i true).getD m false = true → (ops[m]?).bind Oper.dst = some d → listed.getD m false = true := fun m d hm hmd => ((listed_set hlt).1 hm).resolve_left (by
      rintro rfl
      rw [ho] at hmd
      have h5 : o.dst = some d := hmd
      rw [hd0] at h5; cases h5)
    have hii : (listed.setIfInBounds i true).getD k false = true := (listed_set hlt).2 (.inl hi.symm)
    exact hK _ _ ⟨h.tsize, h.defers, fun t ht => hsoft t _ _ _ _ (h.base t ht) h.gle h2 hgw, fun m t hm hmt => hsoft t _ _ _ _ (h.done m t (hold m t hm hmt) hmt) h.gle h2 hgw, h.other, h.below.grown hgw h.gle (fun j hj => by cases hj; exact h2), Nat.le_trans h.gle hgw.size, fun m hm hmd => ⟨b, h1, h2, fun hl => (by rw [hii] at hl; cases hl), fun _ => hx⟩, h.closed' hs ho he⟩
end
/-- **A region that makes one new variable and stores into it once**, whatever its order, and what comes behind it. -/
theorem wp_region_box {Q : Exit → Act → World → Prop} {id : Nat} {l : List Oper} {a : Act} {w : World} (hm : Tryz.prog.follows .mixedOrders = true) (F : Nat → Fact) (base : List Nat) (N : Nat) (p k f : Nat) (zs vs : List Value) (ds : List Nat) (hN : a.tmps.size = N) (hok : formOk l.toArray base N = true) (hback : backOk l.toArray = true) (hds : dstsOk l ds = true) (hpk : (ds.contains p && decide (k < l.length)) = true)
    (hsoft : ∀ t, (F t).SoftG w.heap.size) (hbase : ∀ t ∈ base, (F t).holds (a.tmps.getD t undef) w) (hstep : ∀ q ∈ l.zipIdx, XOb l.toArray F base N p k zs vs f Q q.2 q.1)
    (hend : ∀ (v : Nat → Value) w', (∀ t ∈ ds, (F t).holds (v t) w') → (∃ b, v p = ptr0 b ∧ w.heap.size ≤ b ∧ Bx w' b vs) → Below w.heap.size w w' → Q .normal { tmps := lay a.tmps ds v, defers := a.defers } w') : (Code.region id l.toArray true).wp Tryz.prog Q a w := by
  have hobs : ∀ j o', l.toArray[j]? = some o' → XOb l.toArray F base N p k zs vs f Q j o' := fun j o' h => by
    rw [List.getElem?_toArray] at h
    exact hstep (o', j) (List.mem_of_getElem? (i := j) (by rw [List.getElem?_zipIdx, h]; simp))
  have hnone : ∀ i, (Array.replicate l.length false).getD i false = true → False := fun i hi => by
    rw [Array.getD_eq_getD_getElem?, Array.getElem?_replicate] at hi
    split at hi <;> simp at hi
  simp only [Bool.and_eq_true, decide_eq_true_eq] at hpk
  refine wp_region_inv hm hback (XInv l.toArray F base N w.heap.size p k zs vs a w) ?_ (fun i o listed a' w' ho hs hl0 he h K hK => h.step hok hsoft hobs hs ho hl0 he K hK) fun listed a' w' hs hl h => ?_
  · exact ⟨hN, rfl, fun t ht => (F t).stable _ _ _ (hbase t ht) (Below.refl _ _).drew, fun i _ hi _ => (hnone i hi).elim, fun _ _ => rfl, (Below.refl _ _).drew, Nat.le_refl _, fun i hi _ => (hnone i hi).elim, fun i _ _ hi => (hnone i hi).elim⟩
  · have hw : ∀ t ∈ ds, ∃ i, listed.getD i false = true ∧ (l.toArray[i]?).bind Oper.dst = some t := fun t ht => by
      have h1 := hds
      simp only [dstsOk, Bool.and_eq_true] at h1
      have h2 := List.any_eq_true.1 (List.all_eq_true.1 h1.2 t ht)
      obtain ⟨o, ho, hd⟩ := h2
      obtain ⟨i, hi⟩ := List.getElem?_of_mem ho
      have hlt : i < l.toArray.size := by simpa using (List.getElem?_eq_some_iff.1 hi).1
      exact ⟨i, hl i hlt, by rw [List.getElem?_toArray, hi]; exact (by simpa using hd)⟩
    have hq := hend (fun t => a'.tmps.getD t undef) w' (fun t ht => by
      obtain ⟨i, hi, hd⟩ := hw t ht
      exact h.done i t hi hd) (by
      obtain ⟨i, hi, hd⟩ := hw p (by simpa using hpk.1)
      obtain ⟨b, h1, h2, _, h4⟩ := h.made i hi hd
      exact ⟨b, h1, h2, h4 (hl k (by simpa using hpk.2))⟩) h.below
    have heq : a' = { tmps := lay a.tmps ds fun t => a'.tmps.getD t undef, defers := a.defers } := by
      have hoth := h.other
      have hsz := h.tsize
      have hdef := h.defers
      clear hq hw h hs hl hobs hstep hend hbase
      obtain ⟨ts, df⟩ := a'
      have hdef' : df = a.defers := hdef
      subst hdef'
      congr 1
      have hsz' : ts.size = N := hsz
      refine Array.ext_getElem? fun t => ?_
      rcases Nat.lt_or_ge t N with hlt | hge
      · by_cases htd : t ∈ ds
        · rw [lay_at ds _ _ t htd (by omega), Array.getD_eq_getD_getElem?, Array.getElem?_eq_getElem (by omega)]; rfl
        · rw [lay_other ds _ _ t htd]
          have := hoth t fun i hi => by
            have h1 := hds
            simp only [dstsOk, Bool.and_eq_true] at h1
            rw [List.getElem?_toArray] at hi
            cases hl : l[i]? with
            | none => rw [hl] at hi; cases hi
            | some o =>
              rw [hl] at hi
              have h2 := List.all_eq_true.1 h1.1 o (List.mem_of_getElem? hl)
              have h3 : o.dst = some t := hi
              rw [h3] at h2
              exact htd (by simpa using h2)
          have h2 : ts.getD t undef = a.tmps.getD t undef := this
          rw [Array.getD_eq_getD_getElem?, Array.getD_eq_getD_getElem?, Array.getElem?_eq_getElem (by omega), Array.getElem?_eq_getElem (by omega)] at h2
          rw [Array.getElem?_eq_getElem (by omega), Array.getElem?_eq_getElem (by omega)]
          exact congrArg some h2
      · rw [Array.getElem?_eq_none (by omega), Array.getElem?_eq_none (by rw [lay_size]; omega)]
    rw [heq]
    exact hq
theorem at_soft (W0 : World) (u : Value) : (Fact.at_ W0 u).SoftG W0.heap.size := fun _ w _ _ ⟨h1, h2⟩ hg hb hgr => ⟨h1, h2.grown hgr hg (fun j hj => by cases hj; exact hb)⟩
theorem FF_soft {ks : List (Nat × Fact)} {g : Nat} (h : ∀ q ∈ ks, q.2.SoftG g) (t : Nat) : (FF ks t).SoftG g := by
  unfold FF
  cases e : ks.lookup t with
  | none => exact fun _ _ _ _ _ _ _ _ => trivial
  | some F =>
    have : (t, F) ∈ ks := by
      clear h
      induction ks with
      | nil => cases e
      | cons q ks ih =>
        obtain ⟨s, G⟩ := q
        rw [List.lookup_cons] at e
        cases hs : t == s with
        | true => rw [hs] at e; injection e with e; subst e; rw [show s = t from (by simpa using hs : t = s).symm]; exact List.mem_cons_self ..
        | false => rw [hs] at e; exact List.mem_cons_of_mem _ (ih e)
    exact h _ this
theorem Bx.put1 {w : World} {b : Nat} {vs : List Value} (h : Bx w b vs) (j : Nat) (v : Value) : Bx (w.setCell ⟨b, j, none⟩ v) b (vs.set j v) := by
  refine ⟨by simp; exact h.lt, fun i u e => ?_⟩
  have fr : (w.setCell ⟨b, j, none⟩ v).frozen? ⟨b, i, none⟩ = w.frozen? ⟨b, i, none⟩ := by simp
  rw [fr]
  by_cases hij : j = i
  · subst hij
    have hl : j < vs.length := by
      have := (List.getElem?_eq_some_iff.1 e).1
      simpa using this
    rw [List.getElem?_set_self hl] at e
    cases e
    have h1 := h.at_ j _ (List.getElem?_eq_getElem hl)
    exact ⟨World.cell?_setCell_same (h := h1.1) .., h1.2⟩
  · rw [List.getElem?_set_ne hij] at e
    have nn : (⟨b, j, none⟩ : Addr) ≠ ⟨b, i, none⟩ := fun e => hij (by injection e)
    exact ⟨(World.cell?_setCell_other (h := nn) ..).trans (h.at_ i u e).1, (h.at_ i u e).2⟩
theorem Bx.put2 {w : World} {b : Nat} {x y : Value} (h : Bx w b [x, y]) (x' y' : Value) : Bx ((w.setCell ⟨b, 0, none⟩ x').setCell ⟨b, 1, none⟩ y') b [x', y'] := (h.put1 0 x').put1 1 y'
theorem Bx.put3 {w : World} {b : Nat} {x y z : Value} (h : Bx w b [x, y, z]) (x' y' z' : Value) : Bx (((w.setCell ⟨b, 0, none⟩ x').setCell ⟨b, 1, none⟩ y').setCell ⟨b, 2, none⟩ z') b [x', y', z'] := ((h.put1 0 x').put1 1 y').put1 2 z'
theorem gb_set1 (w : World) (p : Addr) (u : Value) : w.grownBy (w.setCell p u) (some p.block) :=
  have b := Below.setCell (Below.refl 0 w) (Nat.zero_le p.block) u
  ⟨b.os, b.tape, b.output, b.size, fun i _ hne => Below.heap_setCell w p u i (fun e => hne (by rw [e]))⟩
theorem gb_set2 (w : World) (b : Nat) (x y : Value) : w.grownBy ((w.setCell ⟨b, 0, none⟩ x).setCell ⟨b, 1, none⟩ y) (some b) := (gb_set1 w ⟨b, 0, none⟩ x).trans (gb_set1 _ ⟨b, 1, none⟩ y)
theorem gb_set3 (w : World) (b : Nat) (x y z : Value) : w.grownBy (((w.setCell ⟨b, 0, none⟩ x).setCell ⟨b, 1, none⟩ y).setCell ⟨b, 2, none⟩ z) (some b) := (gb_set2 w b x y).trans (gb_set1 _ ⟨b, 2, none⟩ z)
end Go.Proofs.YthbhbpcjcnkkkaaGreatDoor
/-
  The reference's equality of fields, structs and enumerations. No conditions beyond those that each names.
-/
namespace Go.Proofs.YthbhbpcjcnkkkaaGreatDoor
open Go.RowKit
noncomputable def eqF (f g : Fd) : Bool := @decide (f = g) (Classical.propDecidable _)
theorem eqF_iff {f g : Fd} : eqF f g = true ↔ f = g := @decide_eq_true_iff _ (Classical.propDecidable _)
theorem eqF_no {f g : Fd} (h : f ≠ g) : eqF f g = false := by
  cases e : eqF f g
  · rfl
  · exact absurd (eqF_iff.1 e) h
noncomputable def eqS (f g : St) : Bool := @decide (f = g) (Classical.propDecidable _)
theorem eqS_iff {f g : St} : eqS f g = true ↔ f = g := @decide_eq_true_iff _ (Classical.propDecidable _)
theorem eqS_no {f g : St} (h : f ≠ g) : eqS f g = false := by
  cases e : eqS f g
  · rfl
  · exact absurd (eqS_iff.1 e) h
noncomputable def eqE (f g : En) : Bool := @decide (f = g) (Classical.propDecidable _)
theorem eqE_iff {f g : En} : eqE f g = true ↔ f = g := @decide_eq_true_iff _ (Classical.propDecidable _)
theorem eqE_no {f g : En} (h : f ≠ g) : eqE f g = false := by
  cases e : eqE f g
  · rfl
  · exact absurd (eqE_iff.1 e) h
theorem sq_eq {x y : List UInt8} (h : x = y) : ((bs x).toList == (bs y).toList) = true := by rw [h]; exact sq_t y
theorem sn_eq {x y : List UInt8} (h : x = y) : ((bs x).toList != (bs y).toList) = false := by rw [h]; exact sn_t y
set_option maxRecDepth 100000 in
set_option maxHeartbeats 4000000 in
theorem refSameField_any (f g : Fd) (u v : Value) (w : World) (hl : lok f.type) (hl' : lok g.type) (hu : FdV w f u) (hv : FdV w g v) :
    Calls Tryz.prog 21 #[u, v] w (Ib (.bool (eqF f g)) w) := by
  obtain ⟨A, c, rfl, hR⟩ := hu
  obtain ⟨A', c', rfl, hR'⟩ := hv
  obtain ⟨q, hq⟩ : ∃ q, f.type.elem.length = q := ⟨_, rfl⟩
  obtain ⟨q', hq'⟩ : ∃ q, g.type.elem.length = q := ⟨_, rfl⟩
  have HQ := Lib.hid hq
  have HQ' := Lib.hid hq'
  rw [hq, hq']
  clear hq hq'
  have hab := ab2 w (Obj.cells #[.int .i64 f.num, .string (bs f.name), .int .i64 f.type.kind, .int .i64 f.type.size, .string (bs f.type.name), .slice A q c, .bool f.opt] 47) (Obj.cells #[.int .i64 g.num, .string (bs g.name), .int .i64 g.type.kind, .int .i64 g.type.size, .string (bs g.type.name), .slice A' q' c', .bool g.opt] 47)
  by_cases h1 : f.num = g.num
  · have d1 : (f.num == g.num) = true := by simpa using h1
    by_cases h2 : f.name = g.name
    · have d2 := sq_eq h2
      by_cases h3 : f.opt = g.opt
      · have d3 : (f.opt == g.opt) = true := by simpa using h3
        have hT : TyV ((w.alloc (Obj.cells #[.int .i64 f.num, .string (bs f.name), .int .i64 f.type.kind, .int .i64 f.type.size, .string (bs f.type.name), .slice A q c, .bool f.opt] 47)).alloc (Obj.cells #[.int .i64 g.num, .string (bs g.name), .int .i64 g.type.kind, .int .i64 g.type.size, .string (bs g.type.name), .slice A' q' c', .bool g.opt] 47)) f.type (.agg #[.int .i64 f.type.kind, .int .i64 f.type.size, .string (bs f.type.name), .slice A q c]) := ⟨A, c, by rw [HQ.out], hR.next fun x p => TyA.next hab x p⟩
        have hT' : TyV ((w.alloc (Obj.cells #[.int .i64 f.num, .string (bs f.name), .int .i64 f.type.kind, .int .i64 f.type.size, .string (bs f.type.name), .slice A q c, .bool f.opt] 47)).alloc (Obj.cells #[.int .i64 g.num, .string (bs g.name), .int .i64 g.type.kind, .int .i64 g.type.size, .string (bs g.type.name), .slice A' q' c', .bool g.opt] 47)) g.type (.agg #[.int .i64 g.type.kind, .int .i64 g.type.size, .string (bs g.type.name), .slice A' q' c']) := ⟨A', c', by rw [HQ'.out], hR'.next fun x p => TyA.next hab x p⟩
        have cX := refSame_any (SizeOf.sizeOf f.type + 1) f.type g.type _ _ _ (Nat.lt_succ_self _) hl hl' hT hT'
        have he : eqF f g = eqT f.type g.type := by
          rw [Bool.eq_iff_iff, eqF_iff, eqT_iff]
          obtain ⟨a, b, d, t⟩ := f
          obtain ⟨a', b', d', t'⟩ := g
          have h1 : a = a' := h1
          have h2 : b = b' := h2
          have h3 : d = d' := h3
          subst h1 h2 h3
          exact ⟨fun h => (by injection h), fun h => (by have h : t = t' := h; rw [h])⟩
        rw [he]
        obtain ⟨r, hr⟩ : ∃ r, eqT f.type g.type = r := ⟨_, rfl⟩
        rw [hr] at cX ⊢
        clear hr he h1 h2 h3 hT hT' hR hR' hl hl'
        go_enter Tryz.func21, Tryz.ntmps21
        go_wp2_with fail
        refine cX.mono ?_
        rintro e w' ⟨rfl, hb⟩
        go_wp2_with fail
        go_ret
        exact ⟨rfl, Below.next hab hb⟩
      · have d3 : (f.opt == g.opt) = false := by simpa using h3
        rw [eqF_no (fun h => h3 (by rw [h]))]
        clear h1 h2 h3 hR hR' hl hl'
        go_enter Tryz.func21, Tryz.ntmps21
        go_wp2_with fail
        go_ret
        exact ⟨rfl, hab⟩
    · have d2 := sq_f h2
      rw [eqF_no (fun h => h2 (by rw [h]))]
      clear h1 h2 hR hR' hl hl'
      go_enter Tryz.func21, Tryz.ntmps21
      go_wp2_with fail
      go_ret
      exact ⟨rfl, hab⟩
  · have d1 : (f.num == g.num) = false := by simpa using h1
    rw [eqF_no (fun h => h1 (by rw [h]))]
    clear h1 hR hR' hl hl'
    go_enter Tryz.func21, Tryz.ntmps21
    go_wp2_with fail
    go_ret
    exact ⟨rfl, hab⟩
set_option maxRecDepth 100000 in
set_option maxHeartbeats 4000000 in
theorem refSameStruct_any (s t : St) (u v : Value) (w : World) (hn : s.fields.length ≤ 1000000) (hl : ∀ f ∈ s.fields, lok f.type) (hl' : ∀ f ∈ t.fields, lok f.type) (hu : StV w s u) (hv : StV w t v) :
    Calls Tryz.prog 17 #[u, v] w (Ib (.bool (eqS s t)) w) := by
  obtain ⟨A, c, rfl, hR⟩ := hu
  obtain ⟨A', c', rfl, hR'⟩ := hv
  obtain ⟨n, hnn⟩ : ∃ n, s.fields.length = n := ⟨_, rfl⟩
  obtain ⟨m, hmm⟩ : ∃ n, t.fields.length = n := ⟨_, rfl⟩
  have HN := Lib.hid hnn
  have HM := Lib.hid hmm
  rw [hnn] at hn ⊢
  rw [hmm]
  obtain ⟨r0, hr0⟩ : ∃ r, eqS s t = r := ⟨_, rfl⟩
  have HR0 := Lib.hid hr0
  rw [hr0]
  have hz : (w.alloc (Obj.cells #[.string (bs s.name), .slice A n c] 32)).heap.size = w.heap.size + 1 := by simp
  have hab := ab2 w (Obj.cells #[.string (bs s.name), .slice A n c] 32) (Obj.cells #[.string (bs t.name), .slice A' m c'] 32)
  have R1 := (Bx.new2 w 32 (.string (bs s.name)) (.slice A n c)).next (ab1 _ (Obj.cells #[.string (bs t.name), .slice A' m c'] 32))
  have R2 := Bx.new2 (w.alloc (Obj.cells #[.string (bs s.name), .slice A n c] 32)) 32 (.string (bs t.name)) (.slice A' m c')
  rw [hz] at R2
  clear hnn hmm hr0 hz
  by_cases h1 : s.name = t.name
  · have d1 := sn_eq h1
    have d0 := sq_eq h1
    replace h1 := Lib.hid h1
    by_cases h2 : n = m
    · subst h2
      have d2 : ((n : Int) != (n : Int)) = false := by simp
      have HI : Hid (∀ j (h : j < s.fields.length) (h' : j < t.fields.length), j < 0 → s.fields[j]'h = t.fields[j]'h') := Lib.hid fun _ _ _ h => by omega
      go_enter Tryz.func17, Tryz.ntmps17
      go_wp2_with fail
      clear d1 d2 d0
      go_loopw [5] (fun i wr => ∃ k : Nat, k ≤ n ∧ i = .int .i64 (k : Int) ∧ Hid (∀ j (h : j < s.fields.length) (h' : j < t.fields.length), j < k → s.fields[j]'h = t.fields[j]'h') ∧ Bx wr w.heap.size [.string (bs s.name), .slice A n c] ∧ Bx wr (w.heap.size + 1) [.string (bs t.name), .slice A' n c'] ∧ Below w.heap.size w wr) (fun i _ => n - (intOf i).toNat)
      case atStart => exact ⟨0, by omega, rfl, HI, R1, R2, hab⟩
      case round =>
        clear R1 R2 hab HI
        obtain ⟨k, hk, rfl, hI, R1, R2, hb⟩ := hrel
        have r1 := R1.c 1 rfl
        have r2 := R2.c 1 rfl
        have l1 := R2.lt
        by_cases hlt : k < n
        · have hks : k < s.fields.length := by rw [HN.out]; exact hlt
          have hkt : k < t.fields.length := by rw [HM.out]; exact hlt
          obtain ⟨a, rfl, hA⟩ := hR.get hks
          obtain ⟨a', rfl, hA'⟩ := hR'.get hkt
          obtain ⟨A5, c5, f0, f1, f2, f3, f4, f5, f6, hFV, -⟩ := (FdA.next hb hA).val
          obtain ⟨A6, c6, k0, k1, k2, k3, k4, k5, k6, hFV', -⟩ := (FdA.next hb hA').val
          have hlf := hl _ (List.getElem_mem hks)
          have hlg := hl' _ (List.getElem_mem hkt)
          have hno : s.fields[k]'hks ≠ t.fields[k]'hkt → s ≠ t := fun h e => h (by subst e; rfl)
          have hyes := fun (e : s.fields[k]'hks = t.fields[k]'hkt) => before_succ (p := fun j => ∀ (h : j < s.fields.length) (h' : j < t.fields.length), s.fields[j]'h = t.fields[j]'h') (k := k) (fun j hj h h' => hI.out j h h' hj) (fun _ _ => e)
          generalize s.fields[k]'hks = f at *
          generalize t.fields[k]'hkt = g at *
          have cX := fun W (hW : Below wr.heap.size wr W) => refSameField_any f g _ _ W hlf hlg (hFV.next hW) (hFV'.next hW)
          obtain ⟨r, hr⟩ : ∃ r, eqF f g = r := ⟨_, rfl⟩
          rw [hr] at cX
          have HRR := Lib.hid hr
          clear hr hFV hFV' hA hA' hlf hlg
          go_upto_region 6 with (fail)
          refine wp_region_on (by kernel_rfl) (FF [(2, Fact.at_ wr (.pointer (some ⟨w.heap.size, 0, none⟩))), (3, Fact.at_ wr (.pointer (some ⟨w.heap.size + 1, 0, none⟩))), (5, Fact.at_ wr (.int .i64 (k : Int))), (27, Fact.at_ wr (.pointer (some ⟨w.heap.size, 1, none⟩))), (28, Fact.at_ wr (.slice (some a) n c)), (29, Fact.at_ wr (.int .i64 (k : Int))), (30, Fact.at_ wr (.pointer (some (a.add (k * 7))))), (31, Fact.at_ wr (.agg #[.int .i64 f.num, .string (bs f.name), .int .i64 f.type.kind, .int .i64 f.type.size, .string (bs f.type.name), .slice A5 f.type.elem.length c5, .bool f.opt])), (32, Fact.at_ wr (.pointer (some ⟨w.heap.size + 1, 1, none⟩))), (33, Fact.at_ wr (.slice (some a') n c')), (34, Fact.at_ wr (.int .i64 (k : Int))), (35, Fact.at_ wr (.pointer (some (a'.add (k * 7))))), (36, Fact.at_ wr (.agg #[.int .i64 g.num, .string (bs g.name), .int .i64 g.type.kind, .int .i64 g.type.size, .string (bs g.type.name), .slice A6 g.type.elem.length c6, .bool g.opt])), (37, Fact.at_ wr (.bool r)), (38, Fact.at_ wr (.bool (!r)))]) [2, 3, 5] 39 [27, 28, 29, 30, 31, 32, 33, 34, 35, 36, 37, 38] rfl (by kernel_rfl) (by kernel_rfl) ?_ ?_ ?_
          · intro t9 ht9
            simp only [List.mem_cons, List.not_mem_nil, or_false] at ht9
            rcases ht9 with rfl | rfl | rfl
            · exact ⟨rfl, Below.refl _ _⟩
            · exact ⟨rfl, Below.refl _ _⟩
            · exact ⟨rfl, Below.refl _ _⟩
          · refine fcs ⟨at1 2 27 (.pointer (some ⟨w.heap.size, 0, none⟩)) (.pointer (some ⟨w.heap.size, 1, none⟩)) rfl (by first | exact .inl rfl | exact .inr ⟨_, _, _, rfl, rfl, by kernel_rfl, by decide, rfl⟩) (by kernel_rfl) rfl rfl (fun a9 W9 hb9 h9 => by simp [execOp, h9] <;> go_simp), ?_⟩
            refine fcs ⟨at1 27 28 (.pointer (some ⟨w.heap.size, 1, none⟩)) (.slice (some a) n c) rfl (by first | exact .inl rfl | exact .inr ⟨_, _, _, rfl, rfl, by kernel_rfl, by decide, rfl⟩) (by kernel_rfl) rfl rfl (fun a9 W9 hb9 h9 => by have g0 := cell_next hb9 r1; simp [execOp, h9] <;> go_simp), ?_⟩
            refine fcs ⟨atcopy 5 29 (.int .i64 (k : Int)) (.inl rfl) rfl (by first | exact .inl rfl | exact .inr ⟨_, _, _, rfl, rfl, by kernel_rfl, by decide, rfl⟩) (by kernel_rfl) rfl rfl, ?_⟩
            refine fcs ⟨at2 28 29 30 (.slice (some a) n c) (.int .i64 (k : Int)) (.pointer (some (a.add (k * 7)))) rfl (by first | exact .inl rfl | exact .inr ⟨_, _, _, rfl, rfl, by kernel_rfl, by decide, rfl⟩) (by kernel_rfl) (by kernel_rfl) rfl rfl rfl (fun a9 W9 hb9 h9 h8 => by simp [execOp, h9, h8] <;> go_simp), ?_⟩
            refine fcs ⟨at1 30 31 (.pointer (some (a.add (k * 7)))) (.agg #[.int .i64 f.num, .string (bs f.name), .int .i64 f.type.kind, .int .i64 f.type.size, .string (bs f.type.name), .slice A5 f.type.elem.length c5, .bool f.opt]) rfl (by first | exact .inl rfl | exact .inr ⟨_, _, _, rfl, rfl, by kernel_rfl, by decide, rfl⟩) (by kernel_rfl) rfl rfl (fun a9 W9 hb9 h9 => by have g0 := cell_next hb9 f0; have g1 := cell_next hb9 f1; have g2 := cell_next hb9 f2; have g3 := cell_next hb9 f3; have g4 := cell_next hb9 f4; have g5 := cell_next hb9 f5; have g6 := cell_next hb9 f6; simp [execOp, h9] <;> go_simp), ?_⟩
            refine fcs ⟨at1 3 32 (.pointer (some ⟨w.heap.size + 1, 0, none⟩)) (.pointer (some ⟨w.heap.size + 1, 1, none⟩)) rfl (by first | exact .inl rfl | exact .inr ⟨_, _, _, rfl, rfl, by kernel_rfl, by decide, rfl⟩) (by kernel_rfl) rfl rfl (fun a9 W9 hb9 h9 => by simp [execOp, h9] <;> go_simp), ?_⟩
            refine fcs ⟨at1 32 33 (.pointer (some ⟨w.heap.size + 1, 1, none⟩)) (.slice (some a') n c') rfl (by first | exact .inl rfl | exact .inr ⟨_, _, _, rfl, rfl, by kernel_rfl, by decide, rfl⟩) (by kernel_rfl) rfl rfl (fun a9 W9 hb9 h9 => by have g0 := cell_next hb9 r2; simp [execOp, h9] <;> go_simp), ?_⟩
            refine fcs ⟨atcopy 5 34 (.int .i64 (k : Int)) (.inl rfl) rfl (by first | exact .inl rfl | exact .inr ⟨_, _, _, rfl, rfl, by kernel_rfl, by decide, rfl⟩) (by kernel_rfl) rfl rfl, ?_⟩
            refine fcs ⟨at2 33 34 35 (.slice (some a') n c') (.int .i64 (k : Int)) (.pointer (some (a'.add (k * 7)))) rfl (by first | exact .inl rfl | exact .inr ⟨_, _, _, rfl, rfl, by kernel_rfl, by decide, rfl⟩) (by kernel_rfl) (by kernel_rfl) rfl rfl rfl (fun a9 W9 hb9 h9 h8 => by simp [execOp, h9, h8] <;> go_simp), ?_⟩
            refine fcs ⟨at1 35 36 (.pointer (some (a'.add (k * 7)))) (.agg #[.int .i64 g.num, .string (bs g.name), .int .i64 g.type.kind, .int .i64 g.type.size, .string (bs g.type.name), .slice A6 g.type.elem.length c6, .bool g.opt]) rfl (by first | exact .inl rfl | exact .inr ⟨_, _, _, rfl, rfl, by kernel_rfl, by decide, rfl⟩) (by kernel_rfl) rfl rfl (fun a9 W9 hb9 h9 => by have g0 := cell_next hb9 k0; have g1 := cell_next hb9 k1; have g2 := cell_next hb9 k2; have g3 := cell_next hb9 k3; have g4 := cell_next hb9 k4; have g5 := cell_next hb9 k5; have g6 := cell_next hb9 k6; simp [execOp, h9] <;> go_simp), ?_⟩
            refine fcs ⟨atc2 21 31 36 37 (.agg #[.int .i64 f.num, .string (bs f.name), .int .i64 f.type.kind, .int .i64 f.type.size, .string (bs f.type.name), .slice A5 f.type.elem.length c5, .bool f.opt]) (.agg #[.int .i64 g.num, .string (bs g.name), .int .i64 g.type.kind, .int .i64 g.type.size, .string (bs g.type.name), .slice A6 g.type.elem.length c6, .bool g.opt]) (.bool r) _ rfl rfl (by first | exact .inl rfl | exact .inr ⟨_, _, _, rfl, rfl, by kernel_rfl, by decide, rfl⟩) (by kernel_rfl) (by kernel_rfl) rfl rfl (by kernel_rfl) rfl (fun W9 hb9 => cX W9 hb9), ?_⟩
            refine fcs ⟨at1 37 38 (.bool r) (.bool (!r)) rfl (by first | exact .inl rfl | exact .inr ⟨_, _, _, rfl, rfl, by kernel_rfl, by decide, rfl⟩) (by kernel_rfl) rfl rfl (fun a9 W9 hb9 h9 => by simp [execOp, h9] <;> go_simp), ?_⟩
            exact fnl
          intro vv wv hvv hbv
          have hv38 : vv 38 = (.bool (!r)) := (hvv 38 (by decide)).1
          simp only [lay, List.foldl_cons, List.foldl_nil, List.setIfInBounds_toArray, List.set_cons_succ, List.set_cons_zero, hv38]
          have hb2 := Below.next hb hbv
          cases r
          · have E := Lib.hid (show false = r0 by rw [← HR0.out]; exact (eqS_no (hno (fun e => by rw [eqF_iff.2 e] at HRR; cases HRR.out))).symm)
            clear hvv cX
            go_wp2_with fail
            go_ret
            exact ⟨by rw [← E.out]; rfl, hb2⟩
          · have E := Lib.hid (hyes (eqF_iff.1 HRR.out))
            clear hvv cX
            go_wp2_with fail
            go_roundw
            case rel => exact ⟨k + 1, by omega, by go_num, Lib.hid (fun j h h' hj => E.out j hj h h'), R1.next hbv, R2.next hbv, hb2⟩
            case measure => simp [intOf]; omega
        · obtain rfl : k = n := by omega
          have E := Lib.hid (show true = r0 by
            rw [← HR0.out, eq_comm, eqS_iff]
            obtain ⟨nm, fs⟩ := s
            obtain ⟨nm', fs'⟩ := t
            have h1 : nm = nm' := h1.out
            subst h1
            congr 1
            exact List.ext_getElem (by rw [HN.out, HM.out]) fun j h h' => hI.out j h h' (by rw [← HN.out]; exact h))
          clear hI
          go_wp2_with fail
          go_ret
          exact ⟨by rw [← E.out]; rfl, hb⟩
    · have d2 : ((n : Int) != (m : Int)) = true := by rw [bne_iff_ne]; omega
      obtain rfl : false = r0 := by rw [← HR0.out]; exact (eqS_no (fun h => h2 (by rw [← HN.out, ← HM.out, h]))).symm
      go_enter Tryz.func17, Tryz.ntmps17
      go_wp2_with fail
      go_ret
      exact ⟨rfl, hab⟩
  · have d1 := sn_f h1
    have d0 := sq_f h1
    obtain rfl : false = r0 := by rw [← HR0.out]; exact (eqS_no (fun h => h1 (by rw [h]))).symm
    go_enter Tryz.func17, Tryz.ntmps17
    go_wp2_with fail
    go_ret
    exact ⟨rfl, hab⟩
set_option maxRecDepth 100000 in
set_option maxHeartbeats 4000000 in
theorem refSameEnum_any (s t : En) (u v : Value) (w : World) (hn : s.names.length ≤ 1000000) (hn2 : s.nums.length ≤ 1000000) (hu : EnV w s u) (hv : EnV w t v) :
    Calls Tryz.prog 18 #[u, v] w (Ib (.bool (eqE s t)) w) := by
  obtain ⟨A, c, B, d, rfl, hR, hI_⟩ := hu
  obtain ⟨A', c', B', d', rfl, hR', hI'_⟩ := hv
  obtain ⟨n, hnn⟩ : ∃ n, s.names.length = n := ⟨_, rfl⟩
  obtain ⟨m, hmm⟩ : ∃ n, t.names.length = n := ⟨_, rfl⟩
  obtain ⟨x, hxx⟩ : ∃ n, s.nums.length = n := ⟨_, rfl⟩
  obtain ⟨y, hyy⟩ : ∃ n, t.nums.length = n := ⟨_, rfl⟩
  have HN := Lib.hid hnn
  have HM := Lib.hid hmm
  have HX := Lib.hid hxx
  have HY := Lib.hid hyy
  rw [hnn] at hn ⊢
  rw [hxx] at hn2 ⊢
  rw [hmm, hyy]
  obtain ⟨r0, hr0⟩ : ∃ r, eqE s t = r := ⟨_, rfl⟩
  have HR0 := Lib.hid hr0
  rw [hr0]
  have hz : (w.alloc (Obj.cells #[.string (bs s.name), .slice A n c, .slice B x d] 38)).heap.size = w.heap.size + 1 := by simp
  have hab := ab2 w (Obj.cells #[.string (bs s.name), .slice A n c, .slice B x d] 38) (Obj.cells #[.string (bs t.name), .slice A' m c', .slice B' y d'] 38)
  have R1 := (Bx.new3 w 38 (.string (bs s.name)) (.slice A n c) (.slice B x d)).next (ab1 _ (Obj.cells #[.string (bs t.name), .slice A' m c', .slice B' y d'] 38))
  have R2 := Bx.new3 (w.alloc (Obj.cells #[.string (bs s.name), .slice A n c, .slice B x d] 38)) 38 (.string (bs t.name)) (.slice A' m c') (.slice B' y d')
  rw [hz] at R2
  clear hnn hmm hxx hyy hr0 hz
  by_cases h1 : s.name = t.name
  · have d1 := sn_eq h1
    have d0 := sq_eq h1
    replace h1 := Lib.hid h1
    by_cases h2 : n = m
    · subst h2
      have d2 : ((n : Int) != (n : Int)) = false := by simp
      by_cases h3 : x = y
      · subst h3
        have d3 : ((x : Int) != (x : Int)) = false := by simp
        have HI : Hid (∀ j (h : j < s.names.length) (h' : j < t.names.length), j < 0 → s.names[j]'h = t.names[j]'h') := Lib.hid fun _ _ _ h => by omega
        go_enter Tryz.func18, Tryz.ntmps18
        go_wp2_with fail
        clear d1 d2 d3 d0
        go_loopw [5] (fun i wr => ∃ k : Nat, k ≤ n ∧ i = .int .i64 (k : Int) ∧ Hid (∀ j (h : j < s.names.length) (h' : j < t.names.length), j < k → s.names[j]'h = t.names[j]'h') ∧ Bx wr w.heap.size [.string (bs s.name), .slice A n c, .slice B x d] ∧ Bx wr (w.heap.size + 1) [.string (bs t.name), .slice A' n c', .slice B' x d'] ∧ Below w.heap.size w wr) (fun i _ => n - (intOf i).toNat)
        case atStart => exact ⟨0, by omega, rfl, HI, R1, R2, hab⟩
        case round =>
          clear R1 R2 hab HI
          obtain ⟨k, hk, rfl, hI, R1, R2, hb⟩ := hrel
          have r1 := R1.c 1 rfl
          have r2 := R2.c 1 rfl
          have l1 := R2.lt
          by_cases hlt : k < n
          · have hks : k < s.names.length := by rw [HN.out]; exact hlt
            have hkt : k < t.names.length := by rw [HM.out]; exact hlt
            obtain ⟨a, rfl, hA⟩ := hR.get hks
            obtain ⟨a', rfl, hA'⟩ := hR'.get hkt
            rw [Nat.mul_one] at hA hA'
            have f0 : wr.cell? (a.add k) = some (.string (bs (s.names[k]'hks))) := cell_next hb hA
            have f1 : wr.cell? (a'.add k) = some (.string (bs (t.names[k]'hkt))) := cell_next hb hA'
            have hno : s.names[k]'hks ≠ t.names[k]'hkt → s ≠ t := fun h e => h (by subst e; rfl)
            have hyes := fun (e : s.names[k]'hks = t.names[k]'hkt) => before_succ (p := fun j => ∀ (h : j < s.names.length) (h' : j < t.names.length), s.names[j]'h = t.names[j]'h') (k := k) (fun j hj h h' => hI.out j h h' hj) (fun _ _ => e)
            generalize s.names[k]'hks = f at *
            generalize t.names[k]'hkt = g at *
            clear hA hA'
            by_cases e : f = g
            · have E := Lib.hid (hyes e)
              have q1 := sn_eq e
              have q2 := sq_eq e
              clear hno hyes hI e
              go_wp2_with fail
              go_quiet (fail)
              go_wp2_with fail
              go_roundw
              case rel => exact ⟨k + 1, by omega, by go_num, Lib.hid (fun j h h' hj => E.out j hj h h'), R1.next (below_drewN (Below.refl _ _) _), R2.next (below_drewN (Below.refl _ _) _), below_drewN hb _⟩
              case measure => simp [intOf]; omega
            · have E := Lib.hid (show false = r0 by rw [← HR0.out]; exact (eqE_no (hno e)).symm)
              have q1 := sn_f e
              have q2 := sq_f e
              clear hno hyes hI e
              go_wp2_with fail
              go_quiet (fail)
              go_wp2_with fail
              go_ret
              exact ⟨by rw [← E.out]; rfl, below_drewN hb _⟩
          · obtain rfl : k = n := by omega
            have HNM := Lib.hid (show s.names = t.names from List.ext_getElem (by rw [HN.out, HM.out]) fun j h h' => hI.out j h h' (by rw [← HN.out]; exact h))
            have HI : Hid (∀ j (h : j < s.nums.length) (h' : j < t.nums.length), j < 0 → s.nums[j]'h = t.nums[j]'h') := Lib.hid fun _ _ _ h => by omega
            clear hI hlt
            go_wp2_with fail
            clear r1 r2 l1
            rename World => wo
            go_loopw [6] (fun i wr => ∃ k2 : Nat, k2 ≤ x ∧ i = .int .i64 (k2 : Int) ∧ Hid (∀ j (h : j < s.nums.length) (h' : j < t.nums.length), j < k2 → s.nums[j]'h = t.nums[j]'h') ∧ Bx wr w.heap.size [.string (bs s.name), .slice A k c, .slice B x d] ∧ Bx wr (w.heap.size + 1) [.string (bs t.name), .slice A' k c', .slice B' x d'] ∧ Below w.heap.size w wr) (fun i _ => x - (intOf i).toNat)
            case atStart => exact ⟨0, by omega, rfl, HI, R1, R2, hb⟩
            case round =>
              clear R1 R2 hb HI
              obtain ⟨k2, hk2, rfl, hI, R1, R2, hb⟩ := hrel
              have r1 := R1.c 2 rfl
              have r2 := R2.c 2 rfl
              have l1 := R2.lt
              by_cases hlt : k2 < x
              · have hks : k2 < s.nums.length := by rw [HX.out]; exact hlt
                have hkt : k2 < t.nums.length := by rw [HY.out]; exact hlt
                obtain ⟨a, rfl, hA⟩ := hI_.get hks
                obtain ⟨a', rfl, hA'⟩ := hI'_.get hkt
                rw [Nat.mul_one] at hA hA'
                have f0 : wr.cell? (a.add k2) = some (.int .i64 (s.nums[k2]'hks)) := cell_next hb hA
                have f1 : wr.cell? (a'.add k2) = some (.int .i64 (t.nums[k2]'hkt)) := cell_next hb hA'
                have hno : s.nums[k2]'hks ≠ t.nums[k2]'hkt → s ≠ t := fun h e => h (by subst e; rfl)
                have hyes := fun (e : s.nums[k2]'hks = t.nums[k2]'hkt) => before_succ (p := fun j => ∀ (h : j < s.nums.length) (h' : j < t.nums.length), s.nums[j]'h = t.nums[j]'h') (k := k2) (fun j hj h h' => hI.out j h h' hj) (fun _ _ => e)
                generalize s.nums[k2]'hks = f at *
                generalize t.nums[k2]'hkt = g at *
                clear hA hA'
                by_cases e : f = g
                · have E := Lib.hid (hyes e)
                  have q1 : (f != g) = false := by rw [e]; simp
                  have q2 : (f == g) = true := by rw [e]; simp
                  clear hno hyes hI e
                  go_wp2_with fail
                  go_quiet (fail)
                  go_wp2_with fail
                  go_roundw
                  case rel => exact ⟨k2 + 1, by omega, by go_num, Lib.hid (fun j h h' hj => E.out j hj h h'), R1.next (below_drewN (Below.refl _ _) _), R2.next (below_drewN (Below.refl _ _) _), below_drewN hb _⟩
                  case measure => simp [intOf]; omega
                · have E := Lib.hid (show false = r0 by rw [← HR0.out]; exact (eqE_no (hno e)).symm)
                  have q1 : (f != g) = true := by rw [bne_iff_ne]; exact e
                  have q2 : (f == g) = false := by rw [beq_eq_false_iff_ne]; exact e
                  clear hno hyes hI e
                  go_wp2_with fail
                  go_quiet (fail)
                  go_wp2_with fail
                  go_ret
                  exact ⟨by rw [← E.out]; rfl, below_drewN hb _⟩
              · obtain rfl : k2 = x := by omega
                have E := Lib.hid (show true = r0 by
                  rw [← HR0.out, eq_comm, eqE_iff]
                  have h5 : s.nums = t.nums := List.ext_getElem (by rw [HX.out, HY.out]) fun j h h' => hI.out j h h' (by rw [← HX.out]; exact h)
                  have h6 := HNM.out
                  obtain ⟨nm, ns, is⟩ := s
                  obtain ⟨nm', ns', is'⟩ := t
                  have h1 : nm = nm' := h1.out
                  have h5 : is = is' := h5
                  have h6 : ns = ns' := h6
                  rw [h1, h5, h6])
                clear hI
                go_wp2_with fail
                go_ret
                exact ⟨by rw [← E.out]; rfl, hb⟩
      · have d3 : ((x : Int) != (y : Int)) = true := by rw [bne_iff_ne]; omega
        obtain rfl : false = r0 := by rw [← HR0.out]; exact (eqE_no (fun h => h3 (by rw [← HX.out, ← HY.out, h]))).symm
        go_enter Tryz.func18, Tryz.ntmps18
        go_wp2_with fail
        go_ret
        exact ⟨rfl, hab⟩
    · have d2 : ((n : Int) != (m : Int)) = true := by rw [bne_iff_ne]; omega
      obtain rfl : false = r0 := by rw [← HR0.out]; exact (eqE_no (fun h => h2 (by rw [← HN.out, ← HM.out, h]))).symm
      go_enter Tryz.func18, Tryz.ntmps18
      go_wp2_with fail
      go_ret
      exact ⟨rfl, hab⟩
  · have d1 := sn_f h1
    have d0 := sq_f h1
    obtain rfl : false = r0 := by rw [← HR0.out]; exact (eqE_no (fun h => h1 (by rw [h]))).symm
    go_enter Tryz.func18, Tryz.ntmps18
    go_wp2_with fail
    go_ret
    exact ⟨rfl, hab⟩
end Go.Proofs.YthbhbpcjcnkkkaaGreatDoor

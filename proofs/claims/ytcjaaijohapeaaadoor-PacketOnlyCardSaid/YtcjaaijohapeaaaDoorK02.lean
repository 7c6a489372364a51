/-
  What a call leaves (Is, Iq, Ib, Cg); byte strings as lists. No conditions.
-/
import Derived.Test.YtcjaaijohapeaaaDoorRows
import Derived.WalkKit
import Derived.WalkSpells
import Derived.WalkLawsBesides
import Derived.Lib.Hide
import Derived.IntWalk
import Derived.BigQuiet
import Derived.Deep.QuietTactic
import Derived.Lib.Strings
import Derived.Laws.BitsAllLaws
import Derived.Laws.DeepNot64
import Derived.WalkSmall
import Derived.LoopTactic
import Derived.Maps.AppendAt
import Derived.Laws.IdiomStrings
import Derived.OwnWalk
import Derived.Orders
import Derived.RegionTactic
namespace Go.Proofs.YtcjaaijohapeaaaDoor
open Go.RowKit
/-- The call returns this value and leaves the world as it was. -/
def Is (v : Value) (w : World) (e : Ending) (w' : World) : Prop := e = .returned v ∧ w = w'
/-- The same, and it may have drawn. -/
def Iq (v : Value) (w : World) (e : Ending) (w' : World) : Prop := ∃ n : Nat, e = .returned v ∧ w' = w.drewN n
/-- The call returns this value, and memory only grows. -/
def Ib (v : Value) (w : World) (e : Ending) (w' : World) : Prop := e = .returned v ∧ Below w.heap.size w w'
theorem ret_is {k : IntKind} {a b : Int} {w : World} (h : a = b) : Is (.int k b) w (.returned (.int k a)) w := ⟨by rw [h], rfl⟩
theorem ret_bool {a b : Bool} {w : World} (h : a = b) : Is (.bool b) w (.returned (.bool a)) w := ⟨by rw [h], rfl⟩
theorem Below.next {w w1 w2 : World} (h : Below w.heap.size w w1) (k : Below w1.heap.size w1 w2) : Below w.heap.size w w2 := h.trans (k.mono h.size)
theorem below_drewN {B : Nat} {w w' : World} (h : Below B w w') (n : Nat) : Below B w (w'.drewN n) := ⟨h.os, h.tape, h.output, h.size, h.block⟩
theorem drewN_add (w : World) (a b : Nat) : (w.drewN a).drewN b = w.drewN (a + b) := by simp [World.drewN, Nat.add_assoc]
/-- A list of bytes as a string. -/
def bs (l : List UInt8) : ByteArray := ⟨l.toArray⟩
theorem bs_list (l : List UInt8) : (bs l).data.toList = l := rfl
theorem bs_size (l : List UInt8) : (bs l).size = l.length := rfl
theorem bs_of (s : ByteArray) : s = bs s.data.toList := by apply ByteArray.ext; simp [bs]
theorem bs_eq {s : ByteArray} {l : List UInt8} (h : s.data.toList = l) : s = bs l := by rw [← h]; exact bs_of s
theorem ext_list (s : ByteArray) (i j : Nat) : (s.extract i j).data.toList = (s.data.toList.take j).drop i := by
  rw [ByteArray.data_extract, Array.toList_extract, List.extract_eq_take_drop, List.drop_take]
theorem bs_drop (l : List UInt8) (k n : Nat) (h : l.length ≤ n) : (bs l).extract k n = bs (l.drop k) := by
  refine bs_eq ?_
  rw [ext_list, bs_list, List.take_of_length_le h]
theorem bs_take (l : List UInt8) (n : Nat) : (bs l).extract 0 n = bs (l.take n) := by
  refine bs_eq ?_
  rw [ext_list, bs_list, List.drop_zero]
theorem bs_slice (l : List UInt8) (i j : Nat) : (bs l).extract i j = bs ((l.take j).drop i) := by
  refine bs_eq ?_
  rw [ext_list, bs_list]
theorem bs_append (l m : List UInt8) : bs l ++ bs m = bs (l ++ m) := by
  apply ByteArray.ext
  simp [bs, ByteArray.data_append]
theorem bs_get (l : List UInt8) (i : Nat) (h : i < (bs l).size) : (bs l)[i] = l[i]'(by simpa [bs_size] using h) := rfl
theorem bs_inj {l m : List UInt8} (h : bs l = bs m) : l = m := by rw [← bs_list l, h, bs_list]
theorem toList_bs (l : List UInt8) : (bs l).toList = l := by rw [ByteArray.toList_eq]; rfl
end Go.Proofs.YtcjaaijohapeaaaDoor
/-
  Bytes that are appended to a slice of the call's own, and a slice of bytes as a string. No conditions beyond those that each names.
-/
namespace Go.Proofs.YtcjaaijohapeaaaDoor
open Go.RowKit
/-- Bytes as cells. -/
def bcells (l : List UInt8) : List Value := l.map fun b => .int .u8 (b.toNat : Int)
/-- The slice v owns the bytes l. -/
def Ow (B : Nat) (w : World) (v : Value) (l : List UInt8) : Prop := w.ownsRow B 5 1 v l.length (bcells l)
theorem Ow.nil (B : Nat) (w : World) : Ow B w (.slice none 0 0) [] := World.ownsRow_nil _ _ _ _
theorem bcells_snoc (l : List UInt8) (b : UInt8) : bcells (l ++ [b]) = bcells l ++ [.int .u8 (b.toNat : Int)] := by simp [bcells]
theorem Ow.other {B : Nat} {w w' : World} {v : Value} {l : List UInt8} (h : Ow B w v l) (hb : Below w.heap.size w w') : Ow B w' v l := by
  unfold Ow World.ownsRow at *
  refine ⟨h.1, ?_⟩
  rcases h.2 with h1 | ⟨g, cap, cur, h1, h2, h3, h4⟩
  · exact .inl h1
  · refine .inr ⟨g, cap, cur, h1, h2, ?_, h4⟩
    rw [hb.block g (Array.getElem?_eq_some_iff.1 h3).1]
    exact h3
theorem infoB : (Tryd.prog.info? 5).map (fun i => (i.zero, i.size, i.bytes)) = some (some (.int .u8 0), 1, 1) := by kernel_rfl
theorem one (w : World) (o : Obj) : Below w.heap.size w (w.alloc o) := (Below.refl _ _).alloc (Nat.le_refl _) o
theorem wpList_push {w : World} {ops : Array Oper} {rest : List Oper} {o : Oper} {a : Act} {Q : Exit → Act → World → Prop} (hgd : o.guard = none) (s x : Operand)
    (ho : o.op = .call { callee := .builtin .append, args := #[s, x], argTypes := #[68, 68] }) (B : Nat) (v : Value) (l : List UInt8) (b : UInt8) (ad : Addr) (d : Nat) (hs : a.eval s = v) (hx : a.eval x = .slice (some ad) 1 d)
    (hown : Ow B w v l) (hc : w.cell? ad = some (.int .u8 (b.toNat : Int))) (hm : l.length + 1 ≤ 140737488355328) (hB : B ≤ w.heap.size)
    (h : ∀ v' w', Ow B w' v' (l ++ [b]) → w.grownBy w' v.ownBlock → wpList Tryd.prog ops Q rest (a.put o.dst v') w') : wpList Tryd.prog ops Q (o :: rest) a w := by
  obtain ⟨i, hi, hz, hs5, hby⟩ := info_parts infoB
  refine wpList_append_own_at w hgd s x 68 ho B 5 i _ 1 1 Tryd.underlying68 hi hz hs5 hby rfl (by omega) v l.length (bcells l) hs hown ad 1 d [.int .u8 (b.toNat : Int)] hx rfl
    (by intro j u hj
        cases j with
        | zero => simp at hj; subst hj; rw [Addr.add_zero']; exact hc
        | succ j => simp at hj) (by simp [Value.oneCell']) (by simp only [maxLen]; omega) (by omega) hB ?_
  intro v' w' h1 h2 _ _
  refine h v' w' ?_ h2
  unfold Ow
  rw [bcells_snoc, List.length_append]
  exact h1
/-- An owned slice that isn't empty, as a string. -/
theorem Ow.str {B : Nat} {w : World} {v : Value} {l : List UInt8} (h : Ow B w v l) (h0 : l ≠ []) :
    (convert 68 9 v).run Tryd.prog w = .ok (.string (bs l)) w := by
  have h1 := h
  rcases h.2 with ⟨_, h2⟩ | ⟨g, cap, cur, hv, h2, h3, h4, h5, h6, h7⟩
  · exact absurd (List.eq_nil_of_length_eq_zero h2) h0
  · subst hv
    refine run_convert_bytes_back w 68 9 5 ⟨g, 0, none⟩ cap l Tryd.underlying68 Tryd.underlying5 Tryd.underlying9 fun j hj => ?_
    have := World.ownsRow.cellAt h1 j (by omega)
    rw [show (⟨g, 0, none⟩ : Addr).add j = ⟨g, j, none⟩ by simp [Addr.add]; exact Eq.symm, this]
    simp [bcells, List.getElem?_eq_getElem hj]
/-- A slice of one byte, just built, as a string. -/
theorem str1 (w : World) (z : Nat) (hz : z < 256) :
    (convert 68 9 (.slice (some ⟨w.heap.size, 0, none⟩) 1 1)).run Tryd.prog (w.alloc (Obj.cells #[.int .u8 (z : Int)] 5)) = .ok (.string (bs [UInt8.ofNat z])) (w.alloc (Obj.cells #[.int .u8 (z : Int)] 5)) := by
  have e : (UInt8.ofNat z).toNat = z := by rw [UInt8.toNat_ofNat']; exact Nat.mod_eq_of_lt hz
  refine run_convert_bytes_back _ 68 9 5 ⟨w.heap.size, 0, none⟩ 1 [UInt8.ofNat z] Tryd.underlying68 Tryd.underlying5 Tryd.underlying9 fun j hj => ?_
  match j, hj with
  | 0, _ =>
    show (w.alloc (Obj.cells #[.int .u8 (z : Int)] 5)).cell? ⟨w.heap.size, 0, none⟩ = some (.int .u8 ((UInt8.ofNat z).toNat : Int))
    rw [e]
    simp
theorem of_toNat {n : Nat} (h : n < 256) : (UInt8.ofNat n).toNat = n := by rw [UInt8.toNat_ofNat']; exact Nat.mod_eq_of_lt h
end Go.Proofs.YtcjaaijohapeaaaDoor
/-
  A law for a region whose order Go leaves open, where each operation only adds new memory: whatever the order, each slot meets its fact. No conditions beyond those that it names.
-/
namespace Go.Proofs.YtcjaaijohapeaaaDoor
open Go.RowKit
theorem oneG (w : World) (o : Obj) : Below w.heap.size w (w.alloc o) := (Below.refl _ _).alloc (Nat.le_refl _) o
theorem upG {a w w1 : World} (h : Below a.heap.size a w) (hb : Below w.heap.size w w1) : Below a.heap.size a w1 := h.trans (hb.mono h.size)
/-- What is known of a slot's value, and goes on being true while memory only grows. -/
structure Fact where
  holds : Value → World → Prop
  stable : ∀ v w w', holds v w → Below w.heap.size w w' → holds v w'
def Fact.any : Fact := ⟨fun _ _ => True, fun _ _ _ _ _ => trivial⟩
def Fact.eq (u : Value) : Fact := ⟨fun v _ => v = u, fun _ _ _ h _ => h⟩
section
variable (ops : Array Oper) (Q : Exit → Act → World → Prop) (F : Nat → Fact) (base : List Nat) (N : Nat)
/-- The obligation of oneG operation. -/
def Ob (o : Oper) : Prop := ∀ (a : Act) (w : World) (K : Act → World → Prop), a.tmps.size = N → (∀ t ∈ base, (F t).holds (a.tmps.getD t undef) w) →
  (∀ e ∈ o.after, Region.binds .any e = true → ∀ t, (ops[e.on]?).bind Oper.dst = some t → (F t).holds (a.tmps.getD t undef) w) →
  (∀ v w', Below w.heap.size w w' → (∀ t, o.dst = some t → (F t).holds v w') → K (a.put o.dst v) w') →
  (if Region.wanted o (yielded ops a.tmps) = true then Oper.wp Tryd.prog o a w K Q else K (a.put o.dst undef) w)
/-- The region's form: edges go back, each slot is written once, and none of those that came in. -/
def formOk : Bool := (List.range ops.size).all fun i => match ops[i]? with
  | none => true
  | some o => (o.after.all fun e => !Region.binds .any e || decide (e.on < i)) && (match o.dst with
    | none => true
    | some t => decide (t < N) && !base.contains t && (List.range ops.size).all fun j => j == i || (ops[j]?).bind Oper.dst != some t)
/-- What holds on the way. -/
structure Inv (a0 : Act) (w0 : World) (listed : Array Bool) (a : Act) (w : World) : Prop where
  lsize : listed.size = ops.size
  tsize : a.tmps.size = N
  defers : a.defers = a0.defers
  base : ∀ t ∈ base, (F t).holds (a.tmps.getD t undef) w
  done : ∀ (i t : Nat), listed.getD i false = true → (ops[i]?).bind Oper.dst = some t → (F t).holds (a.tmps.getD t undef) w
  other : ∀ (t : Nat), (∀ (i : Nat), (ops[i]?).bind Oper.dst ≠ some t) → a.tmps.getD t undef = a0.tmps.getD t undef
  below : Below w0.heap.size w0 w
end
section
variable {ops : Array Oper} {Q : Exit → Act → World → Prop} {F : Nat → Fact} {base : List Nat} {N : Nat}
theorem formOk_at (h : formOk ops base N = true) {i : Nat} {o : Oper} (ho : ops[i]? = some o) :
    (∀ e ∈ o.after, Region.binds .any e = true → e.on < i) ∧ ∀ t, o.dst = some t → t < N ∧ t ∉ base ∧ ∀ j, j ≠ i → (ops[j]?).bind Oper.dst ≠ some t := by
  have hi : i < ops.size := (Array.getElem?_eq_some_iff.1 ho).1
  have h1 := List.all_eq_true.1 h i (List.mem_range.2 hi)
  simp only [ho, Bool.and_eq_true] at h1
  refine ⟨fun e he hb => ?_, fun t ht => ?_⟩
  · have := Array.all_eq_true_iff_forall_mem.1 h1.1 e he
    simpa [hb] using this
  · have h2 := h1.2
    rw [ht] at h2
    simp only [Bool.and_eq_true, decide_eq_true_eq, Bool.not_eq_true'] at h2
    refine ⟨h2.1.1, fun hm => ?_, fun j hj e => ?_⟩
    · have := h2.1.2
      rw [List.contains_iff_mem.2 hm] at this
      cases this
    · have hjs : j < ops.size := by
        rcases Nat.lt_or_ge j ops.size with h5 | h5
        · exact h5
        · rw [Array.getElem?_eq_none h5] at e; cases e
      have := List.all_eq_true.1 h2.2 j (List.mem_range.2 hjs)
      simp only [Bool.or_eq_true, beq_iff_eq, bne_iff_ne, ne_eq] at this
      rcases this with h5 | h5
      · exact hj h5
      · exact h5 e
theorem getD_put_same {a : Act} {t : Nat} {v : Value} (h : t < a.tmps.size) : (a.put (some t) v).tmps.getD t undef = v := by
  simp [Act.put, Array.getD, h]
theorem getD_put_other {a : Act} {d : Option Nat} {t : Nat} {v : Value} (h : d ≠ some t) : (a.put d v).tmps.getD t undef = a.tmps.getD t undef := by
  cases d with
  | none => rfl
  | some s =>
    have : s ≠ t := fun e => h (by rw [e])
    simp only [Act.put, Array.getD_eq_getD_getElem?, Array.getElem?_setIfInBounds, if_neg this]
theorem Inv.step (hok : formOk ops base N = true) {a0 : Act} {w0 : World} {listed : Array Bool} {a : Act} {w w' : World} (h : Inv ops F base N a0 w0 listed a w) {i : Nat} {o : Oper} (ho : ops[i]? = some o) {v : Value}
    (hb : Below w.heap.size w w') (hF : ∀ t, o.dst = some t → (F t).holds v w') : Inv ops F base N a0 w0 (listed.setIfInBounds i true) (a.put o.dst v) w' := by
  obtain ⟨_, hd⟩ := formOk_at hok ho
  refine ⟨by simpa using h.lsize, ?_, ?_, fun t ht => ?_, fun j t hj hjt => ?_, fun t ht => ?_, upG h.below hb⟩
  · cases o.dst <;> simpa [Act.put] using h.tsize
  · cases o.dst <;> simpa [Act.put] using h.defers
  · rw [getD_put_other (fun e => (hd t e).2.1 ht)]
    exact (F t).stable _ _ _ (h.base t ht) hb
  · by_cases hji : j = i
    · subst hji
      rw [ho] at hjt
      have hjt' : o.dst = some t := hjt
      rw [hjt', getD_put_same (by rw [h.tsize]; exact (hd t hjt').1)]
      exact hF t hjt'
    · have hl : listed.getD j false = true := by
        simpa only [Array.getD_eq_getD_getElem?, Array.getElem?_setIfInBounds, if_neg (Ne.symm hji)] using hj
      rw [getD_put_other (fun e => (hd t e).2.2 j hji hjt)]
      exact (F t).stable _ _ _ (h.done j t hl hjt) hb
  · rw [getD_put_other (fun e => ht i (by rw [ho]; exact e))]
    exact h.other t ht
theorem all_listed (hok : formOk ops base N = true) {listed : Array Bool} (hl : listed.size = ops.size) (hr : Region.ready .any ops listed = []) : ∀ i, i < ops.size → listed.getD i false = true := by
  intro i
  induction i using Nat.strongRecOn with
  | _ i ih =>
    intro hi
    cases hg : listed.getD i false with
    | true => rfl
    | false =>
      exfalso
      have hmem : i ∈ Region.ready .any ops listed := by
        refine mem_ready.2 ⟨?_, ops[i], Array.getElem?_eq_getElem hi, fun e he hb => ?_⟩
        · rw [Array.getD_eq_getD_getElem?, Array.getElem?_eq_getElem (by omega)] at hg ⊢
          exact hg
        · have := (formOk_at hok (Array.getElem?_eq_getElem hi)).1 e he hb
          exact ih e.on this (by omega)
      rw [hr] at hmem
      cases hmem
/-- How many operations have not come upG yet. -/
def left_ (listed : Array Bool) (n : Nat) : Nat := ((List.range n).filter fun i => !listed.getD i true).length
theorem left_step {listed : Array Bool} {n i : Nat} (hi : i < n) (hs : listed.size = n) (h : listed.getD i true = false) : left_ (listed.setIfInBounds i true) n + 1 ≤ left_ listed n := by
  unfold left_
  have key : ∀ l : List Nat, l.Nodup → (∀ j ∈ l, j < n) → (i ∈ l → ((l.filter fun j => !(listed.setIfInBounds i true).getD j true).length + 1 = (l.filter fun j => !listed.getD j true).length)) ∧
      (i ∉ l → ((l.filter fun j => !(listed.setIfInBounds i true).getD j true).length = (l.filter fun j => !listed.getD j true).length)) := by
    intro l
    induction l with
    | nil => intro _ _; exact ⟨(fun h => by cases h), fun _ => rfl⟩
    | cons j l ih =>
      intro hnd hlt
      obtain ⟨hj, hnd⟩ := List.nodup_cons.1 hnd
      obtain ⟨ih1, ih2⟩ := ih hnd (fun k hk => hlt k (by simp [hk]))
      have hjn := hlt j (by simp)
      by_cases hji : j = i
      · subst hji
        have e1 : (listed.setIfInBounds j true).getD j true = true := by simp [Array.getD_eq_getD_getElem?, hs, hjn]
        refine ⟨fun _ => ?_, fun hno => absurd (by simp) hno⟩
        simp only [List.filter_cons, e1, h, Bool.not_true, Bool.not_false, if_true, List.length_cons]
        have := ih2 hj
        simp only [Bool.false_eq_true, if_false]
        omega
      · have e1 : (listed.setIfInBounds i true).getD j true = listed.getD j true := by
          simp only [Array.getD_eq_getD_getElem?, Array.getElem?_setIfInBounds, if_neg (Ne.symm hji)]
        refine ⟨fun hm => ?_, fun hno => ?_⟩
        · have := ih1 (by rcases List.mem_cons.1 hm with h5 | h5; exact absurd h5.symm hji; exact h5)
          simp only [List.filter_cons, e1]
          split <;> (try simp only [List.length_cons]) <;> omega
        · have := ih2 (fun h5 => hno (by simp [h5]))
          simp only [List.filter_cons, e1]
          split <;> (try simp only [List.length_cons]) <;> omega
  have := (key (List.range n) List.nodup_range (fun j hj => List.mem_range.1 hj)).1 (List.mem_range.2 hi)
  omega
theorem wpAny_stable (hok : formOk ops base N = true) {a0 : Act} {w0 : World} (hstep : ∀ o ∈ ops.toList, Ob ops Q F base N o)
    (hend : ∀ a w, a.defers = a0.defers → a.tmps.size = N → (∀ t ∈ base, (F t).holds (a.tmps.getD t undef) w) → (∀ (i t : Nat), (ops[i]?).bind Oper.dst = some t → (F t).holds (a.tmps.getD t undef) w) →
      (∀ (t : Nat), (∀ (i : Nat), (ops[i]?).bind Oper.dst ≠ some t) → a.tmps.getD t undef = a0.tmps.getD t undef) → Below w0.heap.size w0 w → Q .normal a w) :
    ∀ (fuel : Nat) (listed : Array Bool) (a : Act) (w : World), Inv ops F base N a0 w0 listed a w → left_ listed ops.size ≤ fuel → wpAny Tryd.prog .any ops Q fuel listed a w := by
  have hfin : ∀ (listed : Array Bool) (a : Act) (w : World), Inv ops F base N a0 w0 listed a w → Region.ready .any ops listed = [] → Q .normal a w := fun listed a w h hr =>
    hend a w h.defers h.tsize h.base (fun i t hit => h.done i t (all_listed hok h.lsize hr i (by
      rcases Nat.lt_or_ge i ops.size with h5 | h5
      · exact h5
      · rw [Array.getElem?_eq_none h5] at hit; cases hit)) hit) h.other h.below
  intro fuel
  induction fuel with
  | zero =>
    intro listed a w h hl
    have hr : Region.ready .any ops listed = [] := by
      cases hr : Region.ready .any ops listed with
      | nil => rfl
      | cons i rs =>
        exfalso
        have hm : i ∈ Region.ready .any ops listed := by rw [hr]; simp
        obtain ⟨h1, o, ho, _⟩ := mem_ready.1 hm
        have := left_step (Array.getElem?_eq_some_iff.1 ho).1 h.lsize h1
        omega
    exact ⟨hr, hfin listed a w h hr⟩
  | succ fuel ih =>
    intro listed a w h hl
    refine ⟨hfin listed a w h, fun i hi => ?_⟩
    obtain ⟨h1, o, ho, hedges⟩ := mem_ready.1 hi
    have hlt : i < ops.size := (Array.getElem?_eq_some_iff.1 ho).1
    have hmem : o ∈ ops.toList := by
      have := (Array.getElem?_eq_some_iff.1 ho).2
      rw [← this]; simp
    refine wpOp_step ho fun K' hK => hstep o hmem a w K' h.tsize h.base (fun e he hb t het => h.done e.on t (hedges e he hb) het) fun v w' hb hF => hK _ _ (ih _ _ _ (h.step hok ho hb hF) ?_)
    have := left_step hlt h.lsize h1
    omega
/-- **A region that only adds new memory, whatever its order.** -/
theorem wp_region_stable {id : Nat} {l : List Oper} {a : Act} {w : World} (hm : Tryd.prog.follows .mixedOrders = true) (F : Nat → Fact) (base : List Nat) (N : Nat) (hN : a.tmps.size = N) (hok : formOk l.toArray base N = true)
    (hbase : ∀ t ∈ base, (F t).holds (a.tmps.getD t undef) w) (hstep : ∀ o ∈ l, Ob l.toArray Q F base N o)
    (hend : ∀ a' w', a'.defers = a.defers → a'.tmps.size = N → (∀ t ∈ base, (F t).holds (a'.tmps.getD t undef) w') → (∀ (i t : Nat), (l.toArray[i]?).bind Oper.dst = some t → (F t).holds (a'.tmps.getD t undef) w') →
      (∀ (t : Nat), (∀ (i : Nat), (l.toArray[i]?).bind Oper.dst ≠ some t) → a'.tmps.getD t undef = a.tmps.getD t undef) → Below w.heap.size w w' → Q .normal a' w') : (Code.region id l.toArray true).wp Tryd.prog Q a w := by
  refine wp_region_any hm (wpAny_stable (a0 := a) (w0 := w) hok (by simpa using hstep) hend _ _ _ _ ⟨by simp, hN, rfl, fun t ht => ?_, fun i t hi _ => ?_, fun _ _ => rfl, (Below.refl _ _).drew⟩ ?_)
  · exact (F t).stable _ _ _ (hbase t ht) (Below.refl _ _).drew
  · rw [Array.getD_eq_getD_getElem?, Array.getElem?_replicate] at hi
    split at hi <;> simp at hi
  · unfold left_
    exact Nat.le_trans (List.length_filter_le _ _) (by simp)
end
/-- The values of a region's slots, laid into the act. -/
def lay (ts : Array Value) (ds : List Nat) (v : Nat → Value) : Array Value := ds.foldl (fun ts d => ts.setIfInBounds d (v d)) ts
theorem lay_size (ds : List Nat) : ∀ (ts : Array Value) (v : Nat → Value), (lay ts ds v).size = ts.size := by
  induction ds with
  | nil => intro ts v; rfl
  | cons d ds ih => intro ts v; exact (ih _ v).trans (by simp)
theorem lay_other (ds : List Nat) : ∀ (ts : Array Value) (v : Nat → Value) (t : Nat), t ∉ ds → (lay ts ds v)[t]? = ts[t]? := by
  induction ds with
  | nil => intro ts v t _; rfl
  | cons d ds ih =>
    intro ts v t ht
    simp only [List.mem_cons, not_or] at ht
    exact (ih _ v t ht.2).trans (by rw [Array.getElem?_setIfInBounds, if_neg (Ne.symm ht.1)])
theorem lay_at (ds : List Nat) : ∀ (ts : Array Value) (v : Nat → Value) (t : Nat), t ∈ ds → t < ts.size → (lay ts ds v)[t]? = some (v t) := by
  induction ds with
  | nil => intro ts v t h; cases h
  | cons d ds ih =>
    intro ts v t ht hs
    by_cases hm : t ∈ ds
    · exact ih _ v t hm (by simpa using hs)
    · have htd : t = d := by
        rcases List.mem_cons.1 ht with h | h
        · exact h
        · exact absurd h hm
      subst htd
      exact (lay_other ds _ v t hm).trans (by rw [Array.getElem?_setIfInBounds, if_pos rfl, if_pos hs])
/-- Whether ds are the slots that the operations write. -/
def dstsOk (l : List Oper) (ds : List Nat) : Bool := (l.all fun o => match o.dst with | some t => ds.contains t | none => true) && ds.all fun d => l.any fun o => o.dst == some d
/-- **A region that only adds new memory, whatever its order**, and what comes behind it. -/
theorem wp_region_on {Q : Exit → Act → World → Prop} {id : Nat} {l : List Oper} {a : Act} {w : World} (hm : Tryd.prog.follows .mixedOrders = true) (F : Nat → Fact) (base : List Nat) (N : Nat) (ds : List Nat) (hN : a.tmps.size = N) (hok : formOk l.toArray base N = true) (hds : dstsOk l ds = true)
    (hbase : ∀ t ∈ base, (F t).holds (a.tmps.getD t undef) w) (hstep : ∀ o ∈ l, Ob l.toArray Q F base N o)
    (hend : ∀ (v : Nat → Value) w', (∀ t ∈ ds, (F t).holds (v t) w') → Below w.heap.size w w' → Q .normal { tmps := lay a.tmps ds v, defers := a.defers } w') : (Code.region id l.toArray true).wp Tryd.prog Q a w := by
  refine wp_region_stable hm F base N hN hok hbase hstep fun a' w' hdef hsz hbs hall hoth hbel => ?_
  have hw : ∀ t ∈ ds, ∃ i, (l.toArray[i]?).bind Oper.dst = some t := fun t ht => by
    have h1 := hds
    simp only [dstsOk, Bool.and_eq_true] at h1
    have h2 := List.any_eq_true.1 (List.all_eq_true.1 h1.2 t ht)
    obtain ⟨o, ho, hd⟩ := h2
    obtain ⟨i, hi⟩ := List.getElem?_of_mem ho
    exact ⟨i, by rw [List.getElem?_toArray, hi]; exact (by simpa using hd)⟩
  have h := hend (fun t => a'.tmps.getD t undef) w' (fun t ht => by
    obtain ⟨i, hi⟩ := hw t ht
    exact hall i t hi) hbel
  have heq : a' = { tmps := lay a.tmps ds fun t => a'.tmps.getD t undef, defers := a.defers } := by
    obtain ⟨ts, df⟩ := a'
    have hdef' : df = a.defers := hdef
    subst hdef'
    congr 1
    have hsz' : ts.size = N := hsz
    refine Array.ext_getElem? fun t => ?_
    rcases Nat.lt_or_ge t N with hlt | hge
    · by_cases htd : t ∈ ds
      · rw [lay_at ds _ _ t htd (by omega), Array.getD_eq_getD_getElem?, Array.getElem?_eq_getElem (by omega)]; rfl
      · rw [lay_other ds _ _ t htd]
        have := hoth t fun i hi => by
          have h1 := hds
          simp only [dstsOk, Bool.and_eq_true] at h1
          rw [List.getElem?_toArray] at hi
          cases hl : l[i]? with
          | none => rw [hl] at hi; cases hi
          | some o =>
            rw [hl] at hi
            have h2 := List.all_eq_true.1 h1.1 o (List.mem_of_getElem? hl)
            have h3 : o.dst = some t := hi
            rw [h3] at h2
            exact htd (by simpa using h2)
        have h2 : ts.getD t undef = a.tmps.getD t undef := this
        rw [Array.getD_eq_getD_getElem?, Array.getD_eq_getD_getElem?, Array.getElem?_eq_getElem (by omega), Array.getElem?_eq_getElem (by omega)] at h2
        rw [Array.getElem?_eq_getElem (by omega), Array.getElem?_eq_getElem (by omega)]
        exact congrArg some h2
    · rw [Array.getElem?_eq_none (by omega), Array.getElem?_eq_none (by rw [lay_size]; omega)]
  rw [heq]
  exact h
end Go.Proofs.YtcjaaijohapeaaaDoor

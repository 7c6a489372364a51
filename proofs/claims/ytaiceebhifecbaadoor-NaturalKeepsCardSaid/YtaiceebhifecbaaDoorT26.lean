/-
  Digits at an index, a region that is walked on from, append of one digit, and the contracts of the reference's digit and Trim. Conditions: slices of at most 1000 digits.
-/
import Derived.Test.YtaiceebhifecbaaDoorOb3
import Derived.Maps.AppendAt
import Derived.Deep.AppendLies
namespace Go.Proofs.YtaiceebhifecbaaDoor
open Go.RowKit
namespace Nm
/-- The digit at index i, 0 behind the end. -/
def dg (zs : List Nat) (i : Nat) : Nat := zs.getD i 0
theorem dg_lt {zs : List Nat} (h : Dig zs) (i : Nat) : dg zs i < 4294967296 := by
  unfold dg
  rw [List.getD_eq_getElem?_getD]
  rcases Nat.lt_or_ge i zs.length with h1 | h1
  · rw [List.getElem?_eq_getElem h1]; exact h.at_ h1
  · rw [List.getElem?_eq_none h1]; exact by decide
theorem dg_in {zs : List Nat} {i : Nat} (h : i < zs.length) : dg zs i = zs[i] := by
  unfold dg; rw [List.getD_eq_getElem?_getD, List.getElem?_eq_getElem h]; rfl
theorem dg_out {zs : List Nat} {i : Nat} (h : zs.length ≤ i) : dg zs i = 0 := by
  unfold dg; rw [List.getD_eq_getElem?_getD, List.getElem?_eq_none h]; rfl
theorem val_take_dg (zs : List Nat) (k : Nat) : val (zs.take (k + 1)) = val (zs.take k) + 4294967296 ^ k * dg zs k := by
  rcases Nat.lt_or_ge k zs.length with h | h
  · rw [dg_in h, val_take_succ zs k h]
  · rw [dg_out h, List.take_of_length_le (by omega), List.take_of_length_le h, Nat.mul_zero, Nat.add_zero]
theorem val_tail (zs : List Nat) : val zs = dg zs 0 + 4294967296 * val zs.tail := by
  cases zs with
  | nil => rfl
  | cons z zs => rfl
theorem dg_tail (zs : List Nat) (i : Nat) : dg zs.tail i = dg zs (i + 1) := by
  cases zs with
  | nil => rfl
  | cons z zs => rfl
theorem dig_tail {zs : List Nat} (h : Dig zs) : Dig zs.tail := fun z hz => h z (List.mem_of_mem_tail hz)
theorem val_ext : ∀ (n : Nat) (xs ys : List Nat), xs.length ≤ n → ys.length ≤ n → (∀ j, dg xs j = dg ys j) → val xs = val ys := by
  intro n
  induction n with
  | zero =>
    intro xs ys h1 h2 _
    rw [List.eq_nil_of_length_eq_zero (by omega : xs.length = 0), List.eq_nil_of_length_eq_zero (by omega : ys.length = 0)]
  | succ n ih =>
    intro xs ys h1 h2 h
    rw [val_tail xs, val_tail ys, h 0, ih xs.tail ys.tail (by simp; omega) (by simp; omega) fun j => by rw [dg_tail, dg_tail, h]]
theorem lt_of_dg : ∀ (i : Nat) (xs ys : List Nat), Dig xs → Dig ys → (∀ j, i < j → dg xs j = dg ys j) → dg xs i < dg ys i → val xs < val ys := by
  intro i
  induction i with
  | zero =>
    intro xs ys hx hy h hd
    have := val_ext (max xs.length ys.length) xs.tail ys.tail (by simp; omega) (by simp; omega) fun j => by rw [dg_tail, dg_tail, h (j + 1) (by omega)]
    rw [val_tail xs, val_tail ys, this]
    omega
  | succ i ih =>
    intro xs ys hx hy h hd
    have := ih xs.tail ys.tail (dig_tail hx) (dig_tail hy) (fun j hj => by rw [dg_tail, dg_tail, h (j + 1) (by omega)]) (by rw [dg_tail, dg_tail]; exact hd)
    have h0 := dg_lt hx 0
    rw [val_tail xs, val_tail ys]
    omega
end Nm
/-- The values of a region's slots, laid into the act. -/
def lay (ts : Array Value) (ds : List Nat) (v : Nat → Value) : Array Value := ds.foldl (fun ts d => ts.setIfInBounds d (v d)) ts
theorem lay_size (ds : List Nat) : ∀ (ts : Array Value) (v : Nat → Value), (lay ts ds v).size = ts.size := by
  induction ds with
  | nil => intro ts v; rfl
  | cons d ds ih => intro ts v; exact (ih _ v).trans (by simp)
theorem lay_other (ds : List Nat) : ∀ (ts : Array Value) (v : Nat → Value) (t : Nat), t ∉ ds → (lay ts ds v)[t]? = ts[t]? := by
  induction ds with
  | nil => intro ts v t _; rfl
  | cons d ds ih =>
    intro ts v t ht
    simp only [List.mem_cons, not_or] at ht
    exact (ih _ v t ht.2).trans (by rw [Array.getElem?_setIfInBounds, if_neg (Ne.symm ht.1)])
theorem lay_at (ds : List Nat) : ∀ (ts : Array Value) (v : Nat → Value) (t : Nat), t ∈ ds → t < ts.size → (lay ts ds v)[t]? = some (v t) := by
  induction ds with
  | nil => intro ts v t h; cases h
  | cons d ds ih =>
    intro ts v t ht hs
    by_cases hm : t ∈ ds
    · exact ih _ v t hm (by simpa using hs)
    · have htd : t = d := by
        rcases List.mem_cons.1 ht with h | h
        · exact h
        · exact absurd h hm
      subst htd
      exact (lay_other ds _ v t hm).trans (by rw [Array.getElem?_setIfInBounds, if_pos rfl, if_pos hs])
/-- Whether ds are the slots that the operations write. -/
def dstsOk (l : List Oper) (ds : List Nat) : Bool := (l.all fun o => match o.dst with | some t => ds.contains t | none => true) && ds.all fun d => l.any fun o => o.dst == some d
/-- **A region that only adds new memory, whatever its order**, and what comes behind it. -/
theorem wp_region_on {Q : Exit → Act → World → Prop} {id : Nat} {l : List Oper} {a : Act} {w : World} (hm : Tryd.prog.follows .mixedOrders = true) (F : Nat → Fact) (base : List Nat) (N : Nat) (ds : List Nat) (hN : a.tmps.size = N) (hok : formOk l.toArray base N = true) (hds : dstsOk l ds = true)
    (hbase : ∀ t ∈ base, (F t).holds (a.tmps.getD t undef) w) (hstep : ∀ o ∈ l, Ob l.toArray Q F base N o)
    (hend : ∀ (v : Nat → Value) w', (∀ t ∈ ds, (F t).holds (v t) w') → Below w.heap.size w w' → Q .normal { tmps := lay a.tmps ds v, defers := a.defers } w') : (Code.region id l.toArray true).wp Tryd.prog Q a w := by
  refine wp_region_stable hm F base N hN hok hbase hstep fun a' w' hdef hsz hbs hall hoth hbel => ?_
  have hw : ∀ t ∈ ds, ∃ i, (l.toArray[i]?).bind Oper.dst = some t := fun t ht => by
    have h1 := hds
    simp only [dstsOk, Bool.and_eq_true] at h1
    have h2 := List.any_eq_true.1 (List.all_eq_true.1 h1.2 t ht)
    obtain ⟨o, ho, hd⟩ := h2
    obtain ⟨i, hi⟩ := List.getElem?_of_mem ho
    exact ⟨i, by rw [List.getElem?_toArray, hi]; exact (by simpa using hd)⟩
  have h := hend (fun t => a'.tmps.getD t undef) w' (fun t ht => by
    obtain ⟨i, hi⟩ := hw t ht
    exact hall i t hi) hbel
  have heq : a' = { tmps := lay a.tmps ds fun t => a'.tmps.getD t undef, defers := a.defers } := by
    obtain ⟨ts, df⟩ := a'
    have hdef' : df = a.defers := hdef
    subst hdef'
    congr 1
    have hsz' : ts.size = N := hsz
    refine Array.ext_getElem? fun t => ?_
    rcases Nat.lt_or_ge t N with hlt | hge
    · by_cases htd : t ∈ ds
      · rw [lay_at ds _ _ t htd (by omega), Array.getD_eq_getD_getElem?, Array.getElem?_eq_getElem (by omega)]; rfl
      · rw [lay_other ds _ _ t htd]
        have := hoth t fun i hi => by
          have h1 := hds
          simp only [dstsOk, Bool.and_eq_true] at h1
          rw [List.getElem?_toArray] at hi
          cases hl : l[i]? with
          | none => rw [hl] at hi; cases hi
          | some o =>
            rw [hl] at hi
            have h2 := List.all_eq_true.1 h1.1 o (List.mem_of_getElem? hl)
            have h3 : o.dst = some t := hi
            rw [h3] at h2
            exact htd (by simpa using h2)
        have h2 : ts.getD t undef = a.tmps.getD t undef := this
        rw [Array.getD_eq_getD_getElem?, Array.getD_eq_getD_getElem?, Array.getElem?_eq_getElem (by omega), Array.getElem?_eq_getElem (by omega)] at h2
        rw [Array.getElem?_eq_getElem (by omega), Array.getElem?_eq_getElem (by omega)]
        exact congrArg some h2
    · rw [Array.getElem?_eq_none (by omega), Array.getElem?_eq_none (by rw [lay_size]; omega)]
  rw [heq]
  exact h
/-! ### Append of one digit -/
/-- The slice v is of its own in memory from B on, and reads as zs. -/
def Ow (B : Nat) (w : World) (v : Value) (zs : List Nat) : Prop := w.ownsRow B 35 1 v zs.length (dcells zs)
theorem Ow.nil (B : Nat) (w : World) : Ow B w (.slice none 0 0) [] := World.ownsRow_nil _ _ _ _
theorem dcells_snoc (zs : List Nat) (z : Nat) : dcells (zs ++ [z]) = dcells zs ++ [.int .u32 (z : Int)] := by simp [dcells]
theorem Ow.other {B : Nat} {w w' : World} {v : Value} {zs : List Nat} (h : Ow B w v zs) (hb : Below w.heap.size w w') : Ow B w' v zs := by
  unfold Ow World.ownsRow at *
  refine ⟨h.1, ?_⟩
  rcases h.2 with h1 | ⟨g, cap, cur, h1, h2, h3, h4⟩
  · exact .inl h1
  · refine .inr ⟨g, cap, cur, h1, h2, ?_, h4⟩
    rw [hb.block g (Array.getElem?_eq_some_iff.1 h3).1]
    exact h3
theorem Ow.slice {B : Nat} {w : World} {v : Value} {zs : List Nat} (h : Ow B w v zs) : ∃ A c, v = .slice A zs.length c ∧ zs.length ≤ c ∧ Fr B w A zs := by
  have h0 := h
  rcases h.2 with ⟨h1, h2⟩ | ⟨g, cap, cur, h1, h2, h3, h4, h5, h6, h7⟩
  · refine ⟨none, 0, by rw [h1, h2], by omega, .inl (List.eq_nil_of_length_eq_zero h2)⟩
  · subst h1
    refine ⟨some ⟨g, 0, none⟩, cap, rfl, h4, .inr ⟨g, 0, rfl, h2, fun i hi => ?_, fun i hi => World.ownsRow.frozenAt h0 _⟩⟩
    have := World.ownsRow.cellAt h0 i (by omega)
    rw [Nat.zero_add, this]
    simp [dcells, List.getElem?_eq_getElem hi]
theorem wpList_push {w : World} {ops : Array Oper} {rest : List Oper} {o : Oper} {a : Act} {Q : Exit → Act → World → Prop} (hgd : o.guard = none) (s x : Operand)
    (ho : o.op = .call { callee := .builtin .append, args := #[s, x], argTypes := #[22, 22] }) (B : Nat) (v : Value) (zs : List Nat) (z : Nat) (ad : Addr) (d : Nat) (hs : a.eval s = v) (hx : a.eval x = .slice (some ad) 1 d)
    (hown : Ow B w v zs) (hc : w.cell? ad = some (.int .u32 (z : Int))) (hm : zs.length ≤ 100000) (hB : B ≤ w.heap.size)
    (h : ∀ v' w', Ow B w' v' (zs ++ [z]) → w.grownBy w' v.ownBlock → (v'.ownBlock = v.ownBlock ∨ v'.ownBlock = some w.heap.size) → wpList Tryd.prog ops Q rest (a.put o.dst v') w') : wpList Tryd.prog ops Q (o :: rest) a w := by
  obtain ⟨i, hi, hz, hs5, hby⟩ := info35_parts
  obtain ⟨v', w', hrun, h1, h2, _, h3⟩ := run_append_own_at (P := Tryd.prog) w B 22 o.type 35 i _ 1 4 Tryd.underlying22 hi hz hs5 hby rfl (by omega) v zs.length (dcells zs) hown ad 1 d [.int .u32 (z : Int)] rfl
    (by intro j u hj
        cases j with
        | zero => simp at hj; subst hj; rw [Addr.add_zero']; exact hc
        | succ j => simp at hj) (by simp [Value.oneCell']) (by simp only [maxLen]; omega) (by omega) hB
  refine wpList_append32 hgd s x ho hs hx hrun (h v' w' ?_ h2 h3)
  unfold Ow
  rw [dcells_snoc, List.length_append]
  exact h1
/-! ### The reference's digit -/
theorem wrap64 {x : Nat} (h : x < 4294967296) : IntKind.u64.wrap (x : Int) = (x : Int) := by
  simp [IntKind.wrap, IntKind.signed, IntKind.bits]
  omega
set_option maxHeartbeats 400000 in
theorem digit_any (A : Option Addr) (n c i : Nat) (zs : List Nat) (w : World) (h : Rd w A zs) (hl : zs.length = n) (hm : n ≤ 1000) (hzd : Nm.Dig zs) :
    Calls Tryd.prog 41 #[nt A n c, .int .i64 (i : Int)] w fun e w' => e = .returned (.int .u64 (Nm.dg zs i : Int)) ∧ Below w.heap.size w w' := by
  subst hl
  rcases Nat.lt_or_ge i zs.length with hi | hi
  · obtain ⟨g, off, rfl, hr⟩ := (h.alloc (Obj.cells #[Value.slice A zs.length c] 24)).at_ hi
    have hc := hr i hi
    have hd := Nm.dg_in hi
    have Hd := Lib.hid hd
    clear hr hd
    go_enter Tryd.func41, Tryd.ntmps41
    go_wp2_with fail
    go_ret
    exact ⟨ret_int (by rw [Hd.out]; exact wrap64 (hzd.at_ hi)), one _ _⟩
  · have hd := Nm.dg_out hi
    have Hd := Lib.hid hd
    clear hd
    go_enter Tryd.func41, Tryd.ntmps41
    go_wp2_with fail
    go_ret
    exact ⟨by rw [Hd.out]; rfl, one _ _⟩
end Go.Proofs.YtaiceebhifecbaaDoor

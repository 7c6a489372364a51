/-
  The law that arguments are not modified and results have memory of their own: it returns true. No conditions. Also: A region whose operations each give a value told ahead and keep what is said of memory; slices of digits that are written, whatever the digits. No conditions beyond those that each names.
-/
import Derived.Test.YtaiceebhifecbaaDoorT52
namespace Go.Proofs.YtaiceebhifecbaaDoor
open Go.RowKit
theorem lay_congr (ds : List Nat) : ∀ (ts : Array Value) (v u : Nat → Value), (∀ t ∈ ds, v t = u t) → lay ts ds v = lay ts ds u := by
  induction ds with
  | nil => intro ts v u _; rfl
  | cons d ds ih =>
    intro ts v u h
    show lay (ts.setIfInBounds d (v d)) ds v = lay (ts.setIfInBounds d (u d)) ds u
    rw [h d (by simp)]
    exact ih _ _ _ fun t ht => h t (by simp [ht])
theorem lay_eq {l : List Oper} {ds : List Nat} {a a' : Act} {N : Nat} (hN : a.tmps.size = N) (hsz : a'.tmps.size = N) (hdef : a'.defers = a.defers) (hds : dstsOk l ds = true) (hoth : ∀ (t : Nat), (∀ (i : Nat), (l.toArray[i]?).bind Oper.dst ≠ some t) → a'.tmps.getD t undef = a.tmps.getD t undef) :
    a' = { tmps := lay a.tmps ds fun t => a'.tmps.getD t undef, defers := a.defers } := by
  obtain ⟨ts, df⟩ := a'
  have hdef' : df = a.defers := hdef
  subst hdef'
  congr 1
  have hsz' : ts.size = N := hsz
  refine Array.ext_getElem? fun t => ?_
  rcases Nat.lt_or_ge t N with hlt | hge
  · by_cases htd : t ∈ ds
    · rw [lay_at ds _ _ t htd (by omega), Array.getD_eq_getD_getElem?, Array.getElem?_eq_getElem (by omega)]; rfl
    · rw [lay_other ds _ _ t htd]
      have := hoth t fun i hi => by
        have h1 := hds
        simp only [dstsOk, Bool.and_eq_true] at h1
        rw [List.getElem?_toArray] at hi
        cases hl : l[i]? with
        | none => rw [hl] at hi; cases hi
        | some o =>
          rw [hl] at hi
          have h2 := List.all_eq_true.1 h1.1 o (List.mem_of_getElem? hl)
          have h3 : o.dst = some t := hi
          rw [h3] at h2
          exact htd (by simpa using h2)
      have h2 : ts.getD t undef = a.tmps.getD t undef := this
      rw [Array.getD_eq_getD_getElem?, Array.getD_eq_getD_getElem?, Array.getElem?_eq_getElem (by omega), Array.getElem?_eq_getElem (by omega)] at h2
      rw [Array.getElem?_eq_getElem (by omega), Array.getElem?_eq_getElem (by omega)]
      exact congrArg some h2
  · rw [Array.getElem?_eq_none (by omega), Array.getElem?_eq_none (by rw [lay_size]; omega)]
section
variable (ops : Array Oper) (val : Nat → Value) (base : List Nat) (N : Nat) (J : World → Prop)
structure KInv (a0 : Act) (listed : Array Bool) (a : Act) (w : World) : Prop where
  tsize : a.tmps.size = N
  defers : a.defers = a0.defers
  base : ∀ t ∈ base, a.tmps.getD t undef = val t
  done : ∀ (i t : Nat), listed.getD i false = true → (ops[i]?).bind Oper.dst = some t → a.tmps.getD t undef = val t
  other : ∀ (t : Nat), (∀ (i : Nat), (ops[i]?).bind Oper.dst ≠ some t) → a.tmps.getD t undef = a0.tmps.getD t undef
  keeps : J w
/-- What an operation of such a region must show. -/
def KOb (o : Oper) : Prop := o.guard = none ∧ ∀ (a : Act) (w : World), J w → (∀ t, known ops base o t = true → a.tmps.getD t undef = val t) →
  (∃ d w', o.dst = some d ∧ (execOp a.eval o).run Tryd.prog w = .ok (.value (val d)) w' ∧ J w') ∨ (∃ w', o.dst = none ∧ (execOp a.eval o).run Tryd.prog w = .ok .skip w' ∧ J w')
end
theorem KInv.step {ops : Array Oper} {val : Nat → Value} {base : List Nat} {N : Nat} {J : World → Prop} {Q : Exit → Act → World → Prop} (hok : formOk ops base N = true) {a0 : Act} {listed : Array Bool} {a : Act} {w : World} (h : KInv ops val base N J a0 listed a w) (hs : listed.size = ops.size) {i : Nat} {o : Oper} (ho : ops[i]? = some o)
    (hob : KOb ops val base J o) (he : ∀ e ∈ o.after, Region.binds .any e = true → listed.getD e.on false = true) (K : Act → World → Prop) (hK : ∀ a' w', KInv ops val base N J a0 (listed.setIfInBounds i true) a' w' → K a' w') :
    (if Region.wanted o (yielded ops a.tmps) = true then Oper.wp Tryd.prog o a w K Q else K (a.put o.dst undef) w) := by
  obtain ⟨hg, hrun⟩ := hob
  obtain ⟨_, hd⟩ := formOk_at hok ho
  have hlt : i < listed.size := by rw [hs]; exact (Array.getElem?_eq_some_iff.1 ho).1
  rw [if_pos (by simp [Region.wanted, hg])]
  have hk : ∀ t, known ops base o t = true → a.tmps.getD t undef = val t := fun t hkt => by
    unfold known at hkt
    rw [Bool.or_eq_true] at hkt
    rcases hkt with hkt | hkt
    · exact h.base t (List.contains_iff_mem.1 hkt)
    · obtain ⟨e, hem, h1⟩ := Array.any_eq_true'.1 hkt
      simp only [Bool.and_eq_true, beq_iff_eq] at h1
      exact h.done e.on t (he e hem h1.1) h1.2
  rcases hrun a w h.keeps hk with ⟨d, w', hdd, hr, hJ⟩ | ⟨w', hdd, hr, hJ⟩
  · unfold Oper.wp
    rw [hr]
    refine hK (a.put o.dst (val d)) w' ⟨?_, ?_, fun t ht => ?_, fun j t hj hjt => ?_, fun t ht => ?_, hJ⟩
    · cases o.dst <;> simpa [Act.put] using h.tsize
    · cases o.dst <;> simpa [Act.put] using h.defers
    · rw [getD_put_other (fun e => (hd t e).2.1 ht)]
      exact h.base t ht
    · by_cases hji : j = i
      · subst hji
        rw [ho] at hjt
        have hjt' : o.dst = some t := hjt
        have hdt : d = t := by rw [hdd] at hjt'; injection hjt'
        subst hdt
        rw [hjt', getD_put_same (by rw [h.tsize]; exact (hd d hjt').1)]
      · rw [getD_put_other (fun e => (hd t e).2.2 j hji hjt)]
        exact h.done j t (((set_listed hlt).1 hj).resolve_left hji) hjt
    · rw [getD_put_other (fun e => ht i (by rw [ho]; exact e))]
      exact h.other t ht
  · have hput : a.put o.dst undef = a := by rw [hdd]; rfl
    unfold Oper.wp
    rw [hr]
    show K (a.put o.dst undef) _
    rw [hput]
    refine hK a w' ⟨h.tsize, h.defers, h.base, fun j t hj hjt => ?_, h.other, hJ⟩
    refine h.done j t (((set_listed hlt).1 hj).resolve_left ?_) hjt
    rintro rfl
    rw [ho] at hjt
    have h5 : o.dst = some t := hjt
    rw [hdd] at h5
    cases h5
/-- **A region whose operations each give a value told ahead**, and keep J, whatever its order. -/
theorem wp_region_keep {Q : Exit → Act → World → Prop} {id : Nat} {l : List Oper} {a : Act} {w : World} (hm : Tryd.prog.follows .mixedOrders = true) (val : Nat → Value) (base : List Nat) (N : Nat) (J : World → Prop) (ds : List Nat) (hN : a.tmps.size = N) (hok : formOk l.toArray base N = true) (hback : backOk l.toArray = true) (hds : dstsOk l ds = true)
    (hJ : J w.drew) (hbase : ∀ t ∈ base, a.tmps.getD t undef = val t) (hstep : ∀ o ∈ l, KOb l.toArray val base J o)
    (hend : ∀ w', J w' → Q .normal { tmps := lay a.tmps ds val, defers := a.defers } w') : (Code.region id l.toArray true).wp Tryd.prog Q a w := by
  have hnone : ∀ i, (Array.replicate l.length false).getD i false = true → False := fun i hi => by
    rw [Array.getD_eq_getD_getElem?, Array.getElem?_replicate] at hi
    split at hi <;> simp at hi
  refine wp_region_inv hm hback (KInv l.toArray val base N J a) ⟨hN, rfl, hbase, fun i _ hi _ => (hnone i hi).elim, fun _ _ => rfl, hJ⟩ (fun i o listed a' w' ho hs _ he h K hK => h.step hok hs ho (hstep o (by
    rw [List.getElem?_toArray] at ho
    exact List.mem_of_getElem? ho)) he K hK) fun listed a' w' hs hl h => ?_
  have hw : ∀ t ∈ ds, a'.tmps.getD t undef = val t := fun t ht => by
    have h1 := hds
    simp only [dstsOk, Bool.and_eq_true] at h1
    have h2 := List.any_eq_true.1 (List.all_eq_true.1 h1.2 t ht)
    obtain ⟨o, ho, hd⟩ := h2
    obtain ⟨i, hi⟩ := List.getElem?_of_mem ho
    have hlt : i < l.toArray.size := by simpa using (List.getElem?_eq_some_iff.1 hi).1
    exact h.done i t (hl i hlt) (by rw [List.getElem?_toArray, hi]; exact (by simpa using hd))
  have heq := lay_eq hN h.tsize h.defers hds h.other
  rw [lay_congr ds a.tmps _ val hw] at heq
  rw [heq]
  exact hend w' h.keeps
/-! ### Slices that are written -/
/-- n digits in memory of their own from G on, whatever they are. -/
def Ints (G : Nat) (w : World) (A : Option Addr) (n : Nat) : Prop := ∃ zs : List Nat, zs.length = n ∧ Fr G w A zs
theorem Ints.set {G : Nat} {w : World} {A : Option Addr} {n : Nat} (h : Ints G w A n) {p : Addr} {z : Int} (x : Nat) (hc : w.cell? p = some (.int .u32 z)) : Ints G (w.setCell p (.int .u32 (x : Int))) A n := by
  obtain ⟨zs, rfl, hf⟩ := h
  rcases hf with rfl | ⟨g, off, hA, hg, ho⟩
  · exact ⟨[], rfl, .inl rfl⟩
  · refine ⟨(List.range zs.length).map fun i => if p = ⟨g, off + i, none⟩ then x else zs.getD i 0, by simp, .inr ⟨g, off, hA, hg, fun i hi => ?_, fun i hi => by rw [World.frozen?_setCell]; exact ho.2 i (by simpa using hi)⟩⟩
    have hi' : i < zs.length := by simpa using hi
    by_cases hp : p = ⟨g, off + i, none⟩
    · subst hp
      rw [World.cell?_setCell_same (u := _) _ _ _ hc]
      simp
    · rw [World.cell?_setCell_other _ _ _ _ (by first | exact fun e => hp e.symm | exact hp), ho.1 i hi']
      simp [hp, hi']
/-- A variable's cell holds this slice. -/
structure Vc (w : World) (b : Nat) (A : Option Addr) (n c : Nat) : Prop where
  lt : b < w.heap.size
  cell : w.cell? ⟨b, 0, none⟩ = some (.slice A n c)
theorem Vc.set {w : World} {b n c : Nat} {A : Option Addr} (h : Vc w b A n c) {p : Addr} {z : Int} {u : Value} (hc : w.cell? p = some (.int .u32 z)) : Vc (w.setCell p u) b A n c := by
  refine ⟨by simpa using h.lt, ?_⟩
  rw [World.cell?_setCell_other]
  · exact h.cell
  · rintro rfl
    rw [h.cell] at hc
    cases hc
structure Ent where
  b : Nat
  A : Option Addr
  c : Nat
/-- Nothing below G has changed; the entries' variables hold their slices of n digits. -/
def KJ (G n : Nat) (wv : World) (es : List Ent) (w : World) : Prop := Below G wv w ∧ ∀ e ∈ es, Vc w e.b e.A n e.c ∧ Ints G w e.A n
theorem KJ.drew {G n : Nat} {wv w : World} {es : List Ent} (h : KJ G n wv es w) : KJ G n wv es w.drew := ⟨h.1.drew, fun e he => ⟨⟨(h.2 e he).1.lt, (h.2 e he).1.cell⟩, (h.2 e he).2⟩⟩
theorem KJ.set {G n : Nat} {wv w : World} {es : List Ent} (h : KJ G n wv es w) {g o : Nat} {z : Int} (x : Nat) (hg : G ≤ g) (hc : w.cell? ⟨g, o, none⟩ = some (.int .u32 z)) : KJ G n wv es (w.setCell ⟨g, o, none⟩ (.int .u32 (x : Int))) :=
  ⟨h.1.setCell hg _, fun e he => ⟨(h.2 e he).1.set hc, (h.2 e he).2.set x hc⟩⟩
section
variable {ops : Array Oper} {val : Nat → Value} {base : List Nat} {G n : Nat} {wv : World} {es : List Ent} {o : Oper}
theorem ko_field (t d : Nat) (e : Ent) (he : e ∈ es) (ho : o.op = .fieldAddr 24 (.tmp t) 0) (hd : o.dst = some d) (hg : o.guard = none) (hk : known ops base o t = true) (h1 : val t = .pointer (some ⟨e.b, 0, none⟩)) (h2 : val d = .pointer (some ⟨e.b, 0, none⟩)) : KOb ops val base (KJ G n wv es) o :=
  ⟨hg, fun a w hJ hf => .inl ⟨d, w, hd, by
    have h3 : a.eval (.tmp t) = .pointer (some ⟨e.b, 0, none⟩) := (hf t hk).trans h1
    have hc := (hJ.2 e he).1.cell
    simp [execOp, ho, h3, h2]
    go_simp, hJ⟩⟩
theorem ko_load (t d : Nat) (e : Ent) (he : e ∈ es) (ho : o.op = .load 22 (.tmp t)) (hd : o.dst = some d) (hg : o.guard = none) (hk : known ops base o t = true) (h1 : val t = .pointer (some ⟨e.b, 0, none⟩)) (h2 : val d = .slice e.A n e.c) : KOb ops val base (KJ G n wv es) o :=
  ⟨hg, fun a w hJ hf => .inl ⟨d, w, hd, by
    have h3 : a.eval (.tmp t) = .pointer (some ⟨e.b, 0, none⟩) := (hf t hk).trans h1
    have hc := (hJ.2 e he).1.cell
    simp [execOp, ho, h3, h2]
    go_simp, hJ⟩⟩
theorem ko_move (t d : Nat) (ho : o.op = .move (.tmp t)) (hd : o.dst = some d) (hg : o.guard = none) (hk : known ops base o t = true) (h2 : val d = val t) : KOb ops val base (KJ G n wv es) o :=
  ⟨hg, fun a w hJ hf => .inl ⟨d, w, hd, by
    have h3 : a.eval (.tmp t) = val t := hf t hk
    simp [execOp, ho, h3, h2], hJ⟩⟩
theorem ko_index (s i d k g off c : Nat) (hkn : k < n) (ho : o.op = .indexAddr 22 (.tmp s) (.tmp i)) (hd : o.dst = some d) (hg : o.guard = none) (hk : known ops base o s = true) (hk2 : known ops base o i = true) (h1 : val s = .slice (some ⟨g, off, none⟩) n c) (h2 : val i = .int .i64 (k : Int)) (h3 : val d = .pointer (some ⟨g, off + k, none⟩)) : KOb ops val base (KJ G n wv es) o :=
  ⟨hg, fun a w hJ hf => .inl ⟨d, w, hd, by
    have e1 : a.eval (.tmp s) = .slice (some ⟨g, off, none⟩) n c := (hf s hk).trans h1
    have e2 : a.eval (.tmp i) = .int .i64 (k : Int) := (hf i hk2).trans h2
    have e3 := index32 w g off n c k (k : Int) rfl hkn
    simp [execOp, ho, e1, e2, h3, e3], hJ⟩⟩
theorem ko_store (t k g off : Nat) (x : Nat) (e : Ent) (he : e ∈ es) (hA : e.A = some ⟨g, off, none⟩) (hkn : k < n) (ho : o.op = .store 35 (.tmp t) (.const (.int .u32 (x : Int)))) (hd : o.dst = none) (hg : o.guard = none) (hk : known ops base o t = true) (h1 : val t = .pointer (some ⟨g, off + k, none⟩)) : KOb ops val base (KJ G n wv es) o :=
  ⟨hg, fun a w hJ hf => by
    have e1 : a.eval (.tmp t) = .pointer (some ⟨g, off + k, none⟩) := (hf t hk).trans h1
    have e2 : a.eval (.const (.int .u32 (x : Int))) = .int .u32 (x : Int) := rfl
    obtain ⟨zs, hl, hfr⟩ := (hJ.2 e he).2
    rcases hfr with rfl | ⟨g', off', hA', hgG, hown⟩
    · simp at hl; omega
    · rw [hA] at hA'
      injection hA' with hA'
      injection hA' with e3 e4
      subst e3 e4
      have hc := hown.1 k (by omega)
      have hz := hown.2 k (by omega)
      refine .inr ⟨w.setCell ⟨g, off + k, none⟩ (.int .u32 (x : Int)), hd, ?_, hJ.set x hgG hc⟩
      simp [execOp, ho, e1, e2]
      go_simp⟩
end
end Go.Proofs.YtaiceebhifecbaaDoor
namespace Go.Proofs.YtaiceebhifecbaaDoor
open Go.RowKit
theorem Nm.nat_len_pos {v : Nat} (h : 0 < v) : 0 < (Nm.nat v).length := by
  rcases Nat.eq_zero_or_pos (Nm.nat v).length with h0 | h0
  · have h1 := Nm.val_nat v
    rw [List.eq_nil_of_length_eq_zero h0] at h1
    have h2 : (0 : Nat) = v := h1
    omega
  · exact h0
theorem num_nil (w : World) : Num w none 0 0 [] := ⟨.inl rfl, rfl, Nat.le_refl _, Nm.Dig.nil, by decide⟩
theorem c_copy (xs : List Nat) : ∀ v w, (Fact.num xs).holds v w → Calls Tryd.prog 35 #[v] w (Ret (Fact.num xs) w) := by
  rintro v w ⟨A, c, rfl, h⟩
  exact (copy_any A c xs w h.rd (by have := h.small; omega)).mono fun e w' ⟨A', c', he, hc, hf, hb⟩ => ⟨_, he, hb, num_of_fr hf hc h.dig h.small⟩
/-- A number, the world being at least as large as g. -/
def Fact.numg (g : Nat) (zs : List Nat) : Fact := ⟨fun v w => g ≤ w.heap.size ∧ (Fact.num zs).holds v w, fun v _ _ ⟨h0, hn⟩ hb => ⟨Nat.le_trans h0 hb.size, (Fact.num zs).stable v _ _ hn hb⟩⟩
theorem Fact.soft_numg {g h : Nat} (zs : List Nat) : (Fact.numg h zs).Soft g := fun v w b A n c A' n' c' hg hc ⟨h0, hn⟩ => ⟨by simpa using h0, Fact.soft_num zs v w b A n c A' n' c' hg hc hn⟩
/-- A quotient and a remainder in memory of their own, and no error. -/
def Fact.div (g : Nat) (qs rs : List Nat) : Fact := ⟨fun v w => ∃ A1 c1 A2 c2, v = .tuple #[nt A1 qs.length c1, nt A2 rs.length c2, .int .i64 0] ∧ Num w A1 qs.length c1 qs ∧ Num w A2 rs.length c2 rs ∧ Fr g w A1 qs ∧ Fr g w A2 rs,
  fun _ _ _ ⟨A1, c1, A2, c2, h, h1, h2, h3, h4⟩ hb => ⟨A1, c1, A2, c2, h, h1.below hb, h2.below hb, h3.below hb, h4.below hb⟩⟩
theorem Fact.soft_div {g h : Nat} (qs rs : List Nat) : (Fact.div h qs rs).Soft g := fun _ _ _ _ _ _ _ _ _ _ hc ⟨A1, c1, A2, c2, h, h1, h2, h3, h4⟩ => ⟨A1, c1, A2, c2, h, h1.setCell hc (by simp), h2.setCell hc (by simp), h3.setCell hc (by simp), h4.setCell hc (by simp)⟩
theorem c_divMod {g : Nat} (xs ys qs rs : List Nat) (h0 : 0 < Nm.tlen ys) (hq : Nm.nat (Nm.val xs / Nm.val ys) = qs) (hr : Nm.nat (Nm.val xs % Nm.val ys) = rs) : ∀ v u w, (Fact.numg g xs).holds v w → (Fact.num ys).holds u w → Calls Tryd.prog 28 #[v, u] w (Ret (Fact.div g qs rs) w) := by
  rintro v u w ⟨hg, A, c, rfl, h⟩ ⟨B, d, rfl, k⟩
  have hl : Nm.tlen ys ≤ 900 := Nat.le_trans (Nm.tlen_le ys) (by have := k.small; omega)
  have hql : qs.length ≤ xs.length := by rw [← hq]; exact Nm.nat_len_le' h.dig (Nat.div_le_self _ _)
  have hrl : rs.length ≤ xs.length := by rw [← hr]; exact Nm.nat_len_le' h.dig (Nat.mod_le _ _)
  have hs := h.small
  refine (divMod_n 900 divOk_all h k h0 hl qs rs hq hr).mono ?_
  rintro e w' ⟨A1, c1, A2, c2, he, h1, h2, h3, h4, hb⟩
  exact ⟨_, he, hb, A1, c1, A2, c2, rfl, h3.num h1 (hq ▸ Nm.dig_nat _) (by omega), h4.num h2 (hr ▸ Nm.dig_nat _) (by omega), h3.mono hg, h4.mono hg⟩
theorem c_mulOwn {g : Nat} (xs ys rs : List Nat) (hr : Nm.nat (Nm.val xs * Nm.val ys) = rs) (hrx : rs = xs := by rfl) : ∀ v u w, (Fact.numg g xs).holds v w → (Fact.num ys).holds u w → Calls Tryd.prog 21 #[v, u] w (Ret (Fact.own g rs) w) := by
  rintro v u w ⟨hg, A, c, rfl, h⟩ ⟨B, d, rfl, k⟩
  have hs := h.small
  refine (mul_n h k rs hr).mono ?_
  rintro e w' ⟨A1, c1, he, h1, h3, hb⟩
  exact ⟨_, he, hb, A1, c1, rfl, h3.num h1 (hr ▸ Nm.dig_nat _) (by rw [hrx]; exact hs), h3.mono hg⟩
section
variable {ops : Array Oper} {Q : Exit → Act → World → Prop} {F : Nat → Fact} {base : List Nat} {N : Nat} {o : Oper}
theorem ob_lowg {g : Nat} (t d : Nat) (zs : List Nat) (ho : o.op = .load 24 (.tmp t)) (hd : o.dst = some d) (hg : GuardOk ops F base N o) (hk : known ops base o t = true) (hv : F t = Fact.low g zs) (hF : F d = Fact.numg g zs) : Ob ops Q F base N o :=
  ob_val hg fun a w hf => by
    have h1 := hf t hk
    rw [hv] at h1
    obtain ⟨h0, b, A, c, h2, _, hvar⟩ := h1
    have hc := hvar.cell
    refine ⟨nt A zs.length c, w, ?_, Below.refl _ _, fun s hs => ?_⟩
    · have h3 : a.eval (.tmp t) = .pointer (some ⟨b, 0, none⟩) := h2
      have hrun : (Instr.loadAt 24 (.pointer (some ⟨b, 0, none⟩))).run Tryd.prog w = .ok (nt A zs.length c) w := by
        go_simp
      simp [execOp, ho, h3, hrun]
    · rw [hd] at hs; injection hs with hs; subst hs; rw [hF]
      exact ⟨h0, A, c, rfl, hvar.num⟩
theorem ob_divMod {g : Nat} (t s d : Nat) (xs ys qs rs : List Nat) (tys : Array TypeId) (ho : o.op = .call { callee := .value (.func 28), args := #[.tmp t, .tmp s], argTypes := tys }) (hd : o.dst = some d) (hg : GuardOk ops F base N o) (hk : known ops base o t = true) (hk2 : known ops base o s = true)
    (h1 : F t = Fact.numg g xs) (h2 : F s = Fact.num ys) (h3 : F d = Fact.div g qs rs) (h0 : 0 < Nm.tlen ys) (hq : Nm.nat (Nm.val xs / Nm.val ys) = qs) (hr : Nm.nat (Nm.val xs % Nm.val ys) = rs) : Ob ops Q F base N o :=
  ob_call2 28 t s d tys ho hd hg hk hk2 (by kernel_rfl) (by rw [h1, h2, h3]; exact c_divMod xs ys qs rs h0 hq hr)
theorem ob_mulOwn {g : Nat} (t s d : Nat) (xs ys rs : List Nat) (tys : Array TypeId) (ho : o.op = .call { callee := .value (.func 21), args := #[.tmp t, .tmp s], argTypes := tys }) (hd : o.dst = some d) (hg : GuardOk ops F base N o) (hk : known ops base o t = true) (hk2 : known ops base o s = true)
    (h1 : F t = Fact.numg g xs) (h2 : F s = Fact.num ys) (h3 : F d = Fact.own g rs) (hr : Nm.nat (Nm.val xs * Nm.val ys) = rs) (hrx : rs = xs) : Ob ops Q F base N o :=
  ob_call2 21 t s d tys ho hd hg hk hk2 (by kernel_rfl) (by rw [h1, h2, h3]; exact c_mulOwn xs ys rs hr hrx)
theorem ob_ext0 {g : Nat} (t d : Nat) (qs rs : List Nat) (ho : o.op = .extract (.tmp t) 0) (hd : o.dst = some d) (hg : GuardOk ops F base N o) (hk : known ops base o t = true) (hv : F t = Fact.div g qs rs) (hF : F d = Fact.own g qs) : Ob ops Q F base N o :=
  ob_val hg fun a w hf => by
    have h1 := hf t hk
    rw [hv] at h1
    obtain ⟨A1, c1, A2, c2, h2, n1, n2, m1, m2⟩ := h1
    have h3 : a.eval (.tmp t) = .tuple #[nt A1 qs.length c1, nt A2 rs.length c2, .int .i64 0] := h2
    refine ⟨nt A1 qs.length c1, w, by simp [execOp, ho, h3, Instr.extract], Below.refl _ _, fun s hs => ?_⟩
    rw [hd] at hs; injection hs with hs; subst hs; rw [hF]
    exact ⟨A1, c1, rfl, n1, m1⟩
theorem ob_ext1 {g : Nat} (t d : Nat) (qs rs : List Nat) (ho : o.op = .extract (.tmp t) 1) (hd : o.dst = some d) (hg : GuardOk ops F base N o) (hk : known ops base o t = true) (hv : F t = Fact.div g qs rs) (hF : F d = Fact.own g rs) : Ob ops Q F base N o :=
  ob_val hg fun a w hf => by
    have h1 := hf t hk
    rw [hv] at h1
    obtain ⟨A1, c1, A2, c2, h2, n1, n2, m1, m2⟩ := h1
    have h3 : a.eval (.tmp t) = .tuple #[nt A1 qs.length c1, nt A2 rs.length c2, .int .i64 0] := h2
    refine ⟨nt A2 rs.length c2, w, by simp [execOp, ho, h3, Instr.extract], Below.refl _ _, fun s hs => ?_⟩
    rw [hd] at hs; injection hs with hs; subst hs; rw [hF]
    exact ⟨A2, c2, rfl, n2, m2⟩
theorem ob_ext2 {g : Nat} (t d : Nat) (qs rs : List Nat) (ho : o.op = .extract (.tmp t) 2) (hd : o.dst = some d) (hg : GuardOk ops F base N o) (hk : known ops base o t = true) (hv : F t = Fact.div g qs rs) (hF : F d = Fact.eq (.int .i64 0)) : Ob ops Q F base N o :=
  ob_val hg fun a w hf => by
    have h1 := hf t hk
    rw [hv] at h1
    obtain ⟨A1, c1, A2, c2, h2, n1, n2, m1, m2⟩ := h1
    have h3 : a.eval (.tmp t) = .tuple #[nt A1 qs.length c1, nt A2 rs.length c2, .int .i64 0] := h2
    refine ⟨.int .i64 0, w, by simp [execOp, ho, h3, Instr.extract], Below.refl _ _, fun s hs => ?_⟩
    rw [hd] at hs; injection hs with hs; subst hs; rw [hF]
    rfl
end
theorem made_own {v : Nat → Value} {w' : World} {F : Nat → Fact} {p : Made} {g g' : Nat} {zs : List Nat} (hF : F p.from_ = Fact.own g' zs) (h : ∃ b A n c, v p.slot = .pointer (some ⟨b, 0, none⟩) ∧ g ≤ b ∧ b < w'.heap.size ∧ w'.frozen? ⟨b, 0, none⟩ = false ∧ w'.cell? ⟨b, 0, none⟩ = some (.slice A n c) ∧ (F p.from_).holds (nt A n c) w') :
    ∃ b A c, v p.slot = .pointer (some ⟨b, 0, none⟩) ∧ g ≤ b ∧ w'.frozen? ⟨b, 0, none⟩ = false ∧ Var w' b A zs.length c zs ∧ Fr g' w' A zs := by
  obtain ⟨b, A, n, c, h1, h2, h3, h4, h5, h6⟩ := h
  rw [hF] at h6
  obtain ⟨A', c', h7, h8, h9⟩ := h6
  injection h7 with h7
  injection h7 with h7
  injection h7 with h7 _
  injection h7 with e1 e2 e3
  subst e1 e2 e3
  exact ⟨b, A, c, h1, h2, h4, ⟨h3, h5, h8⟩, h9⟩
/-- What is known of a region's slots. -/
def keepsA (g : Nat) (xs ys : List Nat) (t : Nat) : Fact := (([(2, Fact.low g xs), (3, Fact.low g ys), (5, Fact.any), (6, Fact.any), (31, Fact.num xs), (32, Fact.num xs), (33, Fact.num ys), (34, Fact.num ys)] : List (Nat × Fact)).lookup t).getD Fact.any
/-- What is known of a region's slots. -/
def keepsB (g : Nat) (xs ys : List Nat) (t : Nat) : Fact := (([(2, Fact.low g xs), (3, Fact.low g ys), (11, Fact.any), (12, Fact.any), (13, Fact.eq (.int .i64 0)), (47, Fact.div g [] xs), (48, Fact.numg g xs), (49, Fact.num xs), (50, Fact.num ys), (51, Fact.num (Nm.nat (Nm.val xs + Nm.val ys))), (52, Fact.num ys), (53, Fact.num (Nm.nat (Nm.val xs + Nm.val ys + Nm.val ys))), (54, Fact.div g [] xs), (55, Fact.own g []), (56, Fact.own g xs), (57, Fact.eq (.int .i64 0))] : List (Nat × Fact)).lookup t).getD Fact.any
/-- What is known of a region's slots. -/
def keepsC (g : Nat) (xs : List Nat) (t : Nat) : Fact := (([(2, Fact.low g xs), (14, Fact.any), (58, Fact.numg g xs), (59, Fact.row [1]), (60, Fact.num [1]), (61, Fact.own g xs)] : List (Nat × Fact)).lookup t).getD Fact.any
/-- The values of the slots of the stores. -/
def keepsV (n k bs gs os cs bd gd od cd bg gg og cg br gr or cr bp gp op cp : Nat) (t : Nat) : Value := (([(15, .int .i64 (k : Int)), (7, .pointer (some ⟨bs, 0, none⟩)), (8, .pointer (some ⟨bd, 0, none⟩)), (10, .pointer (some ⟨bg, 0, none⟩)), (12, .pointer (some ⟨br, 0, none⟩)), (14, .pointer (some ⟨bp, 0, none⟩)), (120, .pointer (some ⟨bs, 0, none⟩)), (121, .slice (some ⟨gs, os, none⟩) n cs), (122, .int .i64 (k : Int)), (123, .pointer (some ⟨bd, 0, none⟩)), (124, .slice (some ⟨gd, od, none⟩) n cd), (125, .int .i64 (k : Int)), (126, .pointer (some ⟨bg, 0, none⟩)), (127, .slice (some ⟨gg, og, none⟩) n cg), (128, .int .i64 (k : Int)), (129, .pointer (some ⟨br, 0, none⟩)), (130, .slice (some ⟨gr, or, none⟩) n cr), (131, .int .i64 (k : Int)), (132, .pointer (some ⟨bp, 0, none⟩)), (133, .slice (some ⟨gp, op, none⟩) n cp), (134, .int .i64 (k : Int)), (135, .pointer (some ⟨gs, os + k, none⟩)), (136, .pointer (some ⟨gd, od + k, none⟩)), (137, .pointer (some ⟨gg, og + k, none⟩)), (138, .pointer (some ⟨gr, or + k, none⟩)), (139, .pointer (some ⟨gp, op + k, none⟩))] : List (Nat × Value)).lookup t).getD undef
/-- The loop of NaturalKeeps. -/
def KeepsRel (wG : World) (n : Nat) (es : List Ent) (iv : Value) (wr : World) : Prop := ∃ k : Nat, k ≤ n ∧ iv = .int .i64 (k : Int) ∧ KJ wG.heap.size n wG es wr
set_option maxRecDepth 100000 in
set_option maxHeartbeats 1000000 in
theorem keeps_law (A B : Option Addr) (a b : Nat) (xs ys : List Nat) (w : World) (hx : Rd w A xs) (hy : Rd w B ys) (cx : xs.length ≤ a) (cy : ys.length ≤ b) (dx : Nm.Dig xs) (dy : Nm.Dig ys) :
    Calls Tryd.prog 11 #[nt A (xs.length) a, nt B (ys.length) b] w fun e w' => e = .returned (.bool true) ∧ Below w.heap.size w w' := by
  go_enter Tryd.func11, Tryd.ntmps11
  go_wp2_with fail
  have vx : Arg _ w.heap.size A (xs.length) a xs := Arg.at_ (c := a) (n := (xs.length)) (w := w) hx (by simp)
  have vy : Arg _ (w.heap.size + 1) B (ys.length) b ys := Arg.at_ (c := b) (n := (ys.length)) (w := (w.alloc (Obj.cells #[Value.slice A (xs.length) a] 24))) (hy.below (one _ (Obj.cells #[Value.slice A (xs.length) a] 24))) (by simp)
  have vx := vx.below (one _ (Obj.cells #[Value.slice B (ys.length) b] 24))
  have hb := (have h := one w (Obj.cells #[Value.slice A (xs.length) a] 24); h.alloc h.size (Obj.cells #[Value.slice B (ys.length) b] 24))
  clear hx hy
  cases hfx : decide (xs.length ≤ 12 ∧ Nm.tlen xs = xs.length) with
  | false =>
    refine (few_is a vx.rd rfl hfx).mono ?_
    rintro e w1 ⟨rfl, hs1⟩
    have vx := vx.below hs1
    have vy := vy.below hs1
    have hb := up hb hs1
    clear hs1
    have kvx := vx.cell
    have kvy := vy.cell
    go_wp2_with fail
    clear kvx kvy
    refine (awake_any _).mono ?_
    rintro e wa ⟨rfl, hsa⟩
    go_wp2_with fail
    exact bodyPost_ret (v := .bool true) (by first | rfl | kernel_rfl) rfl ⟨rfl, up hb hsa⟩
  | true =>
    refine (few_is a vx.rd rfl hfx).mono ?_
    rintro e w1 ⟨rfl, hs1⟩
    have vx := vx.below hs1
    have vy := vy.below hs1
    have hb := up hb hs1
    clear hs1
    have kvx := vx.cell
    have kvy := vy.cell
    go_wp2_with fail
    clear kvx kvy
    cases hfy : decide (ys.length ≤ 12 ∧ Nm.tlen ys = ys.length) with
    | false =>
      refine (few_is b vy.rd rfl hfy).mono ?_
      rintro e w2 ⟨rfl, hs2⟩
      have vx := vx.below hs2
      have vy := vy.below hs2
      have hb := up hb hs2
      clear hs2
      have kvx := vx.cell
      have kvy := vy.cell
      go_wp2_with fail
      clear kvx kvy
      refine (awake_any _).mono ?_
      rintro e wa ⟨rfl, hsa⟩
      go_wp2_with fail
      exact bodyPost_ret (v := .bool true) (by first | rfl | kernel_rfl) rfl ⟨rfl, up hb hsa⟩
    | true =>
      refine (few_is b vy.rd rfl hfy).mono ?_
      rintro e w2 ⟨rfl, hs2⟩
      have vx := vx.below hs2
      have vy := vy.below hs2
      have hb := up hb hs2
      clear hs2
      rcases Nat.eq_zero_or_pos ys.length with h0 | h0
      · have hyl : ((ys.length : Int) == 0) = true := by rw [beq_iff_eq]; omega
        have kvx := vx.cell
        have kvy := vy.cell
        go_wp2_with fail
        clear kvx kvy
        refine (awake_any _).mono ?_
        rintro e wa ⟨rfl, hsa⟩
        go_wp2_with fail
        exact bodyPost_ret (v := .bool true) (by first | rfl | kernel_rfl) rfl ⟨rfl, up hb hsa⟩
      have hyl : ((ys.length : Int) == 0) = false := digit_ne (by omega)
      have kvx := vx.cell
      have kvy := vy.cell
      go_wp2_with fail
      clear kvx kvy
      have tx := (of_decide_eq_true hfx).2
      have ty := (of_decide_eq_true hfy).2
      have vx := vx.var rfl cx dx hfx
      have sx := Nm.Sz.val dx hfx
      have ex := Nm.canon dx hfx
      have vy := vy.var rfl cy dy hfy
      have sy := Nm.Sz.val dy hfy
      have ey := Nm.canon dy hfy
      clear hfx cx dx
      clear hfy cy dy
      have hy0 : 0 < Nm.val ys := by
        have h1 := Nm.tlen_pos_val (zs := ys) (by omega)
        have h2 : 0 < 4294967296 ^ (Nm.tlen ys - 1) := Nat.pow_pos (by decide)
        omega
      clear hyl
      refine wp_region_made (by kernel_rfl) (keepsA _ xs ys) [2, 3] 151 [⟨5, 6, 32⟩, ⟨6, 7, 34⟩] [5, 6, 31, 32, 33, 34] rfl (by kernel_rfl) (by kernel_rfl) (by kernel_rfl) (by kernel_rfl) (fun t => Fact.soft_list _ (List.forall_mem_cons.2 ⟨Fact.soft_low _, List.forall_mem_cons.2 ⟨Fact.soft_low _, List.forall_mem_cons.2 ⟨Fact.soft_any, List.forall_mem_cons.2 ⟨Fact.soft_any, List.forall_mem_cons.2 ⟨Fact.soft_num _, List.forall_mem_cons.2 ⟨Fact.soft_num _, List.forall_mem_cons.2 ⟨Fact.soft_num _, List.forall_mem_cons.2 ⟨Fact.soft_num _, fun _ h => absurd h List.not_mem_nil⟩⟩⟩⟩⟩⟩⟩⟩) t) ?_ ?_ ?_
      · intro t ht
        simp only [List.mem_cons, List.not_mem_nil, or_false] at ht
        rcases ht with rfl | rfl
        · exact ⟨Nat.le_refl _, _, _, _, rfl, vx.lt, vx⟩
        · exact ⟨Nat.le_refl _, _, _, _, rfl, vy.lt, vy⟩
      · refine List.forall_mem_cons.2 ⟨.plain (ob_low 2 31 xs rfl rfl (by first | exact .inl rfl | exact .inr ⟨_, _, _, rfl, rfl, by kernel_rfl, by decide, rfl⟩) (by kernel_rfl) rfl rfl) (by kernel_rfl), ?_⟩
        refine List.forall_mem_cons.2 ⟨.plain (ob_call1 35 31 32 _ rfl rfl (by first | exact .inl rfl | exact .inr ⟨_, _, _, rfl, rfl, by kernel_rfl, by decide, rfl⟩) (by kernel_rfl) (by kernel_rfl) (c_copy xs)) (by kernel_rfl), ?_⟩
        refine List.forall_mem_cons.2 ⟨.plain (ob_low 3 33 ys rfl rfl (by first | exact .inl rfl | exact .inr ⟨_, _, _, rfl, rfl, by kernel_rfl, by decide, rfl⟩) (by kernel_rfl) rfl rfl) (by kernel_rfl), ?_⟩
        refine List.forall_mem_cons.2 ⟨.plain (ob_call1 35 33 34 _ rfl rfl (by first | exact .inl rfl | exact .inr ⟨_, _, _, rfl, rfl, by kernel_rfl, by decide, rfl⟩) (by kernel_rfl) (by kernel_rfl) (c_copy ys)) (by kernel_rfl), ?_⟩
        refine List.forall_mem_cons.2 ⟨.alloc 5 rfl rfl rfl rfl (by kernel_rfl), ?_⟩
        refine List.forall_mem_cons.2 ⟨.alloc 6 rfl rfl rfl rfl (by kernel_rfl), ?_⟩
        refine List.forall_mem_cons.2 ⟨.store ⟨5, 6, 32⟩ (by simp) rfl rfl rfl rfl (by kernel_rfl) (by kernel_rfl) (fun _ _ ⟨_, _, h, _⟩ => ⟨_, _, _, h⟩) (by kernel_rfl), ?_⟩
        refine List.forall_mem_cons.2 ⟨.store ⟨6, 7, 34⟩ (by simp) rfl rfl rfl rfl (by kernel_rfl) (by kernel_rfl) (fun _ _ ⟨_, _, h, _⟩ => ⟨_, _, _, h⟩) (by kernel_rfl), ?_⟩
        exact fun _ h => absurd h List.not_mem_nil
      intro vv wG hvv hmv hav hbv
      obtain ⟨bX, AX, cX, hv5, hgX, hfX, vX⟩ := made_num (p := ⟨5, 6, 32⟩) rfl (hmv ⟨5, 6, 32⟩ (by simp))
      obtain ⟨bY, AY, cY, hv6, hgY, hfY, vY⟩ := made_num (p := ⟨6, 7, 34⟩) rfl (hmv ⟨6, 7, 34⟩ (by simp))
      simp only [lay, List.foldl_cons, List.foldl_nil, List.setIfInBounds_toArray, List.set_cons_succ, List.set_cons_zero, hv5, hv6]
      have vx := vx.below hbv
      have vy := vy.below hbv
      have hb := up hb hbv
      clear hvv hmv hav hbv hgX hfX hgY hfY
      have vx0 := vx
      have vy0 := vy
      have vX0 := vX
      have vY0 := vY
      have hbG : Below wG.heap.size wG wG := Below.refl _ _
      have hb0 := hb
      have kvx := vx.cell
      have kvy := vy.cell
      have kvX := vX.cell
      have kvY := vY.cell
      go_wp2_with fail
      clear kvx kvy kvX kvY
      refine (add_n vx.num (num_nil _) xs (by rw [show Nm.val [] = 0 from rfl, Nat.add_zero, ex])).mono ?_
      rintro e w3 ⟨As, cs, rfl, hc, hf, hs⟩
      have fs := hf.mono hbG.size
      have vx := vx.below hs
      have vy := vy.below hs
      have vX := vX.below hs
      have vY := vY.below hs
      have hb := up hb hs
      have hbG := up hbG hs
      have ns := hf.num hc vx.num.dig vx.num.small
      clear hc hf hs
      have vx := vx.below (one _ (Obj.cells #[Value.slice As xs.length cs] 24))
      have vy := vy.below (one _ (Obj.cells #[Value.slice As xs.length cs] 24))
      have vX := vX.below (one _ (Obj.cells #[Value.slice As xs.length cs] 24))
      have vY := vY.below (one _ (Obj.cells #[Value.slice As xs.length cs] 24))
      have fs := fs.below (one _ (Obj.cells #[Value.slice As xs.length cs] 24))
      have vs := Var.new ns
      clear ns
      have hb := up hb (one _ (Obj.cells #[Value.slice As xs.length cs] 24))
      have hbG := up hbG (one _ (Obj.cells #[Value.slice As xs.length cs] 24))
      have kvx := vx.cell
      have kvy := vy.cell
      have kvX := vX.cell
      have kvY := vY.cell
      have kvs := vs.cell
      go_wp2_with fail
      clear kvx kvy kvX kvY kvs
      refine (sub_n vx.num (num_nil _) xs true (by rw [show Nm.val [] = 0 from rfl, Nat.sub_zero, ex]) (decide_eq_true (Nat.zero_le _))).mono ?_
      rintro e w4 ⟨Ad, cd, rfl, hc, hf, hs⟩
      have fd := hf.mono hbG.size
      have vx := vx.below hs
      have vy := vy.below hs
      have vX := vX.below hs
      have vY := vY.below hs
      have vs := vs.below hs
      have fs := fs.below hs
      have hb := up hb hs
      have hbG := up hbG hs
      have nd := hf.num hc vx.num.dig vx.num.small
      clear hc hf hs
      have vx := vx.below (one _ (Obj.cells #[Value.slice Ad xs.length cd] 24))
      have vy := vy.below (one _ (Obj.cells #[Value.slice Ad xs.length cd] 24))
      have vX := vX.below (one _ (Obj.cells #[Value.slice Ad xs.length cd] 24))
      have vY := vY.below (one _ (Obj.cells #[Value.slice Ad xs.length cd] 24))
      have vs := vs.below (one _ (Obj.cells #[Value.slice Ad xs.length cd] 24))
      have fs := fs.below (one _ (Obj.cells #[Value.slice Ad xs.length cd] 24))
      have fd := fd.below (one _ (Obj.cells #[Value.slice Ad xs.length cd] 24))
      have vd := Var.new nd
      clear nd
      have hb := up hb (one _ (Obj.cells #[Value.slice Ad xs.length cd] 24))
      have hbG := up hbG (one _ (Obj.cells #[Value.slice Ad xs.length cd] 24))
      have kvx := vx.cell
      have kvy := vy.cell
      have kvX := vX.cell
      have kvY := vY.cell
      have kvs := vs.cell
      have kvd := vd.cell
      go_wp2_with fail
      clear kvx kvy kvX kvY kvs kvd
      refine (gcd_n 900 divOk_all vx.num (num_nil _) (Nat.zero_le _) xs (by rw [show Nm.val [] = 0 from rfl, Nat.gcd_zero_right, ex])).mono ?_
      rintro e w5 ⟨Ag, cg, rfl, hc, hf, hs⟩
      have fg := hf.mono hbG.size
      have vx := vx.below hs
      have vy := vy.below hs
      have vX := vX.below hs
      have vY := vY.below hs
      have vs := vs.below hs
      have vd := vd.below hs
      have fs := fs.below hs
      have fd := fd.below hs
      have hb := up hb hs
      have hbG := up hbG hs
      have ng := hf.num hc vx.num.dig vx.num.small
      clear hc hf hs
      have vx := vx.below (one _ (Obj.cells #[Value.slice Ag xs.length cg] 24))
      have vy := vy.below (one _ (Obj.cells #[Value.slice Ag xs.length cg] 24))
      have vX := vX.below (one _ (Obj.cells #[Value.slice Ag xs.length cg] 24))
      have vY := vY.below (one _ (Obj.cells #[Value.slice Ag xs.length cg] 24))
      have vs := vs.below (one _ (Obj.cells #[Value.slice Ag xs.length cg] 24))
      have vd := vd.below (one _ (Obj.cells #[Value.slice Ag xs.length cg] 24))
      have fs := fs.below (one _ (Obj.cells #[Value.slice Ag xs.length cg] 24))
      have fd := fd.below (one _ (Obj.cells #[Value.slice Ag xs.length cg] 24))
      have fg := fg.below (one _ (Obj.cells #[Value.slice Ag xs.length cg] 24))
      have vg := Var.new ng
      clear ng
      have hb := up hb (one _ (Obj.cells #[Value.slice Ag xs.length cg] 24))
      have hbG := up hbG (one _ (Obj.cells #[Value.slice Ag xs.length cg] 24))
      have kvx := vx.cell
      have kvy := vy.cell
      have kvX := vX.cell
      have kvY := vY.cell
      have kvs := vs.cell
      have kvd := vd.cell
      have kvg := vg.cell
      go_wp2_with fail
      clear kvx kvy kvX kvY kvs kvd kvg
      refine wp_region_made (by kernel_rfl) (keepsB _ xs ys) [2, 3] 151 [⟨11, 13, 55⟩, ⟨12, 14, 56⟩] [11, 12, 13, 47, 48, 49, 50, 51, 52, 53, 54, 55, 56, 57] rfl (by kernel_rfl) (by kernel_rfl) (by kernel_rfl) (by kernel_rfl) (fun t => Fact.soft_list _ (List.forall_mem_cons.2 ⟨Fact.soft_low _, List.forall_mem_cons.2 ⟨Fact.soft_low _, List.forall_mem_cons.2 ⟨Fact.soft_any, List.forall_mem_cons.2 ⟨Fact.soft_any, List.forall_mem_cons.2 ⟨Fact.soft_eq _, List.forall_mem_cons.2 ⟨Fact.soft_div _ _, List.forall_mem_cons.2 ⟨Fact.soft_numg _, List.forall_mem_cons.2 ⟨Fact.soft_num _, List.forall_mem_cons.2 ⟨Fact.soft_num _, List.forall_mem_cons.2 ⟨Fact.soft_num _, List.forall_mem_cons.2 ⟨Fact.soft_num _, List.forall_mem_cons.2 ⟨Fact.soft_num _, List.forall_mem_cons.2 ⟨Fact.soft_div _ _, List.forall_mem_cons.2 ⟨Fact.soft_own _, List.forall_mem_cons.2 ⟨Fact.soft_own _, List.forall_mem_cons.2 ⟨Fact.soft_eq _, fun _ h => absurd h List.not_mem_nil⟩⟩⟩⟩⟩⟩⟩⟩⟩⟩⟩⟩⟩⟩⟩⟩) t) ?_ ?_ ?_
      · intro t ht
        simp only [List.mem_cons, List.not_mem_nil, or_false] at ht
        rcases ht with rfl | rfl
        · exact ⟨Nat.le_refl _, _, _, _, rfl, vx.lt, vx⟩
        · exact ⟨Nat.le_refl _, _, _, _, rfl, vy.lt, vy⟩
      · refine List.forall_mem_cons.2 ⟨.plain (ob_lowg 2 48 xs rfl rfl (by first | exact .inl rfl | exact .inr ⟨_, _, _, rfl, rfl, by kernel_rfl, by decide, rfl⟩) (by kernel_rfl) rfl rfl) (by kernel_rfl), ?_⟩
        refine List.forall_mem_cons.2 ⟨.plain (ob_low 2 49 xs rfl rfl (by first | exact .inl rfl | exact .inr ⟨_, _, _, rfl, rfl, by kernel_rfl, by decide, rfl⟩) (by kernel_rfl) rfl rfl) (by kernel_rfl), ?_⟩
        refine List.forall_mem_cons.2 ⟨.plain (ob_low 3 50 ys rfl rfl (by first | exact .inl rfl | exact .inr ⟨_, _, _, rfl, rfl, by kernel_rfl, by decide, rfl⟩) (by kernel_rfl) rfl rfl) (by kernel_rfl), ?_⟩
        refine List.forall_mem_cons.2 ⟨.plain (ob_call2 20 49 50 51 _ rfl rfl (by first | exact .inl rfl | exact .inr ⟨_, _, _, rfl, rfl, by kernel_rfl, by decide, rfl⟩) (by kernel_rfl) (by kernel_rfl) (by kernel_rfl) (c_refAdd xs ys (Nm.nat (Nm.val xs + Nm.val ys)) rfl ((sx.add sy (by decide)).len (by decide)))) (by kernel_rfl), ?_⟩
        refine List.forall_mem_cons.2 ⟨.plain (ob_low 3 52 ys rfl rfl (by first | exact .inl rfl | exact .inr ⟨_, _, _, rfl, rfl, by kernel_rfl, by decide, rfl⟩) (by kernel_rfl) rfl rfl) (by kernel_rfl), ?_⟩
        refine List.forall_mem_cons.2 ⟨.plain (ob_call2 20 51 52 53 _ rfl rfl (by first | exact .inl rfl | exact .inr ⟨_, _, _, rfl, rfl, by kernel_rfl, by decide, rfl⟩) (by kernel_rfl) (by kernel_rfl) (by kernel_rfl) (c_refAdd (Nm.nat (Nm.val xs + Nm.val ys)) ys (Nm.nat (Nm.val xs + Nm.val ys + Nm.val ys)) (by rw [Nm.val_nat]) (((sx.add sy (by decide)).add sy (by decide)).len (by decide)))) (by kernel_rfl), ?_⟩
        refine List.forall_mem_cons.2 ⟨.plain (ob_divMod 48 53 54 xs (Nm.nat (Nm.val xs + Nm.val ys + Nm.val ys)) [] xs _ rfl rfl (by first | exact .inl rfl | exact .inr ⟨_, _, _, rfl, rfl, by kernel_rfl, by decide, rfl⟩) (by kernel_rfl) (by kernel_rfl) rfl rfl rfl (by rw [Nm.tlen_nat]; exact Nm.nat_len_pos (by omega)) (by rw [Nm.val_nat, Nat.div_eq_of_lt (by omega)]; exact Nm.nat_zero) (by rw [Nm.val_nat, Nat.mod_eq_of_lt (by omega), ex])) (by kernel_rfl), ?_⟩
        refine List.forall_mem_cons.2 ⟨.plain (ob_copy 54 47 (.inl rfl) rfl (by first | exact .inl rfl | exact .inr ⟨_, _, _, rfl, rfl, by kernel_rfl, by decide, rfl⟩) (by kernel_rfl) rfl) (by kernel_rfl), ?_⟩
        refine List.forall_mem_cons.2 ⟨.plain (ob_ext0 47 55 [] xs rfl rfl (by first | exact .inl rfl | exact .inr ⟨_, _, _, rfl, rfl, by kernel_rfl, by decide, rfl⟩) (by kernel_rfl) rfl rfl) (by kernel_rfl), ?_⟩
        refine List.forall_mem_cons.2 ⟨.plain (ob_ext1 47 56 [] xs rfl rfl (by first | exact .inl rfl | exact .inr ⟨_, _, _, rfl, rfl, by kernel_rfl, by decide, rfl⟩) (by kernel_rfl) rfl rfl) (by kernel_rfl), ?_⟩
        refine List.forall_mem_cons.2 ⟨.plain (ob_ext2 47 57 [] xs rfl rfl (by first | exact .inl rfl | exact .inr ⟨_, _, _, rfl, rfl, by kernel_rfl, by decide, rfl⟩) (by kernel_rfl) rfl rfl) (by kernel_rfl), ?_⟩
        refine List.forall_mem_cons.2 ⟨.alloc 11 rfl rfl rfl rfl (by kernel_rfl), ?_⟩
        refine List.forall_mem_cons.2 ⟨.alloc 12 rfl rfl rfl rfl (by kernel_rfl), ?_⟩
        refine List.forall_mem_cons.2 ⟨.store ⟨11, 13, 55⟩ (by simp) rfl rfl rfl rfl (by kernel_rfl) (by kernel_rfl) (fun _ _ ⟨_, _, h, _⟩ => ⟨_, _, _, h⟩) (by kernel_rfl), ?_⟩
        refine List.forall_mem_cons.2 ⟨.store ⟨12, 14, 56⟩ (by simp) rfl rfl rfl rfl (by kernel_rfl) (by kernel_rfl) (fun _ _ ⟨_, _, h, _⟩ => ⟨_, _, _, h⟩) (by kernel_rfl), ?_⟩
        refine List.forall_mem_cons.2 ⟨.plain (ob_copy 57 13 (.inr rfl) rfl (by first | exact .inl rfl | exact .inr ⟨_, _, _, rfl, rfl, by kernel_rfl, by decide, rfl⟩) (by kernel_rfl) rfl) (by kernel_rfl), ?_⟩
        exact fun _ h => absurd h List.not_mem_nil
      intro vv wH hvv hmv hav hbv
      have hv13 : vv 13 = .int .i64 0 := hvv 13 (by decide)
      obtain ⟨bq, Aq, cq, hv11, hgq, hfq, vq, frq⟩ := made_own (p := ⟨11, 13, 55⟩) rfl (hmv ⟨11, 13, 55⟩ (by simp))
      obtain ⟨br, Ar, cr, hv12, hgr, hfr, vr, frr⟩ := made_own (p := ⟨12, 14, 56⟩) rfl (hmv ⟨12, 14, 56⟩ (by simp))
      simp only [lay, List.foldl_cons, List.foldl_nil, List.setIfInBounds_toArray, List.set_cons_succ, List.set_cons_zero, hv13, hv11, hv12]
      have fr := frr.mono hbG.size
      have vx := vx.below hbv
      have vy := vy.below hbv
      have vX := vX.below hbv
      have vY := vY.below hbv
      have vs := vs.below hbv
      have vd := vd.below hbv
      have vg := vg.below hbv
      have fs := fs.below hbv
      have fd := fd.below hbv
      have fg := fg.below hbv
      have hb := up hb hbv
      have hbG := up hbG hbv
      clear hvv hmv hav hbv hgq hfq hgr hfr frr frq vq
      have kvx := vx.cell
      have kvy := vy.cell
      have kvX := vX.cell
      have kvY := vY.cell
      have kvs := vs.cell
      have kvd := vd.cell
      have kvg := vg.cell
      have kvr := vr.cell
      go_wp2_with fail
      clear kvx kvy kvX kvY kvs kvd kvg kvr
      refine wp_region_made (by kernel_rfl) (keepsC _ xs) [2] 151 [⟨14, 5, 61⟩] [14, 58, 59, 60, 61] rfl (by kernel_rfl) (by kernel_rfl) (by kernel_rfl) (by kernel_rfl) (fun t => Fact.soft_list _ (List.forall_mem_cons.2 ⟨Fact.soft_low _, List.forall_mem_cons.2 ⟨Fact.soft_any, List.forall_mem_cons.2 ⟨Fact.soft_numg _, List.forall_mem_cons.2 ⟨Fact.soft_row _, List.forall_mem_cons.2 ⟨Fact.soft_num _, List.forall_mem_cons.2 ⟨Fact.soft_own _, fun _ h => absurd h List.not_mem_nil⟩⟩⟩⟩⟩⟩) t) ?_ ?_ ?_
      · intro t ht
        simp only [List.mem_cons, List.not_mem_nil, or_false] at ht
        rcases ht with rfl
        · exact ⟨Nat.le_refl _, _, _, _, rfl, vx.lt, vx⟩
      · refine List.forall_mem_cons.2 ⟨.plain (ob_lowg 2 58 xs rfl rfl (by first | exact .inl rfl | exact .inr ⟨_, _, _, rfl, rfl, by kernel_rfl, by decide, rfl⟩) (by kernel_rfl) rfl rfl) (by kernel_rfl), ?_⟩
        refine List.forall_mem_cons.2 ⟨.plain (ob_build1 1 59 rfl rfl (by first | exact .inl rfl | exact .inr ⟨_, _, _, rfl, rfl, by kernel_rfl, by decide, rfl⟩) rfl) (by kernel_rfl), ?_⟩
        refine List.forall_mem_cons.2 ⟨.plain (ob_call1 36 59 60 _ rfl rfl (by first | exact .inl rfl | exact .inr ⟨_, _, _, rfl, rfl, by kernel_rfl, by decide, rfl⟩) (by kernel_rfl) (by kernel_rfl) (c_nat [1] (dl (by decide +kernel)) (by decide))) (by kernel_rfl), ?_⟩
        refine List.forall_mem_cons.2 ⟨.plain (ob_mulOwn 58 60 61 xs [1] xs _ rfl rfl (by first | exact .inl rfl | exact .inr ⟨_, _, _, rfl, rfl, by kernel_rfl, by decide, rfl⟩) (by kernel_rfl) (by kernel_rfl) rfl rfl rfl (by rw [show Nm.val [1] = 1 from rfl, Nat.mul_one, ex]) rfl) (by kernel_rfl), ?_⟩
        refine List.forall_mem_cons.2 ⟨.alloc 14 rfl rfl rfl rfl (by kernel_rfl), ?_⟩
        refine List.forall_mem_cons.2 ⟨.store ⟨14, 5, 61⟩ (by simp) rfl rfl rfl rfl (by kernel_rfl) (by kernel_rfl) (fun _ _ ⟨_, _, h, _⟩ => ⟨_, _, _, h⟩) (by kernel_rfl), ?_⟩
        exact fun _ h => absurd h List.not_mem_nil
      intro vv wI hvv hmv hav hbv
      obtain ⟨bp, Ap, cp, hv14, hgp, hfp, vp, frp⟩ := made_own (p := ⟨14, 5, 61⟩) rfl (hmv ⟨14, 5, 61⟩ (by simp))
      simp only [lay, List.foldl_cons, List.foldl_nil, List.setIfInBounds_toArray, List.set_cons_succ, List.set_cons_zero, hv14]
      have fp := frp.mono hbG.size
      have vx := vx.below hbv
      have vy := vy.below hbv
      have vX := vX.below hbv
      have vY := vY.below hbv
      have vs := vs.below hbv
      have vd := vd.below hbv
      have vg := vg.below hbv
      have vr := vr.below hbv
      have fs := fs.below hbv
      have fd := fd.below hbv
      have fg := fg.below hbv
      have fr := fr.below hbv
      have hb := up hb hbv
      have hbG := up hbG hbv
      clear hvv hmv hav hbv hgp hfp frp
      have kvx := vx.cell
      have kvy := vy.cell
      have kvX := vX.cell
      have kvY := vY.cell
      have kvs := vs.cell
      have kvd := vd.cell
      have kvg := vg.cell
      have kvr := vr.cell
      have kvp := vp.cell
      go_wp2_with fail
      clear kvx kvy kvX kvY kvs kvd kvg kvr kvp
      have hJ : KJ wG.heap.size xs.length wG [⟨w3.heap.size, As, cs⟩, ⟨w4.heap.size, Ad, cd⟩, ⟨w5.heap.size, Ag, cg⟩, ⟨br, Ar, cr⟩, ⟨bp, Ap, cp⟩] wI := ⟨hbG, List.forall_mem_cons.2 ⟨⟨⟨vs.lt, vs.cell⟩, xs, rfl, fs⟩, List.forall_mem_cons.2 ⟨⟨⟨vd.lt, vd.cell⟩, xs, rfl, fd⟩, List.forall_mem_cons.2 ⟨⟨⟨vg.lt, vg.cell⟩, xs, rfl, fg⟩, List.forall_mem_cons.2 ⟨⟨⟨vr.lt, vr.cell⟩, xs, rfl, fr⟩, List.forall_mem_cons.2 ⟨⟨⟨vp.lt, vp.cell⟩, xs, rfl, fp⟩, fun _ h => absurd h List.not_mem_nil⟩⟩⟩⟩⟩⟩
      have HJ := Lib.hid hJ
      have hsm := vx.num.small
      clear hJ hb hbG vx vy vX vY vs vd vg vr vp fs fd fg fr fp
      go_loopw [15] (fun iv wr => KeepsRel wG xs.length [⟨w3.heap.size, As, cs⟩, ⟨w4.heap.size, Ad, cd⟩, ⟨w5.heap.size, Ag, cg⟩, ⟨br, Ar, cr⟩, ⟨bp, Ap, cp⟩] iv wr) (fun i _ => xs.length - (intOf i).toNat)
      case atStart => exact ⟨0, Nat.zero_le _, rfl, HJ.out⟩
      case round =>
        obtain ⟨k, hk, rfl, hJ⟩ := hrel
        clear HJ
        have vx := vx0.below hJ.1
        have kvx := vx.cell
        by_cases hlt : k < xs.length
        · have Hk := Lib.hid hlt
          obtain ⟨zs, hls, hfs⟩ := (hJ.2 ⟨w3.heap.size, As, cs⟩ (by simp)).2
          obtain ⟨gs, os, hAs, _, _⟩ := hfs.own (by intro e; rw [e] at hls; simp at hls; omega)
          clear hls hfs
          obtain ⟨zd, hld, hfd⟩ := (hJ.2 ⟨w4.heap.size, Ad, cd⟩ (by simp)).2
          obtain ⟨gd, od, hAd, _, _⟩ := hfd.own (by intro e; rw [e] at hld; simp at hld; omega)
          clear hld hfd
          obtain ⟨zg, hlg, hfg⟩ := (hJ.2 ⟨w5.heap.size, Ag, cg⟩ (by simp)).2
          obtain ⟨gg, og, hAg, _, _⟩ := hfg.own (by intro e; rw [e] at hlg; simp at hlg; omega)
          clear hlg hfg
          obtain ⟨zr, hlr, hfr⟩ := (hJ.2 ⟨br, Ar, cr⟩ (by simp)).2
          obtain ⟨gr, or, hAr, _, _⟩ := hfr.own (by intro e; rw [e] at hlr; simp at hlr; omega)
          clear hlr hfr
          obtain ⟨zp, hlp, hfp⟩ := (hJ.2 ⟨bp, Ap, cp⟩ (by simp)).2
          obtain ⟨gp, op, hAp, _, _⟩ := hfp.own (by intro e; rw [e] at hlp; simp at hlp; omega)
          clear hlp hfp
          subst hAs
          subst hAd
          subst hAg
          subst hAr
          subst hAp
          go_wp2_with fail
          refine wp_region_keep (by kernel_rfl) (keepsV xs.length k (w3.heap.size) gs os cs (w4.heap.size) gd od cd (w5.heap.size) gg og cg br gr or cr bp gp op cp) [7, 8, 10, 12, 14, 15] 151 (KJ wG.heap.size xs.length wG [⟨w3.heap.size, some ⟨gs, os, none⟩, cs⟩, ⟨w4.heap.size, some ⟨gd, od, none⟩, cd⟩, ⟨w5.heap.size, some ⟨gg, og, none⟩, cg⟩, ⟨br, some ⟨gr, or, none⟩, cr⟩, ⟨bp, some ⟨gp, op, none⟩, cp⟩]) [120, 121, 122, 123, 124, 125, 126, 127, 128, 129, 130, 131, 132, 133, 134, 135, 136, 137, 138, 139] rfl (by kernel_rfl) (by kernel_rfl) (by kernel_rfl) hJ.drew ?_ ?_ ?_
          · intro t ht
            simp only [List.mem_cons, List.not_mem_nil, or_false] at ht
            rcases ht with rfl | rfl | rfl | rfl | rfl | rfl <;> rfl
          · refine List.forall_mem_cons.2 ⟨ko_field 7 120 ⟨w3.heap.size, some ⟨gs, os, none⟩, cs⟩ (by simp) rfl rfl rfl (by kernel_rfl) rfl rfl, ?_⟩
            refine List.forall_mem_cons.2 ⟨ko_load 120 121 ⟨w3.heap.size, some ⟨gs, os, none⟩, cs⟩ (by simp) rfl rfl rfl (by kernel_rfl) rfl rfl, ?_⟩
            refine List.forall_mem_cons.2 ⟨ko_move 15 122 rfl rfl rfl (by kernel_rfl) rfl, ?_⟩
            refine List.forall_mem_cons.2 ⟨ko_field 8 123 ⟨w4.heap.size, some ⟨gd, od, none⟩, cd⟩ (by simp) rfl rfl rfl (by kernel_rfl) rfl rfl, ?_⟩
            refine List.forall_mem_cons.2 ⟨ko_load 123 124 ⟨w4.heap.size, some ⟨gd, od, none⟩, cd⟩ (by simp) rfl rfl rfl (by kernel_rfl) rfl rfl, ?_⟩
            refine List.forall_mem_cons.2 ⟨ko_move 15 125 rfl rfl rfl (by kernel_rfl) rfl, ?_⟩
            refine List.forall_mem_cons.2 ⟨ko_field 10 126 ⟨w5.heap.size, some ⟨gg, og, none⟩, cg⟩ (by simp) rfl rfl rfl (by kernel_rfl) rfl rfl, ?_⟩
            refine List.forall_mem_cons.2 ⟨ko_load 126 127 ⟨w5.heap.size, some ⟨gg, og, none⟩, cg⟩ (by simp) rfl rfl rfl (by kernel_rfl) rfl rfl, ?_⟩
            refine List.forall_mem_cons.2 ⟨ko_move 15 128 rfl rfl rfl (by kernel_rfl) rfl, ?_⟩
            refine List.forall_mem_cons.2 ⟨ko_field 12 129 ⟨br, some ⟨gr, or, none⟩, cr⟩ (by simp) rfl rfl rfl (by kernel_rfl) rfl rfl, ?_⟩
            refine List.forall_mem_cons.2 ⟨ko_load 129 130 ⟨br, some ⟨gr, or, none⟩, cr⟩ (by simp) rfl rfl rfl (by kernel_rfl) rfl rfl, ?_⟩
            refine List.forall_mem_cons.2 ⟨ko_move 15 131 rfl rfl rfl (by kernel_rfl) rfl, ?_⟩
            refine List.forall_mem_cons.2 ⟨ko_field 14 132 ⟨bp, some ⟨gp, op, none⟩, cp⟩ (by simp) rfl rfl rfl (by kernel_rfl) rfl rfl, ?_⟩
            refine List.forall_mem_cons.2 ⟨ko_load 132 133 ⟨bp, some ⟨gp, op, none⟩, cp⟩ (by simp) rfl rfl rfl (by kernel_rfl) rfl rfl, ?_⟩
            refine List.forall_mem_cons.2 ⟨ko_move 15 134 rfl rfl rfl (by kernel_rfl) rfl, ?_⟩
            refine List.forall_mem_cons.2 ⟨ko_index 121 122 135 k gs os cs hlt rfl rfl rfl (by kernel_rfl) (by kernel_rfl) rfl rfl rfl, ?_⟩
            refine List.forall_mem_cons.2 ⟨ko_store 135 k gs os 7 ⟨w3.heap.size, some ⟨gs, os, none⟩, cs⟩ (by simp) rfl hlt rfl rfl rfl (by kernel_rfl) rfl, ?_⟩
            refine List.forall_mem_cons.2 ⟨ko_index 124 125 136 k gd od cd hlt rfl rfl rfl (by kernel_rfl) (by kernel_rfl) rfl rfl rfl, ?_⟩
            refine List.forall_mem_cons.2 ⟨ko_store 136 k gd od 7 ⟨w4.heap.size, some ⟨gd, od, none⟩, cd⟩ (by simp) rfl hlt rfl rfl rfl (by kernel_rfl) rfl, ?_⟩
            refine List.forall_mem_cons.2 ⟨ko_index 127 128 137 k gg og cg hlt rfl rfl rfl (by kernel_rfl) (by kernel_rfl) rfl rfl rfl, ?_⟩
            refine List.forall_mem_cons.2 ⟨ko_store 137 k gg og 7 ⟨w5.heap.size, some ⟨gg, og, none⟩, cg⟩ (by simp) rfl hlt rfl rfl rfl (by kernel_rfl) rfl, ?_⟩
            refine List.forall_mem_cons.2 ⟨ko_index 130 131 138 k gr or cr hlt rfl rfl rfl (by kernel_rfl) (by kernel_rfl) rfl rfl rfl, ?_⟩
            refine List.forall_mem_cons.2 ⟨ko_store 138 k gr or 7 ⟨br, some ⟨gr, or, none⟩, cr⟩ (by simp) rfl hlt rfl rfl rfl (by kernel_rfl) rfl, ?_⟩
            refine List.forall_mem_cons.2 ⟨ko_index 133 134 139 k gp op cp hlt rfl rfl rfl (by kernel_rfl) (by kernel_rfl) rfl rfl rfl, ?_⟩
            refine List.forall_mem_cons.2 ⟨ko_store 139 k gp op 7 ⟨bp, some ⟨gp, op, none⟩, cp⟩ (by simp) rfl hlt rfl rfl rfl (by kernel_rfl) rfl, ?_⟩
            exact fun _ h => absurd h List.not_mem_nil
          intro w14 hJ14
          have kvx := (vx0.below hJ14.1).cell
          simp only [lay, List.foldl_cons, List.foldl_nil, List.setIfInBounds_toArray, List.set_cons_succ, List.set_cons_zero]
          go_wp2_with fail
          go_roundw
          case rel => exact ⟨k + 1, Hk.out, by go_num, hJ14⟩
          case measure => have := Hk.out; simp [intOf]; omega
        · have hb := up hb0 hJ.1
          have vy := vy0.below hJ.1
          have vX := vX0.below hJ.1
          have vY := vY0.below hJ.1
          have kvy := vy.cell
          have kvX := vX.cell
          have kvY := vY.cell
          go_wp2_with fail
          clear kvx kvy kvX kvY
          refine (same_n vx.num vX.num true (decide_eq_true rfl)).mono ?_
          rintro e w20 ⟨rfl, hs⟩
          have vx := vx.below hs
          have vy := vy.below hs
          have vX := vX.below hs
          have vY := vY.below hs
          have hb := up hb hs
          clear hs
          have kvx := vx.cell
          have kvy := vy.cell
          have kvX := vX.cell
          have kvY := vY.cell
          go_wp2_with fail
          clear kvx kvy kvX kvY
          refine (same_n vy.num vY.num true (decide_eq_true rfl)).mono ?_
          rintro e w21 ⟨rfl, hs⟩
          have hb := up hb hs
          clear hs
          go_wp2_with fail
          refine (awake_any _).mono ?_
          rintro e wa ⟨rfl, hsa⟩
          go_wp2_with fail
          exact bodyPost_ret (v := .bool true) (by first | rfl | kernel_rfl) rfl ⟨rfl, up hb hsa⟩
end Go.Proofs.YtaiceebhifecbaaDoor

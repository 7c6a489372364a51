/-
  What valid schemas of few parts keep: mathematics. No conditions beyond those that each names.
-/
import Derived.Test.YthfodpbecddheaaGreatDoorQM16
import Derived.Test.YthfodpbecddheaaGreatDoorQM13
import Derived.Test.YthfodpbecddheaaGreatDoorQM08
namespace Go.Proofs.YthfodpbecddheaaGreatDoor
theorem fewT_nok : ∀ (t : Ty), fewT t = true → nok t
  | .mk k s n e, h => by
    rw [fewT] at h
    simp only [Bool.and_eq_true, decide_eq_true_eq] at h
    rw [nok]
    exact ⟨by omega, go e h.2.2.2⟩
where go : ∀ (e : List Ty), fewT.fews e = true → nok.noks e
  | [], _ => by rw [nok.noks]; trivial
  | t :: ts, h => by
    rw [fewT.fews, Bool.and_eq_true] at h
    rw [nok.noks]
    exact ⟨fewT_nok t h.1, go ts h.2⟩
theorem fewT_lok : ∀ (t : Ty), fewT t = true → lok t
  | .mk k s n e, h => by
    rw [fewT] at h
    simp only [Bool.and_eq_true, decide_eq_true_eq] at h
    rw [lok]
    exact ⟨by omega, go e h.2.2.2⟩
where go : ∀ (e : List Ty), fewT.fews e = true → lok.loks e
  | [], _ => by rw [lok.loks]; trivial
  | t :: ts, h => by
    rw [fewT.fews, Bool.and_eq_true] at h
    rw [lok.loks]
    exact ⟨fewT_lok t h.1, go ts h.2⟩
theorem lst_le : ∀ (t : Ty), lst t ≤ dpt t
  | .mk k s n e => by
    rw [dpt]
    by_cases h5 : k = 5
    · subst h5
      match e with
      | [] => rw [lst]; simp
      | t :: ts =>
        rw [lst_list, dpt.dpts]
        have := lst_le t
        omega
    · rw [lst_not _ _ _ h5]
      omega
theorem fewT_lst {t : Ty} (h : fewT t = true) : lst t ≤ 8 := by
  rw [fewT_eq] at h
  simp only [Bool.and_eq_true, decide_eq_true_eq] at h
  have := lst_le t
  omega
/-- The bounds of a schema of few parts. -/
structure FewB (S : Sch) : Prop where
  ne : S.enums.length ≤ 18
  ns : S.structs.length ≤ 18
  en : ∀ x ∈ S.enums, x.name.length ≤ 40 ∧ x.names.length ≤ 18 ∧ x.nums.length ≤ 18 ∧ ∀ y ∈ x.names, y.length ≤ 40
  st : ∀ t ∈ S.structs, t.name.length ≤ 40 ∧ t.fields.length ≤ 18 ∧ ∀ f ∈ t.fields, f.name.length ≤ 40 ∧ nok f.type ∧ lok f.type ∧ lst f.type ≤ 8
theorem few_B {S : Sch} (h : few S = true) : FewB S := by
  unfold few at h
  simp only [Bool.and_eq_true, decide_eq_true_eq, List.all_eq_true] at h
  obtain ⟨h1, h2, h3, h4⟩ := h
  refine ⟨h1, h2, fun x hx => ?_, fun t ht => ?_⟩
  · have := h3 x hx
    unfold fewE shortN at this
    simp only [Bool.and_eq_true, decide_eq_true_eq, List.all_eq_true] at this
    exact this
  · have := h4 t ht
    unfold fewS shortN at this
    simp only [Bool.and_eq_true, decide_eq_true_eq, List.all_eq_true] at this
    refine ⟨this.1, this.2.1, fun f hf => ?_⟩
    have hf := this.2.2 f hf
    unfold fewF shortN at hf
    simp only [Bool.and_eq_true, decide_eq_true_eq] at hf
    exact ⟨hf.1, fewT_nok _ hf.2, fewT_lok _ hf.2, fewT_lst hf.2⟩
theorem nodup_take {α : Type} {l : List α} (h : ∀ i (hi : i < l.length), l[i]'hi ∉ l.take i) : l.Nodup := by
  rw [List.nodup_iff_pairwise_ne, List.pairwise_iff_getElem]
  intro i j hi hj hij e
  refine h j hj ?_
  rw [← e, List.mem_take_iff_getElem]
  exact ⟨i, by omega, rfl⟩
theorem stE_at {S : Sch} {i : Nat} (hi : i < S.structs.length) : stE S i = stErr S (ens S ++ (sns S).take i) (S.structs[i]'hi) := by unfold stE; rw [getD_of hi]
theorem enE_at {S : Sch} {i : Nat} (hi : i < S.enums.length) : enE S i = enErr ((ens S).take i) (S.enums[i]'hi) := by unfold enE; rw [getD_of hi]
theorem stErr_ok {S : Sch} {pre : List (List UInt8)} {t : St} (h : stErr S pre t = 0) : isTn t.name = true ∧ t.name ∉ pre ∧ ∀ k, k < t.fields.length → fdErr S t k = 0 := by
  unfold stErr at h
  by_cases h1 : isTn t.name = false
  · rw [if_pos h1] at h; cases h
  · rw [if_neg h1] at h
    by_cases h2 : pre.contains t.name = true
    · rw [if_pos h2] at h; cases h
    · rw [if_neg h2] at h
      exact ⟨by simpa using h1, fun hm => h2 (List.contains_iff_mem.2 hm), fe_iff.1 h⟩
theorem enErr_ok {pre : List (List UInt8)} {x : En} (h : enErr pre x = 0) : isTn x.name = true ∧ x.name ∉ pre ∧ x.names.length ≠ 0 ∧ x.nums.length = x.names.length ∧ ∀ k, k < x.names.length → nmErr x k = 0 := by
  unfold enErr at h
  by_cases h1 : isTn x.name = false
  · rw [if_pos h1] at h; cases h
  · rw [if_neg h1] at h
    by_cases h2 : pre.contains x.name = true
    · rw [if_pos h2] at h; cases h
    · rw [if_neg h2] at h
      by_cases h3 : x.names.length = 0 ∨ x.nums.length ≠ x.names.length
      · rw [if_pos h3] at h; cases h
      · rw [if_neg h3] at h
        exact ⟨by simpa using h1, fun hm => h2 (List.contains_iff_mem.2 hm), by omega, by omega, fe_iff.1 h⟩
theorem fdErr_ok {S : Sch} {t : St} {k : Nat} (hk : k < t.fields.length) (h : fdErr S t k = 0) : 1 ≤ (t.fields[k]'hk).num ∧ (t.fields[k]'hk).num ≤ 127 ∧ isN (t.fields[k]'hk).name = true ∧ right S (t.fields[k]'hk).type = true := by
  rcases fdErr_cases S t k with ⟨-, e⟩ | ⟨-, -, -, e⟩ | ⟨-, -, -, -, e⟩ | ⟨-, -, -, -, -, e⟩ | ⟨-, -, -, -, -, -, e⟩ | ⟨a, b, -, d, -, f, -⟩
  · rw [h] at e; cases e
  · rw [h] at e; cases e
  · rw [h] at e; cases e
  · rw [h] at e; cases e
  · rw [h] at e; cases e
  · rw [getD_of hk] at a b d f
    exact ⟨a, b, d, f⟩
theorem Parts.nd {S : Sch} (hP : Parts S) : (sns S).Nodup := nodup_take fun i hi hm => by
  have hi2 : i < S.structs.length := by simpa [sns] using hi
  have h := hP.st i hi2
  rw [stE_at hi2] at h
  exact (stErr_ok h).2.1 (List.mem_append_right _ (by simpa [sns] using hm))
theorem Parts.st_ {S : Sch} (hP : Parts S) {t : St} (ht : t ∈ S.structs) : isTn t.name = true ∧ t.name ∉ ens S ∧ ∀ f ∈ t.fields, right S f.type = true := by
  obtain ⟨i, hi, rfl⟩ := List.mem_iff_getElem.1 ht
  have h := hP.st i hi
  rw [stE_at hi] at h
  obtain ⟨h1, h2, h3⟩ := stErr_ok h
  refine ⟨h1, fun hm => h2 (List.mem_append_left _ hm), fun f hf => ?_⟩
  obtain ⟨k, hk, rfl⟩ := List.mem_iff_getElem.1 hf
  exact (fdErr_ok hk (h3 k hk)).2.2.2
theorem Parts.en_ {S : Sch} (hP : Parts S) {x : En} (hx : x ∈ S.enums) : isTn x.name = true := by
  obtain ⟨i, hi, rfl⟩ := List.mem_iff_getElem.1 hx
  have h := hP.en i hi
  rw [enE_at hi] at h
  exact (enErr_ok h).1
theorem Parts.okk {S : Sch} (hP : Parts S) (hB : FewB S) : Okk S where
  rt := fun t ht f hf => (hP.st_ ht).2.2 f hf
  nd := hP.nd
  ne := fun x hx => by
    have h : isTn x = true := by
      rcases hx with h | h
      · obtain ⟨t, ht, rfl⟩ := List.mem_map.1 h; exact (hP.st_ ht).1
      · obtain ⟨t, ht, rfl⟩ := List.mem_map.1 h; exact hP.en_ ht
    exact ⟨isN_ne (isTn_isN h), by have := isN_lenS (isTn_isN h); omega⟩
  dj := fun x hs he => by
    obtain ⟨t, ht, rfl⟩ := List.mem_map.1 hs
    exact (hP.st_ ht).2.1 he
  ls := fun t ht f hf => by have := ((hB.st t ht).2.2 f hf).2.2.2; omega
  fw := fun t ht => (hB.st t ht).2.1
  nn := by have := hB.ne; have := hB.ns; omega
theorem td_near (S : Sch) {d d' : List UInt8 → Nat} : ∀ (t : Ty), (∀ y ∈ dir t, y ∈ sns S → d y = d' y) → td S d t = td S d' t
  | .mk k s n e, h => by
    by_cases h5 : k = 5
    · subst h5
      match e with
      | [] => simp [td]
      | t :: ts =>
        rw [td, if_pos rfl, td, if_pos rfl, td_near S t fun y hy => h y (by rw [dir_neg _ _ _ (by decide), dir.dirs]; exact List.mem_append_left _ hy)]
    · by_cases h6 : k = 6
      · have hh : n ∈ sns S → d n = d' n := h n (by rw [dir_pos _ _ _ (.inl h6)]; simp)
        cases e <;> simp only [td, if_neg h5, if_pos h6] <;> split <;> first | exact hh (by assumption) | rfl
      · cases e <;> simp only [td, if_neg h5, if_neg h6]
theorem td_le (S : Sch) {d : List UInt8 → Nat} {B : Nat} (hd : ∀ y, d y ≤ B) : ∀ (t : Ty), td S d t ≤ lst t + B
  | .mk k s n e => by
    by_cases h5 : k = 5
    · subst h5
      match e with
      | [] => rw [td, if_pos rfl]; exact Nat.zero_le _
      | t :: ts =>
        rw [td, if_pos rfl, lst_list]
        have := td_le S hd t
        show 1 + td S d t ≤ _
        omega
    · rw [lst_not _ _ _ h5]
      by_cases h6 : k = 6
      · cases e <;> simp only [td, if_neg h5, if_pos h6] <;> split <;> first | (have := hd n; omega) | omega
      · cases e <;> simp only [td, if_neg h5, if_neg h6] <;> omega
theorem fst_st {S : Sch} (x : List UInt8) : ((fst_ St.name S.structs x).getD st0) = st0 ∨ ((fst_ St.name S.structs x).getD st0) ∈ S.structs ∧ ((fst_ St.name S.structs x).getD st0).name = x := by
  cases h : fst_ St.name S.structs x with
  | none => exact .inl rfl
  | some t => exact .inr (fst_mem h)
theorem dF_le {S : Sch} (hB : FewB S) {d : List UInt8 → Nat} {B : Nat} (hd : ∀ y, d y ≤ B) (x : List UInt8) : dF S d x ≤ 9 + B := by
  unfold dF
  rcases fst_st (S := S) x with h | ⟨h, -⟩
  · rw [h]; show 1 + 0 ≤ _; omega
  · generalize (fst_ St.name S.structs x).getD st0 = t at *
    unfold fdep
    have : ((t.fields.map fun f => td S d f.type).foldl max 0) ≤ 8 + B := (foldl_max_le _ _ _).2 ⟨by omega, fun z hz => by
      obtain ⟨f, hf, rfl⟩ := List.mem_map.1 hz
      have := td_le S hd f.type
      have := ((hB.st t h).2.2 f hf).2.2.2
      omega⟩
    omega
theorem gd_le {S : Sch} (hB : FewB S) : ∀ (n : Nat) (x : List UInt8), gd (dF S) n x ≤ 9 * n
  | 0, _ => Nat.le_refl _
  | n + 1, x => by
    have := dF_le hB (gd_le hB n) x
    show dF S (gd (dF S) n) x ≤ _
    omega
/-- The structs that a struct refers to. -/
def nxS (S : Sch) (x : List UInt8) : List (List UInt8) := (nx S x).filter fun y => (sns S).contains y
theorem mem_nxS {S : Sch} {x y : List UInt8} : y ∈ nxS S x ↔ y ∈ nx S x ∧ y ∈ sns S := by unfold nxS; rw [List.mem_filter, List.contains_iff_mem]
theorem dF_near (S : Sch) : Near (nxS S) (dF S) := fun d d' x h => by
  unfold dF fdep
  congr 2
  refine List.map_congr_left fun f hf => td_near S f.type fun y hy hs => h y (mem_nxS.2 ⟨?_, hs⟩)
  unfold nx nxs
  exact List.mem_flatMap.2 ⟨f, hf, hy⟩
open Classical in
/-- How many structs a name leads to. -/
noncomputable def rkS (S : Sch) (x : List UInt8) : Nat := ((sns S).filter fun y => decide (Reach (nx S) x y)).length
theorem no_loop {S : Sch} (hc : ¬ cyc S) (x : List UInt8) : ¬ Reach (nx S) x x := fun h => by
  rcases fst_st (S := S) x with e | ⟨h1, h2⟩
  · have : nx S x = [] := by unfold nx; rw [e]; rfl
    rcases Reach.first h with h | ⟨z, hz, -⟩
    · rw [this] at h; cases h
    · rw [this] at hz; cases hz
  · exact hc ⟨_, h1, by rw [h2]; exact h⟩
theorem rkS_down {S : Sch} (hn : (sns S).Nodup) (hc : ¬ cyc S) : Down (nxS S) (rkS S) := fun x y hy => by
  obtain ⟨h1, h2⟩ := mem_nxS.1 hy
  have := nodup_le (y :: (sns S).filter fun z => @decide (Reach (nx S) y z) (Classical.propDecidable _)) ((sns S).filter fun z => @decide (Reach (nx S) x z) (Classical.propDecidable _))
    (List.nodup_cons.2 ⟨fun h => no_loop hc y (by simpa using (List.mem_filter.1 h).2), hn.filter _⟩) fun z hz => by
      rw [List.mem_filter]
      rcases List.mem_cons.1 hz with rfl | hz
      · exact ⟨h2, by simpa using Reach.one h1⟩
      · obtain ⟨h3, h4⟩ := List.mem_filter.1 hz
        exact ⟨h3, by simpa using (Reach.one h1).trans (by simpa using h4)⟩
  simp only [List.length_cons] at this
  exact this
theorem rkS_lt (S : Sch) (x : List UInt8) : rkS S x < S.structs.length + 1 := by
  have := List.length_filter_le (fun y => @decide (Reach (nx S) x y) (Classical.propDecidable _)) (sns S)
  unfold rkS
  unfold sns at this ⊢
  simp only [List.length_map] at this
  omega
theorem dpt_of {S : Sch} (hn : (sns S).Nodup) (hB : FewB S) (hc : ¬ cyc S) : Dpt S (rkS S) where
  dn := fun x y hy hs => rkS_down hn hc x y (mem_nxS.2 ⟨hy, hs⟩)
  fx := fun x => gd_fix (rkS_down hn hc) (dF_near S) (rkS_lt S) x
  bd := fun x => by
    have := gd_le hB (S.structs.length + 1) x
    have := hB.ns
    unfold dep
    omega
end Go.Proofs.YthfodpbecddheaaGreatDoor
/-
  The developers' Check. No conditions beyond those that each names, and what the library's variables hold.
-/
namespace Go.Proofs.YthfodpbecddheaaGreatDoor
open Go.RowKit Go.Maps Go.Sort Go.Shelf
theorem chk_ver {S : Sch} (h : S.ver < 1 ∨ 999 < S.ver) : chk S = 4 := by unfold chk; rw [if_pos h]
theorem chk_long {S : Sch} (h : ¬ (S.ver < 1 ∨ 999 < S.ver)) (h2 : longS S) : chk S = 3 := by unfold chk; rw [if_neg h, if_pos h2]
theorem chk_en {S : Sch} (h : ¬ (S.ver < 1 ∨ 999 < S.ver)) (h2 : ¬ longS S) {k e : Nat} (hk : k < S.enums.length) (h3 : ∀ j, j < k → enE S j = 0) (he : enE S k = e) (h0 : e ≠ 0) : chk S = e := by
  have := fe_at hk h3 he h0
  unfold chk
  rw [if_neg h, if_neg h2, this, if_pos h0]
theorem chk_st {S : Sch} (h : ¬ (S.ver < 1 ∨ 999 < S.ver)) (h2 : ¬ longS S) (h4 : ∀ j, j < S.enums.length → enE S j = 0) {k e : Nat} (hk : k < S.structs.length) (h3 : ∀ j, j < k → stE S j = 0) (he : stE S k = e) (h0 : e ≠ 0) : chk S = e := by
  have := fe_at hk h3 he h0
  have h5 := fe_zero h4
  unfold chk
  rw [if_neg h, if_neg h2, h5, if_neg (fun h => h rfl), this, if_pos h0]
theorem chk_ns {S : Sch} (h : ¬ (S.ver < 1 ∨ 999 < S.ver)) (h2 : ¬ longS S) (hP : Parts S) : chk S = nsR S := by
  have h4 := fe_zero hP.en
  have h5 := fe_zero hP.st
  unfold chk nsR
  rw [if_neg h, if_neg h2, h4, if_neg (fun h => h rfl), h5, if_neg (fun h => h rfl)]
theorem take_map {α β : Type} {l : List α} (f : α → β) {k : Nat} (hk : k < l.length) : (l.map f).take (k + 1) = (l.map f).take k ++ [f (l[k]'hk)] := by
  rw [List.take_succ_eq_append_getElem (by simpa using hk)]
  simp
set_option maxRecDepth 100000 in
set_option maxHeartbeats 8000000 in
theorem check_any (S : Sch) (hB : FewB S) (v : Value) (w : World) (hv : ScV w S v) (hE : Env w) :
    Calls Tryz.prog 31 #[v] w (Ib (.int .i64 (chk S : Int)) w) := by
  have hmm := @run_makeMap Tryz.prog
  obtain ⟨A, c, A2, c2, rfl, hS⟩ := hv
  obtain ⟨n, hn⟩ : ∃ n, S.enums.length = n := ⟨_, rfl⟩
  obtain ⟨m, hm⟩ : ∃ m, S.structs.length = m := ⟨_, rfl⟩
  have HN := Lib.hid hn
  have HM := Lib.hid hm
  have hn18 := hB.ne
  have hm18 := hB.ns
  rw [hn] at hn18
  rw [hm] at hm18
  obtain ⟨r, hr⟩ := exB (longS S)
  have hv1 : ScV (w.alloc (Obj.cells #[.int .i64 S.ver, .slice A n c, .slice A2 m c2] 25)) S (.agg #[.int .i64 S.ver, .slice A n c, .slice A2 m c2]) := ⟨A, c, A2, c2, by rw [hn, hm], hS.next (ab1 _ _)⟩
  have cL := isLong_any S (.agg #[.int .i64 S.ver, .slice A n c, .slice A2 m c2]) _ r hr (by omega) (by omega) hv1
  rw [hn, hm]
  have B1 := Bx.new3 w 25 (.int .i64 S.ver) (.slice A n c) (.slice A2 m c2)
  have hab := ab1 w (Obj.cells #[.int .i64 S.ver, .slice A n c, .slice A2 m c2] 25)
  by_cases h1 : S.ver < 1
  · have hc := chk_ver (.inl h1)
    have hc2 : (4 : Int) = (chk S : Int) := by rw [hc]; rfl
    clear cL hr hc hS
    go_enter Tryz.func31, Tryz.ntmps31
    go_wp2_with fail
    go_ret
    exact ⟨by rw [← hc2]; rfl, hab⟩
  by_cases h2 : 999 < S.ver
  · have hc := chk_ver (.inr h2)
    have hc2 : (4 : Int) = (chk S : Int) := by rw [hc]; rfl
    clear cL hr hc hS
    go_enter Tryz.func31, Tryz.ntmps31
    go_wp2_with fail
    go_ret
    exact ⟨by rw [← hc2]; rfl, hab⟩
  have h12 : ¬ (S.ver < 1 ∨ 999 < S.ver) := by omega
  go_enter Tryz.func31, Tryz.ntmps31
  go_wp2_with fail
  refine cL.mono ?_
  rintro e w1 ⟨rfl, hb1⟩
  have hab1 := Below.next hab hb1
  have B1 := B1.next hb1
  have l0 := B1.lt
  cases r
  case true =>
    have hc := chk_long h12 (hr.1 rfl)
    have hc2 : (3 : Int) = (chk S : Int) := by rw [hc]; rfl
    clear cL hr hc hS
    go_wp2_with fail
    go_ret
    exact ⟨by rw [← hc2]; rfl, hab1⟩
  have hnl : ¬ longS S := fun h => by have := hr.2 h; cases this
  have hS1 := hS.next hab1
  have hv2 : ScV w1 S (.agg #[.int .i64 S.ver, .slice A n c, .slice A2 m c2]) := ⟨A, c, A2, c2, by rw [hn, hm], hS1⟩
  have cDf := define_any S (.agg #[.int .i64 S.ver, .slice A n c, .slice A2 m c2]) w1 hv2 (by omega) (by omega) (fun t ht => (hB.st t ht).1) (fun t ht => (hB.en t ht).1)
  have c0 := B1.c 0 rfl
  have c1 := B1.c 1 rfl
  have c2_ := B1.c 2 rfl
  clear cL hv1 hv2 hS hab hr hn hm
  go_wp2_with fail
  refine cDf.mono ?_
  rintro e w2 ⟨b1, b2, rfl, hD, hb2⟩
  have hab2 := Below.next hab1 hb2
  have hS2 := hS1.next hb2
  have hE2 := hE.next hab2
  have B2 := B1.next hb2
  have l2 := B2.lt
  have g1 := B2.c 1 rfl
  have hSe := hS2.en
  have hSs := hS2.st
  have z1 : (w2.alloc (Obj.map #[] 0)).heap.size = w2.heap.size + 1 := by simp
  have M0 := (Ms.made w2).next (ab1 (w2.alloc (Obj.map #[] 0)) (Obj.cells #[.map (some b1), .map (some b2)] 111))
  have C0 := Bx.new2 (w2.alloc (Obj.map #[] 0)) 111 (.map (some b1)) (.map (some b2))
  have B3 := B2.next (ab2 w2 (Obj.map #[] 0) (Obj.cells #[.map (some b1), .map (some b2)] 111))
  have hb3 := ab2 w2 (Obj.map #[] 0) (Obj.cells #[.map (some b1), .map (some b2)] 111)
  rw [z1] at C0
  have HZ : Hid (∀ j, j < 0 → enE S j = 0) := Lib.hid fun _ h => by omega
  clear cDf z1 c0 c1 c2_ l0 B1 hS1 hab1 hb2
  go_wp2_with fail
  clear B2 g1
  go_loopw [27] (fun i wr => ∃ k : Nat, k ≤ n ∧ i = .int .i64 (k : Int) ∧ Hid (∀ j, j < k → enE S j = 0) ∧ Ms wr w2.heap.size k ((ens S).take k) ∧ Bx wr w.heap.size [.int .i64 S.ver, .slice A n c, .slice A2 m c2] ∧ Bx wr (w2.heap.size + 1) [.map (some b1), .map (some b2)] ∧ Below w2.heap.size w2 wr) (fun i _ => n - (intOf i).toNat)
  case atStart => exact ⟨0, by omega, rfl, HZ, M0, B3, C0, hb3⟩
  case round =>
    clear M0 C0 B3 hb3 HZ
    obtain ⟨k, hk, rfl, HZ, hM, R1, R2, hb⟩ := hrel
    have s1 := R1.c 1 rfl
    have l1 := R1.lt
    have l3 := R2.lt
    have hlM := hM.lt
    by_cases hlt : k < n
    · obtain ⟨a, rfl, hA⟩ := hSe.get (i := k) (by rw [HN.out]; exact hlt)
      have hkm : k < S.enums.length := by rw [HN.out]; exact hlt
      obtain ⟨A3, c3, A4, c4, e0, e1, e2, hV⟩ := hA.val
      replace e0 := cell_next hb e0
      replace e1 := cell_next hb e1
      replace e2 := cell_next hb e2
      have hblk : (a.add (k * 3)).block < wr.heap.size := blk_lt e0
      have hT : (ens S).take (k + 1) = (ens S).take k ++ [(S.enums[k]'hkm).name] := take_map En.name hkm
      obtain ⟨q1, q2, q3, q4⟩ := hB.en _ (List.getElem_mem hkm)
      have hee := enE_at hkm
      generalize S.enums[k]'hkm = x at *
      have hbx := Below.next hb (ab1 wr (Obj.cells #[.string (bs x.name), .slice A3 x.names.length c3, .slice A4 x.nums.length c4] 75))
      have hMx := hM.next (ab1 wr (Obj.cells #[.string (bs x.name), .slice A3 x.names.length c3, .slice A4 x.nums.length c4] 75))
      have Rx1 := R1.next (ab1 wr (Obj.cells #[.string (bs x.name), .slice A3 x.names.length c3, .slice A4 x.nums.length c4] 75))
      have Rx2 := R2.next (ab1 wr (Obj.cells #[.string (bs x.name), .slice A3 x.names.length c3, .slice A4 x.nums.length c4] 75))
      have cC := checkEnum_any w2 x _ w2.heap.size k ((ens S).take k) _ hV hbx (Nat.le_refl _) hMx hE2 (by omega) q1 q2 q4
      rw [← hee] at cC
      obtain ⟨r, hr⟩ : ∃ r, enE S k = r := ⟨_, rfl⟩
      rw [hr] at cC
      have HT := Lib.hid hT
      have HR := Lib.hid hr
      clear hr hT hee hA q1 q2 q3 q4
      go_wp2_with fail
      refine cC.mono ?_
      rintro e w4 ⟨rfl, hg4, hM4⟩
      have R14 := Rx1.kept hg4 (by omega)
      have R24 := Rx2.kept hg4 (by omega)
      have hb4 := hbx.grown hg4 hbx.size (fun j hj => by cases hj; exact Nat.le_refl _)
      clear cC Rx1 Rx2 hMx hbx R1 R2 hM hb s1 l1 l3 hlM e0 e1 e2 hblk
      by_cases h0 : r = 0
      · subst h0
        have hM5 := hM4 rfl
        rw [← HT.out] at hM5
        have HZ2 := Lib.hid (before_succ HZ.out HR.out)
        clear hM4 HZ
        go_wp2_with fail
        go_roundw
        case rel => exact ⟨k + 1, by omega, by go_num, HZ2, hM5, R14, R24, hb4⟩
        case measure => simp [intOf]; omega
      · have hc := chk_en h12 hnl (by rw [HN.out]; exact hlt) HZ.out HR.out h0
        have d1 : ((r : Int) != 0) = true := by simp; omega
        have d2 : ((r : Int) == 0) = false := by simp; omega
        have HC := Lib.hid hc
        have hab5 := Below.next hab2 hb4
        clear hM4 HZ hc
        go_wp2_with fail
        go_ret
        exact ⟨by rw [HC.out]; rfl, hab5⟩
    · obtain rfl : k = n := by omega
      have HEN := Lib.hid (show ∀ j, j < S.enums.length → enE S j = 0 by rw [HN.out]; exact HZ.out)
      have hM2 : Ms wr w2.heap.size (k + 0) (ens S ++ (sns S).take 0) := by
        have : (ens S).take k = ens S := List.take_of_length_le (by unfold ens; rw [List.length_map, HN.out]; exact Nat.le_refl _)
        rw [this] at hM
        simpa using hM
      have HZ3 : Hid (∀ j, j < 0 → stE S j = 0) := Lib.hid fun _ h => by omega
      have s2 := R1.c 2 rfl
      clear HZ hM
      go_wp2_with fail
      clear s1 s2 l1 l3 hlM hSe
      rename World => wo
      go_loopw [41] (fun i wr => ∃ y : Nat, y ≤ m ∧ i = .int .i64 (y : Int) ∧ Hid (∀ j, j < y → stE S j = 0) ∧ Ms wr w2.heap.size (k + y) (ens S ++ (sns S).take y) ∧ Bx wr w.heap.size [.int .i64 S.ver, .slice A k c, .slice A2 m c2] ∧ Bx wr (w2.heap.size + 1) [.map (some b1), .map (some b2)] ∧ Below w2.heap.size w2 wr) (fun i _ => m - (intOf i).toNat)
      case atStart => exact ⟨0, by omega, rfl, HZ3, hM2, R1, R2, hb⟩
      case round =>
        clear HZ3 hM2 R1 R2 hb
        obtain ⟨y, hy, rfl, HZ, hM, R1, R2, hb⟩ := hrel
        have s0 := R1.c 0 rfl
        have s1 := R1.c 1 rfl
        have s2 := R1.c 2 rfl
        have l1 := R1.lt
        have l3 := R2.lt
        have hlM := hM.lt
        have p0 := R2.c 0 rfl
        have p1 := R2.c 1 rfl
        by_cases hlt : y < m
        · obtain ⟨a, rfl, hA⟩ := hSs.get (i := y) (by rw [HM.out]; exact hlt)
          have hkm : y < S.structs.length := by rw [HM.out]; exact hlt
          obtain ⟨A3, c3, e0, e1, hV⟩ := hA.val
          replace e0 := cell_next hb e0
          replace e1 := cell_next hb e1
          have hblk : (a.add (y * 2)).block < wr.heap.size := blk_lt e0
          have hT : ens S ++ (sns S).take (y + 1) = (ens S ++ (sns S).take y) ++ [(S.structs[y]'hkm).name] := by unfold sns; rw [take_map St.name hkm, List.append_assoc]
          obtain ⟨q1, q2, q3⟩ := hB.st _ (List.getElem_mem hkm)
          have hee := stE_at hkm
          generalize S.structs[y]'hkm = t at *
          have hbx := Below.next hb (ab1 wr (Obj.cells #[.string (bs t.name), .slice A3 t.fields.length c3] 53))
          have hMx := hM.next (ab1 wr (Obj.cells #[.string (bs t.name), .slice A3 t.fields.length c3] 53))
          have Rx1 := R1.next (ab1 wr (Obj.cells #[.string (bs t.name), .slice A3 t.fields.length c3] 53))
          have Rx2 := R2.next (ab1 wr (Obj.cells #[.string (bs t.name), .slice A3 t.fields.length c3] 53))
          have cC := checkStruct_any w2 S t _ w2.heap.size (k + y) b1 b2 (ens S ++ (sns S).take y) _ hV hD hbx (Nat.le_refl _) hMx hE2 (by omega) q1 q2 (fun f hf => ⟨(q3 f hf).1, (q3 f hf).2.1, (q3 f hf).2.2.1⟩)
          rw [← hee] at cC
          obtain ⟨r, hr⟩ : ∃ r, stE S y = r := ⟨_, rfl⟩
          rw [hr] at cC
          have HT := Lib.hid hT
          have HR := Lib.hid hr
          clear hr hT hee hA q1 q2 q3
          go_wp2_with fail
          refine cC.mono ?_
          rintro e w4 ⟨rfl, hg4, hM4⟩
          have R14 := Rx1.kept hg4 (by omega)
          have R24 := Rx2.kept hg4 (by omega)
          have hb4 := hbx.grown hg4 hbx.size (fun j hj => by cases hj; exact Nat.le_refl _)
          clear cC Rx1 Rx2 hMx hbx R1 R2 hM hb s0 s1 s2 l1 l3 hlM e0 e1 hblk p0 p1
          by_cases h0 : r = 0
          · subst h0
            have hM5 := hM4 rfl
            rw [← HT.out] at hM5
            have HZ2 := Lib.hid (before_succ HZ.out HR.out)
            clear hM4 HZ
            go_wp2_with fail
            go_roundw
            case rel => exact ⟨y + 1, by omega, by go_num, HZ2, hM5, R14, R24, hb4⟩
            case measure => simp [intOf]; omega
          · have hc := chk_st h12 hnl HEN.out (by rw [HM.out]; exact hlt) HZ.out HR.out h0
            have d1 : ((r : Int) != 0) = true := by simp; omega
            have d2 : ((r : Int) == 0) = false := by simp; omega
            have HC := Lib.hid hc
            have hab5 := Below.next hab2 hb4
            clear hM4 HZ hc
            go_wp2_with fail
            go_ret
            exact ⟨by rw [HC.out]; rfl, hab5⟩
        · obtain rfl : y = m := by omega
          have hP : Parts S := ⟨HEN.out, by rw [HM.out]; exact HZ.out⟩
          have HC := Lib.hid (chk_ns h12 hnl hP)
          have cN := checkNesting_any S (hP.okk hB) (fun h => ⟨_, dpt_of hP.nd hB h⟩) b1 b2 (.agg #[.int .i64 S.ver, .slice A k c, .slice A2 y c2]) wr ⟨A, c, A2, c2, by rw [HN.out, HM.out], hS2.next hb⟩ (hD.next hb)
          have hab5 := Below.next hab2 hb
          clear HZ hM
          go_wp2_with fail
          refine cN.mono ?_
          rintro e w5 ⟨rfl, hb5⟩
          go_wp2_with fail
          go_ret
          exact ⟨by rw [HC.out]; rfl, Below.next hab5 hb5⟩
end Go.Proofs.YthfodpbecddheaaGreatDoor
/-
  The reference's valid types: lists, and all kinds. No conditions beyond those that each names.
-/
namespace Go.Proofs.YthfodpbecddheaaGreatDoor
open Go.RowKit
theorem rights_lenJ (S : Sch) (e : List Ty) (h : e.length ≠ 1) : rights S e = false := by
  match e, h with
  | [], _ => rw [rights]
  | [_], h => exact absurd rfl h
  | a :: b :: r, _ => rw [rights]; simp
end Go.Proofs.YthfodpbecddheaaGreatDoor
/-
  The reference's valid types: all kinds. No conditions beyond those that each names.
-/
namespace Go.Proofs.YthfodpbecddheaaGreatDoor
open Go.RowKit Go.Sort
end Go.Proofs.YthfodpbecddheaaGreatDoor
/-
  Types in new memory: what hangs on no memory but the call's own. No conditions beyond those that each names.
-/
namespace Go.Proofs.YthfodpbecddheaaGreatDoor
open Go.RowKit Go.Shelf
/-- The elements lie in new memory. -/
def NwR (lo : Nat) (w : World) (l : List Ty) (A : Option Addr) : Prop := ∀ w', Kpl lo w w' → Rw TyA 4 w' l A
theorem NwR.next {lo : Nat} {w w' : World} {l : List Ty} {A : Option Addr} (h : NwR lo w l A) (k : Kpl lo w w') : NwR lo w' l A := fun w2 k2 => h w2 (k.trans k2)
theorem NwR.rw_ {lo : Nat} {w : World} {l : List Ty} {A : Option Addr} (h : NwR lo w l A) : Rw TyA 4 w l A := h w ⟨Nat.le_refl _, fun _ _ _ => rfl⟩
theorem NwR.nil (lo : Nat) (w : World) (A : Option Addr) : NwR lo w [] A := fun _ _ => .inl rfl
theorem NwR.low {lo hi : Nat} {w : World} {l : List Ty} {A : Option Addr} (h : NwR hi w l A) (hl : lo ≤ hi) : NwR lo w l A := fun w2 k2 => h w2 (k2.mono hl)
/-- The cells of element j. -/
structure EL1 (xs : List Value) (j : Nat) (t : Ty) (A : Option Addr) (c : Nat) : Prop where
  e0 : xs[j * 4]? = some (.int .i64 t.kind)
  e1 : xs[j * 4 + 1]? = some (.int .i64 t.size)
  e2 : xs[j * 4 + 2]? = some (.string (bs t.name))
  e3 : xs[j * 4 + 3]? = some (.slice A t.elem.length c)
def EL (P : Nat → Ty → Option Addr → Prop) (l : List Ty) (xs : List Value) : Prop := ∀ j (h : j < l.length), ∃ A c, EL1 xs j (l[j]'h) A c ∧ P j (l[j]'h) A
theorem news_of {w : World} {b off : Nat} {l : List Ty} (h : ∀ i (h : i < l.length), TyA w (l[i]'h) ((⟨b, off, none⟩ : Addr).add (i * 4))) :
    ∃ xs : List Value, xs.length = l.length * 4 ∧ (∀ j u, xs[j]? = some u → w.cell? ⟨b, off + j, none⟩ = some u) ∧ (∀ u ∈ xs, u.oneCell' = true) ∧ EL (fun _ t A => Rw TyA 4 w t.elem A) l xs := by
  have hcell : ∀ q (hq : q < l.length), w.cell? ⟨b, off + q * 4, none⟩ = some (.int .i64 (l[q]'hq).kind) ∧ w.cell? ⟨b, off + (q * 4 + 1), none⟩ = some (.int .i64 (l[q]'hq).size) ∧ w.cell? ⟨b, off + (q * 4 + 2), none⟩ = some (.string (bs (l[q]'hq).name)) ∧ ∃ A c, w.cell? ⟨b, off + (q * 4 + 3), none⟩ = some (.slice A (l[q]'hq).elem.length c) ∧ Rw TyA 4 w (l[q]'hq).elem A := fun q hq => by
    have := (h q hq).cells
    rw [Addr.add_lit] at this
    simp only [nx1, Nat.add_assoc] at this
    exact this
  have hs : ∀ j, j < l.length * 4 → ∃ u, w.cell? ⟨b, off + j, none⟩ = some u ∧ u.oneCell' = true := fun j hj => by
    have hq : j / 4 < l.length := by omega
    obtain ⟨h0, h1, h2, A, c, h3, -⟩ := hcell (j / 4) hq
    have : j = j / 4 * 4 ∨ j = j / 4 * 4 + 1 ∨ j = j / 4 * 4 + 2 ∨ j = j / 4 * 4 + 3 := by omega
    rcases this with e | e | e | e
    · rw [← e] at h0; exact ⟨_, h0, rfl⟩
    · rw [← e] at h1; exact ⟨_, h1, rfl⟩
    · rw [← e] at h2; exact ⟨_, h2, rfl⟩
    · rw [← e] at h3; exact ⟨_, h3, rfl⟩
  have hget : ∀ j, j < l.length * 4 → ((List.range (l.length * 4)).map fun j => (w.cell? ⟨b, off + j, none⟩).getD undef)[j]? = some ((w.cell? ⟨b, off + j, none⟩).getD undef) := fun j hj => by simp [hj]
  refine ⟨(List.range (l.length * 4)).map fun j => (w.cell? ⟨b, off + j, none⟩).getD undef, by simp, fun j u hu => ?_, fun u hu => ?_, fun q hq => ?_⟩
  · have hj : j < l.length * 4 := by
      have := (List.getElem?_eq_some_iff.1 hu).1
      simpa using this
    rw [hget j hj] at hu
    obtain ⟨v, hv, -⟩ := hs j hj
    rw [hv] at hu ⊢
    exact hu
  · obtain ⟨j, hj, rfl⟩ := List.mem_map.1 hu
    obtain ⟨v, hv, h1⟩ := hs j (List.mem_range.1 hj)
    rw [hv]
    exact h1
  · obtain ⟨h0, h1, h2, A, c, h3, h4⟩ := hcell q hq
    refine ⟨A, c, ⟨?_, ?_, ?_, ?_⟩, h4⟩
    · rw [hget _ (by omega), h0]; rfl
    · rw [hget _ (by omega), h1]; rfl
    · rw [hget _ (by omega), h2]; rfl
    · rw [hget _ (by omega), h3]; rfl
/-- Four cells are set anew. -/
def set4 (xs : List Value) (k : Nat) (v0 v1 v2 v3 : Value) : List Value := (((xs.set (k * 4) v0).set (k * 4 + 1) v1).set (k * 4 + 2) v2).set (k * 4 + 3) v3
theorem set4_other {xs : List Value} {k i : Nat} (v0 v1 v2 v3 : Value) (h : ¬ (k * 4 ≤ i ∧ i ≤ k * 4 + 3)) : (set4 xs k v0 v1 v2 v3)[i]? = xs[i]? := by
  unfold set4
  rw [List.getElem?_set_ne (by omega), List.getElem?_set_ne (by omega), List.getElem?_set_ne (by omega), List.getElem?_set_ne (by omega)]
theorem EL1.set_other {xs : List Value} {j k : Nat} {t : Ty} {A : Option Addr} {c : Nat} (h : EL1 xs j t A c) (hne : j ≠ k) (v0 v1 v2 v3 : Value) : EL1 (set4 xs k v0 v1 v2 v3) j t A c :=
  ⟨(set4_other _ _ _ _ (by omega)).trans h.e0, (set4_other _ _ _ _ (by omega)).trans h.e1, (set4_other _ _ _ _ (by omega)).trans h.e2, (set4_other _ _ _ _ (by omega)).trans h.e3⟩
theorem EL1.set_same {xs : List Value} {k n : Nat} (t : Ty) (A : Option Addr) (c : Nat) (hl : xs.length = n * 4) (hk : k < n) : EL1 (set4 xs k (.int .i64 t.kind) (.int .i64 t.size) (.string (bs t.name)) (.slice A t.elem.length c)) k t A c := by
  unfold set4
  refine ⟨?_, ?_, ?_, ?_⟩
  · rw [List.getElem?_set_ne (by omega), List.getElem?_set_ne (by omega), List.getElem?_set_ne (by omega), List.getElem?_set_self (by omega)]
  · rw [List.getElem?_set_ne (by omega), List.getElem?_set_ne (by omega), List.getElem?_set_self (by simp; omega)]
  · rw [List.getElem?_set_ne (by omega), List.getElem?_set_self (by simp; omega)]
  · rw [List.getElem?_set_self (by simp; omega)]
theorem set4_len (xs : List Value) (k : Nat) (v0 v1 v2 v3 : Value) : (set4 xs k v0 v1 v2 v3).length = xs.length := by unfold set4; simp
/-- A row of the call's own whose elements lie in new memory is one. -/
theorem NwR.row {w : World} {lo g n cap : Nat} {e : TypeId} {l : List Ty} {xs : List Value} (hn : l.length = n) (ho : w.ownsRow lo e 4 (.slice (some ⟨g, 0, none⟩) n cap) n xs) (h : EL (fun _ t A => NwR (g + 1) w t.elem A) l xs) : NwR lo w l (some ⟨g, 0, none⟩) := fun w' k => by
  have hg := ho.lt g rfl
  refine .inr ⟨_, rfl, fun i hi => ?_⟩
  obtain ⟨A, c, hE, hP⟩ := h i hi
  have hc : ∀ j u, j < n * 4 → xs[j]? = some u → w'.cell? ⟨g, j, none⟩ = some u := fun j u hj hu => by
    rw [World.cell?_of_block (w := w) (k.blk g hg.1 hg.2), ho.cellAt j hj, hu]
  rw [Addr.add_lit, Nat.zero_add]
  exact TyA.of (hc (i * 4) _ (by omega) hE.e0) (hc (i * 4 + 1) _ (by omega) hE.e1) (hc (i * 4 + 2) _ (by omega) hE.e2) (hc (i * 4 + 3) _ (by omega) hE.e3) (hP w' (k.mono (by omega)))
/-- A type in new memory. -/
def NtP (t : Ty) (w : World) (e : Ending) (w' : World) : Prop := ∃ A c, e = .returned (.agg #[.int .i64 t.kind, .int .i64 t.size, .string (bs t.name), .slice A t.elem.length c]) ∧ NwR w.heap.size w' t.elem A ∧ Below w.heap.size w w'
def EtP (l : List Ty) (w : World) (e : Ending) (w' : World) : Prop := ∃ A c, e = .returned (.slice A l.length c) ∧ NwR w.heap.size w' l A ∧ Below w.heap.size w w'
theorem info104 : (Tryz.prog.info? 29).map (fun i => (i.zero, i.size, i.bytes)) = some (some (.agg #[.int .i64 0, .int .i64 0, .string ⟨#[]⟩, .slice none 0 0]), 4, 56) := by kernel_rfl
/-- A copy of a list of types. -/
def ClT (n : Nat) (xs : List Value) (w : World) (e : Ending) (w' : World) : Prop := ∃ v', e = .returned v' ∧ w'.ownsRow w.heap.size 29 4 v' n xs ∧ Below w.heap.size w w'
set_option maxRecDepth 100000 in
set_option maxHeartbeats 2000000 in
theorem cloneZero_any (A : Option Addr) (c : Nat) (w : World) : Calls Tryz.prog 209 #[.slice A 0 c] w (ClT 0 [] w) := by
  cases A with
  | none => exact (AnyE.slices_Clone_nil Tryz.clone209 0 c w).mono fun e w' ⟨h1, h2⟩ => ⟨_, h1, World.ownsRow_nil _ _ _ _, by rw [h2]; exact Below.refl _ _⟩
  | some a =>
    obtain ⟨i, hi, hz, hs5, hby⟩ := info_parts info104
    have q22 : ∀ (w : World) (a : Option Addr) (n c n' c' : Nat), (binOp .eql 27 (.slice a n c) (.slice none n' c')).run Tryz.prog w = .ok (.bool a.isNone) w := fun w a n c n' c' => Lib.run_eql_slice_nil w _ _ a n c n' c' Tryz.underlying27
    go_enter Tryz.func209, Tryz.ntmps209
    go_wp2_with (at_builtin; refine wpList_append_own _ rfl _ _ 27 rfl w.heap.size 29 i _ 4 56 Tryz.underlying27 hi hz hs5 hby rfl (by decide) _ _ _ rfl (World.ownsRow_made w #[] 0 (Nat.le_refl _) (Nat.zero_le _) rfl) a 0 c [] rfl rfl (by intro j u hj; simp at hj) (by intro u hu; cases hu) (by unfold maxLen; omega) (by omega) (by simp) ?_)
    intro v' w1 hown hgrow hnil
    go_wp2
    go_ret
    exact ⟨v', rfl, by simpa using hown, ((Below.refl _ w).alloc (Nat.le_refl _) _).grown hgrow (by simp) (by intro k hk; simp [Value.ownBlock] at hk; omega)⟩
theorem cloneType_any (l : List Ty) (A : Option Addr) (c : Nat) (w : World) (hl : l.length ≤ 1000000) (hR : Rw TyA 4 w l A) :
    Calls Tryz.prog 209 #[.slice A l.length c] w fun e w' => ∃ xs, EL (fun _ t A => Rw TyA 4 w t.elem A) l xs ∧ xs.length = l.length * 4 ∧ ClT l.length xs w e w' := by
  by_cases h0 : l = []
  · subst h0
    exact (cloneZero_any A c w).mono fun e w' h => ⟨[], fun j h => absurd h (Nat.not_lt_zero _), rfl, h⟩
  · rcases hR with h | ⟨a, rfl, h⟩
    · exact absurd h h0
    · have h1 : 0 < l.length := List.length_pos_iff.2 h0
      have hs : a.spot = none := by
        have := spot_none0 ((h 0 h1).cells.1)
        simpa [Addr.add] using this
      obtain ⟨b, off, s⟩ := a
      have hs : s = none := hs
      subst hs
      obtain ⟨xs, hx1, hx2, hx3, hx4⟩ := news_of h
      obtain ⟨i, hi, hz, hs5, hby⟩ := info_parts info104
      exact (AnyE.slices_Clone Tryz.clone209 i _ 4 56 hi hz hs5 hby rfl (by decide) Tryz.sizeOf29 b off l.length c xs w hx1 (by unfold maxLen; omega) (by omega) hx2 hx3).mono fun e w' ⟨v', e1, e2, _, e4⟩ => ⟨xs, hx4, hx1, v', e1, e2, e4⟩
end Go.Proofs.YthfodpbecddheaaGreatDoor
/-
  The developers' types in new memory: newType, each. No conditions beyond those that each names.
-/
namespace Go.Proofs.YthfodpbecddheaaGreatDoor
open Go.RowKit Go.Shelf
/-- The condition on the elements of a row that is renewed: those before number k lie in new memory. -/
def Rn (w0 : World) (g : Nat) (w : World) (k : Nat) (j : Nat) (t : Ty) (A : Option Addr) : Prop := if j < k then NwR (g + 1) w t.elem A else Rw TyA 4 w0 t.elem A
theorem Rn.next {w0 : World} {g k : Nat} {w w' : World} {l : List Ty} {xs : List Value} (h : EL (Rn w0 g w k) l xs) (hk : Kpl (g + 1) w w') : EL (Rn w0 g w' k) l xs := fun j hj => by
  obtain ⟨A, c, h1, h2⟩ := h j hj
  refine ⟨A, c, h1, ?_⟩
  unfold Rn at h2 ⊢
  split
  · rename_i e; rw [if_pos e] at h2; exact h2.next hk
  · rename_i e; rw [if_neg e] at h2; exact h2
theorem Rn.step {w0 : World} {g k n : Nat} {w : World} {l : List Ty} {xs : List Value} (h : EL (Rn w0 g w k) l xs) (hx : xs.length = n * 4) (hn : l.length = n) (hk : k < l.length) {A : Option Addr} {c : Nat} (hA : NwR (g + 1) w (l[k]'hk).elem A) :
    EL (Rn w0 g w (k + 1)) l (set4 xs k (.int .i64 (l[k]'hk).kind) (.int .i64 (l[k]'hk).size) (.string (bs (l[k]'hk).name)) (.slice A (l[k]'hk).elem.length c)) := fun j hj => by
  by_cases e : j = k
  · subst e
    exact ⟨A, c, EL1.set_same _ _ _ hx (by omega), by unfold Rn; rw [if_pos (Nat.lt_succ_self _)]; exact hA⟩
  · obtain ⟨A', c', h1, h2⟩ := h j hj
    refine ⟨A', c', h1.set_other e _ _ _ _, ?_⟩
    unfold Rn at h2 ⊢
    by_cases e2 : j < k
    · rw [if_pos e2] at h2; rw [if_pos (by omega)]; exact h2
    · rw [if_neg e2] at h2; rw [if_neg (by omega)]; exact h2
theorem stored4 {w : World} {base g n cap : Nat} {e : TypeId} {xs : List Value} (h : w.ownsRow base e 4 (.slice (some ⟨g, 0, none⟩) n cap) n xs) (k : Nat) (v0 v1 v2 v3 : Value) :
    ((((w.setCell ⟨g, k * 4, none⟩ v0).setCell ⟨g, k * 4 + 1, none⟩ v1).setCell ⟨g, k * 4 + 2, none⟩ v2).setCell ⟨g, k * 4 + 3, none⟩ v3).ownsRow base e 4 (.slice (some ⟨g, 0, none⟩) n cap) n (set4 xs k v0 v1 v2 v3) ∧
      w.grownBy ((((w.setCell ⟨g, k * 4, none⟩ v0).setCell ⟨g, k * 4 + 1, none⟩ v1).setCell ⟨g, k * 4 + 2, none⟩ v2).setCell ⟨g, k * 4 + 3, none⟩ v3) (some g) := by
  obtain ⟨h1, g1⟩ := h.stored (k * 4) v0
  obtain ⟨h2, g2⟩ := h1.stored (k * 4 + 1) v1
  obtain ⟨h3, g3⟩ := h2.stored (k * 4 + 2) v2
  obtain ⟨h4, g4⟩ := h3.stored (k * 4 + 3) v3
  exact ⟨h4, ((g1.trans g2).trans g3).trans g4⟩
set_option maxRecDepth 100000 in
set_option maxHeartbeats 4000000 in
theorem eachType_any (l : List Ty) (A : Option Addr) (c : Nat) (w : World) (hl : l.length ≤ 1000000) (hR : Rw TyA 4 w l A)
    (hc : ∀ i (h : i < l.length) v w', TyV w' (l[i]'h) v → Calls Tryz.prog 175 #[v] w' (NtP (l[i]'h) w')) :
    Calls Tryz.prog 198 #[.slice A l.length c, .func (.func 175) #[] #[]] w (EtP l w) := by
  have cC := cloneType_any l A c w hl hR
  unfold EtP
  obtain ⟨n, hn⟩ : ∃ n, l.length = n := ⟨_, rfl⟩
  have HN := Lib.hid hn
  rw [hn] at cC hl ⊢
  clear hn
  go_enter Tryz.func198, Tryz.ntmps198
  go_wp2_with fail
  refine cC.mono ?_
  rintro e w1 ⟨xs, hE, hxl, v', rfl, hown, hb1⟩
  clear cC
  by_cases h0 : n = 0
  · subst h0
    obtain ⟨-, hh⟩ := hown
    have hv : ∃ B d, v' = .slice B 0 d := by
      rcases hh with ⟨h, -⟩ | ⟨g, cap, cur, h, -⟩
      · exact ⟨_, _, h⟩
      · exact ⟨_, _, h⟩
    obtain ⟨B, d, rfl⟩ := hv
    have hnil : l = [] := List.eq_nil_of_length_eq_zero HN.out
    clear hc hh
    go_wp2_with fail
    go_loopw [12] (fun i wr => i = .int .i64 0 ∧ Below w.heap.size w wr) (fun _ _ => 0)
    case atStart => exact ⟨rfl, hb1⟩
    case round =>
      obtain ⟨rfl, hb⟩ := hrel
      go_wp2_with fail
      go_ret
      exact ⟨B, d, rfl, by rw [hnil]; exact NwR.nil _ _ _, hb⟩
  · have hv : ∃ g d, v' = .slice (some ⟨g, 0, none⟩) n d := by
      rcases hown.2 with ⟨-, h⟩ | ⟨g, cap, cur, h, -⟩
      · exact absurd h h0
      · exact ⟨_, _, h⟩
    obtain ⟨g, d, rfl⟩ := hv
    have hg := hown.lt g rfl
    have HE : Hid (EL (Rn w g w1 0) l xs) := Lib.hid fun j hj => by
      obtain ⟨A', c', h1, h2⟩ := hE j hj
      exact ⟨A', c', h1, by unfold Rn; rw [if_neg (by omega)]; exact h2⟩
    clear hE
    go_wp2_with fail
    go_loopw [12] (fun i wr => ∃ (k : Nat) (ys : List Value), k ≤ n ∧ i = .int .i64 (k : Int) ∧ Hid (EL (Rn w g wr k) l ys) ∧ ys.length = n * 4 ∧ wr.ownsRow w.heap.size 29 4 (.slice (some ⟨g, 0, none⟩) n d) n ys ∧ Below w.heap.size w wr) (fun i _ => n - (intOf i).toNat)
    case atStart => exact ⟨0, xs, by omega, rfl, HE, hxl, hown, hb1⟩
    case round =>
      clear HE hown hb1 hxl
      obtain ⟨k, ys, hk, rfl, HE, hyl, hown, hb⟩ := hrel
      by_cases hlt : k < n
      · have hkl : k < l.length := by rw [HN.out]; exact hlt
        obtain ⟨A3, c3, hE1, hP⟩ := HE.out k hkl
        have hP : Rw TyA 4 w (l[k]'hkl).elem A3 := by unfold Rn at hP; rw [if_neg (by omega)] at hP; exact hP
        have e0 : wr.cell? ⟨g, k * 4, none⟩ = _ := (hown.cellAt (k * 4) (by omega)).trans hE1.e0
        have e1 : wr.cell? ⟨g, k * 4 + 1, none⟩ = _ := (hown.cellAt (k * 4 + 1) (by omega)).trans hE1.e1
        have e2 : wr.cell? ⟨g, k * 4 + 2, none⟩ = _ := (hown.cellAt (k * 4 + 2) (by omega)).trans hE1.e2
        have e3 : wr.cell? ⟨g, k * 4 + 3, none⟩ = _ := (hown.cellAt (k * 4 + 3) (by omega)).trans hE1.e3
        have hgl := (hown.lt g rfl).2
        have hstep := fun W A9 c9 (hE9 : EL (Rn w g W k) l ys) => Rn.step (c := c9) (A := A9) hE9 hyl HN.out hkl
        have HS := Lib.hid hstep
        have cN := hc k hkl
        generalize l[k]'hkl = t at *
        have hW1 := ab1 wr (Obj.cells #[.int .i64 t.kind, .int .i64 t.size, .string (bs t.name), .slice A3 t.elem.length c3] 29)
        have cN2 := cN _ (wr.alloc (Obj.cells #[.int .i64 t.kind, .int .i64 t.size, .string (bs t.name), .slice A3 t.elem.length c3] 29)) ⟨A3, c3, rfl, hP.next (fun x p => TyA.next (Below.next hb hW1) x p)⟩
        have hz : wr.heap.size ≤ (wr.alloc (Obj.cells #[.int .i64 t.kind, .int .i64 t.size, .string (bs t.name), .slice A3 t.elem.length c3] 29)).heap.size := hW1.size
        clear hstep cN hE1 hP hkl
        go_wp2_with fail
        refine cN2.mono ?_
        rintro e w3 ⟨A9, c9, rfl, hN9, hb9⟩
        have hb3 := Below.next hW1 hb9
        have hb4 := Below.next hb hb3
        have hown3 := hown.kept (gbq_of hb3 none) (.inr (by simp [Value.ownBlock]))
        have f0 := hown3.frozenAt (k * 4)
        have f1 := hown3.frozenAt (k * 4 + 1)
        have f2 := hown3.frozenAt (k * 4 + 2)
        have f3 := hown3.frozenAt (k * 4 + 3)
        replace e0 := cell_next hb3 e0
        replace e1 := cell_next hb3 e1
        replace e2 := cell_next hb3 e2
        replace e3 := cell_next hb3 e3
        obtain ⟨hst, hgr⟩ := stored4 hown3 k (.int .i64 t.kind) (.int .i64 t.size) (.string (bs t.name)) (.slice A9 t.elem.length c9)
        have hE3 := Rn.next HE.out (Kpl.of (lo := g + 1) hb3)
        have hN3 : NwR (g + 1) w3 t.elem A9 := hN9.low (Nat.le_trans (Nat.succ_le_of_lt hgl) hz)
        have hE4 := Lib.hid (HS.out _ A9 c9 (Rn.next hE3 (Kpl.gb hgr (Nat.lt_succ_self _))) (hN3.next (Kpl.gb hgr (Nat.lt_succ_self _))))
        have hb5 := hb4.grown hgr hb4.size (fun j hj => by cases hj; exact (hown.lt g rfl).1)
        clear cN2 hW1 hb3 hb9 hb hown hE3
        go_wp2_with fail
        go_roundw
        case rel => exact ⟨k + 1, _, by omega, by go_num, hE4, by rw [set4_len]; exact hyl, hst, hb5⟩
        case measure => simp [intOf]; omega
      · obtain rfl : k = n := by omega
        have hF := NwR.row HN.out hown (fun j hj => by
          obtain ⟨A', c', h1, h2⟩ := HE.out j hj
          unfold Rn at h2
          rw [if_pos (by rw [← HN.out]; exact hj)] at h2
          exact ⟨A', c', h1, h2⟩)
        clear hc HE
        go_wp2_with fail
        go_ret
        exact ⟨_, _, rfl, hF, hb⟩
set_option maxRecDepth 100000 in
set_option maxHeartbeats 4000000 in
theorem newType_any (N : Nat) : ∀ (t : Ty) (v : Value) (w : World), SizeOf.sizeOf t < N → fewT t = true → TyV w t v →
    Calls Tryz.prog 175 #[v] w (NtP t w) := by
  induction N with
  | zero => intro t v w h; omega
  | succ N ih =>
    intro t v w hN hf hv
    rw [fewT_eq] at hf
    simp only [Bool.and_eq_true, decide_eq_true_eq, List.all_eq_true] at hf
    obtain ⟨A, c, rfl, hR⟩ := hv
    have hs1 := fun i h => size_elem (t := t) (i := i) h
    have z1 : (w.alloc (Obj.cells #[.int .i64 t.kind, .int .i64 t.size, .string (bs t.name), .slice A t.elem.length c] 29)).heap.size = w.heap.size + 1 := by simp
    have hab := ab2 w (Obj.cells #[.int .i64 t.kind, .int .i64 t.size, .string (bs t.name), .slice A t.elem.length c] 29) (Obj.cells #[.int .i64 0, .int .i64 0, .string ⟨#[]⟩, .slice none 0 0] 29)
    have B1 := (Bx.new4 w 29 (.int .i64 t.kind) (.int .i64 t.size) (.string (bs t.name)) (.slice A t.elem.length c)).next (ab1 _ (Obj.cells #[.int .i64 0, .int .i64 0, .string ⟨#[]⟩, .slice none 0 0] 29))
    have B2 := Bx.new4 (w.alloc (Obj.cells #[.int .i64 t.kind, .int .i64 t.size, .string (bs t.name), .slice A t.elem.length c] 29)) 29 (.int .i64 0) (.int .i64 0) (.string ⟨#[]⟩) (.slice none 0 0)
    rw [z1] at B2
    have cE := eachType_any t.elem A c _ (by omega) (hR.next fun x p => TyA.next hab x p) (fun i h v w' hV => ih _ v w' (by have := hs1 i h; omega) (hf.2.2.2 _ (List.getElem_mem h)) hV)
    have hz : w.heap.size + 1 + 1 ≤ ((w.alloc (Obj.cells #[.int .i64 t.kind, .int .i64 t.size, .string (bs t.name), .slice A t.elem.length c] 29)).alloc (Obj.cells #[.int .i64 0, .int .i64 0, .string ⟨#[]⟩, .slice none 0 0] 29)).heap.size := by simp
    unfold NtP
    clear ih hs1 hf hR z1 hN
    generalize t.elem = e at *
    go_enter Tryz.func175, Tryz.ntmps175
    go_wp2_with fail
    refine cE.mono ?_
    rintro e3 w3 ⟨A9, c9, rfl, hN9, hb9⟩
    have hb3 := Below.next hab hb9
    have C1 := B1.next hb9
    have C2 := B2.next hb9
    have p0 := C1.c 0 rfl
    have p1 := C1.c 1 rfl
    have p2 := C1.c 2 rfl
    have p3 := C1.c 3 rfl
    have f3 := C1.f 3 rfl
    have r0 := C2.c 0 rfl
    have r1 := C2.c 1 rfl
    have r2 := C2.c 2 rfl
    have r3 := C2.c 3 rfl
    have s0 := C2.f 0 rfl
    have s1 := C2.f 1 rfl
    have s2 := C2.f 2 rfl
    have s3 := C2.f 3 rfl
    have l1 := C1.lt
    have l2 := C2.lt
    clear cE
    go_wp2_with fail
    refine bodyPost_ret (v := .agg #[.int .i64 t.kind, .int .i64 t.size, .string (bs t.name), .slice A9 e.length c9]) (by simp [results, Tryz.results175, go_sem, r0, r1, r2, r3]) rfl ⟨A9, c9, rfl, ?_, ?_⟩
    · refine (hN9.next ?_).low hab.size
      exact ((((Kpl.of (Below.refl _ _)).set (by show w.heap.size < _; omega) _).set (by show w.heap.size + 1 < _; omega) _).set (by show w.heap.size + 1 < _; omega) _ |>.set (by show w.heap.size + 1 < _; omega) _).set (by show w.heap.size + 1 < _; omega) _
    · exact ((((hb3.setCell (by simp) _).setCell (by simp) _).setCell (by simp) _).setCell (by simp) _).setCell (by simp) _
end Go.Proofs.YthfodpbecddheaaGreatDoor
/-
  The developers' fields in new memory: newField, each. No conditions beyond those that each names.
-/
namespace Go.Proofs.YthfodpbecddheaaGreatDoor
open Go.RowKit Go.Shelf
/-- The fields lie in new memory. -/
def NwF (lo : Nat) (w : World) (l : List Fd) (A : Option Addr) : Prop := ∀ w', Kpl lo w w' → Rw FdA 7 w' l A
theorem NwF.next {lo : Nat} {w w' : World} {l : List Fd} {A : Option Addr} (h : NwF lo w l A) (k : Kpl lo w w') : NwF lo w' l A := fun w2 k2 => h w2 (k.trans k2)
theorem NwF.rw_ {lo : Nat} {w : World} {l : List Fd} {A : Option Addr} (h : NwF lo w l A) : Rw FdA 7 w l A := h w ⟨Nat.le_refl _, fun _ _ _ => rfl⟩
theorem NwF.nil (lo : Nat) (w : World) (A : Option Addr) : NwF lo w [] A := fun _ _ => .inl rfl
theorem NwF.low {lo hi : Nat} {w : World} {l : List Fd} {A : Option Addr} (h : NwF hi w l A) (hl : lo ≤ hi) : NwF lo w l A := fun w2 k2 => h w2 (k2.mono hl)
/-- The cells of element j. -/
structure FL1 (xs : List Value) (j : Nat) (t : Fd) (A : Option Addr) (c : Nat) : Prop where
  e0 : xs[j * 7]? = some (.int .i64 t.num)
  e1 : xs[j * 7 + 1]? = some (.string (bs t.name))
  e2 : xs[j * 7 + 2]? = some (.int .i64 t.type.kind)
  e3 : xs[j * 7 + 3]? = some (.int .i64 t.type.size)
  e4 : xs[j * 7 + 4]? = some (.string (bs t.type.name))
  e5 : xs[j * 7 + 5]? = some (.slice A t.type.elem.length c)
  e6 : xs[j * 7 + 6]? = some (.bool t.opt)
def FL (P : Nat → Fd → Option Addr → Prop) (l : List Fd) (xs : List Value) : Prop := ∀ j (h : j < l.length), ∃ A c, FL1 xs j (l[j]'h) A c ∧ P j (l[j]'h) A
theorem newsF_of {w : World} {b off : Nat} {l : List Fd} (h : ∀ i (h : i < l.length), FdA w (l[i]'h) ((⟨b, off, none⟩ : Addr).add (i * 7))) :
    ∃ xs : List Value, xs.length = l.length * 7 ∧ (∀ j u, xs[j]? = some u → w.cell? ⟨b, off + j, none⟩ = some u) ∧ (∀ u ∈ xs, u.oneCell' = true) ∧ FL (fun _ t A => Rw TyA 4 w t.type.elem A) l xs := by
  have hcell : ∀ q (hq : q < l.length), w.cell? ⟨b, off + q * 7, none⟩ = some (.int .i64 (l[q]'hq).num) ∧ w.cell? ⟨b, off + (q * 7 + 1), none⟩ = some (.string (bs (l[q]'hq).name)) ∧ w.cell? ⟨b, off + (q * 7 + 2), none⟩ = some (.int .i64 (l[q]'hq).type.kind) ∧ w.cell? ⟨b, off + (q * 7 + 3), none⟩ = some (.int .i64 (l[q]'hq).type.size) ∧ w.cell? ⟨b, off + (q * 7 + 4), none⟩ = some (.string (bs (l[q]'hq).type.name)) ∧ ∃ A c, w.cell? ⟨b, off + (q * 7 + 5), none⟩ = some (.slice A (l[q]'hq).type.elem.length c) ∧ w.cell? ⟨b, off + (q * 7 + 6), none⟩ = some (.bool (l[q]'hq).opt) ∧ Rw TyA 4 w (l[q]'hq).type.elem A := fun q hq => by
    obtain ⟨h0, h1, h2, h3, h4, ⟨A, c, h5, h6⟩, h7⟩ := h q hq
    rw [Addr.add_lit] at h0 h1 h2 h3 h4 h5 h7
    simp only [nx1, Nat.add_assoc] at h1 h2 h3 h4 h5 h7
    exact ⟨h0, h1, h2, h3, h4, A, c, h5, h7, h6⟩
  have hs : ∀ j, j < l.length * 7 → ∃ u, w.cell? ⟨b, off + j, none⟩ = some u ∧ u.oneCell' = true := fun j hj => by
    have hq : j / 7 < l.length := by omega
    obtain ⟨h0, h1, h2, h3, h4, A, c, h5, h6, -⟩ := hcell (j / 7) hq
    have : j = j / 7 * 7 ∨ j = j / 7 * 7 + 1 ∨ j = j / 7 * 7 + 2 ∨ j = j / 7 * 7 + 3 ∨ j = j / 7 * 7 + 4 ∨ j = j / 7 * 7 + 5 ∨ j = j / 7 * 7 + 6 := by omega
    rcases this with e | e | e | e | e | e | e
    · rw [← e] at h0; exact ⟨_, h0, rfl⟩
    · rw [← e] at h1; exact ⟨_, h1, rfl⟩
    · rw [← e] at h2; exact ⟨_, h2, rfl⟩
    · rw [← e] at h3; exact ⟨_, h3, rfl⟩
    · rw [← e] at h4; exact ⟨_, h4, rfl⟩
    · rw [← e] at h5; exact ⟨_, h5, rfl⟩
    · rw [← e] at h6; exact ⟨_, h6, rfl⟩
  have hget : ∀ j, j < l.length * 7 → ((List.range (l.length * 7)).map fun j => (w.cell? ⟨b, off + j, none⟩).getD undef)[j]? = some ((w.cell? ⟨b, off + j, none⟩).getD undef) := fun j hj => by simp [hj]
  refine ⟨(List.range (l.length * 7)).map fun j => (w.cell? ⟨b, off + j, none⟩).getD undef, by simp, fun j u hu => ?_, fun u hu => ?_, fun q hq => ?_⟩
  · have hj : j < l.length * 7 := by
      have := (List.getElem?_eq_some_iff.1 hu).1
      simpa using this
    rw [hget j hj] at hu
    obtain ⟨v, hv, -⟩ := hs j hj
    rw [hv] at hu ⊢
    exact hu
  · obtain ⟨j, hj, rfl⟩ := List.mem_map.1 hu
    obtain ⟨v, hv, h1⟩ := hs j (List.mem_range.1 hj)
    rw [hv]
    exact h1
  · obtain ⟨h0, h1, h2, h3, h4, A, c, h5, h6, h7⟩ := hcell q hq
    refine ⟨A, c, ⟨?_, ?_, ?_, ?_, ?_, ?_, ?_⟩, h7⟩
    · rw [hget _ (by omega), h0]; rfl
    · rw [hget _ (by omega), h1]; rfl
    · rw [hget _ (by omega), h2]; rfl
    · rw [hget _ (by omega), h3]; rfl
    · rw [hget _ (by omega), h4]; rfl
    · rw [hget _ (by omega), h5]; rfl
    · rw [hget _ (by omega), h6]; rfl
/-- Seven cells are set anew. -/
def set7 (xs : List Value) (k : Nat) (v0 v1 v2 v3 v4 v5 v6 : Value) : List Value := (((((((xs.set (k * 7) v0).set (k * 7 + 1) v1).set (k * 7 + 2) v2).set (k * 7 + 3) v3).set (k * 7 + 4) v4).set (k * 7 + 5) v5).set (k * 7 + 6) v6)
theorem set7_other {xs : List Value} {k i : Nat} (v0 v1 v2 v3 v4 v5 v6 : Value) (h : ¬ (k * 7 ≤ i ∧ i ≤ k * 7 + 6)) : (set7 xs k v0 v1 v2 v3 v4 v5 v6)[i]? = xs[i]? := by
  unfold set7
  rw [List.getElem?_set_ne (by omega), List.getElem?_set_ne (by omega), List.getElem?_set_ne (by omega), List.getElem?_set_ne (by omega), List.getElem?_set_ne (by omega), List.getElem?_set_ne (by omega), List.getElem?_set_ne (by omega)]
theorem FL1.set_other {xs : List Value} {j k : Nat} {t : Fd} {A : Option Addr} {c : Nat} (h : FL1 xs j t A c) (hne : j ≠ k) (v0 v1 v2 v3 v4 v5 v6 : Value) : FL1 (set7 xs k v0 v1 v2 v3 v4 v5 v6) j t A c :=
  ⟨(set7_other _ _ _ _ _ _ _ (by omega)).trans h.e0, (set7_other _ _ _ _ _ _ _ (by omega)).trans h.e1, (set7_other _ _ _ _ _ _ _ (by omega)).trans h.e2, (set7_other _ _ _ _ _ _ _ (by omega)).trans h.e3, (set7_other _ _ _ _ _ _ _ (by omega)).trans h.e4, (set7_other _ _ _ _ _ _ _ (by omega)).trans h.e5, (set7_other _ _ _ _ _ _ _ (by omega)).trans h.e6⟩
theorem FL1.set_same {xs : List Value} {k n : Nat} (t : Fd) (A : Option Addr) (c : Nat) (hl : xs.length = n * 7) (hk : k < n) : FL1 (set7 xs k (.int .i64 t.num) (.string (bs t.name)) (.int .i64 t.type.kind) (.int .i64 t.type.size) (.string (bs t.type.name)) (.slice A t.type.elem.length c) (.bool t.opt)) k t A c := by
  unfold set7
  refine ⟨?_, ?_, ?_, ?_, ?_, ?_, ?_⟩
  · rw [List.getElem?_set_ne (by omega), List.getElem?_set_ne (by omega), List.getElem?_set_ne (by omega), List.getElem?_set_ne (by omega), List.getElem?_set_ne (by omega), List.getElem?_set_ne (by omega), List.getElem?_set_self (by first | omega | (simp; omega))]
  · rw [List.getElem?_set_ne (by omega), List.getElem?_set_ne (by omega), List.getElem?_set_ne (by omega), List.getElem?_set_ne (by omega), List.getElem?_set_ne (by omega), List.getElem?_set_self (by first | omega | (simp; omega))]
  · rw [List.getElem?_set_ne (by omega), List.getElem?_set_ne (by omega), List.getElem?_set_ne (by omega), List.getElem?_set_ne (by omega), List.getElem?_set_self (by first | omega | (simp; omega))]
  · rw [List.getElem?_set_ne (by omega), List.getElem?_set_ne (by omega), List.getElem?_set_ne (by omega), List.getElem?_set_self (by first | omega | (simp; omega))]
  · rw [List.getElem?_set_ne (by omega), List.getElem?_set_ne (by omega), List.getElem?_set_self (by first | omega | (simp; omega))]
  · rw [List.getElem?_set_ne (by omega), List.getElem?_set_self (by first | omega | (simp; omega))]
  · rw [List.getElem?_set_self (by first | omega | (simp; omega))]
theorem set7_len (xs : List Value) (k : Nat) (v0 v1 v2 v3 v4 v5 v6 : Value) : (set7 xs k v0 v1 v2 v3 v4 v5 v6).length = xs.length := by unfold set7; simp
/-- A row of the call's own whose elements lie in new memory is one. -/
theorem NwF.row {w : World} {lo g n cap : Nat} {e : TypeId} {l : List Fd} {xs : List Value} (hn : l.length = n) (ho : w.ownsRow lo e 7 (.slice (some ⟨g, 0, none⟩) n cap) n xs) (h : FL (fun _ t A => NwR (g + 1) w t.type.elem A) l xs) : NwF lo w l (some ⟨g, 0, none⟩) := fun w' k => by
  have hg := ho.lt g rfl
  refine .inr ⟨_, rfl, fun i hi => ?_⟩
  obtain ⟨A, c, hE, hP⟩ := h i hi
  have hc : ∀ j u, j < n * 7 → xs[j]? = some u → w'.cell? ⟨g, j, none⟩ = some u := fun j u hj hu => by
    rw [World.cell?_of_block (w := w) (k.blk g hg.1 hg.2), ho.cellAt j hj, hu]
  rw [Addr.add_lit, Nat.zero_add]
  exact ⟨hc (i * 7) _ (by omega) hE.e0, hc (i * 7 + 1) _ (by omega) hE.e1, hc (i * 7 + 2) _ (by omega) hE.e2, hc (i * 7 + 3) _ (by omega) hE.e3, hc (i * 7 + 4) _ (by omega) hE.e4, ⟨A, c, hc (i * 7 + 5) _ (by omega) hE.e5, hP w' (k.mono (by omega))⟩, hc (i * 7 + 6) _ (by omega) hE.e6⟩
/-- A field in new memory. -/
def FtP (t : Fd) (w : World) (e : Ending) (w' : World) : Prop := ∃ A c, e = .returned (.agg #[.int .i64 t.num, .string (bs t.name), .int .i64 t.type.kind, .int .i64 t.type.size, .string (bs t.type.name), .slice A t.type.elem.length c, .bool t.opt]) ∧ NwR w.heap.size w' t.type.elem A ∧ Below w.heap.size w w'
def EfP (l : List Fd) (w : World) (e : Ending) (w' : World) : Prop := ∃ A c, e = .returned (.slice A l.length c) ∧ NwF w.heap.size w' l A ∧ Below w.heap.size w w'
theorem info74 : (Tryz.prog.info? 57).map (fun i => (i.zero, i.size, i.bytes)) = some (some (.agg #[.int .i64 0, .string ⟨#[]⟩, .int .i64 0, .int .i64 0, .string ⟨#[]⟩, .slice none 0 0, .bool false]), 7, 88) := by kernel_rfl
/-- A copy of a list of fields. -/
def ClF (n : Nat) (xs : List Value) (w : World) (e : Ending) (w' : World) : Prop := ∃ v', e = .returned v' ∧ w'.ownsRow w.heap.size 57 7 v' n xs ∧ Below w.heap.size w w'
set_option maxRecDepth 100000 in
set_option maxHeartbeats 2000000 in
theorem cloneZeroF_any (A : Option Addr) (c : Nat) (w : World) : Calls Tryz.prog 174 #[.slice A 0 c] w (ClF 0 [] w) := by
  cases A with
  | none => exact (AnyE.slices_Clone_nil Tryz.clone174 0 c w).mono fun e w' ⟨h1, h2⟩ => ⟨_, h1, World.ownsRow_nil _ _ _ _, by rw [h2]; exact Below.refl _ _⟩
  | some a =>
    obtain ⟨i, hi, hz, hs5, hby⟩ := info_parts info74
    have q22 : ∀ (w : World) (a : Option Addr) (n c n' c' : Nat), (binOp .eql 51 (.slice a n c) (.slice none n' c')).run Tryz.prog w = .ok (.bool a.isNone) w := fun w a n c n' c' => Lib.run_eql_slice_nil w _ _ a n c n' c' Tryz.underlying51
    go_enter Tryz.func174, Tryz.ntmps174
    go_wp2_with (at_builtin; refine wpList_append_own _ rfl _ _ 51 rfl w.heap.size 57 i _ 7 88 Tryz.underlying51 hi hz hs5 hby rfl (by decide) _ _ _ rfl (World.ownsRow_made w #[] 0 (Nat.le_refl _) (Nat.zero_le _) rfl) a 0 c [] rfl rfl (by intro j u hj; simp at hj) (by intro u hu; cases hu) (by unfold maxLen; omega) (by omega) (by simp) ?_)
    intro v' w1 hown hgrow hnil
    go_wp2
    go_ret
    exact ⟨v', rfl, by simpa using hown, ((Below.refl _ w).alloc (Nat.le_refl _) _).grown hgrow (by simp) (by intro k hk; simp [Value.ownBlock] at hk; omega)⟩
theorem cloneField_any (l : List Fd) (A : Option Addr) (c : Nat) (w : World) (hl : l.length ≤ 1000000) (hR : Rw FdA 7 w l A) :
    Calls Tryz.prog 174 #[.slice A l.length c] w fun e w' => ∃ xs, FL (fun _ t A => Rw TyA 4 w t.type.elem A) l xs ∧ xs.length = l.length * 7 ∧ ClF l.length xs w e w' := by
  by_cases h0 : l = []
  · subst h0
    exact (cloneZeroF_any A c w).mono fun e w' h => ⟨[], fun j h => absurd h (Nat.not_lt_zero _), rfl, h⟩
  · rcases hR with h | ⟨a, rfl, h⟩
    · exact absurd h h0
    · have h1 : 0 < l.length := List.length_pos_iff.2 h0
      have hs : a.spot = none := by
        have := spot_none0 (h 0 h1).1
        simpa [Addr.add] using this
      obtain ⟨b, off, s⟩ := a
      have hs : s = none := hs
      subst hs
      obtain ⟨xs, hx1, hx2, hx3, hx4⟩ := newsF_of h
      obtain ⟨i, hi, hz, hs5, hby⟩ := info_parts info74
      exact (AnyE.slices_Clone Tryz.clone174 i _ 7 88 hi hz hs5 hby rfl (by decide) Tryz.sizeOf57 b off l.length c xs w hx1 (by unfold maxLen; omega) (by omega) hx2 hx3).mono fun e w' ⟨v', e1, e2, _, e4⟩ => ⟨xs, hx4, hx1, v', e1, e2, e4⟩
/-- The condition on the fields of a row that is renewed: those before number k lie in new memory. -/
def Rf (w0 : World) (g : Nat) (w : World) (k : Nat) (j : Nat) (t : Fd) (A : Option Addr) : Prop := if j < k then NwR (g + 1) w t.type.elem A else Rw TyA 4 w0 t.type.elem A
theorem Rf.next {w0 : World} {g k : Nat} {w w' : World} {l : List Fd} {xs : List Value} (h : FL (Rf w0 g w k) l xs) (hk : Kpl (g + 1) w w') : FL (Rf w0 g w' k) l xs := fun j hj => by
  obtain ⟨A, c, h1, h2⟩ := h j hj
  refine ⟨A, c, h1, ?_⟩
  unfold Rf at h2 ⊢
  split
  · rename_i e; rw [if_pos e] at h2; exact h2.next hk
  · rename_i e; rw [if_neg e] at h2; exact h2
theorem Rf.step {w0 : World} {g k n : Nat} {w : World} {l : List Fd} {xs : List Value} (h : FL (Rf w0 g w k) l xs) (hx : xs.length = n * 7) (hn : l.length = n) (hk : k < l.length) {A : Option Addr} {c : Nat} (hA : NwR (g + 1) w (l[k]'hk).type.elem A) :
    FL (Rf w0 g w (k + 1)) l (set7 xs k (.int .i64 (l[k]'hk).num) (.string (bs (l[k]'hk).name)) (.int .i64 (l[k]'hk).type.kind) (.int .i64 (l[k]'hk).type.size) (.string (bs (l[k]'hk).type.name)) (.slice A (l[k]'hk).type.elem.length c) (.bool (l[k]'hk).opt)) := fun j hj => by
  by_cases e : j = k
  · subst e
    exact ⟨A, c, FL1.set_same _ _ _ hx (by omega), by unfold Rf; rw [if_pos (Nat.lt_succ_self _)]; exact hA⟩
  · obtain ⟨A', c', h1, h2⟩ := h j hj
    refine ⟨A', c', h1.set_other e _ _ _ _ _ _ _, ?_⟩
    unfold Rf at h2 ⊢
    by_cases e2 : j < k
    · rw [if_pos e2] at h2; rw [if_pos (by omega)]; exact h2
    · rw [if_neg e2] at h2; rw [if_neg (by omega)]; exact h2
theorem stored7 {w : World} {base g n cap : Nat} {e : TypeId} {xs : List Value} (h : w.ownsRow base e 7 (.slice (some ⟨g, 0, none⟩) n cap) n xs) (k : Nat) (v0 v1 v2 v3 v4 v5 v6 : Value) :
    (((((((w.setCell ⟨g, k * 7, none⟩ v0).setCell ⟨g, k * 7 + 1, none⟩ v1).setCell ⟨g, k * 7 + 2, none⟩ v2).setCell ⟨g, k * 7 + 3, none⟩ v3).setCell ⟨g, k * 7 + 4, none⟩ v4).setCell ⟨g, k * 7 + 5, none⟩ v5).setCell ⟨g, k * 7 + 6, none⟩ v6).ownsRow base e 7 (.slice (some ⟨g, 0, none⟩) n cap) n (set7 xs k v0 v1 v2 v3 v4 v5 v6) ∧ w.grownBy (((((((w.setCell ⟨g, k * 7, none⟩ v0).setCell ⟨g, k * 7 + 1, none⟩ v1).setCell ⟨g, k * 7 + 2, none⟩ v2).setCell ⟨g, k * 7 + 3, none⟩ v3).setCell ⟨g, k * 7 + 4, none⟩ v4).setCell ⟨g, k * 7 + 5, none⟩ v5).setCell ⟨g, k * 7 + 6, none⟩ v6) (some g) := by
  obtain ⟨h0, g0⟩ := h.stored (k * 7) v0
  obtain ⟨h1, g1⟩ := h0.stored (k * 7 + 1) v1
  obtain ⟨h2, g2⟩ := h1.stored (k * 7 + 2) v2
  obtain ⟨h3, g3⟩ := h2.stored (k * 7 + 3) v3
  obtain ⟨h4, g4⟩ := h3.stored (k * 7 + 4) v4
  obtain ⟨h5, g5⟩ := h4.stored (k * 7 + 5) v5
  obtain ⟨h6, g6⟩ := h5.stored (k * 7 + 6) v6
  exact ⟨h6, (((((g0.trans g1).trans g2).trans g3).trans g4).trans g5).trans g6⟩
set_option maxRecDepth 100000 in
set_option maxHeartbeats 4000000 in
theorem eachField_any (l : List Fd) (A : Option Addr) (c : Nat) (w : World) (hl : l.length ≤ 1000000) (hR : Rw FdA 7 w l A)
    (hc : ∀ i (h : i < l.length) v w', FdV w' (l[i]'h) v → Calls Tryz.prog 122 #[v] w' (FtP (l[i]'h) w')) :
    Calls Tryz.prog 121 #[.slice A l.length c, .func (.func 122) #[] #[]] w (EfP l w) := by
  have cC := cloneField_any l A c w hl hR
  unfold EfP
  obtain ⟨n, hn⟩ : ∃ n, l.length = n := ⟨_, rfl⟩
  have HN := Lib.hid hn
  rw [hn] at cC hl ⊢
  clear hn
  go_enter Tryz.func121, Tryz.ntmps121
  go_wp2_with fail
  refine cC.mono ?_
  rintro e w1 ⟨xs, hE, hxl, v', rfl, hown, hb1⟩
  clear cC
  by_cases h0 : n = 0
  · subst h0
    obtain ⟨-, hh⟩ := hown
    have hv : ∃ B d, v' = .slice B 0 d := by
      rcases hh with ⟨h, -⟩ | ⟨g, cap, cur, h, -⟩
      · exact ⟨_, _, h⟩
      · exact ⟨_, _, h⟩
    obtain ⟨B, d, rfl⟩ := hv
    have hnil : l = [] := List.eq_nil_of_length_eq_zero HN.out
    clear hc hh
    go_wp2_with fail
    go_loopw [12] (fun i wr => i = .int .i64 0 ∧ Below w.heap.size w wr) (fun _ _ => 0)
    case atStart => exact ⟨rfl, hb1⟩
    case round =>
      obtain ⟨rfl, hb⟩ := hrel
      go_wp2_with fail
      go_ret
      exact ⟨B, d, rfl, by rw [hnil]; exact NwF.nil _ _ _, hb⟩
  · have hv : ∃ g d, v' = .slice (some ⟨g, 0, none⟩) n d := by
      rcases hown.2 with ⟨-, h⟩ | ⟨g, cap, cur, h, -⟩
      · exact absurd h h0
      · exact ⟨_, _, h⟩
    obtain ⟨g, d, rfl⟩ := hv
    have hg := hown.lt g rfl
    have HE : Hid (FL (Rf w g w1 0) l xs) := Lib.hid fun j hj => by
      obtain ⟨A', c', h1, h2⟩ := hE j hj
      exact ⟨A', c', h1, by unfold Rf; rw [if_neg (by omega)]; exact h2⟩
    clear hE
    go_wp2_with fail
    go_loopw [12] (fun i wr => ∃ (k : Nat) (ys : List Value), k ≤ n ∧ i = .int .i64 (k : Int) ∧ Hid (FL (Rf w g wr k) l ys) ∧ ys.length = n * 7 ∧ wr.ownsRow w.heap.size 57 7 (.slice (some ⟨g, 0, none⟩) n d) n ys ∧ Below w.heap.size w wr) (fun i _ => n - (intOf i).toNat)
    case atStart => exact ⟨0, xs, by omega, rfl, HE, hxl, hown, hb1⟩
    case round =>
      clear HE hown hb1 hxl
      obtain ⟨k, ys, hk, rfl, HE, hyl, hown, hb⟩ := hrel
      by_cases hlt : k < n
      · have hkl : k < l.length := by rw [HN.out]; exact hlt
        obtain ⟨A3, c3, hE1, hP⟩ := HE.out k hkl
        have hP : Rw TyA 4 w (l[k]'hkl).type.elem A3 := by unfold Rf at hP; rw [if_neg (by omega)] at hP; exact hP
        have e0 : wr.cell? ⟨g, k * 7, none⟩ = _ := (hown.cellAt (k * 7) (by omega)).trans hE1.e0
        have e1 : wr.cell? ⟨g, k * 7 + 1, none⟩ = _ := (hown.cellAt (k * 7 + 1) (by omega)).trans hE1.e1
        have e2 : wr.cell? ⟨g, k * 7 + 2, none⟩ = _ := (hown.cellAt (k * 7 + 2) (by omega)).trans hE1.e2
        have e3 : wr.cell? ⟨g, k * 7 + 3, none⟩ = _ := (hown.cellAt (k * 7 + 3) (by omega)).trans hE1.e3
        have e4 : wr.cell? ⟨g, k * 7 + 4, none⟩ = _ := (hown.cellAt (k * 7 + 4) (by omega)).trans hE1.e4
        have e5 : wr.cell? ⟨g, k * 7 + 5, none⟩ = _ := (hown.cellAt (k * 7 + 5) (by omega)).trans hE1.e5
        have e6 : wr.cell? ⟨g, k * 7 + 6, none⟩ = _ := (hown.cellAt (k * 7 + 6) (by omega)).trans hE1.e6
        have hgl := (hown.lt g rfl).2
        have hstep := fun W A9 c9 (hE9 : FL (Rf w g W k) l ys) => Rf.step (c := c9) (A := A9) hE9 hyl HN.out hkl
        have HS := Lib.hid hstep
        have cN := hc k hkl
        generalize l[k]'hkl = t at *
        have hW1 := ab1 wr (Obj.cells #[.int .i64 t.num, .string (bs t.name), .int .i64 t.type.kind, .int .i64 t.type.size, .string (bs t.type.name), .slice A3 t.type.elem.length c3, .bool t.opt] 57)
        have cN2 := cN _ (wr.alloc (Obj.cells #[.int .i64 t.num, .string (bs t.name), .int .i64 t.type.kind, .int .i64 t.type.size, .string (bs t.type.name), .slice A3 t.type.elem.length c3, .bool t.opt] 57)) ⟨A3, c3, rfl, hP.next (fun x p => TyA.next (Below.next hb hW1) x p)⟩
        have hz : wr.heap.size ≤ (wr.alloc (Obj.cells #[.int .i64 t.num, .string (bs t.name), .int .i64 t.type.kind, .int .i64 t.type.size, .string (bs t.type.name), .slice A3 t.type.elem.length c3, .bool t.opt] 57)).heap.size := hW1.size
        clear hstep cN hE1 hP hkl
        go_wp2_with fail
        refine cN2.mono ?_
        rintro e w3 ⟨A9, c9, rfl, hN9, hb9⟩
        have hb3 := Below.next hW1 hb9
        have hb4 := Below.next hb hb3
        have hown3 := hown.kept (gbq_of hb3 none) (.inr (by simp [Value.ownBlock]))
        have f0 := hown3.frozenAt (k * 7)
        have f1 := hown3.frozenAt (k * 7 + 1)
        have f2 := hown3.frozenAt (k * 7 + 2)
        have f3 := hown3.frozenAt (k * 7 + 3)
        have f4 := hown3.frozenAt (k * 7 + 4)
        have f5 := hown3.frozenAt (k * 7 + 5)
        have f6 := hown3.frozenAt (k * 7 + 6)
        replace e0 := cell_next hb3 e0
        replace e1 := cell_next hb3 e1
        replace e2 := cell_next hb3 e2
        replace e3 := cell_next hb3 e3
        replace e4 := cell_next hb3 e4
        replace e5 := cell_next hb3 e5
        replace e6 := cell_next hb3 e6
        obtain ⟨hst, hgr⟩ := stored7 hown3 k (.int .i64 t.num) (.string (bs t.name)) (.int .i64 t.type.kind) (.int .i64 t.type.size) (.string (bs t.type.name)) (.slice A9 t.type.elem.length c9) (.bool t.opt)
        have hE3 := Rf.next HE.out (Kpl.of (lo := g + 1) hb3)
        have hN3 : NwR (g + 1) w3 t.type.elem A9 := hN9.low (Nat.le_trans (Nat.succ_le_of_lt hgl) hz)
        have hE4 := Lib.hid (HS.out _ A9 c9 (Rf.next hE3 (Kpl.gb hgr (Nat.lt_succ_self _))) (hN3.next (Kpl.gb hgr (Nat.lt_succ_self _))))
        have hb5 := hb4.grown hgr hb4.size (fun j hj => by cases hj; exact (hown.lt g rfl).1)
        clear cN2 hW1 hb3 hb9 hb hown hE3
        go_wp2_with fail
        go_roundw
        case rel => exact ⟨k + 1, _, by omega, by go_num, hE4, by rw [set7_len]; exact hyl, hst, hb5⟩
        case measure => simp [intOf]; omega
      · obtain rfl : k = n := by omega
        have hF := NwF.row HN.out hown (fun j hj => by
          obtain ⟨A', c', h1, h2⟩ := HE.out j hj
          unfold Rf at h2
          rw [if_pos (by rw [← HN.out]; exact hj)] at h2
          exact ⟨A', c', h1, h2⟩)
        clear hc HE
        go_wp2_with fail
        go_ret
        exact ⟨_, _, rfl, hF, hb⟩
set_option maxRecDepth 100000 in
set_option maxHeartbeats 4000000 in
theorem newField_any (t : Fd) (v : Value) (w : World) (hf : fewT t.type = true) (hv : FdV w t v) :
    Calls Tryz.prog 122 #[v] w (FtP t w) := by
  obtain ⟨A, c, rfl, hR⟩ := hv
  have z1 : (w.alloc (Obj.cells #[.int .i64 t.num, .string (bs t.name), .int .i64 t.type.kind, .int .i64 t.type.size, .string (bs t.type.name), .slice A t.type.elem.length c, .bool t.opt] 57)).heap.size = w.heap.size + 1 := by simp
  have hab := ab2 w (Obj.cells #[.int .i64 t.num, .string (bs t.name), .int .i64 t.type.kind, .int .i64 t.type.size, .string (bs t.type.name), .slice A t.type.elem.length c, .bool t.opt] 57) (Obj.cells #[.int .i64 0, .string ⟨#[]⟩, .int .i64 0, .int .i64 0, .string ⟨#[]⟩, .slice none 0 0, .bool false] 57)
  have B1 := (Bx.new7 w 57 (.int .i64 t.num) (.string (bs t.name)) (.int .i64 t.type.kind) (.int .i64 t.type.size) (.string (bs t.type.name)) (.slice A t.type.elem.length c) (.bool t.opt)).next (ab1 _ (Obj.cells #[.int .i64 0, .string ⟨#[]⟩, .int .i64 0, .int .i64 0, .string ⟨#[]⟩, .slice none 0 0, .bool false] 57))
  have B2 := Bx.new7 (w.alloc (Obj.cells #[.int .i64 t.num, .string (bs t.name), .int .i64 t.type.kind, .int .i64 t.type.size, .string (bs t.type.name), .slice A t.type.elem.length c, .bool t.opt] 57)) 57 (.int .i64 0) (.string ⟨#[]⟩) (.int .i64 0) (.int .i64 0) (.string ⟨#[]⟩) (.slice none 0 0) (.bool false)
  rw [z1] at B2
  have cE := newType_any (SizeOf.sizeOf t.type + 1) t.type _ _ (Nat.lt_succ_self _) hf ⟨A, c, rfl, hR.next fun x p => TyA.next hab x p⟩
  have hz : w.heap.size + 1 + 1 ≤ ((w.alloc (Obj.cells #[.int .i64 t.num, .string (bs t.name), .int .i64 t.type.kind, .int .i64 t.type.size, .string (bs t.type.name), .slice A t.type.elem.length c, .bool t.opt] 57)).alloc (Obj.cells #[.int .i64 0, .string ⟨#[]⟩, .int .i64 0, .int .i64 0, .string ⟨#[]⟩, .slice none 0 0, .bool false] 57)).heap.size := by simp
  unfold FtP
  unfold NtP at cE
  clear hf hR z1
  generalize t.type.elem = e at *
  go_enter Tryz.func122, Tryz.ntmps122
  go_wp2_with fail
  refine cE.mono ?_
  rintro e3 w3 ⟨A9, c9, rfl, hN9, hb9⟩
  have hb3 := Below.next hab hb9
  have C1 := B1.next hb9
  have C2 := B2.next hb9
  have p0 := C1.c 0 rfl
  have p1 := C1.c 1 rfl
  have p2 := C1.c 2 rfl
  have p3 := C1.c 3 rfl
  have p4 := C1.c 4 rfl
  have p5 := C1.c 5 rfl
  have p6 := C1.c 6 rfl
  have q2 := C1.f 2 rfl
  have q3 := C1.f 3 rfl
  have q4 := C1.f 4 rfl
  have q5 := C1.f 5 rfl
  have r0 := C2.c 0 rfl
  have s0 := C2.f 0 rfl
  have r1 := C2.c 1 rfl
  have s1 := C2.f 1 rfl
  have r2 := C2.c 2 rfl
  have s2 := C2.f 2 rfl
  have r3 := C2.c 3 rfl
  have s3 := C2.f 3 rfl
  have r4 := C2.c 4 rfl
  have s4 := C2.f 4 rfl
  have r5 := C2.c 5 rfl
  have s5 := C2.f 5 rfl
  have r6 := C2.c 6 rfl
  have s6 := C2.f 6 rfl
  have l1 := C1.lt
  have l2 := C2.lt
  clear cE
  go_wp2_with fail
  refine bodyPost_ret (v := .agg #[.int .i64 t.num, .string (bs t.name), .int .i64 t.type.kind, .int .i64 t.type.size, .string (bs t.type.name), .slice A9 e.length c9, .bool t.opt]) (by simp [results, Tryz.results122, go_sem, r0, r1, r2, r3, r4, r5, r6]) rfl ⟨A9, c9, rfl, ?_, ?_⟩
  · refine (hN9.next ?_).low hab.size
    iterate 11 refine Kpl.set ?_ (by first | (show w.heap.size < _; omega) | (show w.heap.size + 1 < _; omega)) _
    exact Kpl.of (Below.refl _ _)
  · iterate 11 refine Below.setCell ?_ (by simp) _
    exact hb3
end Go.Proofs.YthfodpbecddheaaGreatDoor


/-
  The depths of structs in rounds over their places; putting a name into an ascending list step by step. Mathematics, no conditions beyond those that each names.
-/
import Derived.Test.YthbhbpcjcnkkkaaGreatDoorK12
import Derived.Test.YthbhbpcjcnkkkaaGreatDoorK15
import Derived.Test.YthbhbpcjcnkkkaaGreatDoorK13
import Derived.Laws.MakeOwn
import Derived.Test.YthbhbpcjcnkkkaaGreatDoorK08
namespace Go.Proofs.YthbhbpcjcnkkkaaGreatDoor
open Go.RowKit
theorem nxs_mem {t : St} {f : Fd} {y : List UInt8} (hf : f ∈ t.fields) (hy : y ∈ dir f.type) : y ∈ nxs t := List.mem_flatMap.2 ⟨f, hf, hy⟩
theorem fdep_near (S : Sch) {d d' : List UInt8 → Nat} (t : St) (h : ∀ y ∈ nxs t, y ∈ sns S → d y = d' y) : fdep S d t = fdep S d' t := by
  unfold fdep
  congr 2
  apply List.map_congr_left
  intro f hf
  exact td_near S f.type fun y hy hs => h y (nxs_mem hf hy) hs
/-- The place of a struct by its name. -/
def idx (S : Sch) (n : List UInt8) : Nat := (sns S).idxOf n
theorem idx_lt {S : Sch} {n : List UInt8} (h : n ∈ sns S) : idx S n < S.structs.length := by
  have := List.idxOf_lt_length_iff.2 h
  unfold idx
  unfold sns at this ⊢
  simpa using this
theorem idx_name {S : Sch} {n : List UInt8} (h : n ∈ sns S) : (S.structs.getD (idx S n) st0).name = n := by
  have h1 := idx_lt h
  rw [List.getD_eq_getElem?_getD, List.getElem?_eq_getElem h1, Option.getD_some]
  have h2 : (sns S)[idx S n]'(by unfold sns; rw [List.length_map]; exact h1) = n := List.getElem_idxOf _
  unfold sns at h2
  simpa using h2
theorem name_idx {S : Sch} (hn : (sns S).Nodup) {k : Nat} (hk : k < S.structs.length) : fst_ St.name S.structs (S.structs[k]'hk).name = some (S.structs[k]'hk) := (fst_iff hn).2 ⟨List.getElem_mem hk, rfl⟩
theorem fst_idx {S : Sch} (hn : (sns S).Nodup) {n : List UInt8} (h : n ∈ sns S) : (fst_ St.name S.structs n).getD st0 = S.structs.getD (idx S n) st0 := by
  have h1 := idx_lt h
  have h2 := idx_name h
  rw [List.getD_eq_getElem?_getD, List.getElem?_eq_getElem h1, Option.getD_some] at h2 ⊢
  have h3 := name_idx hn h1
  rw [h2] at h3
  rw [h3]
  rfl
def dI (S : Sch) (f : Nat → Nat) : List UInt8 → Nat := fun n => f (idx S n)
def FI (S : Sch) (f : Nat → Nat) (i : Nat) : Nat := fdep S (dI S f) (S.structs.getD i st0)
def GI (S : Sch) (i : Nat) : Nat := fdep S (dep S) (S.structs.getD i st0)
def nI (S : Sch) (i : Nat) : List Nat := ((nxs (S.structs.getD i st0)).filter fun y => (sns S).contains y).map (idx S)
theorem FI_near (S : Sch) : Near (nI S) (FI S) := fun d d' x h => fdep_near S _ fun y hy hs => h (idx S y) (List.mem_map.2 ⟨y, List.mem_filter.2 ⟨hy, by simpa using hs⟩, rfl⟩)
theorem GI_fix {S : Sch} (hn : (sns S).Nodup) {rk : List UInt8 → Nat} (hP : Dpt S rk) (k : Nat) : GI S k = FI S (GI S) k := by
  unfold GI FI
  refine fdep_near S _ fun y _ hs => ?_
  show dep S y = fdep S (dep S) (S.structs.getD (idx S y) st0)
  rw [← fst_idx hn hs]
  exact hP.fx y
theorem GI_dep {S : Sch} (hn : (sns S).Nodup) {rk : List UInt8 → Nat} (hP : Dpt S rk) {k : Nat} (hk : k < S.structs.length) : GI S k = dep S (S.structs[k]'hk).name := by
  rw [hP.fx]
  unfold GI dF
  rw [name_idx hn hk, List.getD_eq_getElem?_getD, List.getElem?_eq_getElem hk]
noncomputable def rkI (S : Sch) (k : Nat) : Nat := rkS S (S.structs.getD k st0).name
theorem nI_lt {S : Sch} {i y : Nat} (h : y ∈ nI S i) : y < S.structs.length := by
  obtain ⟨n, hn, rfl⟩ := List.mem_map.1 h
  exact idx_lt (by simpa using (List.mem_filter.1 hn).2)
theorem nI_down {S : Sch} (hn : (sns S).Nodup) (hc : ¬ cyc S) : Down (nI S) (rkI S) := by
  intro i y hy
  obtain ⟨n, hn1, rfl⟩ := List.mem_map.1 hy
  obtain ⟨hn2, hn3⟩ := List.mem_filter.1 hn1
  have hs : n ∈ sns S := by simpa using hn3
  unfold rkI
  rw [idx_name hs]
  refine rkS_down hn hc _ _ (mem_nxS.2 ⟨?_, hs⟩)
  unfold nx
  by_cases hi : i < S.structs.length
  · rw [List.getD_eq_getElem?_getD, List.getElem?_eq_getElem hi, Option.getD_some] at hn2 ⊢
    rw [name_idx hn hi]
    exact hn2
  · rw [List.getD_eq_getElem?_getD, List.getElem?_eq_none (by omega)] at hn2
    cases hn2
theorem rkI_lt (S : Sch) (k : Nat) : rkI S k < S.structs.length + 1 := rkS_lt S _
theorem deep_iff {S : Sch} (hn : (sns S).Nodup) {rk : List UInt8 → Nat} (hP : Dpt S rk) : deep S ↔ ∃ k, ∃ _ : k < S.structs.length, 6 < GI S k := by
  unfold deep
  constructor
  · rintro ⟨t, ht, h⟩
    obtain ⟨k, hk, rfl⟩ := List.mem_iff_getElem.1 ht
    exact ⟨k, hk, by rw [GI_dep hn hP hk]; exact h⟩
  · rintro ⟨k, hk, h⟩
    exact ⟨_, List.getElem_mem hk, by rw [← GI_dep hn hP hk]; exact h⟩
end Go.Proofs.YthbhbpcjcnkkkaaGreatDoor
/-
  The reference's depths of types, given those of structs. No conditions beyond those that each names.
-/
namespace Go.Proofs.YthbhbpcjcnkkkaaGreatDoor
open Go.RowKit Go.Maps
/-- Numbers in memory. -/
def Ds (w : World) (dl : List Nat) (v : Value) : Prop := ∃ A c, v = .slice A dl.length c ∧ ∀ k, k < dl.length → ∃ a, A = some a ∧ w.cell? (a.add k) = some (.int .i64 (dl.getD k 0 : Int))
theorem Ds.next {w w' : World} {dl : List Nat} {v : Value} (h : Ds w dl v) (hb : Below w.heap.size w w') : Ds w' dl v := by
  obtain ⟨A, c, e, h⟩ := h
  exact ⟨A, c, e, fun k hk => by obtain ⟨a, e, h⟩ := h k hk; exact ⟨a, e, cell_next hb h⟩⟩
def dN (S : Sch) (dl : List Nat) : List UInt8 → Nat := fun n => dl.getD (idx S n) 0
theorem td_kind {S : Sch} {d : List UInt8 → Nat} {k s : Int} {n : List UInt8} {e : List Ty} (h5 : k ≠ 5) : td S d (.mk k s n e) = if k = 6 then (if n ∈ sns S then d n else 0) else 0 := by cases e <;> rw [td, if_neg h5]
theorem dN_at {S : Sch} {dl : List Nat} {n : List UInt8} {i : Nat} (hi : i < S.structs.length) (hn : (S.structs[i]'hi).name = n) (hf : ∀ j (hj : j < S.structs.length), j < i → (S.structs[j]'hj).name ≠ n) : n ∈ sns S ∧ dN S dl n = dl.getD i 0 := by
  have hm : n ∈ sns S := List.mem_map.2 ⟨_, List.getElem_mem hi, hn⟩
  refine ⟨hm, ?_⟩
  unfold dN
  congr 1
  have h1 := idx_lt hm
  have h2 := idx_name hm
  rw [List.getD_eq_getElem?_getD, List.getElem?_eq_getElem h1, Option.getD_some] at h2
  rcases Nat.lt_trichotomy (idx S n) i with h | h | h
  · exact absurd h2 (hf _ h1 h)
  · exact h
  · exfalso
    have h3 : (sns S)[i]'(by unfold sns; rw [List.length_map]; exact hi) = n := by unfold sns; rw [List.getElem_map]; exact hn
    have h4 : i < (sns S).idxOf n := h
    have h5 := List.not_of_lt_findIdx (xs := sns S) (p := fun x => x == n) (i := i) (by unfold List.idxOf at h4; exact h4)
    simp at h5
    exact h5 h3
theorem dN_not {S : Sch} {n : List UInt8} (hf : ∀ j (hj : j < S.structs.length), (S.structs[j]'hj).name ≠ n) : n ∉ sns S := by
  intro h
  obtain ⟨t, ht, e⟩ := List.mem_map.1 h
  obtain ⟨j, hj, rfl⟩ := List.mem_iff_getElem.1 ht
  exact hf j hj e
set_option maxRecDepth 100000 in
set_option maxHeartbeats 4000000 in
theorem refTypeDepth_any (N : Nat) : ∀ (S : Sch) (dl : List Nat) (B : Nat) (t : Ty) (v vd u : Value) (w : World), SizeOf.sizeOf t < N → lst t ≤ 100 → S.structs.length ≤ 1000 → dl.length = S.structs.length → (∀ k, dl.getD k 0 ≤ B) → B ≤ 100000 → lok t → ScV w S v → Ds w dl vd → TyV w t u →
    Calls Tryz.prog 53 #[v, vd, u] w (Ib (.int .i64 (td S (dN S dl) t : Int)) w) := by
  induction N with
  | zero => intro S dl B t v vd u w h; omega
  | succ N ih =>
    intro S dl B t v vd u w hN hlst hS1000 hdl hB hB2 hlk hv hd hu
    have hv0 := hv
    have hd0 := hd
    obtain ⟨A, c, A2, c2, rfl, hS⟩ := hv
    obtain ⟨AD, cD, rfl, hDs⟩ := hd
    have hSs := hS.st
    clear hS
    obtain ⟨n, hnn⟩ : ∃ n, S.enums.length = n := ⟨_, rfl⟩
    obtain ⟨m, hmm⟩ : ∃ m, S.structs.length = m := ⟨_, rfl⟩
    have HM := Lib.hid hmm
    have HDL := Lib.hid (hdl.trans hmm)
    rw [hnn, hmm] at hv0
    rw [hdl, hmm] at hd0
    rw [hnn, hmm, hdl, hmm]
    rw [hmm] at hS1000
    obtain ⟨k, s, nm, e⟩ := t
    have hem := lok_len hlk
    have hem : e.length ≤ 9223372036854775807 := hem
    rw [TyV.mk_] at hu
    obtain ⟨A4, c4, rfl, hR⟩ := hu
    obtain ⟨q, hq⟩ : ∃ q, e.length = q := ⟨_, rfl⟩
    have HQ := Lib.hid hq
    have hz : (w.alloc (Obj.cells #[.int .i64 S.ver, .slice A n c, .slice A2 m c2] 25)).heap.size = w.heap.size + 1 := by simp
    have hab := ab2 w (Obj.cells #[.int .i64 S.ver, .slice A n c, .slice A2 m c2] 25) (Obj.cells #[.int .i64 k, .int .i64 s, .string (bs nm), .slice A4 q c4] 45)
    have R1 := (Bx.new3 w 25 (.int .i64 S.ver) (.slice A n c) (.slice A2 m c2)).next (ab1 _ (Obj.cells #[.int .i64 k, .int .i64 s, .string (bs nm), .slice A4 q c4] 45))
    have R2 := Bx.new4 (w.alloc (Obj.cells #[.int .i64 S.ver, .slice A n c, .slice A2 m c2] 25)) 45 (.int .i64 k) (.int .i64 s) (.string (bs nm)) (.slice A4 q c4)
    rw [hz] at R2
    rw [hq] at hem ⊢
    have q0 := R1.c 0 rfl
    have q1 := R1.c 1 rfl
    have q2 := R1.c 2 rfl
    have q3 := R2.c 3 rfl
    have l2 := R2.lt
    clear hz hnn hmm
    by_cases h5 : k = 5 ∧ e ≠ []
    · obtain ⟨rfl, hne⟩ := h5
      cases e with
      | nil => exact absurd rfl hne
      | cons t' ts =>
        have hq0 : 0 < q := by rw [← hq]; simp
        have htd : td S (dN S dl) (.mk 5 s nm (t' :: ts)) = td S (dN S dl) t' + 1 := by rw [td, if_pos rfl, Nat.add_comm]
        obtain ⟨a, rfl, hA⟩ := hR.get (i := 0) (by rw [hq]; exact hq0)
        rw [Nat.zero_mul, Addr.add_zero'] at hA
        have hA : TyA w t' a := hA
        have hsz : SizeOf.sizeOf t' < N := by
          have := size_elem (t := .mk 5 s nm (t' :: ts)) (i := 0) (Nat.zero_lt_succ _)
          have : SizeOf.sizeOf t' < SizeOf.sizeOf (Ty.mk 5 s nm (t' :: ts)) := this
          omega
        have hlk' : lok t' := lok_get (t := .mk 5 s nm (t' :: ts)) hlk (i := 0) (Nat.zero_lt_succ _)
        have hl' : lst t' ≤ 99 := by rw [lst_list] at hlst; omega
        have hle := td_le S (d := dN S dl) (B := B) (fun y => hB _) t'
        obtain ⟨A3, c3, e0, e1, e2, e3, hV⟩ := (TyA.next hab t' a hA).val
        obtain ⟨W1, hW1⟩ : ∃ W1, (w.alloc (Obj.cells #[.int .i64 S.ver, .slice A n c, .slice A2 m c2] 25)).alloc (Obj.cells #[.int .i64 5, .int .i64 s, .string (bs nm), .slice (some a) q c4] 45) = W1 := ⟨_, rfl⟩
        obtain ⟨r, hr⟩ : ∃ r, td S (dN S dl) t' = r := ⟨_, rfl⟩
        rw [hW1] at hab q0 q1 q2 q3 e0 e1 e2 e3 hV l2 R1
        have cX : ∀ W, Below W1.heap.size W1 W → Calls Tryz.prog 53 #[.agg #[.int .i64 S.ver, .slice A n c, .slice A2 m c2], .slice AD m cD, .agg #[.int .i64 t'.kind, .int .i64 t'.size, .string (bs t'.name), .slice A3 t'.elem.length c3]] W (Ib (.int .i64 (r : Int)) W) := fun W hW => by
          have := ih S dl B t' _ (.slice AD m cD) _ W hsz (by omega) (by rw [HM.out]; exact hS1000) hdl hB hB2 hlk' (hv0.next (Below.next hab hW)) (hd0.next (Below.next hab hW)) (hV.next hW)
          rw [hr] at this
          exact this
        rw [htd, hr]
        rw [hr] at hle
        have hr9 : r ≤ 100100 := by omega
        have lw : IntKind.i64.wrap (1 + (r : Int)) = (r : Int) + 1 := by rw [Int.add_comm]; exact IntWalk.i64_in _ (by omega)
        have hblk : a.block < W1.heap.size := blk_lt e0
        have d1 : decide ((0 : Int) < (q : Int)) = true := by rw [decide_eq_true_eq]; omega
        have HW1 := Lib.hid hW1
        clear hW1
        clear hle hr hV hA hR hv0 hd0 hDs hSs htd hlk' hlst hlk hdl hB ih
        go_enter Tryz.func53, Tryz.ntmps53
        go_upto_region 2 with (fail)
        rw [HW1.out]
        clear HW1
        refine wp_region_on (by kernel_rfl) (FF [(3, Fact.at_ W1 (.pointer (some ⟨w.heap.size, 0, none⟩))), (5, Fact.at_ W1 (.pointer (some ⟨w.heap.size + 1, 0, none⟩))), (1, Fact.at_ W1 (.slice AD m cD)), (17, Fact.at_ W1 (.agg #[.int .i64 S.ver, .slice A n c, .slice A2 m c2])), (18, Fact.at_ W1 (.slice AD m cD)), (19, Fact.at_ W1 (.pointer (some ⟨w.heap.size + 1, 3, none⟩))), (20, Fact.at_ W1 (.slice (some a) q c4)), (21, Fact.at_ W1 (.pointer (some a))), (22, Fact.at_ W1 (.agg #[.int .i64 t'.kind, .int .i64 t'.size, .string (bs t'.name), .slice A3 t'.elem.length c3])), (23, Fact.at_ W1 (.int .i64 (r : Int))), (24, Fact.at_ W1 (.int .i64 ((r + 1 : Nat) : Int))), (6, Fact.at_ W1 (.int .i64 ((r + 1 : Nat) : Int)))]) [3, 5, 1] 50 [17, 18, 19, 20, 21, 22, 23, 24, 6] rfl (by kernel_rfl) (by kernel_rfl) ?_ ?_ ?_
        · intro t9 ht9
          simp only [List.mem_cons, List.not_mem_nil, or_false] at ht9
          rcases ht9 with rfl | rfl | rfl
          · exact ⟨rfl, Below.refl _ _⟩
          · exact ⟨rfl, Below.refl _ _⟩
          · exact ⟨rfl, Below.refl _ _⟩
        · refine fcs ⟨at1 3 17 (.pointer (some ⟨w.heap.size, 0, none⟩)) (.agg #[.int .i64 S.ver, .slice A n c, .slice A2 m c2]) rfl (by first | exact .inl rfl | exact .inr ⟨_, _, _, rfl, rfl, by kernel_rfl, by decide, rfl⟩) (by kernel_rfl) rfl rfl (fun a9 W9 hb9 h9 => by have g0 := cell_next hb9 q0; have g1 := cell_next hb9 q1; have g2 := cell_next hb9 q2; simp [execOp, h9] <;> go_simp), ?_⟩
          refine fcs ⟨atcopy 1 18 (.slice AD m cD) (.inl rfl) rfl (by first | exact .inl rfl | exact .inr ⟨_, _, _, rfl, rfl, by kernel_rfl, by decide, rfl⟩) (by kernel_rfl) rfl rfl, ?_⟩
          refine fcs ⟨at1 5 19 (.pointer (some ⟨w.heap.size + 1, 0, none⟩)) (.pointer (some ⟨w.heap.size + 1, 3, none⟩)) rfl (by first | exact .inl rfl | exact .inr ⟨_, _, _, rfl, rfl, by kernel_rfl, by decide, rfl⟩) (by kernel_rfl) rfl rfl (fun a9 W9 hb9 h9 => by simp [execOp, h9] <;> go_simp), ?_⟩
          refine fcs ⟨at1 19 20 (.pointer (some ⟨w.heap.size + 1, 3, none⟩)) (.slice (some a) q c4) rfl (by first | exact .inl rfl | exact .inr ⟨_, _, _, rfl, rfl, by kernel_rfl, by decide, rfl⟩) (by kernel_rfl) rfl rfl (fun a9 W9 hb9 h9 => by have g3 := cell_next hb9 q3; simp [execOp, h9] <;> go_simp), ?_⟩
          refine fcs ⟨at1 20 21 (.slice (some a) q c4) (.pointer (some a)) rfl (by first | exact .inl rfl | exact .inr ⟨_, _, _, rfl, rfl, by kernel_rfl, by decide, rfl⟩) (by kernel_rfl) rfl rfl (fun a9 W9 hb9 h9 => by simp [execOp, h9] <;> go_simp), ?_⟩
          refine fcs ⟨at1 21 22 (.pointer (some a)) (.agg #[.int .i64 t'.kind, .int .i64 t'.size, .string (bs t'.name), .slice A3 t'.elem.length c3]) rfl (by first | exact .inl rfl | exact .inr ⟨_, _, _, rfl, rfl, by kernel_rfl, by decide, rfl⟩) (by kernel_rfl) rfl rfl (fun a9 W9 hb9 h9 => by have g0 := cell_next hb9 e0; have g1 := cell_next hb9 e1; have g2 := cell_next hb9 e2; have g3 := cell_next hb9 e3; simp [execOp, h9] <;> go_simp), ?_⟩
          refine fcs ⟨atc3 53 17 18 22 23 (.agg #[.int .i64 S.ver, .slice A n c, .slice A2 m c2]) (.slice AD m cD) (.agg #[.int .i64 t'.kind, .int .i64 t'.size, .string (bs t'.name), .slice A3 t'.elem.length c3]) (.int .i64 (r : Int)) _ rfl rfl (by first | exact .inl rfl | exact .inr ⟨_, _, _, rfl, rfl, by kernel_rfl, by decide, rfl⟩) (by kernel_rfl) (by kernel_rfl) (by kernel_rfl) rfl rfl rfl (by kernel_rfl) rfl (fun W9 hb9 => cX W9 hb9), ?_⟩
          refine fcs ⟨at1 23 24 (.int .i64 (r : Int)) (.int .i64 ((r + 1 : Nat) : Int)) rfl (by first | exact .inl rfl | exact .inr ⟨_, _, _, rfl, rfl, by kernel_rfl, by decide, rfl⟩) (by kernel_rfl) rfl rfl (fun a9 W9 hb9 h9 => by simp [execOp, h9] <;> go_simp), ?_⟩
          refine fcs ⟨atcopy 24 6 (.int .i64 ((r + 1 : Nat) : Int)) (.inr rfl) rfl (by first | exact .inl rfl | exact .inr ⟨_, _, _, rfl, rfl, by kernel_rfl, by decide, rfl⟩) (by kernel_rfl) rfl rfl, ?_⟩
          exact fnl
        intro vv wv hvv hbv
        have hv6 : vv 6 = (.int .i64 ((r + 1 : Nat) : Int)) := (hvv 6 (by decide)).1
        simp only [lay, List.foldl_cons, List.foldl_nil, List.setIfInBounds_toArray, List.set_cons_succ, List.set_cons_zero, hv6]
        have hb2 := Below.next hab hbv
        clear hvv cX
        go_wp2_with fail
        go_ret
        exact ⟨rfl, hb2⟩
    · have htd : td S (dN S dl) (.mk k s nm e) = if k = 6 then (if nm ∈ sns S then dN S dl nm else 0) else 0 := by
        by_cases hk : k = 5
        · subst hk
          have he : e = [] := Classical.byContradiction fun h => h5 ⟨rfl, h⟩
          subst he
          rw [td, if_pos rfl, if_neg (by decide)]
        · exact td_kind hk
      have d5 : k = 5 → ¬ (0 < q) := fun hk h0 => h5 ⟨hk, fun he => by rw [← hq, he] at h0; exact absurd h0 (by decide)⟩
      rw [htd]
      obtain ⟨r, hr⟩ : ∃ r, (if k = 6 then (if nm ∈ sns S then dN S dl nm else 0) else 0) = r := ⟨_, rfl⟩
      rw [hr]
      have HR := Lib.hid hr
      have HI0 : Hid (∀ j (hj : j < S.structs.length), j < 0 → (S.structs[j]'hj).name ≠ nm) := Lib.hid fun _ _ h => by omega
      have hDs2 : Hid (∀ i, i < m → ∃ a, AD = some a ∧ w.cell? (a.add i) = some (.int .i64 (dl.getD i 0 : Int))) := Lib.hid fun i hi => hDs i (by rw [HDL.out]; exact hi)
      have HQ0 := Lib.hid d5
      clear htd hr h5 hR hv0 hd0 hDs ih hlst hlk hdl hB hq HQ d5
      have key : ∀ (b1 b2 : Bool), ((k == 5) = b1) → (b1 = true → q = 0) → ((k == 6) = b2) → Calls Tryz.prog 53 #[.agg #[.int .i64 S.ver, .slice A n c, .slice A2 m c2], .slice AD m cD, .agg #[.int .i64 k, .int .i64 s, .string (bs nm), .slice A4 q c4]] w (Ib (.int .i64 (r : Int)) w) := by
        intro b1 b2 h1 hq1 h2
        have HB2 := Lib.hid h2
        go_enter Tryz.func53, Tryz.ntmps53
        cases b1
        · go_wp2_with fail
          clear h1 hq1
          go_loopw [7] (fun i wr => ∃ z : Nat, z ≤ m ∧ i = .int .i64 (z : Int) ∧ Hid (∀ j (hj : j < S.structs.length), j < z → k = 6 → (S.structs[j]'hj).name ≠ nm) ∧ Bx wr w.heap.size [.int .i64 S.ver, .slice A n c, .slice A2 m c2] ∧ Bx wr (w.heap.size + 1) [.int .i64 k, .int .i64 s, .string (bs nm), .slice A4 q c4] ∧ Below w.heap.size w wr) (fun i _ => m - (intOf i).toNat)
          case atStart => exact ⟨0, by omega, rfl, Lib.hid fun j hj h => by omega, R1, R2, hab⟩
          case round =>
            clear R1 R2 hab l2
            obtain ⟨z, hz, rfl, hI, R1, R2, hb⟩ := hrel
            have s2 := R1.c 2 rfl
            have t0 := R2.c 0 rfl
            have t2 := R2.c 2 rfl
            have l2 := R2.lt
            clear q0 q1 q2 q3
            by_cases hlt : z < m
            · have hzm : z < S.structs.length := by rw [HM.out]; exact hlt
              obtain ⟨a, rfl, hA⟩ := hSs.get hzm
              obtain ⟨a9, rfl, hD⟩ := hDs2.out z hlt
              have f0 := cell_next hb hA.1
              have f1 := cell_next hb hD
              have hblk : (a.add (z * 2)).block < wr.heap.size := blk_lt f0
              have hyes := fun h => before_succ (p := fun j => ∀ hj : j < S.structs.length, k = 6 → (S.structs[j]'hj).name ≠ nm) (k := z) (fun j hj hj2 => hI.out j hj2 hj) h
              have hat : k = 6 → (S.structs[z]'hzm).name = nm → r = dl.getD z 0 := fun h6 e => by
                obtain ⟨e1, e2⟩ := dN_at hzm e (fun j hj hjz => hI.out j hj hjz h6)
                rw [← HR.out, if_pos h6, if_pos e1, e2]
              generalize hyj : (S.structs[z]'hzm).name = y at *
              clear hA hD
              cases b2
              · have h6 : k ≠ 6 := by simpa using HB2.out
                have E := Lib.hid (show ∀ j (hj : j < S.structs.length), j < z + 1 → k = 6 → (S.structs[j]'hj).name ≠ nm from fun j _ _ h => absurd h h6)
                clear hyes hat hI hyj h6
                go_wp2_with fail
                go_quiet (fail)
                go_wp2_with fail
                go_roundw
                case rel => exact ⟨z + 1, by omega, by go_num, E, R1.next (below_drewN (Below.refl _ _) _), R2.next (below_drewN (Below.refl _ _) _), below_drewN hb _⟩
                case measure => simp [intOf]; omega
              · have h6 : k = 6 := by simpa using HB2.out
                by_cases e : y = nm
                · have E := Lib.hid (hat h6 e)
                  have g1 := sq_eq e
                  clear hyes hat hI hyj h6 e
                  go_wp2_with fail
                  go_quiet (fail)
                  go_wp2_with fail
                  go_ret
                  exact ⟨by rw [E.out]; rfl, below_drewN hb _⟩
                · have E := Lib.hid (show ∀ j (hj : j < S.structs.length), j < z + 1 → k = 6 → (S.structs[j]'hj).name ≠ nm from fun j hj hjk => hyes (fun hj _ => by rw [hyj]; exact e) j hjk hj)
                  have g1 := sq_f e
                  clear hyes hat hI hyj h6 e
                  go_wp2_with fail
                  go_quiet (fail)
                  go_wp2_with fail
                  go_roundw
                  case rel => exact ⟨z + 1, by omega, by go_num, E, R1.next (below_drewN (Below.refl _ _) _), R2.next (below_drewN (Below.refl _ _) _), below_drewN hb _⟩
                  case measure => simp [intOf]; omega
            · obtain rfl : z = m := by omega
              have E := Lib.hid (show r = 0 by
                rw [← HR.out]
                by_cases h6 : k = 6
                · rw [if_pos h6, if_neg (dN_not fun j hj => hI.out j hj (by rw [← HM.out]; exact hj) h6)]
                · rw [if_neg h6])
              clear hI
              go_wp2_with fail
              go_ret
              exact ⟨by rw [E.out]; rfl, hb⟩
        · have hq1 := hq1 rfl
          subst hq1
          go_wp2_with fail
          clear h1
          go_loopw [7] (fun i wr => ∃ z : Nat, z ≤ m ∧ i = .int .i64 (z : Int) ∧ Hid (∀ j (hj : j < S.structs.length), j < z → k = 6 → (S.structs[j]'hj).name ≠ nm) ∧ Bx wr w.heap.size [.int .i64 S.ver, .slice A n c, .slice A2 m c2] ∧ Bx wr (w.heap.size + 1) [.int .i64 k, .int .i64 s, .string (bs nm), .slice A4 0 c4] ∧ Below w.heap.size w wr) (fun i _ => m - (intOf i).toNat)
          case atStart => exact ⟨0, by omega, rfl, Lib.hid fun j hj h => by omega, R1, R2, hab⟩
          case round =>
            clear R1 R2 hab l2
            obtain ⟨z, hz, rfl, hI, R1, R2, hb⟩ := hrel
            have s2 := R1.c 2 rfl
            have t0 := R2.c 0 rfl
            have t2 := R2.c 2 rfl
            have l2 := R2.lt
            clear q0 q1 q2 q3
            by_cases hlt : z < m
            · have hzm : z < S.structs.length := by rw [HM.out]; exact hlt
              obtain ⟨a, rfl, hA⟩ := hSs.get hzm
              obtain ⟨a9, rfl, hD⟩ := hDs2.out z hlt
              have f0 := cell_next hb hA.1
              have f1 := cell_next hb hD
              have hblk : (a.add (z * 2)).block < wr.heap.size := blk_lt f0
              have hyes := fun h => before_succ (p := fun j => ∀ hj : j < S.structs.length, k = 6 → (S.structs[j]'hj).name ≠ nm) (k := z) (fun j hj hj2 => hI.out j hj2 hj) h
              have hat : k = 6 → (S.structs[z]'hzm).name = nm → r = dl.getD z 0 := fun h6 e => by
                obtain ⟨e1, e2⟩ := dN_at hzm e (fun j hj hjz => hI.out j hj hjz h6)
                rw [← HR.out, if_pos h6, if_pos e1, e2]
              generalize hyj : (S.structs[z]'hzm).name = y at *
              clear hA hD
              cases b2
              · have h6 : k ≠ 6 := by simpa using HB2.out
                have E := Lib.hid (show ∀ j (hj : j < S.structs.length), j < z + 1 → k = 6 → (S.structs[j]'hj).name ≠ nm from fun j _ _ h => absurd h h6)
                clear hyes hat hI hyj h6
                go_wp2_with fail
                go_quiet (fail)
                go_wp2_with fail
                go_roundw
                case rel => exact ⟨z + 1, by omega, by go_num, E, R1.next (below_drewN (Below.refl _ _) _), R2.next (below_drewN (Below.refl _ _) _), below_drewN hb _⟩
                case measure => simp [intOf]; omega
              · have h6 : k = 6 := by simpa using HB2.out
                by_cases e : y = nm
                · have E := Lib.hid (hat h6 e)
                  have g1 := sq_eq e
                  clear hyes hat hI hyj h6 e
                  go_wp2_with fail
                  go_quiet (fail)
                  go_wp2_with fail
                  go_ret
                  exact ⟨by rw [E.out]; rfl, below_drewN hb _⟩
                · have E := Lib.hid (show ∀ j (hj : j < S.structs.length), j < z + 1 → k = 6 → (S.structs[j]'hj).name ≠ nm from fun j hj hjk => hyes (fun hj _ => by rw [hyj]; exact e) j hjk hj)
                  have g1 := sq_f e
                  clear hyes hat hI hyj h6 e
                  go_wp2_with fail
                  go_quiet (fail)
                  go_wp2_with fail
                  go_roundw
                  case rel => exact ⟨z + 1, by omega, by go_num, E, R1.next (below_drewN (Below.refl _ _) _), R2.next (below_drewN (Below.refl _ _) _), below_drewN hb _⟩
                  case measure => simp [intOf]; omega
            · obtain rfl : z = m := by omega
              have E := Lib.hid (show r = 0 by
                rw [← HR.out]
                by_cases h6 : k = 6
                · rw [if_pos h6, if_neg (dN_not fun j hj => hI.out j hj (by rw [← HM.out]; exact hj) h6)]
                · rw [if_neg h6])
              clear hI
              go_wp2_with fail
              go_ret
              exact ⟨by rw [E.out]; rfl, hb⟩
      refine key _ _ rfl (fun h => ?_) rfl
      have := HQ0.out (by simpa using h)
      omega
end Go.Proofs.YthbhbpcjcnkkkaaGreatDoor
/-
  The reference's depths of structs, in rounds. No conditions beyond those that each names.
-/
namespace Go.Proofs.YthbhbpcjcnkkkaaGreatDoor
open Go.RowKit Go.Maps
def iv (dl : List Nat) : List Value := dl.map fun (n : Nat) => Value.int .i64 (n : Int)
theorem iv_at {dl : List Nat} {k : Nat} (h : k < dl.length) : (iv dl)[k]? = some (.int .i64 (dl.getD k 0 : Int)) := by
  unfold iv
  rw [List.getElem?_map, List.getElem?_eq_getElem h, List.getD_eq_getElem?_getD, List.getElem?_eq_getElem h]
  rfl
theorem Ds.of_bx {w : World} {g : Nat} {dl : List Nat} (h : Bx w g (iv dl)) (m c : Nat) (hm : dl.length = m) : Ds w dl (.slice (some ⟨g, 0, none⟩) m c) :=
  ⟨_, c, by rw [hm], fun k hk => ⟨_, rfl, by rw [Addr.add_lit, Nat.zero_add]; exact h.c k (iv_at hk)⟩⟩
theorem info3 : (Tryz.prog.info? 3).map (fun i => (i.zero, i.size, i.bytes)) = some (some (.int .i64 0), 1, 8) := by kernel_rfl
theorem make_ints (w : World) (m : Nat) (hm : m ≤ 1000) : ∃ W, (Instr.makeSlice 36 (.int .i64 (m : Int)) (.int .i64 (m : Int))).run Tryz.prog w = .ok (.slice (some ⟨w.heap.size, 0, none⟩) m m) W ∧ Bx W w.heap.size (iv (List.replicate m 0)) ∧ Below w.heap.size w W := by
  obtain ⟨i, hi, hz, hs, hb⟩ := info_parts info3
  have hr := run_make (P := Tryz.prog) w 36 3 i _ Tryz.underlying36 hi hz .i64 .i64 (m : Int) (m : Int) (by omega) (Int.le_refl _) (by rw [hb]; omega) (by omega)
  simp only [Int.toNat_natCast] at hr
  rw [hs, Nat.mul_one] at hr
  refine ⟨_, hr, ⟨by simp, fun j v e => ?_⟩, ab1 _ _⟩
  have hj : j < m := by
    have := (List.getElem?_eq_some_iff.1 e).1
    simpa [iv] using this
  have hv : v = .int .i64 0 := by
    rw [iv_at (by simpa using hj)] at e
    have e := Option.some.inj e
    rw [← e, List.getD_eq_getElem?_getD, List.getElem?_replicate, if_pos hj]
    rfl
  subst hv
  have hh := heap_alloc_new w (Obj.cells (madeCells (Value.int .i64 0).cells m) 3)
  refine ⟨?_, frozen_of_row _ _ j _ _ hh⟩
  rw [cell_of_row _ _ j _ _ (0, 0) hh]
  simp only [madeCells]
  rw [Array.getElem?_map, Array.getElem?_range, if_pos hj]
  simp [Value.cells, Nat.mod_one]
theorem fdep_take (S : Sch) (d : List UInt8 → Nat) {l : List Fd} {k : Nat} (h : k < l.length) : ((l.take (k + 1)).map fun f => td S d f.type).foldl max 0 = max (((l.take k).map fun f => td S d f.type).foldl max 0) (td S d (l[k]'h).type) := by
  rw [List.take_succ_eq_append_getElem h, List.map_append, List.map_singleton, foldl_max_snoc]
theorem getD_set_le {dl : List Nat} {B x i : Nat} (h : ∀ k, dl.getD k 0 ≤ B) (hx : x ≤ B) : ∀ k, (dl.set i x).getD k 0 ≤ B := by
  intro k
  rw [List.getD_eq_getElem?_getD, List.getElem?_set]
  split
  · split
    · exact hx
    · exact Nat.zero_le _
  · have := h k
    rw [List.getD_eq_getElem?_getD] at this
    exact this
theorem max_op {o : Oper} (s t : Nat) {ts : Array TypeId} (ho : o.op = .call { callee := .builtin .max, args := #[.tmp s, .tmp t], argTypes := ts }) {a : Act} {w : World} {x y : Int} (h1 : a.eval (.tmp s) = .int .i64 x) (h2 : a.eval (.tmp t) = .int .i64 y) :
    (execOp a.eval o).run Tryz.prog w = .ok (.value (.int .i64 (if x < y then y else x))) w := by
  unfold execOp
  have hr := run_max_int2 (P := Tryz.prog) (w := w) ts o.type .i64 .i64 x y
  simp only [ho, resolve, invoke, builtin, Sem.run_bind, Sem.run_pure, Result.andThen_ok, List.map_toArray, List.map_cons, List.map_nil, h1, h2, hr]
/-- What the rounds keep. -/
structure Dr (S : Sch) (m rd i s : Nat) (dl : List Nat) : Prop where
  len : dl.length = m
  rnd : Rd (rkI S) (GI S) rd dl i
  le : ∀ k, dl.getD k 0 ≤ 9 * s
  st : s ≤ 18 * rd + i
set_option maxRecDepth 100000 in
set_option maxHeartbeats 8000000 in
theorem refDepths_any (S : Sch) (hB : FewB S) (hnd : (sns S).Nodup) (hc : ¬ cyc S) (v : Value) (w : World) (hv : ScV w S v) :
    Calls Tryz.prog 44 #[v] w fun e w' => ∃ vd dl, e = .returned vd ∧ dl.length = S.structs.length ∧ (∀ k, k < S.structs.length → dl.getD k 0 = GI S k) ∧ Ds w' dl vd ∧ Below w.heap.size w w' := by
  have hv0 := hv
  obtain ⟨A, c, A2, c2, rfl, hS⟩ := hv
  have hSs := hS.st
  obtain ⟨n, hnn⟩ : ∃ n, S.enums.length = n := ⟨_, rfl⟩
  obtain ⟨m, hmm⟩ : ∃ m, S.structs.length = m := ⟨_, rfl⟩
  have HM := Lib.hid hmm
  have hm18 := hB.ns
  rw [hmm] at hm18
  have hGf := GI_fix hnd (dpt_of hnd hB hc)
  have hDn := nI_down hnd hc
  rw [hnn, hmm] at hv0 ⊢
  have hab := ab1 w (Obj.cells #[.int .i64 S.ver, .slice A n c, .slice A2 m c2] 25)
  have B1 := Bx.new3 w 25 (.int .i64 S.ver) (.slice A n c) (.slice A2 m c2)
  obtain ⟨W2, hmk, D1, hb1⟩ := make_ints (w.alloc (Obj.cells #[.int .i64 S.ver, .slice A n c, .slice A2 m c2] 25)) m (by omega)
  have hz : (w.alloc (Obj.cells #[.int .i64 S.ver, .slice A n c, .slice A2 m c2] 25)).heap.size = w.heap.size + 1 := by simp
  rw [hz] at D1 hmk
  have R1 := B1.next hb1
  have hb0 := Below.next hab hb1
  have H0 : Hid (Dr S m 0 0 0 (List.replicate m 0)) := Lib.hid ⟨by simp, Rd.start _ _ _, fun k => by rw [List.getD_eq_getElem?_getD, List.getElem?_replicate]; split <;> simp, by omega⟩
  have s2 := R1.c 2 rfl
  have l2 := R1.lt
  clear hnn hmm B1 hz hab hb1
  go_enter Tryz.func44, Tryz.ntmps44
  go_wp2_with fail
  clear hmk s2 l2
  go_loopw [4] (fun i_ wr => ∃ (rd s : Nat) (dl : List Nat), rd ≤ m + 1 ∧ i_ = .int .i64 (rd : Int) ∧ Hid (Dr S m rd 0 s dl) ∧ Bx wr (w.heap.size + 1) (iv dl) ∧ Bx wr w.heap.size [.int .i64 S.ver, .slice A n c, .slice A2 m c2] ∧ Below w.heap.size w wr) (fun i_ _ => m + 1 - (intOf i_).toNat)
  case atStart => exact ⟨0, 0, _, by omega, rfl, H0, D1, R1, hb0⟩
  case round =>
    clear H0 D1 R1 hb0
    obtain ⟨rd, s, dl, hrd, rfl, hI, D1, R1, hb⟩ := hrel
    have s2 := R1.c 2 rfl
    have l2 := R1.lt
    by_cases hlt : rd ≤ m
    · go_wp2_with fail
      clear s2 l2
      rename World => wo
      go_loopw [5] (fun i_ wr => ∃ (i s : Nat) (dl : List Nat), i ≤ m ∧ i_ = .int .i64 (i : Int) ∧ Hid (Dr S m rd i s dl) ∧ Bx wr (w.heap.size + 1) (iv dl) ∧ Bx wr w.heap.size [.int .i64 S.ver, .slice A n c, .slice A2 m c2] ∧ Below w.heap.size w wr) (fun i_ _ => m - (intOf i_).toNat)
      case atStart => exact ⟨0, s, dl, by omega, rfl, hI, D1, R1, hb⟩
      case round =>
        clear hI D1 R1 hb
        obtain ⟨i, s, dl, hi, rfl, hI, D1, R1, hb⟩ := hrel
        have s0 := R1.c 0 rfl
        have s1 := R1.c 1 rfl
        have s2 := R1.c 2 rfl
        have l2 := R1.lt
        by_cases him : i < m
        · have hik : i < S.structs.length := by rw [HM.out]; exact him
          obtain ⟨a2, rfl, hA⟩ := hSs.get hik
          obtain ⟨A4, c4, X0, X1, hV⟩ := hA.val
          obtain ⟨A4', c4', hve, hVf⟩ := hV
          obtain rfl : A4 = A4' := by simp at hve; exact hve.1
          have hstm := List.getElem_mem hik
          obtain ⟨-, hq18, hfs⟩ := hB.st _ hstm
          have HFI := Lib.hid (show FI S (fun k => dl.getD k 0) i = 1 + ((S.structs[i]'hik).fields.map fun f => td S (dN S dl) f.type).foldl max 0 by
            unfold FI fdep
            rw [List.getD_eq_getElem?_getD (l := S.structs), List.getElem?_eq_getElem hik]
            rfl)
          generalize S.structs[i]'hik = t at *
          obtain ⟨q, hqq⟩ : ∃ q, t.fields.length = q := ⟨_, rfl⟩
          have HQ := Lib.hid hqq
          rw [hqq] at X1 hq18
          have x0 := cell_next hb X0
          have x1 := cell_next hb X1
          have hblk : (a2.add (i * 2)).block < wr.heap.size := blk_lt x0
          have hms : s ≤ 400 := by have := hI.out.st; omega
          have K0 : Hid (0 = ((t.fields.take 0).map fun f => td S (dN S dl) f.type).foldl max 0) := Lib.hid rfl
          clear hve hA hqq
          go_wp2_with fail
          clear x0 x1 hblk s0 s1 s2 l2
          rename World => wq
          go_loopw [6, 7] (fun mv i_ wr => ∃ (k mo : Nat), k ≤ q ∧ i_ = .int .i64 (k : Int) ∧ mv = .int .i64 (mo : Int) ∧ mo ≤ 100000 ∧ Hid (mo = ((t.fields.take k).map fun f => td S (dN S dl) f.type).foldl max 0) ∧ Bx wr (w.heap.size + 1) (iv dl) ∧ Bx wr w.heap.size [.int .i64 S.ver, .slice A n c, .slice (some a2) m c2] ∧ Below w.heap.size w wr) (fun _ i_ _ => q - (intOf i_).toNat)
          case atStart => exact ⟨0, 0, by omega, rfl, rfl, by omega, K0, D1, R1, hb⟩
          case round =>
            clear K0 D1 R1 hb
            obtain ⟨k, mo, hk, rfl, rfl, hmo, hK, D1, R1, hb⟩ := hrel
            have s0 := R1.c 0 rfl
            have s1 := R1.c 1 rfl
            have s2 := R1.c 2 rfl
            have l2 := R1.lt
            have x0 := cell_next hb X0
            have x1 := cell_next hb X1
            have hblk : (a2.add (i * 2)).block < wr.heap.size := blk_lt x0
            by_cases hkq : k < q
            · have hkf : k < t.fields.length := by rw [HQ.out]; exact hkq
              obtain ⟨a4, rfl, hA4⟩ := hVf.get hkf
              obtain ⟨A5, c5, f0, f1, f2, f3, f4, f5, f6, -, hTy⟩ := (FdA.next hb hA4).val
              have hblk4 : (a4.add (k * 7)).block < wr.heap.size := blk_lt f0
              obtain ⟨-, -, hlk, hl8⟩ := hfs _ (List.getElem_mem hkf)
              have hnx := fdep_take S (dN S dl) hkf
              generalize t.fields[k]'hkf = f at *
              have hle := td_le S (d := dN S dl) (B := 9 * s) (fun y => hI.out.le _) f.type
              have cX := fun W (hW : Below wr.heap.size wr W) => refTypeDepth_any (SizeOf.sizeOf f.type + 1) S dl (9 * s) f.type _ (.slice (some ⟨w.heap.size + 1, 0, none⟩) m m) _ W (Nat.lt_succ_self _) (by omega) (by rw [HM.out]; omega) (hI.out.len.trans HM.out.symm) hI.out.le (by omega) hlk (hv0.next (Below.next hb hW)) (Ds.of_bx (D1.next hW) m m hI.out.len) (hTy.next hW)
              obtain ⟨r, hr⟩ : ∃ r, td S (dN S dl) f.type = r := ⟨_, rfl⟩
              rw [hr] at hle hnx
              simp only [hr] at cX
              have hr9 : r ≤ 4000 := by omega
              have HK : Hid (max mo r = ((t.fields.take (k + 1)).map fun f => td S (dN S dl) f.type).foldl max 0) := Lib.hid (by rw [hnx, ← hK.out])
              have hmx : (if (mo : Int) < (r : Int) then (r : Int) else (mo : Int)) = ((max mo r : Nat) : Int) := by split <;> omega
              have hmm2 : max mo r ≤ 100000 := by omega
              clear hA4 hTy hle hnx hK hr
              go_upto_region 12 with (fail)
              refine wp_region_seqN (by kernel_rfl) (FF [(1, Fact.at_ wr (.pointer (some ⟨w.heap.size, 0, none⟩))), (3, Fact.at_ wr (.slice (some ⟨w.heap.size + 1, 0, none⟩) m m)), (5, Fact.at_ wr (.int .i64 (i : Int))), (6, Fact.at_ wr (.int .i64 (mo : Int))), (7, Fact.at_ wr (.int .i64 (k : Int))), (37, Fact.at_ wr (.int .i64 (mo : Int))), (38, Fact.at_ wr (.agg #[.int .i64 S.ver, .slice A n c, .slice (some a2) m c2])), (39, Fact.at_ wr (.slice (some ⟨w.heap.size + 1, 0, none⟩) m m)), (40, Fact.at_ wr (.pointer (some ⟨w.heap.size, 2, none⟩))), (41, Fact.at_ wr (.slice (some a2) m c2)), (42, Fact.at_ wr (.int .i64 (i : Int))), (43, Fact.at_ wr (.pointer (some (a2.add (i * 2))))), (44, Fact.at_ wr (.pointer (some ⟨(a2.add (i * 2)).block, (a2.add (i * 2)).off + 1, none⟩))), (45, Fact.at_ wr (.slice (some a4) q c4)), (46, Fact.at_ wr (.int .i64 (k : Int))), (47, Fact.at_ wr (.pointer (some (a4.add (k * 7))))), (48, Fact.at_ wr (.pointer (some ⟨(a4.add (k * 7)).block, (a4.add (k * 7)).off + 2, none⟩))), (49, Fact.at_ wr (.agg #[.int .i64 f.type.kind, .int .i64 f.type.size, .string (bs f.type.name), .slice A5 f.type.elem.length c5])), (50, Fact.at_ wr (.int .i64 (r : Int))), (51, Fact.at_ wr (.int .i64 ((max mo r : Nat) : Int)))]) [1, 3, 5, 6, 7] [] 58 15 [37, 38, 39, 40, 41, 42, 43, 44, 45, 46, 47, 48, 49, 50, 51] rfl (by kernel_rfl) (by kernel_rfl) (by decide) (by kernel_rfl) (by kernel_rfl) ?_ ?_ ?_
              · intro t9 ht9
                simp only [List.mem_cons, List.not_mem_nil, or_false] at ht9
                rcases ht9 with rfl | rfl | rfl | rfl | rfl
                · exact ⟨rfl, Below.refl _ _⟩
                · exact ⟨rfl, Below.refl _ _⟩
                · exact ⟨rfl, Below.refl _ _⟩
                · exact ⟨rfl, Below.refl _ _⟩
                · exact ⟨rfl, Below.refl _ _⟩
              · refine fcs ⟨Ob.new_ (atcopy 6 37 (.int .i64 (mo : Int)) (.inl rfl) rfl (by first | exact .inl rfl | exact .inr ⟨_, _, _, rfl, rfl, by kernel_rfl, by decide, rfl⟩) (by kernel_rfl) rfl rfl) (by kernel_rfl), ?_⟩
                refine fcs ⟨Ob.new_ (at1 1 38 (.pointer (some ⟨w.heap.size, 0, none⟩)) (.agg #[.int .i64 S.ver, .slice A n c, .slice (some a2) m c2]) rfl (by first | exact .inl rfl | exact .inr ⟨_, _, _, rfl, rfl, by kernel_rfl, by decide, rfl⟩) (by kernel_rfl) rfl rfl (fun a9 W9 hb9 h9 => by have g0 := cell_next hb9 s0; have g1 := cell_next hb9 s1; have g2 := cell_next hb9 s2; simp [execOp, h9] <;> go_simp)) (by kernel_rfl), ?_⟩
                refine fcs ⟨Ob.new_ (atcopy 3 39 (.slice (some ⟨w.heap.size + 1, 0, none⟩) m m) (.inl rfl) rfl (by first | exact .inl rfl | exact .inr ⟨_, _, _, rfl, rfl, by kernel_rfl, by decide, rfl⟩) (by kernel_rfl) rfl rfl) (by kernel_rfl), ?_⟩
                refine fcs ⟨Ob.new_ (at1 1 40 (.pointer (some ⟨w.heap.size, 0, none⟩)) (.pointer (some ⟨w.heap.size, 2, none⟩)) rfl (by first | exact .inl rfl | exact .inr ⟨_, _, _, rfl, rfl, by kernel_rfl, by decide, rfl⟩) (by kernel_rfl) rfl rfl (fun a9 W9 hb9 h9 => by simp [execOp, h9] <;> go_simp)) (by kernel_rfl), ?_⟩
                refine fcs ⟨Ob.new_ (at1 40 41 (.pointer (some ⟨w.heap.size, 2, none⟩)) (.slice (some a2) m c2) rfl (by first | exact .inl rfl | exact .inr ⟨_, _, _, rfl, rfl, by kernel_rfl, by decide, rfl⟩) (by kernel_rfl) rfl rfl (fun a9 W9 hb9 h9 => by have g2 := cell_next hb9 s2; simp [execOp, h9] <;> go_simp)) (by kernel_rfl), ?_⟩
                refine fcs ⟨Ob.new_ (atcopy 5 42 (.int .i64 (i : Int)) (.inl rfl) rfl (by first | exact .inl rfl | exact .inr ⟨_, _, _, rfl, rfl, by kernel_rfl, by decide, rfl⟩) (by kernel_rfl) rfl rfl) (by kernel_rfl), ?_⟩
                refine fcs ⟨Ob.new_ (at2 41 42 43 (.slice (some a2) m c2) (.int .i64 (i : Int)) (.pointer (some (a2.add (i * 2)))) rfl (by first | exact .inl rfl | exact .inr ⟨_, _, _, rfl, rfl, by kernel_rfl, by decide, rfl⟩) (by kernel_rfl) (by kernel_rfl) rfl rfl rfl (fun a9 W9 hb9 h9 h8 => by simp [execOp, h9, h8] <;> go_simp)) (by kernel_rfl), ?_⟩
                refine fcs ⟨Ob.new_ (at1 43 44 (.pointer (some (a2.add (i * 2)))) (.pointer (some ⟨(a2.add (i * 2)).block, (a2.add (i * 2)).off + 1, none⟩)) rfl (by first | exact .inl rfl | exact .inr ⟨_, _, _, rfl, rfl, by kernel_rfl, by decide, rfl⟩) (by kernel_rfl) rfl rfl (fun a9 W9 hb9 h9 => by have g0 := cell_next hb9 x0; simp [execOp, h9] <;> go_simp)) (by kernel_rfl), ?_⟩
                refine fcs ⟨Ob.new_ (at1 44 45 (.pointer (some ⟨(a2.add (i * 2)).block, (a2.add (i * 2)).off + 1, none⟩)) (.slice (some a4) q c4) rfl (by first | exact .inl rfl | exact .inr ⟨_, _, _, rfl, rfl, by kernel_rfl, by decide, rfl⟩) (by kernel_rfl) rfl rfl (fun a9 W9 hb9 h9 => by have g1 := cell_next hb9 x1; simp [execOp, h9] <;> go_simp)) (by kernel_rfl), ?_⟩
                refine fcs ⟨Ob.new_ (atcopy 7 46 (.int .i64 (k : Int)) (.inl rfl) rfl (by first | exact .inl rfl | exact .inr ⟨_, _, _, rfl, rfl, by kernel_rfl, by decide, rfl⟩) (by kernel_rfl) rfl rfl) (by kernel_rfl), ?_⟩
                refine fcs ⟨Ob.new_ (at2 45 46 47 (.slice (some a4) q c4) (.int .i64 (k : Int)) (.pointer (some (a4.add (k * 7)))) rfl (by first | exact .inl rfl | exact .inr ⟨_, _, _, rfl, rfl, by kernel_rfl, by decide, rfl⟩) (by kernel_rfl) (by kernel_rfl) rfl rfl rfl (fun a9 W9 hb9 h9 h8 => by simp [execOp, h9, h8] <;> go_simp)) (by kernel_rfl), ?_⟩
                refine fcs ⟨Ob.new_ (at1 47 48 (.pointer (some (a4.add (k * 7)))) (.pointer (some ⟨(a4.add (k * 7)).block, (a4.add (k * 7)).off + 2, none⟩)) rfl (by first | exact .inl rfl | exact .inr ⟨_, _, _, rfl, rfl, by kernel_rfl, by decide, rfl⟩) (by kernel_rfl) rfl rfl (fun a9 W9 hb9 h9 => by have g0 := cell_next hb9 f0; simp [execOp, h9] <;> go_simp)) (by kernel_rfl), ?_⟩
                refine fcs ⟨Ob.new_ (at1 48 49 (.pointer (some ⟨(a4.add (k * 7)).block, (a4.add (k * 7)).off + 2, none⟩)) (.agg #[.int .i64 f.type.kind, .int .i64 f.type.size, .string (bs f.type.name), .slice A5 f.type.elem.length c5]) rfl (by first | exact .inl rfl | exact .inr ⟨_, _, _, rfl, rfl, by kernel_rfl, by decide, rfl⟩) (by kernel_rfl) rfl rfl (fun a9 W9 hb9 h9 => by have g2 := cell_next hb9 f2; have g3 := cell_next hb9 f3; have g4 := cell_next hb9 f4; have g5 := cell_next hb9 f5; simp [execOp, h9] <;> go_simp)) (by kernel_rfl), ?_⟩
                refine fcs ⟨Ob.new_ (atc3 53 38 39 49 50 (.agg #[.int .i64 S.ver, .slice A n c, .slice (some a2) m c2]) (.slice (some ⟨w.heap.size + 1, 0, none⟩) m m) (.agg #[.int .i64 f.type.kind, .int .i64 f.type.size, .string (bs f.type.name), .slice A5 f.type.elem.length c5]) (.int .i64 (r : Int)) _ rfl rfl (by first | exact .inl rfl | exact .inr ⟨_, _, _, rfl, rfl, by kernel_rfl, by decide, rfl⟩) (by kernel_rfl) (by kernel_rfl) (by kernel_rfl) rfl rfl rfl (by kernel_rfl) rfl (fun W9 hb9 => cX W9 hb9)) (by kernel_rfl), ?_⟩
                refine fcs ⟨Ob.new_ (at2 37 50 51 (.int .i64 (mo : Int)) (.int .i64 (r : Int)) (.int .i64 ((max mo r : Nat) : Int)) rfl (by first | exact .inl rfl | exact .inr ⟨_, _, _, rfl, rfl, by kernel_rfl, by decide, rfl⟩) (by kernel_rfl) (by kernel_rfl) rfl rfl rfl (fun a9 W9 hb9 h9 h8 => by rw [max_op 37 50 rfl h9 h8, hmx])) (by kernel_rfl), ?_⟩
                exact fnl
              intro vv wv hvv hbv _ _
              have hv51 : vv 51 = (.int .i64 ((max mo r : Nat) : Int)) := (hvv 51 (by decide)).1
              simp only [lay, List.foldl_cons, List.foldl_nil, List.setIfInBounds_toArray, List.set_cons_succ, List.set_cons_zero, hv51, List.drop_succ_cons, List.drop_zero]
              have hb2 := Below.next hb hbv
              have D2 := D1.next hbv
              have R2 := R1.next hbv
              clear hvv cX D1 R1 s0 s1 s2 x0 x1 f0 f1 f2 f3 f4 f5 f6
              go_wp2_with fail
              go_roundw
              case rel => exact ⟨k + 1, max mo r, by omega, by go_num, rfl, hmm2, HK, D2, R2, hb2⟩
              case measure => simp [intOf]; omega
            · obtain rfl : k = q := by omega
              have HX : Hid (1 + mo = FI S (fun k => dl.getD k 0) i) := Lib.hid (by
                have h1 := hK.out
                rw [List.take_of_length_le (by rw [HQ.out]; exact Nat.le_refl _)] at h1
                rw [HFI.out, ← h1])
              have hmo9 : mo ≤ 9 * s + 8 := by
                rw [hK.out, foldl_max_le]
                refine ⟨by omega, fun x hx => ?_⟩
                obtain ⟨f, hf, rfl⟩ := List.mem_map.1 hx
                have := td_le S (d := dN S dl) (B := 9 * s) (fun y => hI.out.le _) f.type
                have h8 := (hfs f (List.mem_of_mem_take hf)).2.2.2
                omega
              have hil : i < dl.length := by rw [hI.out.len]; exact him
              have HN : Hid (Dr S m rd (i + 1) (s + 1) (dl.set i (1 + mo))) := Lib.hid ⟨by rw [List.length_set]; exact hI.out.len, by rw [HX.out]; exact Rd.step hDn (FI_near S) hGf hil (fun y hy => by have := nI_lt hy; rw [hI.out.len]; rw [HM.out] at this; exact this) hI.out.rnd, getD_set_le (fun k => by have := hI.out.le k; omega) (by omega), by have := hI.out.st; omega⟩
              have g0 := D1.c i (iv_at hil)
              have g1 := D1.f i (iv_at hil)
              have lD := D1.lt
              have D2 := D1.put1 i (.int .i64 ((1 + mo : Nat) : Int))
              have hset : (iv dl).set i (.int .i64 ((1 + mo : Nat) : Int)) = iv (dl.set i (1 + mo)) := by unfold iv; rw [List.map_set]
              rw [hset] at D2
              have R2 := R1.kept (gb_set1 wr ⟨w.heap.size + 1, i, none⟩ (.int .i64 ((1 + mo : Nat) : Int))) (by show w.heap.size ≠ w.heap.size + 1; omega)
              have hb2 := hb.setCell (p := ⟨w.heap.size + 1, i, none⟩) (by show w.heap.size ≤ w.heap.size + 1; omega) (.int .i64 ((1 + mo : Nat) : Int))
              have hmo2 : mo ≤ 4000 := by omega
              clear hI HX hset hK hmo9 hmo
              go_wp2_with fail
              go_roundw
              case rel => exact ⟨i + 1, s + 1, _, by omega, by go_num, HN, D2, R2, hb2⟩
              case measure => simp [intOf]; omega
        · obtain rfl : i = m := by omega
          have HN : Hid (Dr S i (rd + 1) 0 s dl) := Lib.hid ⟨hI.out.len, by have := hI.out.rnd; rw [← hI.out.len] at this; exact this.next, hI.out.le, by have := hI.out.st; omega⟩
          clear hI
          go_wp2_with fail
          go_roundw
          case rel => exact ⟨rd + 1, s, dl, by omega, by go_num, HN, D1, R1, hb⟩
          case measure => simp [intOf]; omega
    · obtain rfl : rd = m + 1 := by omega
      have hl := hI.out.len
      have E : ∀ k, k < m → dl.getD k 0 = GI S k := fun k hk => hI.out.rnd.lo k (by rw [hl]; exact hk) (by have := rkI_lt S k; rw [HM.out] at this; exact this)
      have HDs := Ds.of_bx D1 m m hl
      clear hI
      go_wp2_with fail
      go_ret
      exact ⟨_, dl, rfl, hl, E, HDs, hb⟩
end Go.Proofs.YthbhbpcjcnkkkaaGreatDoor
/-
  The reference's valid types: lists, and all kinds. No conditions beyond those that each names.
-/
namespace Go.Proofs.YthbhbpcjcnkkkaaGreatDoor
open Go.RowKit
set_option maxRecDepth 100000 in
set_option maxHeartbeats 4000000 in
theorem right0_any (S : Sch) (k s : Int) (n : List UInt8) (e : List Ty) (v u : Value) (w : World) (hS : ScV w S v) (hT : TyV w (.mk k s n e) u) (h1 : k ≠ 1) (h2 : k ≠ 2) (h3 : k ≠ 3) (h4 : k ≠ 4) (h5 : k ≠ 5) (h6 : k ≠ 6) (h7 : k ≠ 7) :
    Calls Tryz.prog 68 #[v, u] w (Ib (.bool (right S (.mk k s n e))) w) := by
  obtain ⟨A, c, A2, c2, rfl, -⟩ := hS
  obtain ⟨A3, c3, rfl, -⟩ := TyV.mk_.1 hT
  have hr : right S (.mk k s n e) = false := by rw [right_eq]; simp [szOk, h1, h2, h3, h4, h5, h6, h7]
  rw [hr]
  have d1 : (k == 1) = false := by simpa using h1
  have d2 : (k == 2) = false := by simpa using h2
  have d3 : (k == 3) = false := by simpa using h3
  have d4 : (k == 4) = false := by simpa using h4
  have d5 : (k == 5) = false := by simpa using h5
  have d6 : (k == 6) = false := by simpa using h6
  have d7 : (k == 7) = false := by simpa using h7
  clear hr h1 h2 h3 h4 h5 h6 h7
  go_enter Tryz.func68, Tryz.ntmps68
  go_wp2_with fail
  go_ret
  exact ⟨rfl, ab2 _ _ _⟩
theorem rights_lenJ (S : Sch) (e : List Ty) (h : e.length ≠ 1) : rights S e = false := by
  match e, h with
  | [], _ => rw [rights]
  | [_], h => exact absurd rfl h
  | a :: b :: r, _ => rw [rights]; simp
set_option maxRecDepth 100000 in
set_option maxHeartbeats 4000000 in
theorem right5f_any (S : Sch) (s : Int) (n : List UInt8) (e : List Ty) (v u : Value) (w : World) (hS : ScV w S v) (hT : TyV w (.mk 5 s n e) u) (h : ¬ (1 ≤ s ∧ s ≤ 32 ∧ n = [] ∧ e.length = 1)) :
    Calls Tryz.prog 68 #[v, u] w (Ib (.bool (right S (.mk 5 s n e))) w) := by
  obtain ⟨A, c, A2, c2, rfl, -⟩ := hS
  obtain ⟨A3, c3, rfl, -⟩ := TyV.mk_.1 hT
  have hr : right S (.mk 5 s n e) = false := by
    rw [right_eq, if_pos rfl]
    rw [Bool.eq_false_iff]
    intro hh
    simp only [Bool.and_eq_true, decide_eq_true_eq, szOk] at hh
    simp at hh
    refine h ⟨hh.1.1, hh.1.2, hh.2.1, ?_⟩
    by_cases hl : e.length = 1
    · exact hl
    · rw [rights_lenJ S e hl] at hh
      exact absurd hh.2.2 (by decide)
  rw [hr]
  clear hr
  have hB1 := (Bx.new3 w 25 (.int .i64 S.ver) (.slice A S.enums.length c) (.slice A2 S.structs.length c2)).next (ab1 _ (Obj.cells #[.int .i64 5, .int .i64 s, .string (bs n), .slice A3 e.length c3] 45))
  have hB2 := Bx.new4 (w.alloc (Obj.cells #[.int .i64 S.ver, .slice A S.enums.length c, .slice A2 S.structs.length c2] 25)) 45 (.int .i64 5) (.int .i64 s) (.string (bs n)) (.slice A3 e.length c3)
  have hz1 : (w.alloc (Obj.cells #[.int .i64 S.ver, .slice A S.enums.length c, .slice A2 S.structs.length c2] 25)).heap.size = w.heap.size + 1 := by simp
  rw [hz1] at hB2
  have k1 := fun d os => cell_regrown (hB2.c 1 rfl) d os
  have k2 := fun d os => cell_regrown (hB2.c 2 rfl) d os
  have k3 := fun d os => cell_regrown (hB2.c 3 rfl) d os
  clear hB1 hB2 hz1 hT
  generalize e.length = m at *
  by_cases h1 : 1 ≤ s
  · have d1 : decide (1 ≤ s) = true := decide_eq_true h1
    by_cases h2 : s ≤ 32
    · have d2 : decide (s ≤ 32) = true := decide_eq_true h2
      by_cases h3 : n = []
      · subst h3
        have q0 : (bs ([] : List UInt8)).toList = [] := toList_bs []
        have q1 : ((bs ([] : List UInt8)).toList == []) = true := by rw [toList_bs]; rfl
        have d4 : ((m : Int) == 1) = false := by
          rw [beq_eq_false_iff_ne]
          intro hm
          exact h ⟨h1, h2, rfl, by omega⟩
        clear h
        go_enter Tryz.func68, Tryz.ntmps68
        go_wp2_with fail
        refine wp_region_quiet_below (by kernel_rfl) (by kernel_rfl) ?_
        repeat (quiet_step (fail))
        refine wpQuiet_nil ?_
        intro _ hw'
        obtain ⟨⟨dq, osq⟩, hw''⟩ := hw'
        subst hw''
        go_wp2_with fail
        go_ret
        exact ⟨rfl, Below.next (ab2 _ _ _) (below_regrown _ _ _)⟩
      · have q0 : ¬ (bs n).toList = [] := by rw [toList_bs]; exact h3
        have q1 : ((bs n).toList == []) = false := by rw [toList_bs]; simpa using h3
        clear h3 h
        go_enter Tryz.func68, Tryz.ntmps68
        go_wp2_with fail
        refine wp_region_quiet_below (by kernel_rfl) (by kernel_rfl) ?_
        repeat (quiet_step (fail))
        refine wpQuiet_nil ?_
        intro _ hw'
        obtain ⟨⟨dq, osq⟩, hw''⟩ := hw'
        subst hw''
        go_wp2_with fail
        go_ret
        exact ⟨rfl, Below.next (ab2 _ _ _) (below_regrown _ _ _)⟩
    · have d2 : decide (s ≤ 32) = false := decide_eq_false h2
      clear h2 h
      go_enter Tryz.func68, Tryz.ntmps68
      go_wp2_with fail
      refine wp_region_quiet_below (by kernel_rfl) (by kernel_rfl) ?_
      repeat (quiet_step (fail))
      refine wpQuiet_nil ?_
      intro _ hw'
      obtain ⟨⟨dq, osq⟩, hw''⟩ := hw'
      subst hw''
      go_wp2_with fail
      go_ret
      exact ⟨rfl, Below.next (ab2 _ _ _) (below_regrown _ _ _)⟩
  · have d1 : decide (1 ≤ s) = false := decide_eq_false h1
    clear h1 h
    go_enter Tryz.func68, Tryz.ntmps68
    go_wp2_with fail
    refine wp_region_quiet_below (by kernel_rfl) (by kernel_rfl) ?_
    repeat (quiet_step (fail))
    refine wpQuiet_nil ?_
    intro _ hw'
    obtain ⟨⟨dq, osq⟩, hw''⟩ := hw'
    subst hw''
    go_wp2_with fail
    go_ret
    exact ⟨rfl, Below.next (ab2 _ _ _) (below_regrown _ _ _)⟩
end Go.Proofs.YthbhbpcjcnkkkaaGreatDoor
/-
  The reference's valid types: all kinds. No conditions beyond those that each names.
-/
namespace Go.Proofs.YthbhbpcjcnkkkaaGreatDoor
open Go.RowKit Go.Sort
set_option maxRecDepth 100000 in
set_option maxHeartbeats 4000000 in
theorem refRight_any (N : Nat) : ∀ (S : Sch) (t : Ty) (v u : Value) (w : World), SizeOf.sizeOf t < N → S.structs.length ≤ 1000 → S.enums.length ≤ 1000 → lok t → ScV w S v → TyV w t u →
    Calls Tryz.prog 68 #[v, u] w (Ib (.bool (right S t)) w) := by
  induction N with
  | zero => intro S t v u w h; omega
  | succ N ih =>
    intro S t v u w hN hs he hlk hS hT
    have hlen := lok_len hlk
    obtain ⟨k, s, n, e⟩ := t
    have hlen : e.length ≤ 9223372036854775807 := hlen
    by_cases g1 : k = 1
    · subst g1; exact right1_any S s n e v u w hS hT hlen
    by_cases g2 : k = 2
    · subst g2; exact right2_any S s n e v u w hS hT hlen
    by_cases g3 : k = 3
    · subst g3; exact right3_any S s n e v u w hS hT hlen
    by_cases g4 : k = 4
    · subst g4; exact right4_any S s n e v u w hS hT hlen
    by_cases g6 : k = 6
    · subst g6; exact right6_any S s n e v u w hs hS hT hlen
    by_cases g7 : k = 7
    · subst g7; exact right7_any S s n e v u w he hS hT hlen
    by_cases g5 : k = 5
    · subst g5
      by_cases h : 1 ≤ s ∧ s ≤ 32 ∧ n = [] ∧ e.length = 1
      · obtain ⟨h1, h2, rfl, h4⟩ := h
        obtain ⟨t, rfl⟩ : ∃ t, e = [t] := by
          match e, h4 with
          | [t], _ => exact ⟨t, rfl⟩
        have hr : right S (.mk 5 s [] [t]) = right S t := by
          rw [right_eq, if_pos rfl, rights]
          simp [szOk, h1, h2]
        rw [hr]
        have hSv := hS
        obtain ⟨A, c, A2, c2, rfl, -⟩ := hS
        obtain ⟨A3, c3, rfl, hR⟩ := TyV.mk_.1 hT
        obtain ⟨a, rfl, hA⟩ := hR.get (i := 0) (by show 0 < 1; omega)
        rw [Nat.zero_mul] at hA
        have hA : TyA w t a := hA
        obtain ⟨A4, c4, e0, e1, e2, e3, hV⟩ := hA.val
        have hblk : a.block < w.heap.size := blk_lt e0
        have cR := fun W h => ih S t _ _ W (by have h8 := Ty.mk.sizeOf_spec 5 s [] [t]; have h9 := List.cons.sizeOf_spec t []; omega) hs he (lok_get (t := .mk 5 s [] [t]) hlk (i := 0) (by show 0 < 1; omega)) (ScV.next h hSv) (TyV.next h hV)
        have hB1 := (Bx.new3 w 25 (.int .i64 S.ver) (.slice A S.enums.length c) (.slice A2 S.structs.length c2)).next (ab1 _ (Obj.cells #[.int .i64 5, .int .i64 s, .string (bs []), .slice (some a) 1 c3] 45))
        have hB2 := Bx.new4 (w.alloc (Obj.cells #[.int .i64 S.ver, .slice A S.enums.length c, .slice A2 S.structs.length c2] 25)) 45 (.int .i64 5) (.int .i64 s) (.string (bs [])) (.slice (some a) 1 c3)
        have hz1 : (w.alloc (Obj.cells #[.int .i64 S.ver, .slice A S.enums.length c, .slice A2 S.structs.length c2] 25)).heap.size = w.heap.size + 1 := by simp
        rw [hz1] at hB2
        have hab := ab2 w (Obj.cells #[.int .i64 S.ver, .slice A S.enums.length c, .slice A2 S.structs.length c2] 25) (Obj.cells #[.int .i64 5, .int .i64 s, .string (bs []), .slice (some a) 1 c3] 45)
        have j0 := fun d os => cell_regrown (hB1.c 0 rfl) d os
        have j1 := fun d os => cell_regrown (hB1.c 1 rfl) d os
        have j2 := fun d os => cell_regrown (hB1.c 2 rfl) d os
        have k1 := fun d os => cell_regrown (hB2.c 1 rfl) d os
        have k2 := fun d os => cell_regrown (hB2.c 2 rfl) d os
        have k3 := fun d os => cell_regrown (hB2.c 3 rfl) d os
        have i0 := fun d os => cell_regrown (cell_next hab e0) d os
        have i1 := fun d os => cell_regrown (cell_next hab e1) d os
        have i2 := fun d os => cell_regrown (cell_next hab e2) d os
        have i3 := fun d os => cell_regrown (cell_next hab e3) d os
        have d1 : decide (1 ≤ s) = true := decide_eq_true h1
        have d2 : decide (s ≤ 32) = true := decide_eq_true h2
        have q0 : (bs ([] : List UInt8)).toList = [] := toList_bs []
        have q1 : ((bs ([] : List UInt8)).toList == []) = true := by rw [toList_bs]; rfl
        have cN := fun d os => Calls.regrown_of (cR (grow (redrawn ((w.alloc (Obj.cells #[.int .i64 S.ver, .slice A S.enums.length c, .slice A2 S.structs.length c2] 25)).alloc (Obj.cells #[.int .i64 5, .int .i64 s, .string (bs []), .slice (some a) 1 c3] 45)) d) os) (Below.next hab (below_regrown _ d os)))
        clear hB1 hB2 hz1 hT hr hR hV hA cR hSv hlk hab e0 e1 e2 e3 h1 h2
        generalize right S t = r at *
        go_enter Tryz.func68, Tryz.ntmps68
        go_wp2_with fail
        refine wp_region_quiet_below (by kernel_rfl) (by kernel_rfl) ?_
        repeat (quiet_step (exact cN _ _))
        refine wpQuiet_nil ?_
        intro _ hw'
        obtain ⟨⟨dq, osq⟩, hw''⟩ := hw'
        subst hw''
        go_wp2_with fail
        go_ret
        exact ⟨rfl, Below.next (ab2 _ _ _) (below_regrown _ _ _)⟩
      · exact right5f_any S s n e v u w hS hT h
    exact right0_any S k s n e v u w hS hT g1 g2 g3 g4 g5 g6 g7
end Go.Proofs.YthbhbpcjcnkkkaaGreatDoor

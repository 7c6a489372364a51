import Derived.Test.YtndidbanbklonaaBb
/-
  slices.Insert of one number anywhere in a row of one's own. No conditions beyond those that each names.
-/
namespace Go.Proofs.Ytndidbanbklonaa
open Go.RowKit Go.Shelf Go.Lib
/-- What an insertion leaves. -/
def InP (l : List Int) (v : Value) (w : World) (e : Ending) (w' : World) : Prop := ∃ v', e = .returned v' ∧ Ro w' v' l ∧ w.grownBy w' v.ownBlock ∧ NB w v v'
theorem ap_off {α : Type} {P L X : List α} {o k m : Nat} (hP : P.length = o) : (P ++ L).take (o + k) ++ X ++ (P ++ L).drop (o + k + m) = P ++ (L.take k ++ X ++ L.drop (k + m)) := by
  subst hP
  rw [List.take_append, List.take_of_length_le (by omega), Nat.add_sub_cancel_left, Nat.add_assoc, List.drop_append, List.drop_eq_nil_of_le (by omega), Nat.add_sub_cancel_left, List.nil_append]
  simp only [List.append_assoc]
set_option maxRecDepth 100000 in
set_option maxHeartbeats 4000000 in
theorem insEnd_any (A : Option Addr) (n d : Nat) (l : List Int) (x : Int) (g c : Nat) (w : World) (hn : n ≤ 2000000) (hnl : n = l.length) (ho : Ro w (.slice A n d) l) (hg : w.cell? ⟨g, 0, none⟩ = some (.int .i64 x)) :
    Calls Try.prog 46 #[.slice A n d, .int .i64 (n : Int), .slice (some ⟨g, 0, none⟩) 1 c] w (InP (l ++ [x]) (.slice A n d) w) := by
  have AP : ∀ (ops : Array Oper) (rest : List Oper) (o : Oper) (a : Act) (Q : Exit → Act → World → Prop), o.guard = none → ∀ (t u : Operand), o.op = .call { callee := .builtin .append, args := #[t, u], argTypes := #[54, 54] } → a.eval t = .slice A n d → a.eval u = .slice (some ⟨g, 0, none⟩) 1 c → (∀ v' w', Ro w' v' (l ++ [x]) → w.grownBy w' (Value.slice A n d).ownBlock → NB w (.slice A n d) v' → wpList Try.prog ops Q rest (a.put o.dst v') w') → wpList Try.prog ops Q (o :: rest) a w := fun ops rest o a Q hgd t u hop ht hu hk => by
    refine wpList_plain hgd fun K hK => ?_
    obtain ⟨v', w', hr, h2, h3, h4⟩ := ro_append w o.type A n d l x ⟨g, 0, none⟩ c ho hg hn
    unfold Oper.wp execOp
    simp only [hop, resolve, invoke, builtin, Sem.run_bind, Sem.run_pure, Result.andThen_ok, List.map_toArray, List.map_cons, List.map_nil, ht, hu, hr]
    exact hK _ _ (hk v' w' h2 h3 h4)
  have hnd : n ≤ d := by
    obtain ⟨A', c', e, hc, ⟨rfl, rfl⟩ | ⟨g, o, cur, rfl, h1, h2, h3, h4, h5⟩⟩ := ho
    · rw [hnl]; exact Nat.zero_le _
    · injection e with e1 e2 e3; omega
  clear ho hg hnl
  by_cases hd : d = n
  · subst hd
    go_enter Try.func46, Try.ntmps46
    go_wp2_with (at_builtin; refine AP _ _ _ _ _ rfl _ _ rfl rfl rfl ?_)
    intro v' w1 hown hgr hnb
    go_wp2
    go_ret
    exact ⟨v', rfl, hown, hgr, hnb⟩
  · go_enter Try.func46, Try.ntmps46
    go_wp2_with (at_builtin; refine AP _ _ _ _ _ rfl _ _ rfl rfl rfl ?_)
    intro v' w1 hown hgr hnb
    go_wp2
    go_ret
    exact ⟨v', rfl, hown, hgr, hnb⟩
set_option maxRecDepth 100000 in
set_option maxHeartbeats 8000000 in
theorem insRoom_any (b o n d i : Nat) (l : List Int) (x : Int) (g c : Nat) (w : World) (hn : n ≤ 2000000) (hi : i < n) (hnl : n = l.length) (hd : n + 1 ≤ d) (ho : Ro w (.slice (some ⟨b, o, none⟩) n d) l)
    (hg : w.heap[g]? = some (.cells #[.int .i64 x] 3 (0, 0))) (hgb : g ≠ b) :
    Calls Try.prog 46 #[.slice (some ⟨b, o, none⟩) n d, .int .i64 (i : Int), .slice (some ⟨g, 0, none⟩) 1 c] w (InP (l.take i ++ x :: l.drop i) (.slice (some ⟨b, o, none⟩) n d) w) := by
  obtain ⟨A', c', e, hcm, ⟨-, rfl⟩ | ⟨b', o', cur, rfl, hcur, hnc, h03, hcs, htk⟩⟩ := ho
  · simp at hnl; omega
  injection e with e1 e2 e3
  injection e1 with e1
  injection e1 with e1 e4
  subst e1 e4 e3
  rw [← hnl] at htk hnc
  obtain ⟨xs, hxs⟩ : ∃ xs, tc i1 l = xs := ⟨_, rfl⟩
  have HXS := Lib.hid hxs
  have hx1 : ∀ u ∈ xs, u.oneCell' = true := by rw [← hxs]; exact tc_one' i1_one l
  have hxl : xs.length = n := by rw [← hxs, tl_len, hnl]
  rw [hxs] at htk
  have HNL := Lib.hid hnl
  clear hxs hnl e2
  have hcm9 : d ≤ 9223372036854775807 := by unfold maxLen at hcm; omega
  have hov : ∀ lb cb, (callFunc 52 #[.slice (some ⟨g, 0, none⟩) 1 c, .slice (some ⟨b, o + (i + 1), none⟩) lb cb]).run Try.prog w = .ok (.value (.bool false)) w := fun lb cb => by
    rw [run_callFunc_extern Try.func52 (by kernel_rfl) (by kernel_rfl) (by kernel_rfl) (e := Extern.SlicesOverlaps.overlaps #[54, 54] #[4]) (by kernel_rfl),
      Lib.run_overlaps_apart w 54 4 3 Try.underlying54 1 Try.sizeOf3 ⟨g, 0, none⟩ ⟨b, o + (i + 1), none⟩ 1 c lb cb hgb _ _ _ _ (shape_lit hg) (shape_lit hcur) (by rw [hcs]; omega) (frozen_lit hg) (frozen_lit hg)]
    rfl
  obtain ⟨i0, hi0, hz, hs6, hby⟩ := info_parts infoI
  have hsz : (Try.prog.info? 3).map (·.size) = some 1 := by rw [hi0]; simp [hs6]
  obtain ⟨P, hP⟩ : ∃ P, cur.toList.take o = P := ⟨_, rfl⟩
  obtain ⟨L, hL⟩ : ∃ L, cur.toList.drop o = L := ⟨_, rfl⟩
  have hPL : cur.toList = P ++ L := by rw [← hP, ← hL, List.take_append_drop]
  have hPl : P.length = o := by rw [← hP, List.length_take, Array.length_toList]; omega
  have hLl : L.length = d := by rw [← hL, List.length_drop, Array.length_toList]; omega
  rw [hL] at htk
  obtain ⟨R, hR, hRl, hRr⟩ := splice2 (X := [Value.int .i64 x]) (xs := xs) (z := 1) (hLl.trans (Nat.mul_one d).symm) (by rw [Nat.mul_one]; exact htk) hi hd rfl
  simp only [Nat.mul_one] at hR hRl hRr
  have hdl : (xs.drop i).length = n - i := by rw [List.length_drop, hxl]
  obtain ⟨N1, hN1⟩ : ∃ N1, L.take (i + 1) ++ xs.drop i ++ L.drop (i + 1 + (xs.drop i).length) = N1 := ⟨_, rfl⟩
  have hcp1 : ∀ (W : World) ty dc sc, W.heap[b]? = some (.cells cur 3 (0, 0)) → (Builtin.copy_ #[54, 54] ty #[.slice (some ⟨b, o + (i + 1), none⟩) (n - i) dc, .slice (some ⟨b, o + i, none⟩) (n + 1 - i) sc]).run Try.prog W = .ok (goInt (Nat.min (n + 1 - i) (n - i))) (W.setRow b (P ++ N1).toArray) := fun W ty dc sc hW => by
    have h := run_copy_rowN W 54 54 ty 3 1 b (o + (i + 1)) (n - i) dc ⟨b, o + i, none⟩ (n + 1 - i) sc cur 3 (xs.drop i) Try.underlying54 hsz hW (by rw [hdl]; show _ = min _ _ * 1; rw [Nat.min_eq_right (by omega), Nat.mul_one])
      (fun j v hj => by
        rw [Addr.add_lit, cell_lit hW, ← Array.getElem?_toList, hPL, Nat.add_assoc, ← hPl, List.getElem?_append_right (by omega), Nat.add_sub_cancel_left]
        rw [List.getElem?_drop, ← htk] at hj
        exact take_get hj) (by rw [hdl, hcs]; omega) (fun v hv => hx1 v (List.mem_of_mem_drop hv))
    rw [hPL, ap_off hPl, hN1] at h
    exact h
  rw [hN1] at hR
  have hN1l : N1.length = d := by rw [← hN1, List.length_append, List.length_append, List.length_take, hdl, List.length_drop, hLl]; omega
  have hcp2 : ∀ (W : World) ty dc, W.heap[b]? = some (.cells (P ++ N1).toArray 3 (0, 0)) → W.heap[g]? = some (.cells #[.int .i64 x] 3 (0, 0)) → (Builtin.copy_ #[54, 54] ty #[.slice (some ⟨b, o + i, none⟩) (n + 1 - i) dc, .slice (some ⟨g, 0, none⟩) 1 c]).run Try.prog W = .ok (goInt (Nat.min 1 (n + 1 - i))) (W.setRow b (P ++ (xs.take i ++ [Value.int .i64 x] ++ xs.drop i ++ R)).toArray) := fun W ty dc hW hW2 => by
    have h := run_copy_rowN W 54 54 ty 3 1 b (o + i) (n + 1 - i) dc ⟨g, 0, none⟩ 1 c (P ++ N1).toArray 3 [Value.int .i64 x] Try.underlying54 hsz hW (by show 1 = min _ _ * 1; rw [Nat.min_eq_left (by omega)])
      (fun j v hj => by
        rw [Addr.add_lit, cell_lit hW2, Nat.zero_add, List.getElem?_toArray]
        exact hj) (by show _ + 1 ≤ (P ++ N1).toArray.size; rw [List.size_toArray, List.length_append, hPl, hN1l]; omega) (fun u hu => by simp at hu; subst hu; rfl)
    rw [List.toList_toArray, ap_off hPl, hR] at h
    exact h
  have hmin1 : Nat.min 1 (n + 1 - i) = 1 := Nat.min_eq_left (by omega)
  have hdn : decide ((d : Int) < (n : Int) + 1) = false := decide_eq_false (by omega)
  have hin : ((i : Int) == (n : Int)) = false := by rw [beq_eq_false_iff_ne]; omega
  have hw1 : IntKind.i64.wrap ((i : Int) + 1) = (i : Int) + 1 := by rw [IntKind.wrap_i64]; omega
  have hb1 : (0 : Int) ≤ (i : Int) + 1 := by omega
  have hin9 : i ≤ n := by omega
  have htn : ((i : Int) + 1).toNat = i + 1 := by omega
  have hb2 : ¬ (d = i + 1) := by omega
  have hb3 : (i : Int) ≤ (n : Int) + 1 := by omega
  have hb4 : ¬ (d = i) := by omega
  clear hN1 hR htk hx1 hi0 hz hs6 hby hsz hN1l hdl hPL hLl hP hL
  go_enter Try.func46, Try.ntmps46
  go_wp2_with (simp only [hov])
  refine wp_region_seqN (by kernel_rfl) (FF [(0, Fact.at_ w (.slice (some ⟨b, o, none⟩) (n + 1) d)), (1, Fact.at_ w (.int .i64 (i : Int))), (7, Fact.at_ w (.int .i64 1)), (69, Fact.at_ w (.slice (some ⟨b, o, none⟩) (n + 1) d)), (70, Fact.at_ w (.int .i64 (i : Int))), (71, Fact.at_ w (.int .i64 1)), (72, Fact.at_ w (.int .i64 ((i : Int) + 1))), (73, Fact.at_ w (.slice (some ⟨b, o + (i + 1), none⟩) (n - i) (d - (i + 1)))), (74, Fact.at_ w (.slice (some ⟨b, o, none⟩) (n + 1) d)), (75, Fact.at_ w (.int .i64 (i : Int))), (76, Fact.at_ w (.slice (some ⟨b, o + i, none⟩) (n + 1 - i) (d - i)))]) [0, 1, 7] [] 95 8 [69, 70, 71, 72, 73, 74, 75, 76] rfl (by kernel_rfl) (by kernel_rfl) (by decide) (by kernel_rfl) (by kernel_rfl) ?_ ?_ ?_
  · intro t9 ht9
    simp only [List.mem_cons, List.not_mem_nil, or_false] at ht9
    rcases ht9 with rfl | rfl | rfl
    · exact ⟨rfl, Below.refl _ _⟩
    · exact ⟨rfl, Below.refl _ _⟩
    · exact ⟨rfl, Below.refl _ _⟩
  · refine fcs ⟨Ob.new_ (atcopy 0 69 (.slice (some ⟨b, o, none⟩) (n + 1) d) (.inl rfl) rfl (by first | exact .inl rfl | exact .inr ⟨_, _, _, rfl, rfl, by kernel_rfl, by decide, rfl⟩) (by kernel_rfl) rfl rfl) (by kernel_rfl), ?_⟩
    refine fcs ⟨Ob.new_ (atcopy 1 70 (.int .i64 (i : Int)) (.inl rfl) rfl (by first | exact .inl rfl | exact .inr ⟨_, _, _, rfl, rfl, by kernel_rfl, by decide, rfl⟩) (by kernel_rfl) rfl rfl) (by kernel_rfl), ?_⟩
    refine fcs ⟨Ob.new_ (atcopy 7 71 (.int .i64 1) (.inl rfl) rfl (by first | exact .inl rfl | exact .inr ⟨_, _, _, rfl, rfl, by kernel_rfl, by decide, rfl⟩) (by kernel_rfl) rfl rfl) (by kernel_rfl), ?_⟩
    refine fcs ⟨Ob.new_ (at2 70 71 72 (.int .i64 (i : Int)) (.int .i64 1) (.int .i64 ((i : Int) + 1)) rfl (by first | exact .inl rfl | exact .inr ⟨_, _, _, rfl, rfl, by kernel_rfl, by decide, rfl⟩) (by kernel_rfl) (by kernel_rfl) rfl rfl rfl (fun a9 W9 hb9 h9 h8 => by simp [execOp, h9, h8] <;> go_simp)) (by kernel_rfl), ?_⟩
    refine fcs ⟨Ob.new_ (at2 69 72 73 (.slice (some ⟨b, o, none⟩) (n + 1) d) (.int .i64 ((i : Int) + 1)) (.slice (some ⟨b, o + (i + 1), none⟩) (n - i) (d - (i + 1))) rfl (by first | exact .inl rfl | exact .inr ⟨_, _, _, rfl, rfl, by kernel_rfl, by decide, rfl⟩) (by kernel_rfl) (by kernel_rfl) rfl rfl rfl (fun a9 W9 hb9 h9 h8 => by simp [execOp, h9, h8] <;> go_simp)) (by kernel_rfl), ?_⟩
    refine fcs ⟨Ob.new_ (atcopy 0 74 (.slice (some ⟨b, o, none⟩) (n + 1) d) (.inl rfl) rfl (by first | exact .inl rfl | exact .inr ⟨_, _, _, rfl, rfl, by kernel_rfl, by decide, rfl⟩) (by kernel_rfl) rfl rfl) (by kernel_rfl), ?_⟩
    refine fcs ⟨Ob.new_ (atcopy 1 75 (.int .i64 (i : Int)) (.inl rfl) rfl (by first | exact .inl rfl | exact .inr ⟨_, _, _, rfl, rfl, by kernel_rfl, by decide, rfl⟩) (by kernel_rfl) rfl rfl) (by kernel_rfl), ?_⟩
    refine fcs ⟨Ob.new_ (at2 74 75 76 (.slice (some ⟨b, o, none⟩) (n + 1) d) (.int .i64 (i : Int)) (.slice (some ⟨b, o + i, none⟩) (n + 1 - i) (d - i)) rfl (by first | exact .inl rfl | exact .inr ⟨_, _, _, rfl, rfl, by kernel_rfl, by decide, rfl⟩) (by kernel_rfl) (by kernel_rfl) rfl rfl rfl (fun a9 W9 hb9 h9 h8 => by simp [execOp, h9, h8] <;> go_simp)) (by kernel_rfl), ?_⟩
    exact fnl
  intro vv wv hvv hbv _ _
  have hv69 : vv 69 = (.slice (some ⟨b, o, none⟩) (n + 1) d) := (hvv 69 (by decide)).1
  have hv70 : vv 70 = (.int .i64 (i : Int)) := (hvv 70 (by decide)).1
  have hv71 : vv 71 = (.int .i64 1) := (hvv 71 (by decide)).1
  have hv72 : vv 72 = (.int .i64 ((i : Int) + 1)) := (hvv 72 (by decide)).1
  have hv73 : vv 73 = (.slice (some ⟨b, o + (i + 1), none⟩) (n - i) (d - (i + 1))) := (hvv 73 (by decide)).1
  have hv74 : vv 74 = (.slice (some ⟨b, o, none⟩) (n + 1) d) := (hvv 74 (by decide)).1
  have hv75 : vv 75 = (.int .i64 (i : Int)) := (hvv 75 (by decide)).1
  have hv76 : vv 76 = (.slice (some ⟨b, o + i, none⟩) (n + 1 - i) (d - i)) := (hvv 76 (by decide)).1
  simp only [lay, List.foldl_cons, List.foldl_nil, List.setIfInBounds_toArray, List.set_cons_succ, List.set_cons_zero, hv69, hv70, hv71, hv72, hv73, hv74, hv75, hv76, List.drop_succ_cons, List.drop_zero]
  have hwb : wv.heap[b]? = some (.cells cur 3 (0, 0)) := by rw [hbv.block b (Array.getElem?_eq_some_iff.1 hcur).1]; exact hcur
  have hwg : wv.heap[g]? = some (.cells #[.int .i64 x] 3 (0, 0)) := by rw [hbv.block g (Array.getElem?_eq_some_iff.1 hg).1]; exact hg
  have hgb1 := gbq_of hbv (some b)
  clear hvv hov
  have hc1 := fun ty dc sc => hcp1 wv ty dc sc hwb
  have hwb2 := setRow_heap wv b cur (P ++ N1).toArray 3 (0, 0) hwb
  have hwg2 : (wv.setRow b (P ++ N1).toArray).heap[g]? = some (.cells #[.int .i64 x] 3 (0, 0)) := by rw [setRow_other wv b g _ hgb]; exact hwg
  have hgb2 := hgb1.trans (gb_setRow wv b (P ++ N1).toArray)
  clear hcp1
  go_wp2_with (at_builtin; refine Go.Proofs.wpList_copy_runI wv rfl (.tmp 73) (.tmp 76) 54 54 rfl _ _ rfl rfl (hc1 _ _ _) ?_)
  go_ret
  have hfl : (l.take i ++ x :: l.drop i).length = n + 1 := by rw [List.length_append, List.length_take, List.length_cons, List.length_drop, ← HNL.out]; omega
  have hft : tc i1 (l.take i ++ x :: l.drop i) = xs.take i ++ [Value.int .i64 x] ++ xs.drop i := by
    have h1 := tc_take i1_len l i (by rw [← HNL.out]; omega)
    have h2 := tc_drop i1_len l i (by rw [← HNL.out]; omega)
    rw [Nat.mul_one, HXS.out] at h1 h2
    rw [tc_app, tc_cons, ← h1, ← h2, List.append_assoc]; rfl
  refine ⟨_, rfl, ⟨_, d, by rw [hfl]; rfl, hcm, .inr ⟨b, o, _, rfl, setRow_heap _ b _ _ 3 (0, 0) hwb2, by rw [hfl]; exact hd, h03, ?_, ?_⟩⟩, hgb2.trans (gb_setRow _ b _), .inl rfl⟩
  · have hE : xs.take i ++ Value.int .i64 x :: (xs.drop i ++ R) = xs.take i ++ [Value.int .i64 x] ++ xs.drop i ++ R := by simp
    rw [List.size_toArray, hE, List.length_append, List.length_append, hPl, hRl, hRr]; omega
  · have hE : xs.take i ++ Value.int .i64 x :: (xs.drop i ++ R) = xs.take i ++ [Value.int .i64 x] ++ xs.drop i ++ R := by simp
    rw [List.toList_toArray, hE, ← hPl, List.drop_left, hfl, hft, ← hRl]
    exact List.take_left
set_option maxRecDepth 100000 in
set_option maxHeartbeats 8000000 in
theorem insGrow_any (b o n d i : Nat) (l : List Int) (x : Int) (g c : Nat) (w : World) (hn : n ≤ 2000000) (hi : i < n) (hnl : n = l.length) (hd : d < n + 1) (ho : Ro w (.slice (some ⟨b, o, none⟩) n d) l)
    (hg : w.heap[g]? = some (.cells #[.int .i64 x] 3 (0, 0))) :
    Calls Try.prog 46 #[.slice (some ⟨b, o, none⟩) n d, .int .i64 (i : Int), .slice (some ⟨g, 0, none⟩) 1 c] w (InP (l.take i ++ x :: l.drop i) (.slice (some ⟨b, o, none⟩) n d) w) := by
  obtain ⟨A', c', e, hcm, ⟨-, rfl⟩ | ⟨b', o', cur, rfl, hcur, hnc, h03, hcs, htk⟩⟩ := ho
  · simp at hnl; omega
  injection e with e1 e2 e3
  injection e1 with e1
  injection e1 with e1 e4
  subst e1 e4 e3
  rw [← hnl] at htk hnc
  obtain ⟨xs, hxs⟩ : ∃ xs, tc i1 l = xs := ⟨_, rfl⟩
  have HXS := Lib.hid hxs
  have hx1 : ∀ u ∈ xs, u.oneCell' = true := by rw [← hxs]; exact tc_one' i1_one l
  have hxl : xs.length = n := by rw [← hxs, tl_len, hnl]
  rw [hxs] at htk
  have HNL := Lib.hid hnl
  clear hxs hnl e2
  obtain ⟨i0, hi0, hz, hs6, hby⟩ := info_parts infoI
  have hsz : (Try.prog.info? 3).map (·.size) = some 1 := by rw [hi0]; simp [hs6]
  have hbl : b < w.heap.size := (Array.getElem?_eq_some_iff.1 hcur).1
  have hgl : g < w.heap.size := (Array.getElem?_eq_some_iff.1 hg).1
  have hik : i + (n + 1 - i) = n + 1 := by omega
  have hkk : (n : Int) + 1 - (i : Int) = ((n + 1 - i : Nat) : Int) := by omega
  have hold : (Builtin.firstCells i0.size i (.slice (some ⟨b, o, none⟩) i d)).run Try.prog w.drew = .ok (xs.take (i)).toArray w.drew := by
    rw [hs6]
    exact run_firstCells_some w.drew 1 i ⟨b, o, none⟩ i d (xs.take i) (by rw [List.length_take, hxl]; omega) (fun j v hj => by
      rw [Addr.add_lit]
      have hc : w.drew.heap[b]? = some (.cells cur 3 (0, 0)) := hcur
      rw [cell_lit hc, ← Array.getElem?_toList]
      have := take_get hj
      rw [← htk] at this
      have := take_get this
      rw [List.getElem?_drop] at this
      exact this)
  obtain ⟨G, hG⟩ : ∃ G, grownCap w (n + 1) d 3 = G := ⟨_, rfl⟩
  have hrz : ∀ ty, (Builtin.append_ #[54, 3] ty #[.slice (some ⟨b, o, none⟩) i d, .int .i64 ((n : Int) + 1 - (i : Int))]).run Try.prog w =
      .ok (.slice (some ⟨w.heap.size, 0, none⟩) (n + 1) G) (w.drew.alloc (.cells ((xs.take (i)).toArray ++ Builtin.zeroCells (Value.int .i64 0).cells (n + 1 - i) ++ Builtin.zeroCells (Value.int .i64 0).cells (G - (n + 1))) 3)) := fun ty => by
    have h := Lib.run_append_grow_zeros w 54 3 ty 3 i0 _ .i64 .i64 Try.underlying54 Try.underlying3 hi0 hz (some ⟨b, o, none⟩) i d (xs.take (i)) hold (n + 1 - i) (by omega) (by omega) (by omega) (by omega) (by rw [hby]; omega) (by rw [hby, hik]; exact growslice_fits hd (by omega))
    rw [hik, hG] at h
    rw [hkk]
    exact h
  have hGn : n + 1 ≤ G := by rw [← hG]; exact grownCap_ge w _ _ _
  have hGm : G ≤ maxLen := by rw [← hG]; exact grownCap_le_maxLen w (n + 1) d 3 (by unfold maxLen; omega)
  obtain ⟨ROW, hROW⟩ : ∃ ROW : Array Value, (xs.take (i)).toArray ++ Builtin.zeroCells (Value.int .i64 0).cells (n + 1 - i) ++ Builtin.zeroCells (Value.int .i64 0).cells (G - (n + 1)) = ROW := ⟨_, rfl⟩
  rw [hROW] at hrz
  have hz6 : (Value.int .i64 0).cells.size = 1 := rfl
  have hRs : ROW.toList.length = G := by
    rw [Array.length_toList, ← hROW, Array.size_append, Array.size_append, zc_size, zc_size, hz6, List.size_toArray, List.length_take, hxl]; omega
  have hRt : ROW.toList.take (i) = xs.take (i) := by
    rw [← hROW, Array.toList_append, Array.toList_append, List.append_assoc, List.toList_toArray]
    have : (xs.take (i)).length = i := by rw [List.length_take, hxl]; omega
    rw [List.take_append_of_le_length (by rw [this]; exact Nat.le_refl _), List.take_of_length_le (by rw [this]; exact Nat.le_refl _)]
  obtain ⟨R, hR, hRl, hRr, hN1l⟩ := splice3 (X := [Value.int .i64 x]) (xs := xs) (z := 1) (n := n) (i := i) (hRs.trans (Nat.mul_one G).symm) (by rw [Nat.mul_one]; exact hRt) (hxl.trans (Nat.mul_one n).symm) hi hGn rfl
  simp only [Nat.mul_one] at hR hRl hRr hN1l
  obtain ⟨h, hh⟩ : ∃ h, w.heap.size = h := ⟨_, rfl⟩
  have hne : b ≠ h := by omega
  have hgne : g ≠ h := by omega
  have hcpA : ∀ (W : World) ty dc, W.heap[h]? = some (.cells ROW 3 (0, 0)) → W.heap[g]? = some (.cells #[.int .i64 x] 3 (0, 0)) → (Builtin.copy_ #[54, 54] ty #[.slice (some ⟨h, i, none⟩) (n + 1 - i) dc, .slice (some ⟨g, 0, none⟩) 1 c]).run Try.prog W = .ok (goInt (Nat.min 1 (n + 1 - i))) (W.setRow h (ROW.toList.take (i) ++ [Value.int .i64 x] ++ ROW.toList.drop (i + ([Value.int .i64 x]).length)).toArray) := fun W ty dc hW hW2 =>
    run_copy_rowN W 54 54 ty 3 1 h (i) (n + 1 - i) dc ⟨g, 0, none⟩ 1 c ROW 3 ([Value.int .i64 x]) Try.underlying54 hsz hW (by show 1 = min _ _ * 1; rw [Nat.min_eq_left (by omega)])
      (fun j v hj => by
        rw [Addr.add_lit, cell_lit hW2, Nat.zero_add, List.getElem?_toArray]
        exact hj) (by show _ + 1 ≤ ROW.size; rw [← Array.length_toList, hRs]; omega) (fun u hu => by simp at hu; subst hu; rfl)
  obtain ⟨N1, hN1⟩ : ∃ N1, ROW.toList.take (i) ++ [Value.int .i64 x] ++ ROW.toList.drop (i + ([Value.int .i64 x]).length) = N1 := ⟨_, rfl⟩
  rw [hN1] at hcpA hR hN1l
  have hdl : (xs.drop (i)).length = n - i := by rw [List.length_drop, hxl]
  have hcpB : ∀ (W : World) ty dc sc, W.heap[h]? = some (.cells N1.toArray 3 (0, 0)) → W.heap[b]? = some (.cells cur 3 (0, 0)) → (Builtin.copy_ #[54, 54] ty #[.slice (some ⟨h, (i + 1), none⟩) (n - i) dc, .slice (some ⟨b, o + i, none⟩) (n - i) sc]).run Try.prog W = .ok (goInt (Nat.min (n - i) (n - i))) (W.setRow h (N1.take ((i + 1)) ++ xs.drop (i) ++ N1.drop ((i + 1) + (xs.drop (i)).length)).toArray) := fun W ty dc sc hW hW2 =>
    run_copy_rowN W 54 54 ty 3 1 h ((i + 1)) (n - i) dc ⟨b, o + i, none⟩ (n - i) sc N1.toArray 3 (xs.drop (i)) Try.underlying54 hsz hW (by rw [hdl]; show _ = min _ _ * 1; rw [Nat.min_self, Nat.mul_one])
      (fun j v hj => by
        rw [Addr.add_lit, cell_lit hW2, ← Array.getElem?_toList, Nat.add_assoc]
        rw [List.getElem?_drop, ← htk] at hj
        have := take_get hj
        rw [List.getElem?_drop] at this
        exact this) (by rw [hdl, List.size_toArray, hN1l]; omega) (fun v hv => hx1 v (List.mem_of_mem_drop hv))
  rw [hR] at hcpB
  rw [show Nat.min (n - i) (n - i) = n - i from Nat.min_self _] at hcpB
  have hmin1 : Nat.min 1 (n + 1 - i) = 1 := Nat.min_eq_left (by omega)
  have hdn : decide ((d : Int) < (n : Int) + 1) = true := decide_eq_true (by omega)
  have hin : ((i : Int) == (n : Int)) = false := by rw [beq_eq_false_iff_ne]; omega
  have hw1 : IntKind.i64.wrap ((i : Int) + 1) = (i : Int) + 1 := by rw [IntKind.wrap_i64]; omega
  have hb1 : (0 : Int) ≤ (i : Int) + 1 := by omega
  have hin9 : i ≤ n := by omega
  have htn : ((i : Int) + 1).toNat = i + 1 := by omega
  have hb2 : ¬ (G = i + 1) := by omega
  have hb3 : (i : Int) ≤ (n : Int) + 1 := by omega
  have hb4 : ¬ (d = i) := by omega
  have hb5 : ¬ (G = i) := by omega
  have hG9 : G ≤ 9223372036854775807 := by unfold maxLen at hGm; omega
  have HG : Hid (w.heap.size = h) := Lib.hid hh
  rw [hh] at hrz hbl hgl
  have A1 : ∀ W : World, W.heap = (w.alloc (.cells ROW 3)).heap → W.heap[h]? = some (.cells ROW 3 (0, 0)) ∧ W.heap[g]? = some (.cells #[.int .i64 x] 3 (0, 0)) ∧ W.heap[b]? = some (.cells cur 3 (0, 0)) := fun W hW => by
    rw [hW, ← hh]
    exact ⟨heap_newI w _, by rw [heap_alloc_old _ _ (by rw [hh]; exact hgl)]; exact hg, by rw [heap_alloc_old _ _ (by rw [hh]; exact hbl)]; exact hcur⟩
  clear hkk hik hold hROW hG hR htk hx1 hi0 hz hs6 hby hsz hdl hRs hRt hN1 hz6 hh
  go_enter Try.func46, Try.ntmps46
  have hcA := fun ty dc => hcpA (w.alloc (.cells ROW 3)).drew ty dc (A1 _ rfl).1 (A1 _ rfl).2.1
  rw [hmin1] at hcA
  clear hcpA
  go_wp2_with (at_builtin; refine Lib.wpList_append_run _ rfl _ _ _ _ rfl _ _ rfl rfl _ _ (hrz _) ?_)
  have hw3h := setRow_heap (w.alloc (.cells ROW 3)).drew h ROW N1.toArray 3 (0, 0) (A1 _ rfl).1
  have hw3b : ((w.alloc (.cells ROW 3)).drew.setRow h N1.toArray).heap[b]? = some (.cells cur 3 (0, 0)) := by rw [setRow_other _ h b _ hne]; exact (A1 _ rfl).2.2
  have hbl3 : Below w.heap.size w ((w.alloc (.cells ROW 3)).drew.setRow h N1.toArray) := below_setRow ((Below.refl _ w).alloc (Nat.le_refl _) _).drew (by rw [HG.out]; exact Nat.le_refl _) _
  clear hcA A1 hrz
  generalize (w.alloc (.cells ROW 3)).drew.setRow h N1.toArray = w3 at *
  refine wp_region_seqN (by kernel_rfl) (FF [(0, Fact.at_ w3 (.slice (some ⟨b, o, none⟩) n d)), (1, Fact.at_ w3 (.int .i64 (i : Int))), (7, Fact.at_ w3 (.int .i64 1)), (9, Fact.at_ w3 (.slice (some ⟨h, 0, none⟩) (n + 1) G)), (46, Fact.at_ w3 (.slice (some ⟨h, 0, none⟩) (n + 1) G)), (47, Fact.at_ w3 (.int .i64 (i : Int))), (48, Fact.at_ w3 (.int .i64 1)), (49, Fact.at_ w3 (.int .i64 ((i : Int) + 1))), (50, Fact.at_ w3 (.slice (some ⟨h, (i + 1), none⟩) (n - i) (G - (i + 1)))), (51, Fact.at_ w3 (.slice (some ⟨b, o, none⟩) n d)), (52, Fact.at_ w3 (.int .i64 (i : Int))), (53, Fact.at_ w3 (.slice (some ⟨b, o + i, none⟩) (n - i) (d - i)))]) [0, 1, 7, 9] [] 95 8 [46, 47, 48, 49, 50, 51, 52, 53] rfl (by kernel_rfl) (by kernel_rfl) (by decide) (by kernel_rfl) (by kernel_rfl) ?_ ?_ ?_
  · intro t9 ht9
    simp only [List.mem_cons, List.not_mem_nil, or_false] at ht9
    rcases ht9 with rfl | rfl | rfl | rfl
    · exact ⟨rfl, Below.refl _ _⟩
    · exact ⟨rfl, Below.refl _ _⟩
    · exact ⟨rfl, Below.refl _ _⟩
    · exact ⟨rfl, Below.refl _ _⟩
  · refine fcs ⟨Ob.new_ (atcopy 9 46 (.slice (some ⟨h, 0, none⟩) (n + 1) G) (.inl rfl) rfl (by first | exact .inl rfl | exact .inr ⟨_, _, _, rfl, rfl, by kernel_rfl, by decide, rfl⟩) (by kernel_rfl) rfl rfl) (by kernel_rfl), ?_⟩
    refine fcs ⟨Ob.new_ (atcopy 1 47 (.int .i64 (i : Int)) (.inl rfl) rfl (by first | exact .inl rfl | exact .inr ⟨_, _, _, rfl, rfl, by kernel_rfl, by decide, rfl⟩) (by kernel_rfl) rfl rfl) (by kernel_rfl), ?_⟩
    refine fcs ⟨Ob.new_ (atcopy 7 48 (.int .i64 1) (.inl rfl) rfl (by first | exact .inl rfl | exact .inr ⟨_, _, _, rfl, rfl, by kernel_rfl, by decide, rfl⟩) (by kernel_rfl) rfl rfl) (by kernel_rfl), ?_⟩
    refine fcs ⟨Ob.new_ (at2 47 48 49 (.int .i64 (i : Int)) (.int .i64 1) (.int .i64 ((i : Int) + 1)) rfl (by first | exact .inl rfl | exact .inr ⟨_, _, _, rfl, rfl, by kernel_rfl, by decide, rfl⟩) (by kernel_rfl) (by kernel_rfl) rfl rfl rfl (fun a9 W9 hb9 h9 h8 => by simp [execOp, h9, h8] <;> go_simp)) (by kernel_rfl), ?_⟩
    refine fcs ⟨Ob.new_ (at2 46 49 50 (.slice (some ⟨h, 0, none⟩) (n + 1) G) (.int .i64 ((i : Int) + 1)) (.slice (some ⟨h, (i + 1), none⟩) (n - i) (G - (i + 1))) rfl (by first | exact .inl rfl | exact .inr ⟨_, _, _, rfl, rfl, by kernel_rfl, by decide, rfl⟩) (by kernel_rfl) (by kernel_rfl) rfl rfl rfl (fun a9 W9 hb9 h9 h8 => by simp [execOp, h9, h8] <;> go_simp)) (by kernel_rfl), ?_⟩
    refine fcs ⟨Ob.new_ (atcopy 0 51 (.slice (some ⟨b, o, none⟩) n d) (.inl rfl) rfl (by first | exact .inl rfl | exact .inr ⟨_, _, _, rfl, rfl, by kernel_rfl, by decide, rfl⟩) (by kernel_rfl) rfl rfl) (by kernel_rfl), ?_⟩
    refine fcs ⟨Ob.new_ (atcopy 1 52 (.int .i64 (i : Int)) (.inl rfl) rfl (by first | exact .inl rfl | exact .inr ⟨_, _, _, rfl, rfl, by kernel_rfl, by decide, rfl⟩) (by kernel_rfl) rfl rfl) (by kernel_rfl), ?_⟩
    refine fcs ⟨Ob.new_ (at2 51 52 53 (.slice (some ⟨b, o, none⟩) n d) (.int .i64 (i : Int)) (.slice (some ⟨b, o + i, none⟩) (n - i) (d - i)) rfl (by first | exact .inl rfl | exact .inr ⟨_, _, _, rfl, rfl, by kernel_rfl, by decide, rfl⟩) (by kernel_rfl) (by kernel_rfl) rfl rfl rfl (fun a9 W9 hb9 h9 h8 => by simp [execOp, h9, h8] <;> go_simp)) (by kernel_rfl), ?_⟩
    exact fnl
  intro vv wv hvv hbv _ _
  have hv46 : vv 46 = (.slice (some ⟨h, 0, none⟩) (n + 1) G) := (hvv 46 (by decide)).1
  have hv47 : vv 47 = (.int .i64 (i : Int)) := (hvv 47 (by decide)).1
  have hv48 : vv 48 = (.int .i64 1) := (hvv 48 (by decide)).1
  have hv49 : vv 49 = (.int .i64 ((i : Int) + 1)) := (hvv 49 (by decide)).1
  have hv50 : vv 50 = (.slice (some ⟨h, (i + 1), none⟩) (n - i) (G - (i + 1))) := (hvv 50 (by decide)).1
  have hv51 : vv 51 = (.slice (some ⟨b, o, none⟩) n d) := (hvv 51 (by decide)).1
  have hv52 : vv 52 = (.int .i64 (i : Int)) := (hvv 52 (by decide)).1
  have hv53 : vv 53 = (.slice (some ⟨b, o + i, none⟩) (n - i) (d - i)) := (hvv 53 (by decide)).1
  simp only [lay, List.foldl_cons, List.foldl_nil, List.setIfInBounds_toArray, List.set_cons_succ, List.set_cons_zero, hv46, hv47, hv48, hv49, hv50, hv51, hv52, hv53, List.drop_succ_cons, List.drop_zero]
  have hwh : wv.heap[h]? = some (.cells N1.toArray 3 (0, 0)) := by rw [hbv.block h (Array.getElem?_eq_some_iff.1 hw3h).1]; exact hw3h
  have hwb : wv.heap[b]? = some (.cells cur 3 (0, 0)) := by rw [hbv.block b (Array.getElem?_eq_some_iff.1 hw3b).1]; exact hw3b
  have hblv := Below.next hbl3 hbv
  have hcB := fun ty dc sc => hcpB wv ty dc sc hwh hwb
  clear hvv hcpB
  go_wp2_with (at_builtin; refine Go.Proofs.wpList_copy_runI wv rfl (.tmp 50) (.tmp 53) 54 54 rfl _ _ rfl rfl (hcB _ _ _) ?_)
  go_ret
  have hfl : (l.take i ++ x :: l.drop i).length = n + 1 := by rw [List.length_append, List.length_take, List.length_cons, List.length_drop, ← HNL.out]; omega
  have hft : tc i1 (l.take i ++ x :: l.drop i) = xs.take i ++ [Value.int .i64 x] ++ xs.drop i := by
    have h1 := tc_take i1_len l i (by rw [← HNL.out]; omega)
    have h2 := tc_drop i1_len l i (by rw [← HNL.out]; omega)
    rw [Nat.mul_one, HXS.out] at h1 h2
    rw [tc_app, tc_cons, ← h1, ← h2, List.append_assoc]; rfl
  refine ⟨_, rfl, ⟨_, G, by rw [hfl]; rfl, hGm, .inr ⟨h, 0, _, rfl, setRow_heap _ h N1.toArray _ 3 (0, 0) hwh, by rw [hfl]; exact hGn, by omega, ?_, ?_⟩⟩, gbq_of (below_setRow hblv (by rw [HG.out]; exact Nat.le_refl _) _) _, .inr ⟨h, rfl, by rw [HG.out]; exact Nat.le_refl _⟩⟩
  · have hE : xs.take i ++ Value.int .i64 x :: (xs.drop i ++ R) = xs.take i ++ [Value.int .i64 x] ++ xs.drop i ++ R := by simp
    rw [List.size_toArray, hE, List.length_append, hRl, hRr]; omega
  · have hE : xs.take i ++ Value.int .i64 x :: (xs.drop i ++ R) = xs.take i ++ [Value.int .i64 x] ++ xs.drop i ++ R := by simp
    rw [List.toList_toArray, hE, List.drop_zero, hfl, hft, ← hRl]
    exact List.take_left
/-- Anywhere. -/
theorem ins_any (A : Option Addr) (n d i : Nat) (l : List Int) (x : Int) (g c : Nat) (w : World) (hn : n ≤ 2000000) (hnl : n = l.length) (hi : i ≤ n) (ho : Ro w (.slice A n d) l)
    (hg : w.heap[g]? = some (.cells #[.int .i64 x] 3 (0, 0))) (hgb : (Value.slice A n d).ownBlock ≠ some g) :
    Calls Try.prog 46 #[.slice A n d, .int .i64 (i : Int), .slice (some ⟨g, 0, none⟩) 1 c] w (InP (l.take i ++ x :: l.drop i) (.slice A n d) w) := by
  by_cases h : i = n
  · subst h
    have := insEnd_any A i d l x g c w hn hnl ho (by rw [cell_lit hg]; rfl)
    rw [hnl, List.take_length, List.drop_length, ← hnl]
    exact this
  · have hl : l ≠ [] := fun e => by subst e; simp at hnl; omega
    obtain ⟨-, -, b, o, rfl, -⟩ := ho.pos hl
    by_cases hd : n + 1 ≤ d
    · exact insRoom_any b o n d i l x g c w hn (by omega) hnl hd ho hg (fun e => hgb (by rw [e]; rfl))
    · exact insGrow_any b o n d i l x g c w hn (by omega) hnl (by omega) ho hg
end Go.Proofs.Ytndidbanbklonaa

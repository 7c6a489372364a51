import Derived.Test.YtiooilkbbfflaaaHb
import Derived.Test.YtiooilkbbfflaaaG4
import Derived.Test.YtiooilkbbfflaaaLr
/-
  slices.Insert of one timer anywhere in a row that a call owns. No conditions beyond those that each names.
-/
namespace Go.Proofs.Ytiooilkbbfflaaa
open Go.RowKit Go.Shelf Go.Lib
set_option maxRecDepth 100000 in
set_option maxHeartbeats 4000000 in
theorem insertEnd_any (B0 : Nat) (A : Option Addr) (n d : Nat) (xs : List Value) (x : Tm) (g c : Nat) (w : World) (hn : n ≤ 2000000) (ho : w.ownsRow B0 74 3 (.slice A n d) n xs) (hg : Bx w g [.int .i64 (x.id : Int), .int .i64 (x.at_ : Int), .int .i64 (x.per : Int)]) (hB : B0 ≤ w.heap.size) :
    Calls Try.prog 44 #[.slice A n d, .int .i64 (n : Int), .slice (some ⟨g, 0, none⟩) 1 c] w (fun e w' => ∃ v', e = .returned v' ∧ w'.ownsRow B0 74 3 v' (n + 1) (xs ++ e3 x) ∧ w.grownBy w' (Value.slice A n d).ownBlock ∧ NB w (.slice A n d) v') := by
  obtain ⟨i, hi, hz, hs5, hby⟩ := info_parts infoT
  have e0 : w.cell? ((⟨g, 0, none⟩ : Addr).add 0) = _ := hg.c 0 rfl
  have AP : ∀ (ops : Array Oper) (rest : List Oper) (o : Oper) (a : Act) (Q : Exit → Act → World → Prop), o.guard = none → ∀ (t u : Operand), o.op = .call { callee := .builtin .append, args := #[t, u], argTypes := #[60, 60] } → a.eval t = .slice A n d → a.eval u = .slice (some ⟨g, 0, none⟩) 1 c → (∀ v' w', w'.ownsRow B0 74 3 v' (n + 1) (xs ++ e3 x) → w.grownBy w' (Value.slice A n d).ownBlock → NB w (.slice A n d) v' → wpList Try.prog ops Q rest (a.put o.dst v') w') → wpList Try.prog ops Q (o :: rest) a w := fun ops rest o a Q hgd t u hop ht hu hk =>
    wpList_append_own_at w hgd t u 60 hop B0 74 i _ 3 24 Try.underlying60 hi hz hs5 hby rfl (by omega) _ n xs ht ho ⟨g, 0, none⟩ 1 c (e3 x) hu rfl
      (by intro j u hj
          match j, hj with
          | 0, hj => simp [e3] at hj; subst hj; exact hg.c 0 rfl
          | 1, hj => simp [e3] at hj; subst hj; exact hg.c 1 rfl
          | 2, hj => simp [e3] at hj; subst hj; exact hg.c 2 rfl) (fun u hu => e3_one x u hu) (by simp only [maxLen]; omega) (by omega) hB (fun v' w' h1 h2 _ h4 => hk v' w' h1 h2 (NB.of h4))
  clear e0 hi hz hs5 hby i
  by_cases h0 : n = 0
  · subst h0
    have hA : A = none ∧ d = 0 ∨ ∃ b, A = some ⟨b, 0, none⟩ := by
      rcases ho.2 with ⟨h, -⟩ | ⟨b, cap, cur, h, -⟩
      · injection h with h1 _ h2; exact .inl ⟨h1, h2⟩
      · injection h with h1; exact .inr ⟨b, h1⟩
    rcases hA with ⟨rfl, rfl⟩ | ⟨b, rfl⟩
    · clear ho
      go_enter Try.func44, Try.ntmps44
      go_wp2_with (at_builtin; refine AP _ _ _ _ _ rfl _ _ rfl rfl rfl ?_)
      intro v' w1 hown hgr hnb
      go_wp2
      go_ret
      exact ⟨v', rfl, hown, hgr, hnb⟩
    · have hl := (ho.lt b rfl).2
      clear ho
      by_cases hd : d = 0
      · subst hd
        go_enter Try.func44, Try.ntmps44
        go_wp2_with (at_builtin; refine AP _ _ _ _ _ rfl _ _ rfl rfl rfl ?_)
        intro v' w1 hown hgr hnb
        go_wp2
        go_ret
        exact ⟨v', rfl, hown, hgr, hnb⟩
      · go_enter Try.func44, Try.ntmps44
        go_wp2_with (at_builtin; refine AP _ _ _ _ _ rfl _ _ rfl rfl rfl ?_)
        intro v' w1 hown hgr hnb
        go_wp2
        go_ret
        exact ⟨v', rfl, hown, hgr, hnb⟩
  · obtain ⟨b, rfl⟩ := own_some ho h0
    have hl := (ho.lt b rfl).2
    have hcap : n ≤ d := by
      rcases ho.2 with ⟨h, -⟩ | ⟨b, cap, cur, h, -, -, hc, -⟩
      · cases h
      · injection h with _ _ h2; omega
    clear ho
    by_cases hd : d = n
    · subst hd
      go_enter Try.func44, Try.ntmps44
      go_wp2_with (at_builtin; refine AP _ _ _ _ _ rfl _ _ rfl rfl rfl ?_)
      intro v' w1 hown hgr hnb
      go_wp2
      go_ret
      exact ⟨v', rfl, hown, hgr, hnb⟩
    · go_enter Try.func44, Try.ntmps44
      go_wp2_with (at_builtin; refine AP _ _ _ _ _ rfl _ _ rfl rfl rfl ?_)
      intro v' w1 hown hgr hnb
      go_wp2
      go_ret
      exact ⟨v', rfl, hown, hgr, hnb⟩
set_option maxRecDepth 100000 in
set_option maxHeartbeats 8000000 in
theorem insertRoom_any (B0 : Nat) (b n d i : Nat) (xs : List Value) (x : Tm) (g c : Nat) (w : World) (hn : n ≤ 2000000) (hi : i < n) (hd : n + 1 ≤ d) (ho : w.ownsRow B0 74 3 (.slice (some ⟨b, 0, none⟩) n d) n xs) (hx1 : ∀ u ∈ xs, u.oneCell' = true)
    (hg : w.heap[g]? = some (.cells #[.int .i64 (x.id : Int), .int .i64 (x.at_ : Int), .int .i64 (x.per : Int)] 74 (0, 0))) (hgb : g ≠ b) :
    Calls Try.prog 44 #[.slice (some ⟨b, 0, none⟩) n d, .int .i64 (i : Int), .slice (some ⟨g, 0, none⟩) 1 c] w (fun e w' => ∃ v', e = .returned v' ∧ w'.ownsRow B0 74 3 v' (n + 1) (xs.take (i * 3) ++ e3 x ++ xs.drop (i * 3)) ∧ w.grownBy w' (some b) ∧ NB w (.slice (some ⟨b, 0, none⟩) n d) v') := by
  obtain ⟨hxl, ⟨h, -⟩ | ⟨b', cap, cur, h, hB, hcur, hnc, hcm, hcs, htk⟩⟩ := ho
  · cases h
  injection h with h e1 e2
  injection h with h
  injection h with h
  subst h
  subst e2
  have hcm9 : d ≤ 9223372036854775807 := by unfold maxLen at hcm; omega
  have hov : ∀ lb cb, (callFunc 45 #[.slice (some ⟨g, 0, none⟩) 1 c, .slice (some ⟨b, (i + 1) * 3, none⟩) lb cb]).run Try.prog w = .ok (.value (.bool false)) w := fun lb cb => by
    rw [run_callFunc_extern Try.func45 (by kernel_rfl) (by kernel_rfl) (by kernel_rfl) (e := Extern.SlicesOverlaps.overlaps #[60, 60] #[4]) (by kernel_rfl),
      Lib.run_overlaps_apart w 60 4 74 Try.underlying60 3 Try.sizeOf74 ⟨g, 0, none⟩ ⟨b, (i + 1) * 3, none⟩ 1 c lb cb hgb _ _ _ _ (shape_lit hg) (shape_lit hcur) (by rw [hcs]; omega) (frozen_lit hg) (frozen_lit hg)]
    rfl
  obtain ⟨i0, hi0, hz, hs6, hby⟩ := info_parts infoT
  have hsz : (Try.prog.info? 74).map (·.size) = some 3 := by rw [hi0]; simp [hs6]
  have hcl : cur.toList.length = d * 3 := by rw [Array.length_toList, hcs]
  obtain ⟨R, hR, hRl, hRr⟩ := splice2 (X := e3 x) hcl htk hi hd rfl
  have hdl : (xs.drop (i * 3)).length = (n - i) * 3 := by rw [List.length_drop, hxl]; omega
  have hcp1 : ∀ (W : World) ty dc sc, W.heap[b]? = some (.cells cur 74 (0, 0)) → (Builtin.copy_ #[60, 60] ty #[.slice (some ⟨b, (i + 1) * 3, none⟩) (n - i) dc, .slice (some ⟨b, i * 3, none⟩) (n + 1 - i) sc]).run Try.prog W = .ok (goInt (Nat.min (n + 1 - i) (n - i))) (W.setRow b (cur.toList.take ((i + 1) * 3) ++ xs.drop (i * 3) ++ cur.toList.drop ((i + 1) * 3 + (xs.drop (i * 3)).length)).toArray) := fun W ty dc sc hW =>
    run_copy_rowN W 60 60 ty 74 3 b ((i + 1) * 3) (n - i) dc ⟨b, i * 3, none⟩ (n + 1 - i) sc cur 74 (xs.drop (i * 3)) Try.underlying60 hsz hW (by rw [hdl]; show _ = min _ _ * 3; rw [Nat.min_eq_right (by omega)])
      (fun j v hj => by
        rw [Addr.add_lit, cell_lit hW, ← Array.getElem?_toList]
        rw [List.getElem?_drop, ← htk] at hj
        exact take_get hj) (by rw [hdl, hcs]; omega) (fun v hv => hx1 v (List.mem_of_mem_drop hv))
  obtain ⟨N1, hN1⟩ : ∃ N1, cur.toList.take ((i + 1) * 3) ++ xs.drop (i * 3) ++ cur.toList.drop ((i + 1) * 3 + (xs.drop (i * 3)).length) = N1 := ⟨_, rfl⟩
  rw [hN1] at hcp1 hR
  have hN1l : N1.length = d * 3 := by rw [← hN1, List.length_append, List.length_append, List.length_take, hdl, List.length_drop, hcl]; omega
  have hcp2 : ∀ (W : World) ty dc, W.heap[b]? = some (.cells N1.toArray 74 (0, 0)) → W.heap[g]? = some (.cells #[.int .i64 (x.id : Int), .int .i64 (x.at_ : Int), .int .i64 (x.per : Int)] 74 (0, 0)) → (Builtin.copy_ #[60, 60] ty #[.slice (some ⟨b, i * 3, none⟩) (n + 1 - i) dc, .slice (some ⟨g, 0, none⟩) 1 c]).run Try.prog W = .ok (goInt (Nat.min 1 (n + 1 - i))) (W.setRow b (N1.take (i * 3) ++ e3 x ++ N1.drop (i * 3 + (e3 x).length)).toArray) := fun W ty dc hW hW2 =>
    run_copy_rowN W 60 60 ty 74 3 b (i * 3) (n + 1 - i) dc ⟨g, 0, none⟩ 1 c N1.toArray 74 (e3 x) Try.underlying60 hsz hW (by show 3 = min _ _ * 3; rw [Nat.min_eq_left (by omega)])
      (fun j v hj => by
        rw [Addr.add_lit, cell_lit hW2, Nat.zero_add, List.getElem?_toArray]
        exact hj) (by show _ + 3 ≤ N1.toArray.size; rw [List.size_toArray, hN1l]; omega) (e3_one x)
  rw [hR] at hcp2
  have hmin1 : Nat.min 1 (n + 1 - i) = 1 := Nat.min_eq_left (by omega)
  have hdn : decide ((d : Int) < (n : Int) + 1) = false := decide_eq_false (by omega)
  have hin : ((i : Int) == (n : Int)) = false := by rw [beq_eq_false_iff_ne]; omega
  have hw1 : IntKind.i64.wrap ((i : Int) + 1) = (i : Int) + 1 := by rw [IntKind.wrap_i64]; omega
  have hb1 : (0 : Int) ≤ (i : Int) + 1 := by omega
  have hin9 : i ≤ n := by omega
  have htn : ((i : Int) + 1).toNat = i + 1 := by omega
  have hb2 : ¬ (d = i + 1) := by omega
  have hb3 : (i : Int) ≤ (n : Int) + 1 := by omega
  have hb4 : ¬ (d = i) := by omega
  clear hN1 hR htk hx1 hi0 hz hs6 hby hsz hN1l hdl hcl
  go_enter Try.func44, Try.ntmps44
  go_wp2_with (simp only [hov])
  refine wp_region_seqN (by kernel_rfl) (FF [(0, Fact.at_ w (.slice (some ⟨b, 0, none⟩) (n + 1) d)), (1, Fact.at_ w (.int .i64 (i : Int))), (7, Fact.at_ w (.int .i64 1)), (69, Fact.at_ w (.slice (some ⟨b, 0, none⟩) (n + 1) d)), (70, Fact.at_ w (.int .i64 (i : Int))), (71, Fact.at_ w (.int .i64 1)), (72, Fact.at_ w (.int .i64 ((i : Int) + 1))), (73, Fact.at_ w (.slice (some ⟨b, (i + 1) * 3, none⟩) (n - i) (d - (i + 1)))), (74, Fact.at_ w (.slice (some ⟨b, 0, none⟩) (n + 1) d)), (75, Fact.at_ w (.int .i64 (i : Int))), (76, Fact.at_ w (.slice (some ⟨b, i * 3, none⟩) (n + 1 - i) (d - i)))]) [0, 1, 7] [] 95 8 [69, 70, 71, 72, 73, 74, 75, 76] rfl (by kernel_rfl) (by kernel_rfl) (by decide) (by kernel_rfl) (by kernel_rfl) ?_ ?_ ?_
  · intro t9 ht9
    simp only [List.mem_cons, List.not_mem_nil, or_false] at ht9
    rcases ht9 with rfl | rfl | rfl
    · exact ⟨rfl, Below.refl _ _⟩
    · exact ⟨rfl, Below.refl _ _⟩
    · exact ⟨rfl, Below.refl _ _⟩
  · refine fcs ⟨Ob.new_ (atcopy 0 69 (.slice (some ⟨b, 0, none⟩) (n + 1) d) (.inl rfl) rfl (by first | exact .inl rfl | exact .inr ⟨_, _, _, rfl, rfl, by kernel_rfl, by decide, rfl⟩) (by kernel_rfl) rfl rfl) (by kernel_rfl), ?_⟩
    refine fcs ⟨Ob.new_ (atcopy 1 70 (.int .i64 (i : Int)) (.inl rfl) rfl (by first | exact .inl rfl | exact .inr ⟨_, _, _, rfl, rfl, by kernel_rfl, by decide, rfl⟩) (by kernel_rfl) rfl rfl) (by kernel_rfl), ?_⟩
    refine fcs ⟨Ob.new_ (atcopy 7 71 (.int .i64 1) (.inl rfl) rfl (by first | exact .inl rfl | exact .inr ⟨_, _, _, rfl, rfl, by kernel_rfl, by decide, rfl⟩) (by kernel_rfl) rfl rfl) (by kernel_rfl), ?_⟩
    refine fcs ⟨Ob.new_ (at2 70 71 72 (.int .i64 (i : Int)) (.int .i64 1) (.int .i64 ((i : Int) + 1)) rfl (by first | exact .inl rfl | exact .inr ⟨_, _, _, rfl, rfl, by kernel_rfl, by decide, rfl⟩) (by kernel_rfl) (by kernel_rfl) rfl rfl rfl (fun a9 W9 hb9 h9 h8 => by simp [execOp, h9, h8] <;> go_simp)) (by kernel_rfl), ?_⟩
    refine fcs ⟨Ob.new_ (at2 69 72 73 (.slice (some ⟨b, 0, none⟩) (n + 1) d) (.int .i64 ((i : Int) + 1)) (.slice (some ⟨b, (i + 1) * 3, none⟩) (n - i) (d - (i + 1))) rfl (by first | exact .inl rfl | exact .inr ⟨_, _, _, rfl, rfl, by kernel_rfl, by decide, rfl⟩) (by kernel_rfl) (by kernel_rfl) rfl rfl rfl (fun a9 W9 hb9 h9 h8 => by simp [execOp, h9, h8] <;> go_simp)) (by kernel_rfl), ?_⟩
    refine fcs ⟨Ob.new_ (atcopy 0 74 (.slice (some ⟨b, 0, none⟩) (n + 1) d) (.inl rfl) rfl (by first | exact .inl rfl | exact .inr ⟨_, _, _, rfl, rfl, by kernel_rfl, by decide, rfl⟩) (by kernel_rfl) rfl rfl) (by kernel_rfl), ?_⟩
    refine fcs ⟨Ob.new_ (atcopy 1 75 (.int .i64 (i : Int)) (.inl rfl) rfl (by first | exact .inl rfl | exact .inr ⟨_, _, _, rfl, rfl, by kernel_rfl, by decide, rfl⟩) (by kernel_rfl) rfl rfl) (by kernel_rfl), ?_⟩
    refine fcs ⟨Ob.new_ (at2 74 75 76 (.slice (some ⟨b, 0, none⟩) (n + 1) d) (.int .i64 (i : Int)) (.slice (some ⟨b, i * 3, none⟩) (n + 1 - i) (d - i)) rfl (by first | exact .inl rfl | exact .inr ⟨_, _, _, rfl, rfl, by kernel_rfl, by decide, rfl⟩) (by kernel_rfl) (by kernel_rfl) rfl rfl rfl (fun a9 W9 hb9 h9 h8 => by simp [execOp, h9, h8] <;> go_simp)) (by kernel_rfl), ?_⟩
    exact fnl
  intro vv wv hvv hbv _ _
  have hv69 : vv 69 = (.slice (some ⟨b, 0, none⟩) (n + 1) d) := (hvv 69 (by decide)).1
  have hv70 : vv 70 = (.int .i64 (i : Int)) := (hvv 70 (by decide)).1
  have hv71 : vv 71 = (.int .i64 1) := (hvv 71 (by decide)).1
  have hv72 : vv 72 = (.int .i64 ((i : Int) + 1)) := (hvv 72 (by decide)).1
  have hv73 : vv 73 = (.slice (some ⟨b, (i + 1) * 3, none⟩) (n - i) (d - (i + 1))) := (hvv 73 (by decide)).1
  have hv74 : vv 74 = (.slice (some ⟨b, 0, none⟩) (n + 1) d) := (hvv 74 (by decide)).1
  have hv75 : vv 75 = (.int .i64 (i : Int)) := (hvv 75 (by decide)).1
  have hv76 : vv 76 = (.slice (some ⟨b, i * 3, none⟩) (n + 1 - i) (d - i)) := (hvv 76 (by decide)).1
  simp only [lay, List.foldl_cons, List.foldl_nil, List.setIfInBounds_toArray, List.set_cons_succ, List.set_cons_zero, hv69, hv70, hv71, hv72, hv73, hv74, hv75, hv76, List.drop_succ_cons, List.drop_zero]
  have hwb : wv.heap[b]? = some (.cells cur 74 (0, 0)) := by rw [hbv.block b (Array.getElem?_eq_some_iff.1 hcur).1]; exact hcur
  have hwg : wv.heap[g]? = some (.cells #[.int .i64 (x.id : Int), .int .i64 (x.at_ : Int), .int .i64 (x.per : Int)] 74 (0, 0)) := by rw [hbv.block g (Array.getElem?_eq_some_iff.1 hg).1]; exact hg
  have hgb1 := gbq_of hbv (some b)
  clear hvv hov
  have hc1 := fun ty dc sc => hcp1 wv ty dc sc hwb
  have hwb2 := setRow_heap wv b cur N1.toArray 74 (0, 0) hwb
  have hwg2 : (wv.setRow b N1.toArray).heap[g]? = some (.cells #[.int .i64 (x.id : Int), .int .i64 (x.at_ : Int), .int .i64 (x.per : Int)] 74 (0, 0)) := by rw [setRow_other wv b g _ hgb]; exact hwg
  have hgb2 := hgb1.trans (gb_setRow wv b N1.toArray)
  clear hcp1
  go_wp2_with (at_builtin; refine Go.Proofs.wpList_copy_runI wv rfl (.tmp 73) (.tmp 76) 60 60 rfl _ _ rfl rfl (hc1 _ _ _) ?_)
  go_ret
  refine ⟨_, rfl, ⟨hRl, .inr ⟨b, d, _, rfl, hB, setRow_heap _ b N1.toArray _ 74 (0, 0) hwb2, hd, hcm, ?_, ?_⟩⟩, hgb2.trans (gb_setRow _ b _), .inl rfl⟩
  · rw [← List.append_assoc, ← List.append_assoc, List.size_toArray, List.length_append, hRl, hRr]; omega
  · rw [← List.append_assoc, ← List.append_assoc, List.toList_toArray, ← hRl]
    exact List.take_left
set_option maxRecDepth 100000 in
set_option maxHeartbeats 8000000 in
theorem insertGrow_any (B0 : Nat) (b n d i : Nat) (xs : List Value) (x : Tm) (g c : Nat) (w : World) (hn : n ≤ 1100000) (hi : i < n) (hd : d < n + 1) (ho : w.ownsRow B0 74 3 (.slice (some ⟨b, 0, none⟩) n d) n xs) (hx1 : ∀ u ∈ xs, u.oneCell' = true)
    (hg : w.heap[g]? = some (.cells #[.int .i64 (x.id : Int), .int .i64 (x.at_ : Int), .int .i64 (x.per : Int)] 74 (0, 0))) (hB0 : B0 ≤ w.heap.size) :
    Calls Try.prog 44 #[.slice (some ⟨b, 0, none⟩) n d, .int .i64 (i : Int), .slice (some ⟨g, 0, none⟩) 1 c] w (fun e w' => ∃ v', e = .returned v' ∧ w'.ownsRow B0 74 3 v' (n + 1) (xs.take (i * 3) ++ e3 x ++ xs.drop (i * 3)) ∧ w.grownBy w' (some b) ∧ NB w (.slice (some ⟨b, 0, none⟩) n d) v') := by
  obtain ⟨hxl, ⟨h, -⟩ | ⟨b', cap, cur, h, hB, hcur, hnc, hcm, hcs, htk⟩⟩ := ho
  · cases h
  injection h with h e1 e2
  injection h with h
  injection h with h
  subst h
  subst e2
  obtain ⟨i0, hi0, hz, hs6, hby⟩ := info_parts infoT
  have hsz : (Try.prog.info? 74).map (·.size) = some 3 := by rw [hi0]; simp [hs6]
  have hbl : b < w.heap.size := (Array.getElem?_eq_some_iff.1 hcur).1
  have hgl : g < w.heap.size := (Array.getElem?_eq_some_iff.1 hg).1
  have hik : i + (n + 1 - i) = n + 1 := by omega
  have hkk : (n : Int) + 1 - (i : Int) = ((n + 1 - i : Nat) : Int) := by omega
  have hold : (Builtin.firstCells i0.size i (.slice (some ⟨b, 0, none⟩) i d)).run Try.prog w.drew = .ok (xs.take (i * 3)).toArray w.drew := by
    rw [hs6]
    exact run_firstCells_some w.drew 3 i ⟨b, 0, none⟩ i d (xs.take (i * 3)) (by rw [List.length_take, hxl]; omega) (fun j v hj => by
      rw [Addr.add_lit]
      have hc : w.drew.heap[b]? = some (.cells cur 74 (0, 0)) := hcur
      rw [cell_lit hc, ← Array.getElem?_toList, Nat.zero_add]
      have := take_get hj
      rw [← htk] at this
      exact take_get this)
  obtain ⟨G, hG⟩ : ∃ G, grownCap w (n + 1) d 74 = G := ⟨_, rfl⟩
  have hrz : ∀ ty, (Builtin.append_ #[60, 3] ty #[.slice (some ⟨b, 0, none⟩) i d, .int .i64 ((n : Int) + 1 - (i : Int))]).run Try.prog w =
      .ok (.slice (some ⟨w.heap.size, 0, none⟩) (n + 1) G) (w.drew.alloc (.cells ((xs.take (i * 3)).toArray ++ Builtin.zeroCells (Value.agg #[.int .i64 0, .int .i64 0, .int .i64 0]).cells (n + 1 - i) ++ Builtin.zeroCells (Value.agg #[.int .i64 0, .int .i64 0, .int .i64 0]).cells (G - (n + 1))) 74)) := fun ty => by
    have h := Lib.run_append_grow_zeros w 60 3 ty 74 i0 _ .i64 .i64 Try.underlying60 Try.underlying3 hi0 hz (some ⟨b, 0, none⟩) i d (xs.take (i * 3)) hold (n + 1 - i) (by omega) (by omega) (by omega) (by omega) (by rw [hby]; omega) (by rw [hby, hik]; exact growslice_fits hd (by omega))
    rw [hik, hG] at h
    rw [hkk]
    exact h
  have hGn : n + 1 ≤ G := by rw [← hG]; exact grownCap_ge w _ _ _
  have hGm : G ≤ maxLen := by rw [← hG]; exact grownCap_le_maxLen w (n + 1) d 74 (by unfold maxLen; omega)
  obtain ⟨ROW, hROW⟩ : ∃ ROW : Array Value, (xs.take (i * 3)).toArray ++ Builtin.zeroCells (Value.agg #[.int .i64 0, .int .i64 0, .int .i64 0]).cells (n + 1 - i) ++ Builtin.zeroCells (Value.agg #[.int .i64 0, .int .i64 0, .int .i64 0]).cells (G - (n + 1)) = ROW := ⟨_, rfl⟩
  rw [hROW] at hrz
  have hz6 : (Value.agg #[.int .i64 0, .int .i64 0, .int .i64 0]).cells.size = 3 := rfl
  have hRs : ROW.toList.length = G * 3 := by
    rw [Array.length_toList, ← hROW, Array.size_append, Array.size_append, zc_size, zc_size, hz6, List.size_toArray, List.length_take, hxl]; omega
  have hRt : ROW.toList.take (i * 3) = xs.take (i * 3) := by
    rw [← hROW, Array.toList_append, Array.toList_append, List.append_assoc, List.toList_toArray]
    have : (xs.take (i * 3)).length = i * 3 := by rw [List.length_take, hxl]; omega
    rw [List.take_append_of_le_length (by rw [this]; exact Nat.le_refl _), List.take_of_length_le (by rw [this]; exact Nat.le_refl _)]
  obtain ⟨R, hR, hRl, hRr, hN1l⟩ := splice3 (X := e3 x) hRs hRt hxl hi hGn rfl
  obtain ⟨h, hh⟩ : ∃ h, w.heap.size = h := ⟨_, rfl⟩
  have hne : b ≠ h := by omega
  have hgne : g ≠ h := by omega
  have hcpA : ∀ (W : World) ty dc, W.heap[h]? = some (.cells ROW 74 (0, 0)) → W.heap[g]? = some (.cells #[.int .i64 (x.id : Int), .int .i64 (x.at_ : Int), .int .i64 (x.per : Int)] 74 (0, 0)) → (Builtin.copy_ #[60, 60] ty #[.slice (some ⟨h, i * 3, none⟩) (n + 1 - i) dc, .slice (some ⟨g, 0, none⟩) 1 c]).run Try.prog W = .ok (goInt (Nat.min 1 (n + 1 - i))) (W.setRow h (ROW.toList.take (i * 3) ++ e3 x ++ ROW.toList.drop (i * 3 + (e3 x).length)).toArray) := fun W ty dc hW hW2 =>
    run_copy_rowN W 60 60 ty 74 3 h (i * 3) (n + 1 - i) dc ⟨g, 0, none⟩ 1 c ROW 74 (e3 x) Try.underlying60 hsz hW (by show 3 = min _ _ * 3; rw [Nat.min_eq_left (by omega)])
      (fun j v hj => by
        rw [Addr.add_lit, cell_lit hW2, Nat.zero_add, List.getElem?_toArray]
        exact hj) (by show _ + 3 ≤ ROW.size; rw [← Array.length_toList, hRs]; omega) (e3_one x)
  obtain ⟨N1, hN1⟩ : ∃ N1, ROW.toList.take (i * 3) ++ e3 x ++ ROW.toList.drop (i * 3 + (e3 x).length) = N1 := ⟨_, rfl⟩
  rw [hN1] at hcpA hR hN1l
  have hdl : (xs.drop (i * 3)).length = (n - i) * 3 := by rw [List.length_drop, hxl]; omega
  have hcpB : ∀ (W : World) ty dc sc, W.heap[h]? = some (.cells N1.toArray 74 (0, 0)) → W.heap[b]? = some (.cells cur 74 (0, 0)) → (Builtin.copy_ #[60, 60] ty #[.slice (some ⟨h, (i + 1) * 3, none⟩) (n - i) dc, .slice (some ⟨b, i * 3, none⟩) (n - i) sc]).run Try.prog W = .ok (goInt (Nat.min (n - i) (n - i))) (W.setRow h (N1.take ((i + 1) * 3) ++ xs.drop (i * 3) ++ N1.drop ((i + 1) * 3 + (xs.drop (i * 3)).length)).toArray) := fun W ty dc sc hW hW2 =>
    run_copy_rowN W 60 60 ty 74 3 h ((i + 1) * 3) (n - i) dc ⟨b, i * 3, none⟩ (n - i) sc N1.toArray 74 (xs.drop (i * 3)) Try.underlying60 hsz hW (by rw [hdl]; show _ = min _ _ * 3; rw [Nat.min_self])
      (fun j v hj => by
        rw [Addr.add_lit, cell_lit hW2, ← Array.getElem?_toList]
        rw [List.getElem?_drop, ← htk] at hj
        exact take_get hj) (by rw [hdl, List.size_toArray, hN1l]; omega) (fun v hv => hx1 v (List.mem_of_mem_drop hv))
  rw [hR] at hcpB
  rw [show Nat.min (n - i) (n - i) = n - i from Nat.min_self _] at hcpB
  have hmin1 : Nat.min 1 (n + 1 - i) = 1 := Nat.min_eq_left (by omega)
  have hdn : decide ((d : Int) < (n : Int) + 1) = true := decide_eq_true (by omega)
  have hin : ((i : Int) == (n : Int)) = false := by rw [beq_eq_false_iff_ne]; omega
  have hw1 : IntKind.i64.wrap ((i : Int) + 1) = (i : Int) + 1 := by rw [IntKind.wrap_i64]; omega
  have hb1 : (0 : Int) ≤ (i : Int) + 1 := by omega
  have hin9 : i ≤ n := by omega
  have htn : ((i : Int) + 1).toNat = i + 1 := by omega
  have hb2 : ¬ (G = i + 1) := by omega
  have hb3 : (i : Int) ≤ (n : Int) + 1 := by omega
  have hb4 : ¬ (d = i) := by omega
  have hb5 : ¬ (G = i) := by omega
  have hG9 : G ≤ 9223372036854775807 := by unfold maxLen at hGm; omega
  have HG : Hid (w.heap.size = h) := Lib.hid hh
  rw [hh] at hrz hbl hgl
  have A1 : ∀ W : World, W.heap = (w.alloc (.cells ROW 74)).heap → W.heap[h]? = some (.cells ROW 74 (0, 0)) ∧ W.heap[g]? = some (.cells #[.int .i64 (x.id : Int), .int .i64 (x.at_ : Int), .int .i64 (x.per : Int)] 74 (0, 0)) ∧ W.heap[b]? = some (.cells cur 74 (0, 0)) := fun W hW => by
    rw [hW, ← hh]
    exact ⟨heap_newI w _, by rw [heap_alloc_old _ _ (by rw [hh]; exact hgl)]; exact hg, by rw [heap_alloc_old _ _ (by rw [hh]; exact hbl)]; exact hcur⟩
  clear hkk hik hold hROW hG hR htk hx1 hi0 hz hs6 hby hsz hdl hRs hRt hN1 hz6 hh
  go_enter Try.func44, Try.ntmps44
  have hcA := fun ty dc => hcpA (w.alloc (.cells ROW 74)).drew ty dc (A1 _ rfl).1 (A1 _ rfl).2.1
  rw [hmin1] at hcA
  clear hcpA
  go_wp2_with (at_builtin; refine Lib.wpList_append_run _ rfl _ _ _ _ rfl _ _ rfl rfl _ _ (hrz _) ?_)
  have hw3h := setRow_heap (w.alloc (.cells ROW 74)).drew h ROW N1.toArray 74 (0, 0) (A1 _ rfl).1
  have hw3b : ((w.alloc (.cells ROW 74)).drew.setRow h N1.toArray).heap[b]? = some (.cells cur 74 (0, 0)) := by rw [setRow_other _ h b _ hne]; exact (A1 _ rfl).2.2
  have hbl3 : Below w.heap.size w ((w.alloc (.cells ROW 74)).drew.setRow h N1.toArray) := below_setRow ((Below.refl _ w).alloc (Nat.le_refl _) _).drew (by rw [HG.out]; exact Nat.le_refl _) _
  clear hcA A1 hrz
  generalize (w.alloc (.cells ROW 74)).drew.setRow h N1.toArray = w3 at *
  refine wp_region_seqN (by kernel_rfl) (FF [(0, Fact.at_ w3 (.slice (some ⟨b, 0, none⟩) n d)), (1, Fact.at_ w3 (.int .i64 (i : Int))), (7, Fact.at_ w3 (.int .i64 1)), (9, Fact.at_ w3 (.slice (some ⟨h, 0, none⟩) (n + 1) G)), (46, Fact.at_ w3 (.slice (some ⟨h, 0, none⟩) (n + 1) G)), (47, Fact.at_ w3 (.int .i64 (i : Int))), (48, Fact.at_ w3 (.int .i64 1)), (49, Fact.at_ w3 (.int .i64 ((i : Int) + 1))), (50, Fact.at_ w3 (.slice (some ⟨h, (i + 1) * 3, none⟩) (n - i) (G - (i + 1)))), (51, Fact.at_ w3 (.slice (some ⟨b, 0, none⟩) n d)), (52, Fact.at_ w3 (.int .i64 (i : Int))), (53, Fact.at_ w3 (.slice (some ⟨b, i * 3, none⟩) (n - i) (d - i)))]) [0, 1, 7, 9] [] 95 8 [46, 47, 48, 49, 50, 51, 52, 53] rfl (by kernel_rfl) (by kernel_rfl) (by decide) (by kernel_rfl) (by kernel_rfl) ?_ ?_ ?_
  · intro t9 ht9
    simp only [List.mem_cons, List.not_mem_nil, or_false] at ht9
    rcases ht9 with rfl | rfl | rfl | rfl
    · exact ⟨rfl, Below.refl _ _⟩
    · exact ⟨rfl, Below.refl _ _⟩
    · exact ⟨rfl, Below.refl _ _⟩
    · exact ⟨rfl, Below.refl _ _⟩
  · refine fcs ⟨Ob.new_ (atcopy 9 46 (.slice (some ⟨h, 0, none⟩) (n + 1) G) (.inl rfl) rfl (by first | exact .inl rfl | exact .inr ⟨_, _, _, rfl, rfl, by kernel_rfl, by decide, rfl⟩) (by kernel_rfl) rfl rfl) (by kernel_rfl), ?_⟩
    refine fcs ⟨Ob.new_ (atcopy 1 47 (.int .i64 (i : Int)) (.inl rfl) rfl (by first | exact .inl rfl | exact .inr ⟨_, _, _, rfl, rfl, by kernel_rfl, by decide, rfl⟩) (by kernel_rfl) rfl rfl) (by kernel_rfl), ?_⟩
    refine fcs ⟨Ob.new_ (atcopy 7 48 (.int .i64 1) (.inl rfl) rfl (by first | exact .inl rfl | exact .inr ⟨_, _, _, rfl, rfl, by kernel_rfl, by decide, rfl⟩) (by kernel_rfl) rfl rfl) (by kernel_rfl), ?_⟩
    refine fcs ⟨Ob.new_ (at2 47 48 49 (.int .i64 (i : Int)) (.int .i64 1) (.int .i64 ((i : Int) + 1)) rfl (by first | exact .inl rfl | exact .inr ⟨_, _, _, rfl, rfl, by kernel_rfl, by decide, rfl⟩) (by kernel_rfl) (by kernel_rfl) rfl rfl rfl (fun a9 W9 hb9 h9 h8 => by simp [execOp, h9, h8] <;> go_simp)) (by kernel_rfl), ?_⟩
    refine fcs ⟨Ob.new_ (at2 46 49 50 (.slice (some ⟨h, 0, none⟩) (n + 1) G) (.int .i64 ((i : Int) + 1)) (.slice (some ⟨h, (i + 1) * 3, none⟩) (n - i) (G - (i + 1))) rfl (by first | exact .inl rfl | exact .inr ⟨_, _, _, rfl, rfl, by kernel_rfl, by decide, rfl⟩) (by kernel_rfl) (by kernel_rfl) rfl rfl rfl (fun a9 W9 hb9 h9 h8 => by simp [execOp, h9, h8] <;> go_simp)) (by kernel_rfl), ?_⟩
    refine fcs ⟨Ob.new_ (atcopy 0 51 (.slice (some ⟨b, 0, none⟩) n d) (.inl rfl) rfl (by first | exact .inl rfl | exact .inr ⟨_, _, _, rfl, rfl, by kernel_rfl, by decide, rfl⟩) (by kernel_rfl) rfl rfl) (by kernel_rfl), ?_⟩
    refine fcs ⟨Ob.new_ (atcopy 1 52 (.int .i64 (i : Int)) (.inl rfl) rfl (by first | exact .inl rfl | exact .inr ⟨_, _, _, rfl, rfl, by kernel_rfl, by decide, rfl⟩) (by kernel_rfl) rfl rfl) (by kernel_rfl), ?_⟩
    refine fcs ⟨Ob.new_ (at2 51 52 53 (.slice (some ⟨b, 0, none⟩) n d) (.int .i64 (i : Int)) (.slice (some ⟨b, i * 3, none⟩) (n - i) (d - i)) rfl (by first | exact .inl rfl | exact .inr ⟨_, _, _, rfl, rfl, by kernel_rfl, by decide, rfl⟩) (by kernel_rfl) (by kernel_rfl) rfl rfl rfl (fun a9 W9 hb9 h9 h8 => by simp [execOp, h9, h8] <;> go_simp)) (by kernel_rfl), ?_⟩
    exact fnl
  intro vv wv hvv hbv _ _
  have hv46 : vv 46 = (.slice (some ⟨h, 0, none⟩) (n + 1) G) := (hvv 46 (by decide)).1
  have hv47 : vv 47 = (.int .i64 (i : Int)) := (hvv 47 (by decide)).1
  have hv48 : vv 48 = (.int .i64 1) := (hvv 48 (by decide)).1
  have hv49 : vv 49 = (.int .i64 ((i : Int) + 1)) := (hvv 49 (by decide)).1
  have hv50 : vv 50 = (.slice (some ⟨h, (i + 1) * 3, none⟩) (n - i) (G - (i + 1))) := (hvv 50 (by decide)).1
  have hv51 : vv 51 = (.slice (some ⟨b, 0, none⟩) n d) := (hvv 51 (by decide)).1
  have hv52 : vv 52 = (.int .i64 (i : Int)) := (hvv 52 (by decide)).1
  have hv53 : vv 53 = (.slice (some ⟨b, i * 3, none⟩) (n - i) (d - i)) := (hvv 53 (by decide)).1
  simp only [lay, List.foldl_cons, List.foldl_nil, List.setIfInBounds_toArray, List.set_cons_succ, List.set_cons_zero, hv46, hv47, hv48, hv49, hv50, hv51, hv52, hv53, List.drop_succ_cons, List.drop_zero]
  have hwh : wv.heap[h]? = some (.cells N1.toArray 74 (0, 0)) := by rw [hbv.block h (Array.getElem?_eq_some_iff.1 hw3h).1]; exact hw3h
  have hwb : wv.heap[b]? = some (.cells cur 74 (0, 0)) := by rw [hbv.block b (Array.getElem?_eq_some_iff.1 hw3b).1]; exact hw3b
  have hblv := Below.next hbl3 hbv
  have hcB := fun ty dc sc => hcpB wv ty dc sc hwh hwb
  clear hvv hcpB
  go_wp2_with (at_builtin; refine Go.Proofs.wpList_copy_runI wv rfl (.tmp 50) (.tmp 53) 60 60 rfl _ _ rfl rfl (hcB _ _ _) ?_)
  go_ret
  refine ⟨_, rfl, ⟨hRl, .inr ⟨h, G, _, rfl, by rw [HG.out] at hB0; exact hB0, setRow_heap _ h N1.toArray _ 74 (0, 0) hwh, hGn, hGm, ?_, ?_⟩⟩, gbq_of (below_setRow hblv (by rw [HG.out]; exact Nat.le_refl _) _) _, .inr ⟨h, rfl, by rw [HG.out]; exact Nat.le_refl _⟩⟩
  · rw [← List.append_assoc, ← List.append_assoc, List.size_toArray, List.length_append, hRl, hRr]; omega
  · rw [← List.append_assoc, ← List.append_assoc, List.toList_toArray, ← hRl]
    exact List.take_left
theorem insert_any (B0 : Nat) (A : Option Addr) (n d i : Nat) (xs : List Value) (x : Tm) (g c : Nat) (w : World) (hn : n ≤ 1100000) (hi : i ≤ n) (ho : w.ownsRow B0 74 3 (.slice A n d) n xs) (hx1 : ∀ u ∈ xs, u.oneCell' = true)
    (hg : w.heap[g]? = some (.cells #[.int .i64 (x.id : Int), .int .i64 (x.at_ : Int), .int .i64 (x.per : Int)] 74 (0, 0))) (hgb : ∀ b, A = some ⟨b, 0, none⟩ → g ≠ b) (hB0 : B0 ≤ w.heap.size) :
    Calls Try.prog 44 #[.slice A n d, .int .i64 (i : Int), .slice (some ⟨g, 0, none⟩) 1 c] w (fun e w' => ∃ v', e = .returned v' ∧ w'.ownsRow B0 74 3 v' (n + 1) (xs.take (i * 3) ++ e3 x ++ xs.drop (i * 3)) ∧ w.grownBy w' (Value.slice A n d).ownBlock ∧ NB w (.slice A n d) v') := by
  by_cases h : i = n
  · subst h
    have e1 : xs.take (i * 3) = xs := List.take_of_length_le (by rw [ho.1]; exact Nat.le_refl _)
    have e2 : xs.drop (i * 3) = [] := List.drop_eq_nil_of_le (by rw [ho.1]; exact Nat.le_refl _)
    rw [e1, e2, List.append_nil]
    have hgl : g < w.heap.size := (Array.getElem?_eq_some_iff.1 hg).1
    exact insertEnd_any B0 A i d xs x g c w (by omega) ho ⟨hgl, fun j v e => ⟨by rw [cell_lit hg, List.getElem?_toArray]; exact e, frozen_lit hg⟩⟩ hB0
  · obtain ⟨b, rfl⟩ := own_some ho (by omega)
    by_cases hd : n + 1 ≤ d
    · exact insertRoom_any B0 b n d i xs x g c w (by omega) (by omega) hd ho hx1 hg (hgb b rfl)
    · exact insertGrow_any B0 b n d i xs x g c w hn (by omega) (by omega) ho hx1 hg hB0
end Go.Proofs.Ytiooilkbbfflaaa

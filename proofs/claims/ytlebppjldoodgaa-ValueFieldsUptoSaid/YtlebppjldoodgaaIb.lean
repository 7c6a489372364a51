import Derived.Test.YtlebppjldoodgaaIa
import Derived.Shelf.Spec.SlicesInsertGrow
import Derived.Laws.CopyOwn
/-
  slices.Insert ahead of an element, with or without room. No conditions beyond those that each names.
-/
namespace Go.Proofs.Ytlebppjldoodgaa
open Go.RowKit Go.Shelf Go.Lib
theorem heap_newI (w : World) (o : Obj) : (w.alloc o).heap[w.heap.size]? = some o := by
  rw [show (w.alloc o).heap = w.heap.push o from rfl]
  exact Array.getElem?_push_size
theorem zc_size (z : Array Value) (n : Nat) : (Builtin.zeroCells z n).size = n * z.size := by simp [Builtin.zeroCells]
/-- One element put ahead of another in a new row. -/
theorem splice3 {L xs X : List Value} {z n d i : Nat} (hL : L.length = d * z) (hx : L.take (i * z) = xs.take (i * z)) (hxl : xs.length = n * z) (hi : i < n) (hd : n + 1 ≤ d) (hX : X.length = z) :
    ∃ R, ((L.take (i * z) ++ X ++ L.drop (i * z + X.length)).take ((i + 1) * z) ++ xs.drop (i * z) ++ (L.take (i * z) ++ X ++ L.drop (i * z + X.length)).drop ((i + 1) * z + (xs.drop (i * z)).length)) = xs.take (i * z) ++ X ++ xs.drop (i * z) ++ R ∧ (xs.take (i * z) ++ X ++ xs.drop (i * z)).length = (n + 1) * z ∧ R.length = d * z - (n + 1) * z ∧ (L.take (i * z) ++ X ++ L.drop (i * z + X.length)).length = d * z := by
  have hm : (i + 1) * z = i * z + z := by rw [Nat.add_mul, Nat.one_mul]
  have hm2 : (n + 1) * z = n * z + z := by rw [Nat.add_mul, Nat.one_mul]
  have h1 : (i + 1) * z ≤ n * z := Nat.mul_le_mul_right z hi
  have h2 : (n + 1) * z ≤ d * z := Nat.mul_le_mul_right z hd
  have h3 : (xs.take (i * z) ++ X).length = i * z + z := by rw [List.length_append, List.length_take, hxl, hX]; omega
  have h4 : (L.take (i * z) ++ X ++ L.drop (i * z + X.length)).length = d * z := by rw [List.length_append, List.length_append, List.length_take, List.length_drop, hL, hX]; omega
  refine ⟨(L.take (i * z) ++ X ++ L.drop (i * z + X.length)).drop ((i + 1) * z + (xs.drop (i * z)).length), ?_, ?_, ?_, h4⟩
  · have e : (L.take (i * z) ++ X ++ L.drop (i * z + X.length)).take ((i + 1) * z) = xs.take (i * z) ++ X := by
      rw [hx, hm, List.take_append_of_le_length (by rw [h3]; exact Nat.le_refl _), List.take_of_length_le (by rw [h3]; exact Nat.le_refl _)]
    rw [e]
  · rw [List.length_append, h3, List.length_drop, hxl]; omega
  · rw [List.length_drop, h4, List.length_drop, hxl]; omega
set_option maxRecDepth 100000 in
set_option maxHeartbeats 8000000 in
theorem insertGrow_any (B0 : Nat) (b n d i : Nat) (xs : List Value) (x : Int × Vl) (s : Sb) (g c : Nat) (w : World) (hn : n ≤ 1100000) (hi : i < n) (hd : d < n + 1) (ho : w.ownsRow B0 72 6 (.slice (some ⟨b, 0, none⟩) n d) n xs) (hx1 : ∀ u ∈ xs, u.oneCell' = true)
    (hg : w.heap[g]? = some (.cells #[.int .i64 x.1, .int .i64 x.2.kind, .int .i64 x.2.n, .string (bs x.2.s), .slice s.A x.2.l.length s.c, .slice s.B x.2.f.length s.d] 72 (0, 0))) (hB0 : B0 ≤ w.heap.size) :
    Calls Try.prog 44 #[.slice (some ⟨b, 0, none⟩) n d, .int .i64 (i : Int), .slice (some ⟨g, 0, none⟩) 1 c] w (fun e w' => ∃ v', e = .returned v' ∧ w'.ownsRow B0 72 6 v' (n + 1) (xs.take (i * 6) ++ encE x s ++ xs.drop (i * 6)) ∧ w.grownBy w' (some b)) := by
  obtain ⟨hxl, ⟨h, -⟩ | ⟨b', cap, cur, h, hB, hcur, hnc, hcm, hcs, htk⟩⟩ := ho
  · cases h
  injection h with h e1 e2
  injection h with h
  injection h with h
  subst h
  subst e2
  obtain ⟨i0, hi0, hz, hs6, hby⟩ := info_parts infoE
  have hsz : (Try.prog.info? 72).map (·.size) = some 6 := by rw [hi0]; simp [hs6]
  have hbl : b < w.heap.size := (Array.getElem?_eq_some_iff.1 hcur).1
  have hgl : g < w.heap.size := (Array.getElem?_eq_some_iff.1 hg).1
  have hik : i + (n + 1 - i) = n + 1 := by omega
  have hkk : (n : Int) + 1 - (i : Int) = ((n + 1 - i : Nat) : Int) := by omega
  have hold : (Builtin.firstCells i0.size i (.slice (some ⟨b, 0, none⟩) i d)).run Try.prog w.drew = .ok (xs.take (i * 6)).toArray w.drew := by
    rw [hs6]
    exact run_firstCells_some w.drew 6 i ⟨b, 0, none⟩ i d (xs.take (i * 6)) (by rw [List.length_take, hxl]; omega) (fun j v hj => by
      rw [Addr.add_lit]
      have hc : w.drew.heap[b]? = some (.cells cur 72 (0, 0)) := hcur
      rw [cell_lit hc, ← Array.getElem?_toList, Nat.zero_add]
      have := take_get hj
      rw [← htk] at this
      exact take_get this)
  obtain ⟨G, hG⟩ : ∃ G, grownCap w (n + 1) d 72 = G := ⟨_, rfl⟩
  have hrz : ∀ ty, (Builtin.append_ #[23, 3] ty #[.slice (some ⟨b, 0, none⟩) i d, .int .i64 ((n : Int) + 1 - (i : Int))]).run Try.prog w =
      .ok (.slice (some ⟨w.heap.size, 0, none⟩) (n + 1) G) (w.drew.alloc (.cells ((xs.take (i * 6)).toArray ++ Builtin.zeroCells (Value.agg #[.int .i64 0, .int .i64 0, .int .i64 0, .string ⟨#[]⟩, .slice none 0 0, .slice none 0 0]).cells (n + 1 - i) ++ Builtin.zeroCells (Value.agg #[.int .i64 0, .int .i64 0, .int .i64 0, .string ⟨#[]⟩, .slice none 0 0, .slice none 0 0]).cells (G - (n + 1))) 72)) := fun ty => by
    have h := Lib.run_append_grow_zeros w 23 3 ty 72 i0 _ .i64 .i64 Try.underlying23 Try.underlying3 hi0 hz (some ⟨b, 0, none⟩) i d (xs.take (i * 6)) hold (n + 1 - i) (by omega) (by omega) (by omega) (by omega) (by rw [hby]; omega) (by rw [hby, hik]; exact growslice_fits hd (by omega))
    rw [hik, hG] at h
    rw [hkk]
    exact h
  have hGn : n + 1 ≤ G := by rw [← hG]; exact grownCap_ge w _ _ _
  have hGm : G ≤ maxLen := by rw [← hG]; exact grownCap_le_maxLen w (n + 1) d 72 (by unfold maxLen; omega)
  obtain ⟨ROW, hROW⟩ : ∃ ROW : Array Value, (xs.take (i * 6)).toArray ++ Builtin.zeroCells (Value.agg #[.int .i64 0, .int .i64 0, .int .i64 0, .string ⟨#[]⟩, .slice none 0 0, .slice none 0 0]).cells (n + 1 - i) ++ Builtin.zeroCells (Value.agg #[.int .i64 0, .int .i64 0, .int .i64 0, .string ⟨#[]⟩, .slice none 0 0, .slice none 0 0]).cells (G - (n + 1)) = ROW := ⟨_, rfl⟩
  rw [hROW] at hrz
  have hz6 : (Value.agg #[.int .i64 0, .int .i64 0, .int .i64 0, .string ⟨#[]⟩, .slice none 0 0, .slice none 0 0]).cells.size = 6 := rfl
  have hRs : ROW.toList.length = G * 6 := by
    rw [Array.length_toList, ← hROW, Array.size_append, Array.size_append, zc_size, zc_size, hz6, List.size_toArray, List.length_take, hxl]; omega
  have hRt : ROW.toList.take (i * 6) = xs.take (i * 6) := by
    rw [← hROW, Array.toList_append, Array.toList_append, List.append_assoc, List.toList_toArray]
    have : (xs.take (i * 6)).length = i * 6 := by rw [List.length_take, hxl]; omega
    rw [List.take_append_of_le_length (by rw [this]; exact Nat.le_refl _), List.take_of_length_le (by rw [this]; exact Nat.le_refl _)]
  obtain ⟨R, hR, hRl, hRr, hN1l⟩ := splice3 (X := encE x s) hRs hRt hxl hi hGn rfl
  obtain ⟨h, hh⟩ : ∃ h, w.heap.size = h := ⟨_, rfl⟩
  have hne : b ≠ h := by omega
  have hgne : g ≠ h := by omega
  have hcpA : ∀ (W : World) ty dc, W.heap[h]? = some (.cells ROW 72 (0, 0)) → W.heap[g]? = some (.cells #[.int .i64 x.1, .int .i64 x.2.kind, .int .i64 x.2.n, .string (bs x.2.s), .slice s.A x.2.l.length s.c, .slice s.B x.2.f.length s.d] 72 (0, 0)) → (Builtin.copy_ #[23, 23] ty #[.slice (some ⟨h, i * 6, none⟩) (n + 1 - i) dc, .slice (some ⟨g, 0, none⟩) 1 c]).run Try.prog W = .ok (goInt (Nat.min 1 (n + 1 - i))) (W.setRow h (ROW.toList.take (i * 6) ++ encE x s ++ ROW.toList.drop (i * 6 + (encE x s).length)).toArray) := fun W ty dc hW hW2 =>
    run_copy_rowN W 23 23 ty 72 6 h (i * 6) (n + 1 - i) dc ⟨g, 0, none⟩ 1 c ROW 72 (encE x s) Try.underlying23 hsz hW (by show 6 = min _ _ * 6; rw [Nat.min_eq_left (by omega)])
      (fun j v hj => by
        rw [Addr.add_lit, cell_lit hW2, Nat.zero_add, List.getElem?_toArray]
        exact hj) (by show _ + 6 ≤ ROW.size; rw [← Array.length_toList, hRs]; omega) (oneE x s)
  obtain ⟨N1, hN1⟩ : ∃ N1, ROW.toList.take (i * 6) ++ encE x s ++ ROW.toList.drop (i * 6 + (encE x s).length) = N1 := ⟨_, rfl⟩
  rw [hN1] at hcpA hR hN1l
  have hdl : (xs.drop (i * 6)).length = (n - i) * 6 := by rw [List.length_drop, hxl]; omega
  have hcpB : ∀ (W : World) ty dc sc, W.heap[h]? = some (.cells N1.toArray 72 (0, 0)) → W.heap[b]? = some (.cells cur 72 (0, 0)) → (Builtin.copy_ #[23, 23] ty #[.slice (some ⟨h, (i + 1) * 6, none⟩) (n - i) dc, .slice (some ⟨b, i * 6, none⟩) (n - i) sc]).run Try.prog W = .ok (goInt (Nat.min (n - i) (n - i))) (W.setRow h (N1.take ((i + 1) * 6) ++ xs.drop (i * 6) ++ N1.drop ((i + 1) * 6 + (xs.drop (i * 6)).length)).toArray) := fun W ty dc sc hW hW2 =>
    run_copy_rowN W 23 23 ty 72 6 h ((i + 1) * 6) (n - i) dc ⟨b, i * 6, none⟩ (n - i) sc N1.toArray 72 (xs.drop (i * 6)) Try.underlying23 hsz hW (by rw [hdl]; show _ = min _ _ * 6; rw [Nat.min_self])
      (fun j v hj => by
        rw [Addr.add_lit, cell_lit hW2, ← Array.getElem?_toList]
        rw [List.getElem?_drop, ← htk] at hj
        exact take_get hj) (by rw [hdl, List.size_toArray, hN1l]; omega) (fun v hv => hx1 v (List.mem_of_mem_drop hv))
  rw [hR] at hcpB
  rw [show Nat.min (n - i) (n - i) = n - i from Nat.min_self _] at hcpB
  have hmin1 : Nat.min 1 (n + 1 - i) = 1 := Nat.min_eq_left (by omega)
  have hdn : decide ((d : Int) < (n : Int) + 1) = true := decide_eq_true (by omega)
  have hin : ((i : Int) == (n : Int)) = false := by rw [beq_eq_false_iff_ne]; omega
  have hw1 : IntKind.i64.wrap ((i : Int) + 1) = (i : Int) + 1 := by rw [IntKind.wrap_i64]; omega
  have hb1 : (0 : Int) ≤ (i : Int) + 1 := by omega
  have hin9 : i ≤ n := by omega
  have htn : ((i : Int) + 1).toNat = i + 1 := by omega
  have hb2 : ¬ (G = i + 1) := by omega
  have hb3 : (i : Int) ≤ (n : Int) + 1 := by omega
  have hb4 : ¬ (d = i) := by omega
  have hb5 : ¬ (G = i) := by omega
  have hG9 : G ≤ 9223372036854775807 := by unfold maxLen at hGm; omega
  have HG : Hid (w.heap.size = h) := Lib.hid hh
  rw [hh] at hrz hbl hgl
  have A1 : ∀ W : World, W.heap = (w.alloc (.cells ROW 72)).heap → W.heap[h]? = some (.cells ROW 72 (0, 0)) ∧ W.heap[g]? = some (.cells #[.int .i64 x.1, .int .i64 x.2.kind, .int .i64 x.2.n, .string (bs x.2.s), .slice s.A x.2.l.length s.c, .slice s.B x.2.f.length s.d] 72 (0, 0)) ∧ W.heap[b]? = some (.cells cur 72 (0, 0)) := fun W hW => by
    rw [hW, ← hh]
    exact ⟨heap_newI w _, by rw [heap_alloc_old _ _ (by rw [hh]; exact hgl)]; exact hg, by rw [heap_alloc_old _ _ (by rw [hh]; exact hbl)]; exact hcur⟩
  clear hkk hik hold hROW hG hR htk hx1 hi0 hz hs6 hby hsz hdl hRs hRt hN1 hz6 hh
  go_enter Try.func44, Try.ntmps44
  have hcA := fun ty dc => hcpA (w.alloc (.cells ROW 72)).drew ty dc (A1 _ rfl).1 (A1 _ rfl).2.1
  rw [hmin1] at hcA
  clear hcpA
  go_wp2_with (at_builtin; refine Lib.wpList_append_run _ rfl _ _ _ _ rfl _ _ rfl rfl _ _ (hrz _) ?_)
  have hw3h := setRow_heap (w.alloc (.cells ROW 72)).drew h ROW N1.toArray 72 (0, 0) (A1 _ rfl).1
  have hw3b : ((w.alloc (.cells ROW 72)).drew.setRow h N1.toArray).heap[b]? = some (.cells cur 72 (0, 0)) := by rw [setRow_other _ h b _ hne]; exact (A1 _ rfl).2.2
  have hbl3 : Below w.heap.size w ((w.alloc (.cells ROW 72)).drew.setRow h N1.toArray) := below_setRow ((Below.refl _ w).alloc (Nat.le_refl _) _).drew (by rw [HG.out]; exact Nat.le_refl _) _
  clear hcA A1 hrz
  generalize (w.alloc (.cells ROW 72)).drew.setRow h N1.toArray = w3 at *
  refine wp_region_seqN (by kernel_rfl) (FF [(0, Fact.at_ w3 (.slice (some ⟨b, 0, none⟩) n d)), (1, Fact.at_ w3 (.int .i64 (i : Int))), (7, Fact.at_ w3 (.int .i64 1)), (9, Fact.at_ w3 (.slice (some ⟨h, 0, none⟩) (n + 1) G)), (46, Fact.at_ w3 (.slice (some ⟨h, 0, none⟩) (n + 1) G)), (47, Fact.at_ w3 (.int .i64 (i : Int))), (48, Fact.at_ w3 (.int .i64 1)), (49, Fact.at_ w3 (.int .i64 ((i : Int) + 1))), (50, Fact.at_ w3 (.slice (some ⟨h, (i + 1) * 6, none⟩) (n - i) (G - (i + 1)))), (51, Fact.at_ w3 (.slice (some ⟨b, 0, none⟩) n d)), (52, Fact.at_ w3 (.int .i64 (i : Int))), (53, Fact.at_ w3 (.slice (some ⟨b, i * 6, none⟩) (n - i) (d - i)))]) [0, 1, 7, 9] [] 95 8 [46, 47, 48, 49, 50, 51, 52, 53] rfl (by kernel_rfl) (by kernel_rfl) (by decide) (by kernel_rfl) (by kernel_rfl) ?_ ?_ ?_
  · intro t9 ht9
    simp only [List.mem_cons, List.not_mem_nil, or_false] at ht9
    rcases ht9 with rfl | rfl | rfl | rfl
    · exact ⟨rfl, Below.refl _ _⟩
    · exact ⟨rfl, Below.refl _ _⟩
    · exact ⟨rfl, Below.refl _ _⟩
    · exact ⟨rfl, Below.refl _ _⟩
  · refine fcs ⟨Ob.new_ (atcopy 9 46 (.slice (some ⟨h, 0, none⟩) (n + 1) G) (.inl rfl) rfl (by first | exact .inl rfl | exact .inr ⟨_, _, _, rfl, rfl, by kernel_rfl, by decide, rfl⟩) (by kernel_rfl) rfl rfl) (by kernel_rfl), ?_⟩
    refine fcs ⟨Ob.new_ (atcopy 1 47 (.int .i64 (i : Int)) (.inl rfl) rfl (by first | exact .inl rfl | exact .inr ⟨_, _, _, rfl, rfl, by kernel_rfl, by decide, rfl⟩) (by kernel_rfl) rfl rfl) (by kernel_rfl), ?_⟩
    refine fcs ⟨Ob.new_ (atcopy 7 48 (.int .i64 1) (.inl rfl) rfl (by first | exact .inl rfl | exact .inr ⟨_, _, _, rfl, rfl, by kernel_rfl, by decide, rfl⟩) (by kernel_rfl) rfl rfl) (by kernel_rfl), ?_⟩
    refine fcs ⟨Ob.new_ (at2 47 48 49 (.int .i64 (i : Int)) (.int .i64 1) (.int .i64 ((i : Int) + 1)) rfl (by first | exact .inl rfl | exact .inr ⟨_, _, _, rfl, rfl, by kernel_rfl, by decide, rfl⟩) (by kernel_rfl) (by kernel_rfl) rfl rfl rfl (fun a9 W9 hb9 h9 h8 => by simp [execOp, h9, h8] <;> go_simp)) (by kernel_rfl), ?_⟩
    refine fcs ⟨Ob.new_ (at2 46 49 50 (.slice (some ⟨h, 0, none⟩) (n + 1) G) (.int .i64 ((i : Int) + 1)) (.slice (some ⟨h, (i + 1) * 6, none⟩) (n - i) (G - (i + 1))) rfl (by first | exact .inl rfl | exact .inr ⟨_, _, _, rfl, rfl, by kernel_rfl, by decide, rfl⟩) (by kernel_rfl) (by kernel_rfl) rfl rfl rfl (fun a9 W9 hb9 h9 h8 => by simp [execOp, h9, h8] <;> go_simp)) (by kernel_rfl), ?_⟩
    refine fcs ⟨Ob.new_ (atcopy 0 51 (.slice (some ⟨b, 0, none⟩) n d) (.inl rfl) rfl (by first | exact .inl rfl | exact .inr ⟨_, _, _, rfl, rfl, by kernel_rfl, by decide, rfl⟩) (by kernel_rfl) rfl rfl) (by kernel_rfl), ?_⟩
    refine fcs ⟨Ob.new_ (atcopy 1 52 (.int .i64 (i : Int)) (.inl rfl) rfl (by first | exact .inl rfl | exact .inr ⟨_, _, _, rfl, rfl, by kernel_rfl, by decide, rfl⟩) (by kernel_rfl) rfl rfl) (by kernel_rfl), ?_⟩
    refine fcs ⟨Ob.new_ (at2 51 52 53 (.slice (some ⟨b, 0, none⟩) n d) (.int .i64 (i : Int)) (.slice (some ⟨b, i * 6, none⟩) (n - i) (d - i)) rfl (by first | exact .inl rfl | exact .inr ⟨_, _, _, rfl, rfl, by kernel_rfl, by decide, rfl⟩) (by kernel_rfl) (by kernel_rfl) rfl rfl rfl (fun a9 W9 hb9 h9 h8 => by simp [execOp, h9, h8] <;> go_simp)) (by kernel_rfl), ?_⟩
    exact fnl
  intro vv wv hvv hbv _ _
  have hv46 : vv 46 = (.slice (some ⟨h, 0, none⟩) (n + 1) G) := (hvv 46 (by decide)).1
  have hv47 : vv 47 = (.int .i64 (i : Int)) := (hvv 47 (by decide)).1
  have hv48 : vv 48 = (.int .i64 1) := (hvv 48 (by decide)).1
  have hv49 : vv 49 = (.int .i64 ((i : Int) + 1)) := (hvv 49 (by decide)).1
  have hv50 : vv 50 = (.slice (some ⟨h, (i + 1) * 6, none⟩) (n - i) (G - (i + 1))) := (hvv 50 (by decide)).1
  have hv51 : vv 51 = (.slice (some ⟨b, 0, none⟩) n d) := (hvv 51 (by decide)).1
  have hv52 : vv 52 = (.int .i64 (i : Int)) := (hvv 52 (by decide)).1
  have hv53 : vv 53 = (.slice (some ⟨b, i * 6, none⟩) (n - i) (d - i)) := (hvv 53 (by decide)).1
  simp only [lay, List.foldl_cons, List.foldl_nil, List.setIfInBounds_toArray, List.set_cons_succ, List.set_cons_zero, hv46, hv47, hv48, hv49, hv50, hv51, hv52, hv53, List.drop_succ_cons, List.drop_zero]
  have hwh : wv.heap[h]? = some (.cells N1.toArray 72 (0, 0)) := by rw [hbv.block h (Array.getElem?_eq_some_iff.1 hw3h).1]; exact hw3h
  have hwb : wv.heap[b]? = some (.cells cur 72 (0, 0)) := by rw [hbv.block b (Array.getElem?_eq_some_iff.1 hw3b).1]; exact hw3b
  have hblv := Below.next hbl3 hbv
  have hcB := fun ty dc sc => hcpB wv ty dc sc hwh hwb
  clear hvv hcpB
  go_wp2_with (at_builtin; refine Go.Proofs.wpList_copy_runI wv rfl (.tmp 50) (.tmp 53) 23 23 rfl _ _ rfl rfl (hcB _ _ _) ?_)
  go_ret
  refine ⟨_, rfl, ⟨hRl, .inr ⟨h, G, _, rfl, by rw [HG.out] at hB0; exact hB0, setRow_heap _ h N1.toArray _ 72 (0, 0) hwh, hGn, hGm, ?_, ?_⟩⟩, gbq_of (below_setRow hblv (by rw [HG.out]; exact Nat.le_refl _) _) _⟩
  · rw [← List.append_assoc, ← List.append_assoc, List.size_toArray, List.length_append, hRl, hRr]; omega
  · rw [← List.append_assoc, ← List.append_assoc, List.toList_toArray, ← hRl]
    exact List.take_left
/-- slices.Insert of one entry anywhere in a row that a call owns. -/
theorem insert_any (B0 : Nat) (A : Option Addr) (n d i : Nat) (xs : List Value) (x : Int × Vl) (s : Sb) (g c : Nat) (w : World) (hn : n ≤ 1100000) (hi : i ≤ n) (ho : w.ownsRow B0 72 6 (.slice A n d) n xs) (hx1 : ∀ u ∈ xs, u.oneCell' = true)
    (hg : w.heap[g]? = some (.cells #[.int .i64 x.1, .int .i64 x.2.kind, .int .i64 x.2.n, .string (bs x.2.s), .slice s.A x.2.l.length s.c, .slice s.B x.2.f.length s.d] 72 (0, 0))) (hgb : ∀ b, A = some ⟨b, 0, none⟩ → g ≠ b) (hB0 : B0 ≤ w.heap.size) :
    Calls Try.prog 44 #[.slice A n d, .int .i64 (i : Int), .slice (some ⟨g, 0, none⟩) 1 c] w (fun e w' => ∃ v', e = .returned v' ∧ w'.ownsRow B0 72 6 v' (n + 1) (xs.take (i * 6) ++ encE x s ++ xs.drop (i * 6)) ∧ w.grownBy w' (Value.slice A n d).ownBlock) := by
  by_cases h : i = n
  · subst h
    have e1 : xs.take (i * 6) = xs := List.take_of_length_le (by rw [ho.1]; exact Nat.le_refl _)
    have e2 : xs.drop (i * 6) = [] := List.drop_eq_nil_of_le (by rw [ho.1]; exact Nat.le_refl _)
    rw [e1, e2, List.append_nil]
    have hgl : g < w.heap.size := (Array.getElem?_eq_some_iff.1 hg).1
    exact insertEnd_any B0 A i d xs x s g c w (by omega) ho ⟨hgl, fun j v e => ⟨by rw [cell_lit hg, List.getElem?_toArray]; exact e, frozen_lit hg⟩⟩ hB0
  · obtain ⟨b, rfl⟩ := own_some ho (by omega)
    by_cases hd : n + 1 ≤ d
    · exact insertRoom_any B0 b n d i xs x s g c w (by omega) (by omega) hd ho hx1 hg (hgb b rfl)
    · exact insertGrow_any B0 b n d i xs x s g c w hn (by omega) (by omega) ho hx1 hg hB0
end Go.Proofs.Ytlebppjldoodgaa

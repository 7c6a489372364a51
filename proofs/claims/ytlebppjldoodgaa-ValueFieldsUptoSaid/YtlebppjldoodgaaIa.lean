import Derived.Test.YtlebppjldoodgaaYn
import Derived.Lib.Overlaps
import Derived.Lib.AppendZerosOnto
import Derived.Laws.CopyRow
import Derived.Laws.Externs
import Derived.Shelf.Spec.SlicesInsert
/-
  'copy' between rows of elements of several cells; slices.Insert ahead of an element where there is room. No conditions beyond those that each names.
-/
namespace Go.Proofs.Ytlebppjldoodgaa
open Go.RowKit Go.Shelf
theorem run_copy_rowN {P : Program} (w : World) (dT sT ty elem : TypeId) (z : Nat) (g o dLen dCap : Nat) (a : Addr) (sLen sCap : Nat) (cur : Array Value) (t : TypeId) (cs : List Value)
    (hu : P.underlying dT = some (.slice elem)) (hs : (P.info? elem).map (·.size) = some z) (hg : w.heap[g]? = some (.cells cur t (0, 0))) (hn : cs.length = Nat.min sLen dLen * z)
    (hsrc : ∀ j v, cs[j]? = some v → w.cell? (a.add j) = some v) (hfit : o + cs.length ≤ cur.size) (h1 : ∀ v ∈ cs, v.oneCell' = true) :
    (Builtin.copy_ #[dT, sT] ty #[.slice (some ⟨g, o, none⟩) dLen dCap, .slice (some a) sLen sCap]).run P w =
      .ok (goInt (Nat.min sLen dLen)) (w.setRow g (cur.toList.take o ++ cs ++ cur.toList.drop (o + cs.length)).toArray) := by
  have hl := run_loadCells_list (P := P) w a cs hsrc
  have hst := run_storeCells_at P g o t cs 0 cur w hg (by simpa using hfit) h1
  cases hq : P.info? elem with
  | none => simp [hq] at hs
  | some i =>
    have hi : i.size = z := by simpa [hq] using hs
    simp [Builtin.copy_, run_underlying hu, Builtin.lenOf, Builtin.firstCells, sizeOf, typeInfo, hq, hi, ← hn, hl, hst]
theorem cell_lit {w : World} {g j : Nat} {cur : Array Value} {t : TypeId} {fr : Nat × Nat} (hg : w.heap[g]? = some (.cells cur t fr)) : w.cell? ⟨g, j, none⟩ = cur[j]? := by
  simp [World.cell?, hg]
theorem shape_lit {w : World} {g : Nat} {cur : Array Value} {t : TypeId} {fr : Nat × Nat} (hg : w.heap[g]? = some (.cells cur t fr)) : w.shape? g = some (t, cur.size) := by
  simp [World.shape?, hg]
theorem frozen_lit {w : World} {g j : Nat} {cur : Array Value} {t : TypeId} (hg : w.heap[g]? = some (.cells cur t (0, 0))) : w.frozen? ⟨g, j, none⟩ = false := by
  simp [World.frozen?, hg]
theorem gb_setRow (w : World) (b : Nat) (cs : Array Value) : w.grownBy (w.setRow b cs) (some b) := ⟨rfl, rfl, rfl, by simp [World.setRow], fun i _ h => setRow_other w b i cs (fun e => h (by rw [e]))⟩
/-- One element of z cells put ahead of another: the row as two copies leave it. -/
theorem splice2 {L xs X : List Value} {z n d i : Nat} (hL : L.length = d * z) (hx : L.take (n * z) = xs) (hi : i < n) (hd : n + 1 ≤ d) (hX : X.length = z) :
    ∃ R, ((L.take ((i + 1) * z) ++ xs.drop (i * z) ++ L.drop ((i + 1) * z + (xs.drop (i * z)).length)).take (i * z) ++ X ++ (L.take ((i + 1) * z) ++ xs.drop (i * z) ++ L.drop ((i + 1) * z + (xs.drop (i * z)).length)).drop (i * z + X.length)) = xs.take (i * z) ++ X ++ xs.drop (i * z) ++ R ∧ (xs.take (i * z) ++ X ++ xs.drop (i * z)).length = (n + 1) * z ∧ R.length = d * z - (n + 1) * z := by
  have hm : (i + 1) * z = i * z + z := by rw [Nat.add_mul, Nat.one_mul]
  have hm2 : (n + 1) * z = n * z + z := by rw [Nat.add_mul, Nat.one_mul]
  have h1 : (i + 1) * z ≤ n * z := Nat.mul_le_mul_right z hi
  have h2 : (n + 1) * z ≤ d * z := Nat.mul_le_mul_right z hd
  have hxl : xs.length = n * z := by rw [← hx, List.length_take, hL]; omega
  have h3 : (L.take ((i + 1) * z)).length = i * z + z := by rw [List.length_take, hL]; omega
  refine ⟨L.drop ((i + 1) * z + (xs.drop (i * z)).length), ?_, ?_, ?_⟩
  · have e1 : (L.take ((i + 1) * z) ++ xs.drop (i * z) ++ L.drop ((i + 1) * z + (xs.drop (i * z)).length)).take (i * z) = xs.take (i * z) := by
      rw [List.append_assoc, List.take_append_of_le_length (by rw [h3]; omega), List.take_take, Nat.min_eq_left (by omega), ← hx, List.take_take, Nat.min_eq_left (by omega)]
    have e2 : (L.take ((i + 1) * z) ++ xs.drop (i * z) ++ L.drop ((i + 1) * z + (xs.drop (i * z)).length)).drop (i * z + X.length) = xs.drop (i * z) ++ L.drop ((i + 1) * z + (xs.drop (i * z)).length) := by
      rw [List.append_assoc, List.drop_append, List.drop_eq_nil_of_le (by rw [h3, hX]; omega), h3, hX, Nat.sub_self, List.drop_zero, List.nil_append]
    rw [e1, e2, ← List.append_assoc]
  · rw [List.length_append, List.length_append, List.length_take, List.length_drop, hxl, hX]; omega
  · rw [List.length_drop, List.length_drop, hL, hxl]; omega
theorem take_get {α : Type} {l : List α} {m k : Nat} {v : α} (h : (l.take m)[k]? = some v) : l[k]? = some v := by
  rw [List.getElem?_take] at h
  split at h
  · exact h
  · cases h
set_option maxRecDepth 100000 in
set_option maxHeartbeats 8000000 in
theorem insertRoom_any (B0 : Nat) (b n d i : Nat) (xs : List Value) (x : Int × Vl) (s : Sb) (g c : Nat) (w : World) (hn : n ≤ 2000000) (hi : i < n) (hd : n + 1 ≤ d) (ho : w.ownsRow B0 72 6 (.slice (some ⟨b, 0, none⟩) n d) n xs) (hx1 : ∀ u ∈ xs, u.oneCell' = true)
    (hg : w.heap[g]? = some (.cells #[.int .i64 x.1, .int .i64 x.2.kind, .int .i64 x.2.n, .string (bs x.2.s), .slice s.A x.2.l.length s.c, .slice s.B x.2.f.length s.d] 72 (0, 0))) (hgb : g ≠ b) :
    Calls Try.prog 44 #[.slice (some ⟨b, 0, none⟩) n d, .int .i64 (i : Int), .slice (some ⟨g, 0, none⟩) 1 c] w (fun e w' => ∃ v', e = .returned v' ∧ w'.ownsRow B0 72 6 v' (n + 1) (xs.take (i * 6) ++ encE x s ++ xs.drop (i * 6)) ∧ w.grownBy w' (some b)) := by
  obtain ⟨hxl, ⟨h, -⟩ | ⟨b', cap, cur, h, hB, hcur, hnc, hcm, hcs, htk⟩⟩ := ho
  · cases h
  injection h with h e1 e2
  injection h with h
  injection h with h
  subst h
  subst e2
  have hcm9 : d ≤ 9223372036854775807 := by unfold maxLen at hcm; omega
  have hov : ∀ lb cb, (callFunc 71 #[.slice (some ⟨g, 0, none⟩) 1 c, .slice (some ⟨b, (i + 1) * 6, none⟩) lb cb]).run Try.prog w = .ok (.value (.bool false)) w := fun lb cb => by
    rw [run_callFunc_extern Try.func71 (by kernel_rfl) (by kernel_rfl) (by kernel_rfl) (e := Extern.SlicesOverlaps.overlaps #[23, 23] #[4]) (by kernel_rfl),
      Lib.run_overlaps_apart w 23 4 72 Try.underlying23 6 Try.sizeOf72 ⟨g, 0, none⟩ ⟨b, (i + 1) * 6, none⟩ 1 c lb cb hgb _ _ _ _ (shape_lit hg) (shape_lit hcur) (by rw [hcs]; omega) (frozen_lit hg) (frozen_lit hg)]
    rfl
  obtain ⟨i0, hi0, hz, hs6, hby⟩ := info_parts infoE
  have hsz : (Try.prog.info? 72).map (·.size) = some 6 := by rw [hi0]; simp [hs6]
  have hcl : cur.toList.length = d * 6 := by rw [Array.length_toList, hcs]
  obtain ⟨R, hR, hRl, hRr⟩ := splice2 (X := encE x s) hcl htk hi hd rfl
  have hdl : (xs.drop (i * 6)).length = (n - i) * 6 := by rw [List.length_drop, hxl]; omega
  have hcp1 : ∀ (W : World) ty dc sc, W.heap[b]? = some (.cells cur 72 (0, 0)) → (Builtin.copy_ #[23, 23] ty #[.slice (some ⟨b, (i + 1) * 6, none⟩) (n - i) dc, .slice (some ⟨b, i * 6, none⟩) (n + 1 - i) sc]).run Try.prog W = .ok (goInt (Nat.min (n + 1 - i) (n - i))) (W.setRow b (cur.toList.take ((i + 1) * 6) ++ xs.drop (i * 6) ++ cur.toList.drop ((i + 1) * 6 + (xs.drop (i * 6)).length)).toArray) := fun W ty dc sc hW =>
    run_copy_rowN W 23 23 ty 72 6 b ((i + 1) * 6) (n - i) dc ⟨b, i * 6, none⟩ (n + 1 - i) sc cur 72 (xs.drop (i * 6)) Try.underlying23 hsz hW (by rw [hdl]; show _ = min _ _ * 6; rw [Nat.min_eq_right (by omega)])
      (fun j v hj => by
        rw [Addr.add_lit, cell_lit hW, ← Array.getElem?_toList]
        rw [List.getElem?_drop, ← htk] at hj
        exact take_get hj) (by rw [hdl, hcs]; omega) (fun v hv => hx1 v (List.mem_of_mem_drop hv))
  obtain ⟨N1, hN1⟩ : ∃ N1, cur.toList.take ((i + 1) * 6) ++ xs.drop (i * 6) ++ cur.toList.drop ((i + 1) * 6 + (xs.drop (i * 6)).length) = N1 := ⟨_, rfl⟩
  rw [hN1] at hcp1 hR
  have hN1l : N1.length = d * 6 := by rw [← hN1, List.length_append, List.length_append, List.length_take, hdl, List.length_drop, hcl]; omega
  have hcp2 : ∀ (W : World) ty dc, W.heap[b]? = some (.cells N1.toArray 72 (0, 0)) → W.heap[g]? = some (.cells #[.int .i64 x.1, .int .i64 x.2.kind, .int .i64 x.2.n, .string (bs x.2.s), .slice s.A x.2.l.length s.c, .slice s.B x.2.f.length s.d] 72 (0, 0)) → (Builtin.copy_ #[23, 23] ty #[.slice (some ⟨b, i * 6, none⟩) (n + 1 - i) dc, .slice (some ⟨g, 0, none⟩) 1 c]).run Try.prog W = .ok (goInt (Nat.min 1 (n + 1 - i))) (W.setRow b (N1.take (i * 6) ++ encE x s ++ N1.drop (i * 6 + (encE x s).length)).toArray) := fun W ty dc hW hW2 =>
    run_copy_rowN W 23 23 ty 72 6 b (i * 6) (n + 1 - i) dc ⟨g, 0, none⟩ 1 c N1.toArray 72 (encE x s) Try.underlying23 hsz hW (by show 6 = min _ _ * 6; rw [Nat.min_eq_left (by omega)])
      (fun j v hj => by
        rw [Addr.add_lit, cell_lit hW2, Nat.zero_add, List.getElem?_toArray]
        exact hj) (by show _ + 6 ≤ N1.toArray.size; rw [List.size_toArray, hN1l]; omega) (oneE x s)
  rw [hR] at hcp2
  have hmin1 : Nat.min 1 (n + 1 - i) = 1 := Nat.min_eq_left (by omega)
  have hdn : decide ((d : Int) < (n : Int) + 1) = false := decide_eq_false (by omega)
  have hin : ((i : Int) == (n : Int)) = false := by rw [beq_eq_false_iff_ne]; omega
  have hw1 : IntKind.i64.wrap ((i : Int) + 1) = (i : Int) + 1 := by rw [IntKind.wrap_i64]; omega
  have hb1 : (0 : Int) ≤ (i : Int) + 1 := by omega
  have hin9 : i ≤ n := by omega
  have htn : ((i : Int) + 1).toNat = i + 1 := by omega
  have hb2 : ¬ (d = i + 1) := by omega
  have hb3 : (i : Int) ≤ (n : Int) + 1 := by omega
  have hb4 : ¬ (d = i) := by omega
  clear hN1 hR htk hx1 hi0 hz hs6 hby hsz hN1l hdl hcl
  go_enter Try.func44, Try.ntmps44
  go_wp2_with (simp only [hov])
  refine wp_region_seqN (by kernel_rfl) (FF [(0, Fact.at_ w (.slice (some ⟨b, 0, none⟩) (n + 1) d)), (1, Fact.at_ w (.int .i64 (i : Int))), (7, Fact.at_ w (.int .i64 1)), (69, Fact.at_ w (.slice (some ⟨b, 0, none⟩) (n + 1) d)), (70, Fact.at_ w (.int .i64 (i : Int))), (71, Fact.at_ w (.int .i64 1)), (72, Fact.at_ w (.int .i64 ((i : Int) + 1))), (73, Fact.at_ w (.slice (some ⟨b, (i + 1) * 6, none⟩) (n - i) (d - (i + 1)))), (74, Fact.at_ w (.slice (some ⟨b, 0, none⟩) (n + 1) d)), (75, Fact.at_ w (.int .i64 (i : Int))), (76, Fact.at_ w (.slice (some ⟨b, i * 6, none⟩) (n + 1 - i) (d - i)))]) [0, 1, 7] [] 95 8 [69, 70, 71, 72, 73, 74, 75, 76] rfl (by kernel_rfl) (by kernel_rfl) (by decide) (by kernel_rfl) (by kernel_rfl) ?_ ?_ ?_
  · intro t9 ht9
    simp only [List.mem_cons, List.not_mem_nil, or_false] at ht9
    rcases ht9 with rfl | rfl | rfl
    · exact ⟨rfl, Below.refl _ _⟩
    · exact ⟨rfl, Below.refl _ _⟩
    · exact ⟨rfl, Below.refl _ _⟩
  · refine fcs ⟨Ob.new_ (atcopy 0 69 (.slice (some ⟨b, 0, none⟩) (n + 1) d) (.inl rfl) rfl (by first | exact .inl rfl | exact .inr ⟨_, _, _, rfl, rfl, by kernel_rfl, by decide, rfl⟩) (by kernel_rfl) rfl rfl) (by kernel_rfl), ?_⟩
    refine fcs ⟨Ob.new_ (atcopy 1 70 (.int .i64 (i : Int)) (.inl rfl) rfl (by first | exact .inl rfl | exact .inr ⟨_, _, _, rfl, rfl, by kernel_rfl, by decide, rfl⟩) (by kernel_rfl) rfl rfl) (by kernel_rfl), ?_⟩
    refine fcs ⟨Ob.new_ (atcopy 7 71 (.int .i64 1) (.inl rfl) rfl (by first | exact .inl rfl | exact .inr ⟨_, _, _, rfl, rfl, by kernel_rfl, by decide, rfl⟩) (by kernel_rfl) rfl rfl) (by kernel_rfl), ?_⟩
    refine fcs ⟨Ob.new_ (at2 70 71 72 (.int .i64 (i : Int)) (.int .i64 1) (.int .i64 ((i : Int) + 1)) rfl (by first | exact .inl rfl | exact .inr ⟨_, _, _, rfl, rfl, by kernel_rfl, by decide, rfl⟩) (by kernel_rfl) (by kernel_rfl) rfl rfl rfl (fun a9 W9 hb9 h9 h8 => by simp [execOp, h9, h8] <;> go_simp)) (by kernel_rfl), ?_⟩
    refine fcs ⟨Ob.new_ (at2 69 72 73 (.slice (some ⟨b, 0, none⟩) (n + 1) d) (.int .i64 ((i : Int) + 1)) (.slice (some ⟨b, (i + 1) * 6, none⟩) (n - i) (d - (i + 1))) rfl (by first | exact .inl rfl | exact .inr ⟨_, _, _, rfl, rfl, by kernel_rfl, by decide, rfl⟩) (by kernel_rfl) (by kernel_rfl) rfl rfl rfl (fun a9 W9 hb9 h9 h8 => by simp [execOp, h9, h8] <;> go_simp)) (by kernel_rfl), ?_⟩
    refine fcs ⟨Ob.new_ (atcopy 0 74 (.slice (some ⟨b, 0, none⟩) (n + 1) d) (.inl rfl) rfl (by first | exact .inl rfl | exact .inr ⟨_, _, _, rfl, rfl, by kernel_rfl, by decide, rfl⟩) (by kernel_rfl) rfl rfl) (by kernel_rfl), ?_⟩
    refine fcs ⟨Ob.new_ (atcopy 1 75 (.int .i64 (i : Int)) (.inl rfl) rfl (by first | exact .inl rfl | exact .inr ⟨_, _, _, rfl, rfl, by kernel_rfl, by decide, rfl⟩) (by kernel_rfl) rfl rfl) (by kernel_rfl), ?_⟩
    refine fcs ⟨Ob.new_ (at2 74 75 76 (.slice (some ⟨b, 0, none⟩) (n + 1) d) (.int .i64 (i : Int)) (.slice (some ⟨b, i * 6, none⟩) (n + 1 - i) (d - i)) rfl (by first | exact .inl rfl | exact .inr ⟨_, _, _, rfl, rfl, by kernel_rfl, by decide, rfl⟩) (by kernel_rfl) (by kernel_rfl) rfl rfl rfl (fun a9 W9 hb9 h9 h8 => by simp [execOp, h9, h8] <;> go_simp)) (by kernel_rfl), ?_⟩
    exact fnl
  intro vv wv hvv hbv _ _
  have hv69 : vv 69 = (.slice (some ⟨b, 0, none⟩) (n + 1) d) := (hvv 69 (by decide)).1
  have hv70 : vv 70 = (.int .i64 (i : Int)) := (hvv 70 (by decide)).1
  have hv71 : vv 71 = (.int .i64 1) := (hvv 71 (by decide)).1
  have hv72 : vv 72 = (.int .i64 ((i : Int) + 1)) := (hvv 72 (by decide)).1
  have hv73 : vv 73 = (.slice (some ⟨b, (i + 1) * 6, none⟩) (n - i) (d - (i + 1))) := (hvv 73 (by decide)).1
  have hv74 : vv 74 = (.slice (some ⟨b, 0, none⟩) (n + 1) d) := (hvv 74 (by decide)).1
  have hv75 : vv 75 = (.int .i64 (i : Int)) := (hvv 75 (by decide)).1
  have hv76 : vv 76 = (.slice (some ⟨b, i * 6, none⟩) (n + 1 - i) (d - i)) := (hvv 76 (by decide)).1
  simp only [lay, List.foldl_cons, List.foldl_nil, List.setIfInBounds_toArray, List.set_cons_succ, List.set_cons_zero, hv69, hv70, hv71, hv72, hv73, hv74, hv75, hv76, List.drop_succ_cons, List.drop_zero]
  have hwb : wv.heap[b]? = some (.cells cur 72 (0, 0)) := by rw [hbv.block b (Array.getElem?_eq_some_iff.1 hcur).1]; exact hcur
  have hwg : wv.heap[g]? = some (.cells #[.int .i64 x.1, .int .i64 x.2.kind, .int .i64 x.2.n, .string (bs x.2.s), .slice s.A x.2.l.length s.c, .slice s.B x.2.f.length s.d] 72 (0, 0)) := by rw [hbv.block g (Array.getElem?_eq_some_iff.1 hg).1]; exact hg
  have hgb1 := gbq_of hbv (some b)
  clear hvv hov
  have hc1 := fun ty dc sc => hcp1 wv ty dc sc hwb
  have hwb2 := setRow_heap wv b cur N1.toArray 72 (0, 0) hwb
  have hwg2 : (wv.setRow b N1.toArray).heap[g]? = some (.cells #[.int .i64 x.1, .int .i64 x.2.kind, .int .i64 x.2.n, .string (bs x.2.s), .slice s.A x.2.l.length s.c, .slice s.B x.2.f.length s.d] 72 (0, 0)) := by rw [setRow_other wv b g _ hgb]; exact hwg
  have hgb2 := hgb1.trans (gb_setRow wv b N1.toArray)
  clear hcp1
  go_wp2_with (at_builtin; refine Go.Proofs.wpList_copy_runI wv rfl (.tmp 73) (.tmp 76) 23 23 rfl _ _ rfl rfl (hc1 _ _ _) ?_)
  go_ret
  refine ⟨_, rfl, ⟨hRl, .inr ⟨b, d, _, rfl, hB, setRow_heap _ b N1.toArray _ 72 (0, 0) hwb2, hd, hcm, ?_, ?_⟩⟩, hgb2.trans (gb_setRow _ b _)⟩
  · rw [← List.append_assoc, ← List.append_assoc, List.size_toArray, List.length_append, hRl, hRr]; omega
  · rw [← List.append_assoc, ← List.append_assoc, List.toList_toArray, ← hRl]
    exact List.take_left
end Go.Proofs.Ytlebppjldoodgaa

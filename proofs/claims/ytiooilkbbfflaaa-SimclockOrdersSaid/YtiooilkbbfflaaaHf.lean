import Derived.Test.YtiooilkbbfflaaaHe
/-
  slices.Delete of one timer; slices.IndexFunc of the timer with a number. No conditions beyond those that each names.
-/
namespace Go.Proofs.Ytiooilkbbfflaaa
open Go.RowKit Go.Sort Go.Lib Go.Shelf
theorem zeroT_one (k : Nat) : ∀ u ∈ (Builtin.zeroCells (Value.agg #[.int .i64 0, .int .i64 0, .int .i64 0]).cells k).toList, u.oneCell' = true := fun u hu => by
  simp only [Builtin.zeroCells, Array.toList_map, List.mem_map] at hu
  obtain ⟨j, -, rfl⟩ := hu
  have h6 : j % ((Value.agg #[.int .i64 0, .int .i64 0, .int .i64 0]).cells).size < 3 := Nat.mod_lt _ (by decide)
  generalize j % ((Value.agg #[.int .i64 0, .int .i64 0, .int .i64 0]).cells).size = q at *
  match q, h6 with
  | 0, _ => rfl
  | 1, _ => rfl
  | 2, _ => rfl
/-- The place behind a row of one's own is cleared. -/
theorem clear_own {B b m d : Nat} {xs : List Value} {w : World} (ho : w.ownsRow B 74 3 (.slice (some ⟨b, 0, none⟩) m d) m xs) (hd : m + 1 ≤ d) :
    ∃ w', (∀ ty, (Builtin.clear_ #[60] ty #[.slice (some ⟨b, m * 3, none⟩) 1 (d - m)]).run Try.prog w = .ok (.tuple #[]) w') ∧ w'.ownsRow B 74 3 (.slice (some ⟨b, 0, none⟩) m d) m xs ∧ w.grownBy w' (some b) := by
  obtain ⟨hxl, ⟨h, -⟩ | ⟨b', cap, cur, h, hB, hcur, hnc, hcm, hcs, htk⟩⟩ := ho
  · cases h
  injection h with h e1 e2
  injection h with h
  injection h with h
  subst h
  subst e2
  obtain ⟨i1, hi1, hzi, hs6, hby⟩ := info_parts infoT
  have hz6 : (Value.agg #[.int .i64 0, .int .i64 0, .int .i64 0]).cells.size = 3 := rfl
  have hzl : (Builtin.zeroCells (Value.agg #[.int .i64 0, .int .i64 0, .int .i64 0]).cells 1).toList.length = 3 := by rw [Array.length_toList, zc_size, hz6]
  have hcl := fun ty => run_clear_rowN (P := Try.prog) w 60 ty 74 i1 (Value.agg #[.int .i64 0, .int .i64 0, .int .i64 0]) b (m * 3) 1 (d - m) cur 74 Try.underlying60 hi1 hzi hcur (by omega) (by rw [hz6, hcs]; omega) (zeroT_one _)
  refine ⟨_, hcl, ⟨hxl, .inr ⟨b, d, _, rfl, hB, setRow_heap w b cur _ 74 (0, 0) hcur, hnc, hcm, ?_, ?_⟩⟩, gb_setRow w b _⟩
  · rw [List.size_toArray, List.length_append, List.length_append, List.length_take, hzl, List.length_drop, Array.length_toList, hcs]; omega
  · rw [List.toList_toArray, List.append_assoc, List.take_append_of_le_length (by rw [List.length_take, Array.length_toList, hcs]; omega), List.take_take, Nat.min_self, htk]
theorem erase_eq {α : Type} (l : List α) (i : Nat) : l.eraseIdx i = l.take i ++ l.drop (i + 1) := List.eraseIdx_eq_take_drop_succ l i
set_option maxRecDepth 100000 in
set_option maxHeartbeats 4000000 in
theorem delete_any (B b m d i : Nat) (l : List Tm) (w : World) (hn : m ≤ 1000000) (hln : l.length = m + 1) (hi : i ≤ m) (ho : w.ownsRow B 74 3 (.slice (some ⟨b, 0, none⟩) (m + 1) d) (m + 1) (tc e3 l)) :
    Calls Try.prog 39 #[(.slice (some ⟨b, 0, none⟩) (m + 1) d), .int .i64 (i : Int), .int .i64 ((i : Int) + 1)] w (fun e w' => e = .returned (.slice (some ⟨b, 0, none⟩) m d) ∧ w'.ownsRow B 74 3 (.slice (some ⟨b, 0, none⟩) m d) m (tc e3 (l.eraseIdx i)) ∧ w.grownBy w' (some b)) := by
  have hbl : b < w.heap.size := (ho.lt b rfl).2
  have hnd : m + 1 ≤ d := by
    obtain ⟨A, c, e, hA⟩ := own_nil_or ho
    injection e with e1 _ e2
    subst e1 e2
    rcases hA with ⟨h, -⟩ | ⟨g, -, -, -, h⟩
    · cases h
    · exact h
  have hdm : d ≤ 9223372036854775807 := by
    obtain ⟨-, ⟨h, -⟩ | ⟨b', cap, cur, h, hB, hcur, hnc, hcm, hcs, htk⟩⟩ := ho
    · cases h
    · injection h with h e1 e2
      unfold maxLen at hcm
      omega
  have ho1 : w.ownsRow B 74 3 (.slice (some ⟨b, 0, none⟩) i d) i (tc e3 (l.take i)) := by
    obtain ⟨hxl, ⟨h, -⟩ | ⟨b', cap, cur, h, hB, hcur, hnc, hcm, hcs, htk⟩⟩ := ho
    · cases h
    · injection h with h e1 e2
      injection h with h
      injection h with h
      subst h e2
      refine ⟨by rw [tc_len e3_len, List.length_take, hln, Nat.min_eq_left (by omega)], .inr ⟨b, d, cur, rfl, hB, hcur, by omega, hcm, hcs, ?_⟩⟩
      rw [← tc_take e3_len l i (by omega), ← htk, List.take_take, Nat.min_eq_left (by omega)]
  have hsrc : ∃ A2 : Addr, (if d = i + 1 then some (⟨b, 0, none⟩ : Addr) else some ⟨b, (i + 1) * 3, none⟩) = some A2 ∧ ∀ j u, (tc e3 (l.drop (i + 1)))[j]? = some u → w.cell? (A2.add j) = some u := by
    by_cases h : d = i + 1
    · refine ⟨⟨b, 0, none⟩, by simp [h], fun j u hu => ?_⟩
      rw [List.drop_eq_nil_of_le (by omega)] at hu
      simp [tc] at hu
    · refine ⟨⟨b, (i + 1) * 3, none⟩, by simp [h], fun j u hu => ?_⟩
      rw [← tc_drop e3_len l (i + 1) (by omega), List.getElem?_drop] at hu
      have := ho.cells (g := b) rfl _ u hu
      rw [Addr.add_lit] at this ⊢
      simpa [Nat.zero_add] using this
  obtain ⟨A2, hA2, hsrc⟩ := hsrc
  obtain ⟨i0, hi0, hz, hs3, hby⟩ := info_parts infoT
  have hAP : ∀ W, Below w.heap.size w W → ∃ W', (∀ ty, (Builtin.append_ #[60, 60] ty #[.slice (some ⟨b, 0, none⟩) i d, .slice (some A2) (m - i) (d - (i + 1))]).run Try.prog W = .ok (.slice (some ⟨b, 0, none⟩) m d) W') ∧ W'.ownsRow B 74 3 (.slice (some ⟨b, 0, none⟩) m d) m (tc e3 (l.eraseIdx i)) ∧ W.grownBy W' (some b) := by
    intro W hW
    have hnw : ∀ j u, (tc e3 (l.drop (i + 1)))[j]? = some u → W.cell? (A2.add j) = some u := fun j u hu => cell_next hW (hsrc j u hu)
    have hf := fun ty => run_append_fits (P := Try.prog) W B 60 ty 74 i0 3 Try.underlying60 hi0 hs3 b i d (tc e3 (l.take i)) (own_next ho1 hW) A2 (m - i) (d - (i + 1)) (tc e3 (l.drop (i + 1))) (by rw [tc_len e3_len, List.length_drop, hln, Nat.add_sub_add_right]) hnw (tc_one' e3_one _) (by omega)
    obtain ⟨W', h1, h2, h3⟩ := hf 0
    rw [← tc_app, ← erase_eq, show i + (m - i) = m by omega] at h2
    refine ⟨W', fun ty => ?_, h2, h3⟩
    rw [show i + (m - i) = m by omega] at h1
    exact h1
  have hi1 : (i : Int) ≤ (m : Int) + 1 := by omega
  have hb1 : (0 : Int) ≤ (i : Int) + 1 := by omega
  have htn : ((i : Int) + 1).toNat = i + 1 := by omega
  have hb3 : (i : Int) ≤ (i : Int) + 1 := by omega
  have hb4 : ¬ (d = i) := by omega
  have hb5 : (i : Int) ≤ (m : Int) := by omega
  have hb6 : i ≤ m + 1 := by omega
  have hb7 : i + 1 ≤ d := by omega
  have hb8 : ((i : Int) == (i : Int) + 1) = false := by rw [beq_eq_false_iff_ne]; omega
  have hb9 : i ≤ d := by omega
  have hb10 : ¬ (d = m) := by omega
  have hb11 : m ≤ d := by omega
  have hb12 : ¬ (m + 1 = i) := by omega
  have HP := Lib.hid hAP
  clear hAP hsrc ho1 hi0 hz hs3 hby i0 ho
  go_enter Try.func39, Try.ntmps39
  go_upto_region 5 with (fail)
  refine wp_region_seqN (by kernel_rfl) (FF [(0, Fact.at_ w (.slice (some ⟨b, 0, none⟩) (m + 1) d)), (1, Fact.at_ w (.int .i64 (i : Int))), (2, Fact.at_ w (.int .i64 ((i : Int) + 1))), (20, Fact.at_ w (.slice (some ⟨b, 0, none⟩) (m + 1) d)), (21, Fact.at_ w (.int .i64 (i : Int))), (22, Fact.at_ w (.slice (some ⟨b, 0, none⟩) i d)), (23, Fact.at_ w (.slice (some ⟨b, 0, none⟩) (m + 1) d)), (24, Fact.at_ w (.int .i64 ((i : Int) + 1))), (25, Fact.at_ w (.slice (some A2) (m - i) (d - (i + 1))))]) [0, 1, 2] [] 33 6 [20, 21, 22, 23, 24, 25] rfl (by kernel_rfl) (by kernel_rfl) (by decide) (by kernel_rfl) (by kernel_rfl) ?_ ?_ ?_
  · intro t9 ht9
    simp only [List.mem_cons, List.not_mem_nil, or_false] at ht9
    rcases ht9 with rfl | rfl | rfl
    · exact ⟨rfl, Below.refl _ _⟩
    · exact ⟨rfl, Below.refl _ _⟩
    · exact ⟨rfl, Below.refl _ _⟩
  · refine fcs ⟨Ob.new_ (atcopy 0 20 (.slice (some ⟨b, 0, none⟩) (m + 1) d) (.inl rfl) rfl (by first | exact .inl rfl | exact .inr ⟨_, _, _, rfl, rfl, by kernel_rfl, by decide, rfl⟩) (by kernel_rfl) rfl rfl) (by kernel_rfl), ?_⟩
    refine fcs ⟨Ob.new_ (atcopy 1 21 (.int .i64 (i : Int)) (.inl rfl) rfl (by first | exact .inl rfl | exact .inr ⟨_, _, _, rfl, rfl, by kernel_rfl, by decide, rfl⟩) (by kernel_rfl) rfl rfl) (by kernel_rfl), ?_⟩
    refine fcs ⟨Ob.new_ (at2 20 21 22 (.slice (some ⟨b, 0, none⟩) (m + 1) d) (.int .i64 (i : Int)) (.slice (some ⟨b, 0, none⟩) i d) rfl (by first | exact .inl rfl | exact .inr ⟨_, _, _, rfl, rfl, by kernel_rfl, by decide, rfl⟩) (by kernel_rfl) (by kernel_rfl) rfl rfl rfl (fun a9 W9 hb9 h9 h8 => by simp [execOp, h9, h8] <;> go_simp)) (by kernel_rfl), ?_⟩
    refine fcs ⟨Ob.new_ (atcopy 0 23 (.slice (some ⟨b, 0, none⟩) (m + 1) d) (.inl rfl) rfl (by first | exact .inl rfl | exact .inr ⟨_, _, _, rfl, rfl, by kernel_rfl, by decide, rfl⟩) (by kernel_rfl) rfl rfl) (by kernel_rfl), ?_⟩
    refine fcs ⟨Ob.new_ (atcopy 2 24 (.int .i64 ((i : Int) + 1)) (.inl rfl) rfl (by first | exact .inl rfl | exact .inr ⟨_, _, _, rfl, rfl, by kernel_rfl, by decide, rfl⟩) (by kernel_rfl) rfl rfl) (by kernel_rfl), ?_⟩
    refine fcs ⟨Ob.new_ (at2 23 24 25 (.slice (some ⟨b, 0, none⟩) (m + 1) d) (.int .i64 ((i : Int) + 1)) (.slice (some A2) (m - i) (d - (i + 1))) rfl (by first | exact .inl rfl | exact .inr ⟨_, _, _, rfl, rfl, by kernel_rfl, by decide, rfl⟩) (by kernel_rfl) (by kernel_rfl) rfl rfl rfl (fun a9 W9 hb9 h9 h8 => by simp [execOp, h9, h8] <;> go_simp)) (by kernel_rfl), ?_⟩
    exact fnl
  intro vv wv hvv hbv _ _
  have hv20 : vv 20 = (.slice (some ⟨b, 0, none⟩) (m + 1) d) := (hvv 20 (by decide)).1
  have hv21 : vv 21 = (.int .i64 (i : Int)) := (hvv 21 (by decide)).1
  have hv22 : vv 22 = (.slice (some ⟨b, 0, none⟩) i d) := (hvv 22 (by decide)).1
  have hv23 : vv 23 = (.slice (some ⟨b, 0, none⟩) (m + 1) d) := (hvv 23 (by decide)).1
  have hv24 : vv 24 = (.int .i64 ((i : Int) + 1)) := (hvv 24 (by decide)).1
  have hv25 : vv 25 = (.slice (some A2) (m - i) (d - (i + 1))) := (hvv 25 (by decide)).1
  simp only [lay, List.foldl_cons, List.foldl_nil, List.setIfInBounds_toArray, List.set_cons_succ, List.set_cons_zero, hv20, hv21, hv22, hv23, hv24, hv25, List.drop_succ_cons, List.drop_zero]
  obtain ⟨W1, h1, ho2, hg2⟩ := HP.out wv hbv
  obtain ⟨W2, h2, ho3, hg3⟩ := clear_own ho2 hnd
  have HE := Lib.hid (show W2.ownsRow B 74 3 (.slice (some ⟨b, 0, none⟩) m d) m (tc e3 (l.eraseIdx i)) ∧ w.grownBy W2 (some b) from ⟨ho3, ((gbq_of hbv (some b)).trans hg2).trans hg3⟩)
  clear HP ho2 hg2 ho3 hg3
  go_wp2_with (at_builtin; refine Lib.wpList_append_run _ rfl _ _ _ _ rfl _ _ rfl rfl _ _ (h1 _) ?_)
  go_ret
  exact ⟨rfl, HE.out.1, HE.out.2⟩
end Go.Proofs.Ytiooilkbbfflaaa

import Derived.Test.YtiooilkbbfflaaaHt
import Derived.Laws.StructEq
/-
  The law's own view of firings: plain; the reference's Same. No conditions beyond those that each names.
-/
namespace Go.Proofs.Ytiooilkbbfflaaa
open Go.RowKit Go.Sort Go.Lib Go.Shelf
/-- The reference's list of firings, one's own. -/
def PlP (acc : List (Nat × Nat)) (w : World) (e : Ending) (w' : World) : Prop := ∃ x, e = .returned x ∧ OwR w.heap.size w' x acc ∧ Below w.heap.size w w'
set_option maxRecDepth 100000 in
set_option maxHeartbeats 4000000 in
theorem plain_any (B : Nat) (v : Value) (l : List (Nat × Nat)) (w : World) (hlen : l.length ≤ 100000) (ho : OwF B w v l) :
    Calls Try.prog 19 #[v] w (PlP l w) := by
  obtain ⟨A, d, rfl, hA⟩ := own_nil_or ho
  obtain ⟨n, hln⟩ : ∃ n, l.length = n := ⟨_, rfl⟩
  have HN := Lib.hid hln
  have CL : ∀ W, Below w.heap.size w W → ∀ m (hm : m < l.length), ∃ g, A = some ⟨g, 0, none⟩ ∧ g < W.heap.size ∧ W.cell? ⟨g, m * 2, none⟩ = some (.int .i64 ((l[m]'hm).1 : Int)) ∧ W.cell? ⟨g, m * 2 + 1, none⟩ = some (.int .i64 ((l[m]'hm).2 : Int)) := by
    intro W hW m hm
    rcases hA with ⟨-, -, h0⟩ | ⟨g, rfl, -, hg, -⟩
    · omega
    · exact ⟨g, rfl, Nat.lt_of_lt_of_le hg hW.size, cell_next hW (own_cells e2_len ho m hm 0 _ rfl), cell_next hW (own_cells e2_len ho m hm 1 _ rfl)⟩
  have HCL := Lib.hid CL
  rw [hln] at hlen ⊢
  clear hln CL ho hA
  go_enter Try.func19, Try.ntmps19
  go_wp2_with fail
  go_loopg [3, 4] n (fun kx s3 s4 wr => ∃ k : Nat, k ≤ n ∧ s4 = .int .i64 (k : Int) ∧ n - k ≤ kx ∧ (∃ Ax cx, s3 = .slice Ax k cx) ∧ Hid (Below w.heap.size w wr ∧ OwR w.heap.size wr s3 (l.take k)))
  case atStart => exact ⟨0, Nat.zero_le _, rfl, by omega, ⟨_, _, rfl⟩, Lib.hid ⟨Below.refl _ _, World.ownsRow_nil _ _ _ _⟩⟩
  case round =>
    obtain ⟨k, hk, rfl, hg, ⟨Ax, cx, rfl⟩, HF⟩ := hrel
    have hk9 : k ≤ 100000 := by omega
    by_cases hlt : k < n
    · have hm : k < l.length := by rw [HN.out]; exact hlt
      obtain ⟨gA, rfl, hgl, k0, k1⟩ := HCL.out wr HF.out.1 k hm
      have htk : l.take (k + 1) = l.take k ++ [l[k]'hm] := List.take_succ_eq_append_getElem hm
      have hlk : (l.take k).length = k := by rw [List.length_take, Nat.min_eq_left (by omega)]
      have HT := Lib.hid htk
      have HK := Lib.hid hlk
      clear htk hlk
      generalize l[k]'hm = y at *
      have hkn : (k : Int) < (n : Int) := by omega
      go_upto_region 5 with (fail)
      refine wp_region_seqN (by kernel_rfl) (FF [(3, Fact.at_ wr (.slice Ax k cx)), (0, Fact.at_ wr (.slice (some ⟨gA, 0, none⟩) n d)), (4, Fact.at_ wr (.int .i64 (k : Int))), (11, Fact.at_ wr (.slice Ax k cx)), (12, Fact.at_ wr (.slice (some ⟨gA, 0, none⟩) n d)), (13, Fact.at_ wr (.int .i64 (k : Int))), (14, Fact.at_ wr (.pointer (some ⟨gA, k * 2, none⟩))), (15, Fact.at_ wr (.pointer (some ⟨gA, k * 2, none⟩))), (16, Fact.at_ wr (.int .i64 (y.1 : Int))), (17, Fact.at_ wr (.slice (some ⟨gA, 0, none⟩) n d)), (18, Fact.at_ wr (.int .i64 (k : Int))), (19, Fact.at_ wr (.pointer (some ⟨gA, k * 2, none⟩))), (20, Fact.at_ wr (.pointer (some ⟨gA, k * 2 + 1, none⟩))), (21, Fact.at_ wr (.int .i64 (y.2 : Int))), (22, Fact.at_ wr (.agg #[.int .i64 (y.1 : Int), .int .i64 (y.2 : Int)])), (23, FNs 1 [.int .i64 (y.1 : Int), .int .i64 (y.2 : Int)] wr)]) [3, 0, 4] [] 26 13 [11, 12, 13, 14, 15, 16, 17, 18, 19, 20, 21, 22, 23] rfl (by kernel_rfl) (by kernel_rfl) (by decide) (by kernel_rfl) (by kernel_rfl) ?_ ?_ ?_
      · intro t9 ht9
        simp only [List.mem_cons, List.not_mem_nil, or_false] at ht9
        rcases ht9 with rfl | rfl | rfl
        · exact ⟨rfl, Below.refl _ _⟩
        · exact ⟨rfl, Below.refl _ _⟩
        · exact ⟨rfl, Below.refl _ _⟩
      · refine fcs ⟨Ob.new_ (atcopy 3 11 (.slice Ax k cx) (.inl rfl) rfl (by first | exact .inl rfl | exact .inr ⟨_, _, _, rfl, rfl, by kernel_rfl, by decide, rfl⟩) (by kernel_rfl) rfl rfl) (by kernel_rfl), ?_⟩
        refine fcs ⟨Ob.new_ (atcopy 0 12 (.slice (some ⟨gA, 0, none⟩) n d) (.inl rfl) rfl (by first | exact .inl rfl | exact .inr ⟨_, _, _, rfl, rfl, by kernel_rfl, by decide, rfl⟩) (by kernel_rfl) rfl rfl) (by kernel_rfl), ?_⟩
        refine fcs ⟨Ob.new_ (atcopy 4 13 (.int .i64 (k : Int)) (.inl rfl) rfl (by first | exact .inl rfl | exact .inr ⟨_, _, _, rfl, rfl, by kernel_rfl, by decide, rfl⟩) (by kernel_rfl) rfl rfl) (by kernel_rfl), ?_⟩
        refine fcs ⟨Ob.new_ (at2 12 13 14 (.slice (some ⟨gA, 0, none⟩) n d) (.int .i64 (k : Int)) (.pointer (some ⟨gA, k * 2, none⟩)) rfl (by first | exact .inl rfl | exact .inr ⟨_, _, _, rfl, rfl, by kernel_rfl, by decide, rfl⟩) (by kernel_rfl) (by kernel_rfl) rfl rfl rfl (fun a9 W9 hb9 h9 h8 => by simp [execOp, h9, h8] <;> go_simp)) (by kernel_rfl), ?_⟩
        refine fcs ⟨Ob.new_ (at1 14 15 (.pointer (some ⟨gA, k * 2, none⟩)) (.pointer (some ⟨gA, k * 2, none⟩)) rfl (by first | exact .inl rfl | exact .inr ⟨_, _, _, rfl, rfl, by kernel_rfl, by decide, rfl⟩) (by kernel_rfl) rfl rfl (fun a9 W9 hb9 h9 => by simp [execOp, h9] <;> go_simp)) (by kernel_rfl), ?_⟩
        refine fcs ⟨Ob.new_ (at1 15 16 (.pointer (some ⟨gA, k * 2, none⟩)) (.int .i64 (y.1 : Int)) rfl (by first | exact .inl rfl | exact .inr ⟨_, _, _, rfl, rfl, by kernel_rfl, by decide, rfl⟩) (by kernel_rfl) rfl rfl (fun a9 W9 hb9 h9 => by have g0 := cell_next hb9 k0; simp [execOp, h9] <;> go_simp)) (by kernel_rfl), ?_⟩
        refine fcs ⟨Ob.new_ (atcopy 0 17 (.slice (some ⟨gA, 0, none⟩) n d) (.inl rfl) rfl (by first | exact .inl rfl | exact .inr ⟨_, _, _, rfl, rfl, by kernel_rfl, by decide, rfl⟩) (by kernel_rfl) rfl rfl) (by kernel_rfl), ?_⟩
        refine fcs ⟨Ob.new_ (atcopy 4 18 (.int .i64 (k : Int)) (.inl rfl) rfl (by first | exact .inl rfl | exact .inr ⟨_, _, _, rfl, rfl, by kernel_rfl, by decide, rfl⟩) (by kernel_rfl) rfl rfl) (by kernel_rfl), ?_⟩
        refine fcs ⟨Ob.new_ (at2 17 18 19 (.slice (some ⟨gA, 0, none⟩) n d) (.int .i64 (k : Int)) (.pointer (some ⟨gA, k * 2, none⟩)) rfl (by first | exact .inl rfl | exact .inr ⟨_, _, _, rfl, rfl, by kernel_rfl, by decide, rfl⟩) (by kernel_rfl) (by kernel_rfl) rfl rfl rfl (fun a9 W9 hb9 h9 h8 => by simp [execOp, h9, h8] <;> go_simp)) (by kernel_rfl), ?_⟩
        refine fcs ⟨Ob.new_ (at1 19 20 (.pointer (some ⟨gA, k * 2, none⟩)) (.pointer (some ⟨gA, k * 2 + 1, none⟩)) rfl (by first | exact .inl rfl | exact .inr ⟨_, _, _, rfl, rfl, by kernel_rfl, by decide, rfl⟩) (by kernel_rfl) rfl rfl (fun a9 W9 hb9 h9 => by simp [execOp, h9] <;> go_simp)) (by kernel_rfl), ?_⟩
        refine fcs ⟨Ob.new_ (at1 20 21 (.pointer (some ⟨gA, k * 2 + 1, none⟩)) (.int .i64 (y.2 : Int)) rfl (by first | exact .inl rfl | exact .inr ⟨_, _, _, rfl, rfl, by kernel_rfl, by decide, rfl⟩) (by kernel_rfl) rfl rfl (fun a9 W9 hb9 h9 => by have g0 := cell_next hb9 k1; simp [execOp, h9] <;> go_simp)) (by kernel_rfl), ?_⟩
        refine fcs ⟨Ob.new_ (at2 16 21 22 (.int .i64 (y.1 : Int)) (.int .i64 (y.2 : Int)) (.agg #[.int .i64 (y.1 : Int), .int .i64 (y.2 : Int)]) rfl (by first | exact .inl rfl | exact .inr ⟨_, _, _, rfl, rfl, by kernel_rfl, by decide, rfl⟩) (by kernel_rfl) (by kernel_rfl) rfl rfl rfl (fun a9 W9 hb9 h9 h8 => by simp [execOp, h9, h8] <;> go_simp)) (by kernel_rfl), ?_⟩
        refine fcs ⟨Ob.new_ (at_val (W0 := wr) (by first | exact .inl rfl | exact .inr ⟨_, _, _, rfl, rfl, by kernel_rfl, by decide, rfl⟩) (fun a9 W9 hf9 => by have p22 := hf9 22 (by kernel_rfl); have h9 : a9.eval (.tmp 22) = (.agg #[.int .i64 (y.1 : Int), .int .i64 (y.2 : Int)]) := p22.1; exact ⟨.slice (some ⟨W9.heap.size, 0, none⟩) 1 1, W9.alloc (Obj.cells #[.int .i64 (y.1 : Int), .int .i64 (y.2 : Int)] 59), by simp [execOp, h9] <;> go_simp, ab1 _ _, fun s hs => by injection hs with hs; subst hs; exact ⟨W9.heap.size, rfl, Bx.new2 _ _ _ _, p22.2.size, upG p22.2 (ab1 _ _)⟩⟩)) (by kernel_rfl), ?_⟩
        exact fnl
      intro vv wv hvv hbv _ _
      have hv11 : vv 11 = (.slice Ax k cx) := (hvv 11 (by decide)).1
      have hv12 : vv 12 = (.slice (some ⟨gA, 0, none⟩) n d) := (hvv 12 (by decide)).1
      have hv13 : vv 13 = (.int .i64 (k : Int)) := (hvv 13 (by decide)).1
      have hv14 : vv 14 = (.pointer (some ⟨gA, k * 2, none⟩)) := (hvv 14 (by decide)).1
      have hv15 : vv 15 = (.pointer (some ⟨gA, k * 2, none⟩)) := (hvv 15 (by decide)).1
      have hv16 : vv 16 = (.int .i64 (y.1 : Int)) := (hvv 16 (by decide)).1
      have hv17 : vv 17 = (.slice (some ⟨gA, 0, none⟩) n d) := (hvv 17 (by decide)).1
      have hv18 : vv 18 = (.int .i64 (k : Int)) := (hvv 18 (by decide)).1
      have hv19 : vv 19 = (.pointer (some ⟨gA, k * 2, none⟩)) := (hvv 19 (by decide)).1
      have hv20 : vv 20 = (.pointer (some ⟨gA, k * 2 + 1, none⟩)) := (hvv 20 (by decide)).1
      have hv21 : vv 21 = (.int .i64 (y.2 : Int)) := (hvv 21 (by decide)).1
      have hv22 : vv 22 = (.agg #[.int .i64 (y.1 : Int), .int .i64 (y.2 : Int)]) := (hvv 22 (by decide)).1
      obtain ⟨g9, hv23, hX9, hge9, hbb9⟩ := hvv 23 (by decide)
      simp only [lay, hv23, List.foldl_cons, List.foldl_nil, List.setIfInBounds_toArray, List.set_cons_succ, List.set_cons_zero, hv11, hv12, hv13, hv14, hv15, hv16, hv17, hv18, hv19, hv20, hv21, hv22, List.drop_succ_cons, List.drop_zero]
      have HB := Lib.hid (Below.next HF.out.1 hbv)
      have HO := Lib.hid (own_next HF.out.2 hbv)
      have HX := Lib.hid hX9
      clear hvv k0 k1 hbb9 hX9
      go_wp2_with (at_builtin; refine wpList_pushR rfl _ _ rfl w.heap.size _ (l.take k) y g9 1 rfl rfl HO.out HX.out (by rw [HK.out]; omega) HB.out.size ?_)
      intro v3 w3 ho3 hg3 hn3
      obtain ⟨A3, c3, rfl, -⟩ := own_nil_or ho3
      have HZ := Lib.hid (show Below w.heap.size w w3 ∧ OwR w.heap.size w3 (.slice A3 (k + 1) c3) (l.take (k + 1)) from by
        refine ⟨HB.out.grown hg3 HB.out.size fun g e => (HO.out.lt g e).1, ?_⟩
        rw [HT.out]
        have h3 := ho3
        rw [List.length_append, HK.out] at h3
        exact h3)
      rw [List.length_append, HK.out]
      clear ho3 hg3 hn3
      simp only [List.length_cons, List.length_nil, Nat.zero_add]
      go_wp2_with fail
      go_roundg (n - (k + 1))
      case measure => omega
      case rel => exact ⟨k + 1, by omega, rfl, Nat.le_refl _, ⟨_, _, rfl⟩, HZ⟩
    · obtain rfl : k = n := by omega
      go_wp2_with fail
      go_ret
      have F := HF.out
      rw [← HN.out, List.take_length] at F
      exact ⟨_, rfl, by rw [HN.out] at F; exact F.2, F.1⟩
theorem undR : Try.prog.underlying 59 = some (.struct (Try.prog.fieldsOf 59)) := by kernel_rfl
theorem stR : Try.prog.stoodInHeld 59 = false := by kernel_rfl
theorem fdR : (Try.prog.fieldsOf 59).toList.map (fun f => (f.name, f.type, f.offset)) = [("Id", 3, 0), ("At", 3, 1)] := by kernel_rfl
theorem neqR (a b c d : Int) (w : World) : (binOp .neq 59 (.agg #[.int .i64 a, .int .i64 b]) (.agg #[.int .i64 c, .int .i64 d])).run Try.prog w = .ok (.bool !(a == c && b == d)) w := by
  rw [run_neq_struct, run_equalIn_struct w 9999 59 _ _ undR stR]
  have h := fdR
  generalize (Try.prog.fieldsOf 59).toList = L at h
  rcases L with _ | ⟨f, _ | ⟨g, _ | ⟨x, L⟩⟩⟩
  · simp at h
  · simp at h
  · simp only [List.map_cons, List.map_nil, List.cons.injEq, Prod.mk.injEq, and_true] at h
    obtain ⟨⟨h1, h2, h3⟩, h4, h5, h6⟩ := h
    simp [Op.eqFields, h1, h2, h3, h4, h5, h6, part, go_sem]
    by_cases e1 : a = c
    · by_cases e2 : b = d
      · rw [if_pos e1, if_pos e2]; simp [e1, e2]
      · rw [if_pos e1, if_neg e2]; simp [e2]
    · rw [if_neg e1]; simp [e1]
  · simp at h
set_option maxRecDepth 100000 in
set_option maxHeartbeats 4000000 in
theorem same_any (B B' : Nat) (v v' : Value) (l m : List (Nat × Nat)) (w : World) (hl : l.length ≤ 100000) (hm : m.length ≤ 100000) (ho : OwR B w v l) (ho' : OwR B' w v' m) :
    Calls Try.prog 20 #[v, v'] w (Ib (.bool (decide (l = m))) w) := by
  obtain ⟨A, d, rfl, hA⟩ := own_nil_or ho
  obtain ⟨A', d', rfl, hA'⟩ := own_nil_or ho'
  obtain ⟨n, hln⟩ : ∃ n, l.length = n := ⟨_, rfl⟩
  obtain ⟨n', hln'⟩ : ∃ n', m.length = n' := ⟨_, rfl⟩
  have HN := Lib.hid hln
  have HN' := Lib.hid hln'
  by_cases hnn : n = n'
  · subst hnn
    have CL : ∀ W, Below w.heap.size w W → ∀ j (hj : j < l.length) (hj' : j < m.length), ∃ g g', A = some ⟨g, 0, none⟩ ∧ A' = some ⟨g', 0, none⟩ ∧ g < W.heap.size ∧ g' < W.heap.size ∧ W.cell? ⟨g, j * 2, none⟩ = some (.int .i64 ((l[j]'hj).1 : Int)) ∧ W.cell? ⟨g, j * 2 + 1, none⟩ = some (.int .i64 ((l[j]'hj).2 : Int)) ∧ W.cell? ⟨g', j * 2, none⟩ = some (.int .i64 ((m[j]'hj').1 : Int)) ∧ W.cell? ⟨g', j * 2 + 1, none⟩ = some (.int .i64 ((m[j]'hj').2 : Int)) := by
      intro W hW j hj hj'
      rcases hA with ⟨-, -, h0⟩ | ⟨g, rfl, -, hg, -⟩
      · omega
      rcases hA' with ⟨-, -, h0⟩ | ⟨g', rfl, -, hg', -⟩
      · omega
      exact ⟨g, g', rfl, rfl, Nat.lt_of_lt_of_le hg hW.size, Nat.lt_of_lt_of_le hg' hW.size, cell_next hW (own_cells e2_len ho j hj 0 _ rfl), cell_next hW (own_cells e2_len ho j hj 1 _ rfl), cell_next hW (own_cells e2_len ho' j hj' 0 _ rfl), cell_next hW (own_cells e2_len ho' j hj' 1 _ rfl)⟩
    have HCL := Lib.hid CL
    rw [hln] at hl ⊢
    rw [hln'] at hm ⊢
    clear hln hln' CL ho ho' hA hA'
    go_enter Try.func20, Try.ntmps20
    go_wp2_with fail
    go_loopg [5] n (fun kx s5 wr => ∃ k : Nat, k ≤ n ∧ s5 = .int .i64 (k : Int) ∧ n - k ≤ kx ∧ Hid (Below w.heap.size w wr) ∧ Hid (∀ j (h : j < l.length) (h' : j < m.length), j < k → l[j]'h = m[j]'h'))
    case atStart => exact ⟨0, Nat.zero_le _, rfl, by omega, Lib.hid (Below.refl _ _), Lib.hid fun j _ _ h => absurd h (Nat.not_lt_zero _)⟩
    case round =>
      obtain ⟨k, hk, rfl, hg, S1, I⟩ := hrel
      by_cases hlt : k < n
      · have hj : k < l.length := by rw [HN.out]; exact hlt
        have hj' : k < m.length := by rw [HN'.out]; exact hlt
        obtain ⟨gA, gB, rfl, rfl, hgl, hgl', k0, k1, k2, k3⟩ := HCL.out wr S1.out k hj hj'
        have hkn : (k : Int) < (n : Int) := by omega
        by_cases hx : l[k]'hj = m[k]'hj'
        · have I2 : Hid (∀ j (h : j < l.length) (h' : j < m.length), j < k + 1 → l[j]'h = m[j]'h') := Lib.hid fun j h h' hjk => by
            by_cases e : j = k
            · subst e; exact hx
            · exact I.out j h h' (by omega)
          rw [← hx] at k2 k3
          clear hx
          generalize l[k]'hj = y at *
          have nq : ∀ w, (binOp .neq 59 (.agg #[.int .i64 (y.1 : Int), .int .i64 (y.2 : Int)]) (.agg #[.int .i64 (y.1 : Int), .int .i64 (y.2 : Int)])).run Try.prog w = .ok (.bool false) w := fun w => by rw [neqR]; simp
          go_upto_region 6 with (fail)
          go_quiet (fail)
          go_wp2_with fail
          go_roundg (n - (k + 1))
          case measure => omega
          case rel => exact ⟨k + 1, by omega, rfl, Nat.le_refl _, Lib.hid (below_drewN S1.out _), I2⟩
        · have HX : Hid (decide (l = m) = false) := Lib.hid (decide_eq_false fun e => by subst e; exact hx rfl)
          have hy := hx
          clear hx
          generalize l[k]'hj = y at *
          generalize m[k]'hj' = z at *
          have nq : ∀ w, (binOp .neq 59 (.agg #[.int .i64 (y.1 : Int), .int .i64 (y.2 : Int)]) (.agg #[.int .i64 (z.1 : Int), .int .i64 (z.2 : Int)])).run Try.prog w = .ok (.bool true) w := fun w => by
            rw [neqR]
            have : ((y.1 : Int) == z.1 && (y.2 : Int) == z.2) = false := by
              by_cases e1 : y.1 = z.1
              · have e2 : y.2 ≠ z.2 := fun e2 => hy (Prod.ext e1 e2)
                simp; intro _; omega
              · simp; intro e; omega
            rw [this]; rfl
          clear hy
          go_upto_region 6 with (fail)
          go_quiet (fail)
          go_wp2_with fail
          go_ret
          rw [HX.out]
          exact ⟨rfl, below_drewN S1.out _⟩
      · obtain rfl : k = n := by omega
        have HX : Hid (decide (l = m) = true) := Lib.hid (decide_eq_true (List.ext_getElem (by rw [HN.out, HN'.out]) fun j h h' => I.out j h h' (by rw [← HN.out]; exact h)))
        go_wp2_with fail
        go_ret
        rw [HX.out]
        exact ⟨rfl, S1.out⟩
  · have HX : Hid (decide (l = m) = false) := Lib.hid (decide_eq_false fun e => by subst e; omega)
    have d1 : ((n : Int) != (n' : Int)) = true := by
      rw [bne_iff_ne]; omega
    rw [hln] at hl ⊢
    rw [hln'] at hm ⊢
    clear hln hln' ho ho' hA hA' hnn
    go_enter Try.func20, Try.ntmps20
    go_wp2_with fail
    go_ret
    rw [HX.out]
    exact ⟨rfl, Below.refl _ _⟩
end Go.Proofs.Ytiooilkbbfflaaa

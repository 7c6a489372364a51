/-
  Contracts of scaling, the program's and the reference's. No conditions but those stated.
-/
import Derived.Test.YtgfahenhobnjpaaPs
namespace Go.Proofs.Ytgfahenhobnjpaa
open Go.RowKit
theorem load_i64 {w : World} {p : Addr} {x : Int} (h : w.cell? p = some (.int .i64 x)) : (Instr.loadAt 3 (.pointer (some p))).run Try.prog w = .ok (.int .i64 x) w := by
  go_simp
set_option maxRecDepth 100000 in
set_option maxHeartbeats 1000000 in
theorem scale_long (x y most m L mx my qx qy : Int) (w : World) (c : ∀ w, Calls Try.prog 36 #[pt x y] w (Ib (.int .i64 L) w))
    (hm : max most 0 = m) (hL0 : L ≠ 0) (hd : decide (L ≤ m) = false) (hmx : IntKind.i64.wrap (x * m) = mx) (hmy : IntKind.i64.wrap (y * m) = my) (hqx : IntKind.i64.wrap (mx.tdiv L) = qx) (hqy : IntKind.i64.wrap (my.tdiv L) = qy) :
    Calls Try.prog 17 #[pt x y, .int .i64 most] w (Ib (pt qx qy) w) := by
  have HX := Lib.hid (And.intro hmx (And.intro hmy (And.intro hqx hqy)))
  clear hmx hmy hqx hqy
  go_enter Try.func17, Try.ntmps17
  go_wp2_with fail
  refine (c _).mono ?_
  rintro e w1 ⟨rfl, hb⟩
  have hx0 : w1.cell? ⟨w.heap.size, 0, none⟩ = some (.int .i64 x) := by rw [(bcell hb).1 _ _ (by simp; omega)]; simp
  have hx1 : w1.cell? ⟨w.heap.size, 1, none⟩ = some (.int .i64 y) := by rw [(bcell hb).1 _ _ (by simp; omega)]; simp
  have hz0 : w1.cell? ⟨w.heap.size + 1, 0, none⟩ = some (.int .i64 0) := by rw [(bcell hb).1 _ _ (by simp)]; simp
  have hz1 : w1.cell? ⟨w.heap.size + 1, 1, none⟩ = some (.int .i64 0) := by rw [(bcell hb).1 _ _ (by simp)]; simp
  have hf0 : w1.frozen? ⟨w.heap.size + 1, 0, none⟩ = false := by rw [(bcell hb).2 _ _ (by simp)]; simp
  have hf1 : w1.frozen? ⟨w.heap.size + 1, 1, none⟩ = false := by rw [(bcell hb).2 _ _ (by simp)]; simp
  have hs1 : w.heap.size + 1 < w1.heap.size := by have := hb.size; simp at this; omega
  have hB : Below w.heap.size w w1 := up (up (one _ _) (one _ _)) hb
  clear hb
  go_wp2_with fail
  obtain ⟨hmx, hmy, hqx, hqy⟩ := HX.out
  refine wp_region_seq (by kernel_rfl) (FF [(2, Fact.at_ w1 (.pointer (some ⟨w.heap.size, 0, none⟩))), (1, Fact.eq (.int .i64 m)), (5, Fact.eq (.int .i64 L)), (14, Fact.at_ w1 (.pointer (some ⟨w.heap.size, 0, none⟩))), (15, Fact.eq (.int .i64 x)), (16, Fact.eq (.int .i64 m)), (17, Fact.eq (.int .i64 mx)), (18, Fact.eq (.int .i64 L)), (19, Fact.eq (.int .i64 qx)), (20, Fact.at_ w1 (.pointer (some ⟨w.heap.size, 1, none⟩))), (21, Fact.eq (.int .i64 y)), (22, Fact.eq (.int .i64 m)), (23, Fact.eq (.int .i64 my)), (24, Fact.eq (.int .i64 L)), (25, Fact.eq (.int .i64 qy)), (26, Fact.eq (pt qx qy))]) [2, 1, 5] [] 27 13 [14, 15, 16, 17, 18, 19, 20, 21, 22, 23, 24, 25, 26] rfl (by kernel_rfl) (by kernel_rfl) (by decide) (by kernel_rfl) (by kernel_rfl) ?_ ?_ ?_
  · intro t ht
    simp only [List.mem_cons, List.not_mem_nil, or_false] at ht
    rcases ht with rfl | rfl | rfl
    · exact ⟨rfl, Below.refl _ _⟩
    · exact rfl
    · exact rfl
  · refine fcs ⟨Ob.new_ (ob_fieldat w1 2 14 0 32 ⟨w.heap.size, 0, none⟩ ⟨w.heap.size, 0, none⟩ rfl rfl (by first | exact .inl rfl | exact .inr ⟨_, _, _, rfl, rfl, by kernel_rfl, by decide, rfl⟩) (by kernel_rfl) rfl rfl (fun w => by go_simp)) (by kernel_rfl), ?_⟩
    refine fcs ⟨Ob.new_ (ob_loadat w1 14 15 3 ⟨w.heap.size, 0, none⟩ (.int .i64 x) rfl rfl (by first | exact .inl rfl | exact .inr ⟨_, _, _, rfl, rfl, by kernel_rfl, by decide, rfl⟩) (by kernel_rfl) rfl rfl (fun w' hb => load_i64 (((bcell hb).1 (w.heap.size) 0 (by omega)).trans hx0))) (by kernel_rfl), ?_⟩
    refine fcs ⟨Ob.new_ (ob_copy 1 16 (.inl rfl) rfl (by first | exact .inl rfl | exact .inr ⟨_, _, _, rfl, rfl, by kernel_rfl, by decide, rfl⟩) (by kernel_rfl) rfl) (by kernel_rfl), ?_⟩
    refine fcs ⟨Ob.new_ (ob_mul2 .i64 15 16 17 x m mx _ _ hmx rfl rfl (by first | exact .inl rfl | exact .inr ⟨_, _, _, rfl, rfl, by kernel_rfl, by decide, rfl⟩) (by kernel_rfl) (by kernel_rfl) rfl rfl rfl) (by kernel_rfl), ?_⟩
    refine fcs ⟨Ob.new_ (ob_copy 5 18 (.inl rfl) rfl (by first | exact .inl rfl | exact .inr ⟨_, _, _, rfl, rfl, by kernel_rfl, by decide, rfl⟩) (by kernel_rfl) rfl) (by kernel_rfl), ?_⟩
    refine fcs ⟨Ob.new_ (ob_quo2 17 18 19 mx L qx _ _ hL0 hqx rfl rfl (by first | exact .inl rfl | exact .inr ⟨_, _, _, rfl, rfl, by kernel_rfl, by decide, rfl⟩) (by kernel_rfl) (by kernel_rfl) rfl rfl rfl) (by kernel_rfl), ?_⟩
    refine fcs ⟨Ob.new_ (ob_fieldat w1 2 20 1 32 ⟨w.heap.size, 0, none⟩ ⟨w.heap.size, 1, none⟩ rfl rfl (by first | exact .inl rfl | exact .inr ⟨_, _, _, rfl, rfl, by kernel_rfl, by decide, rfl⟩) (by kernel_rfl) rfl rfl (fun w => by go_simp)) (by kernel_rfl), ?_⟩
    refine fcs ⟨Ob.new_ (ob_loadat w1 20 21 3 ⟨w.heap.size, 1, none⟩ (.int .i64 y) rfl rfl (by first | exact .inl rfl | exact .inr ⟨_, _, _, rfl, rfl, by kernel_rfl, by decide, rfl⟩) (by kernel_rfl) rfl rfl (fun w' hb => load_i64 (((bcell hb).1 (w.heap.size) 1 (by omega)).trans hx1))) (by kernel_rfl), ?_⟩
    refine fcs ⟨Ob.new_ (ob_copy 1 22 (.inl rfl) rfl (by first | exact .inl rfl | exact .inr ⟨_, _, _, rfl, rfl, by kernel_rfl, by decide, rfl⟩) (by kernel_rfl) rfl) (by kernel_rfl), ?_⟩
    refine fcs ⟨Ob.new_ (ob_mul2 .i64 21 22 23 y m my _ _ hmy rfl rfl (by first | exact .inl rfl | exact .inr ⟨_, _, _, rfl, rfl, by kernel_rfl, by decide, rfl⟩) (by kernel_rfl) (by kernel_rfl) rfl rfl rfl) (by kernel_rfl), ?_⟩
    refine fcs ⟨Ob.new_ (ob_copy 5 24 (.inl rfl) rfl (by first | exact .inl rfl | exact .inr ⟨_, _, _, rfl, rfl, by kernel_rfl, by decide, rfl⟩) (by kernel_rfl) rfl) (by kernel_rfl), ?_⟩
    refine fcs ⟨Ob.new_ (ob_quo2 23 24 25 my L qy _ _ hL0 hqy rfl rfl (by first | exact .inl rfl | exact .inr ⟨_, _, _, rfl, rfl, by kernel_rfl, by decide, rfl⟩) (by kernel_rfl) (by kernel_rfl) rfl rfl rfl) (by kernel_rfl), ?_⟩
    refine fcs ⟨Ob.new_ (ob_buildpt 19 25 26 qx qy rfl rfl (by first | exact .inl rfl | exact .inr ⟨_, _, _, rfl, rfl, by kernel_rfl, by decide, rfl⟩) (by kernel_rfl) (by kernel_rfl) rfl rfl rfl) (by kernel_rfl), ?_⟩
    exact fnl
  intro vv wv hvv hbv _ _
  have hva : vv 26 = (pt qx qy) := hvv 26 (by decide)
  simp only [lay, List.foldl_cons, List.foldl_nil, List.setIfInBounds_toArray, List.set_cons_succ, List.set_cons_zero, hva, List.drop_succ_cons, List.drop_zero]
  clear hvv
  have e0 := ((bcell hbv).1 (w.heap.size + 1) 0 (by omega)).trans hz0
  have e1 := ((bcell hbv).1 (w.heap.size + 1) 1 (by omega)).trans hz1
  have e2 := ((bcell hbv).2 (w.heap.size + 1) 0 (by omega)).trans hf0
  have e3 := ((bcell hbv).2 (w.heap.size + 1) 1 (by omega)).trans hf1
  have hB2 := up hB hbv
  clear hz0 hz1 hf0 hf1 hbv
  go_wp2_with fail
  exact bodyPost_ret (v := pt qx qy) (by simp [results, Try.results17, go_sem, e0, e1]) rfl ⟨rfl, (hB2.setCell (by simp) _).setCell (by simp) _⟩
set_option maxHeartbeats 1000000 in
theorem scale_short (x y most m L : Int) (w : World) (c : ∀ w, Calls Try.prog 36 #[pt x y] w (Ib (.int .i64 L) w))
    (hm : max most 0 = m) (hd : decide (L ≤ m) = true) :
    Calls Try.prog 17 #[pt x y, .int .i64 most] w (Ib (pt x y) w) := by
  go_enter Try.func17, Try.ntmps17
  go_wp2_with fail
  refine (c _).mono ?_
  rintro e w1 ⟨rfl, hb⟩
  have hx0 : w1.cell? ⟨w.heap.size, 0, none⟩ = some (.int .i64 x) := by rw [(bcell hb).1 _ _ (by simp; omega)]; simp
  have hx1 : w1.cell? ⟨w.heap.size, 1, none⟩ = some (.int .i64 y) := by rw [(bcell hb).1 _ _ (by simp; omega)]; simp
  have e0 : w1.cell? ⟨w.heap.size + 1, 0, none⟩ = some (.int .i64 0) := by rw [(bcell hb).1 _ _ (by simp)]; simp
  have e1 : w1.cell? ⟨w.heap.size + 1, 1, none⟩ = some (.int .i64 0) := by rw [(bcell hb).1 _ _ (by simp)]; simp
  have hf0 : w1.frozen? ⟨w.heap.size + 1, 0, none⟩ = false := by rw [(bcell hb).2 _ _ (by simp)]; simp
  have hf1 : w1.frozen? ⟨w.heap.size + 1, 1, none⟩ = false := by rw [(bcell hb).2 _ _ (by simp)]; simp
  have hB : Below w.heap.size w w1 := up (up (one _ _) (one _ _)) hb
  clear hb
  go_wp2_with fail
  exact bodyPost_ret (v := pt x y) (by simp [results, Try.results17, go_sem, e0, e1]) rfl ⟨rfl, (hB.setCell (by simp) _).setCell (by simp) _⟩
set_option maxRecDepth 100000 in
set_option maxHeartbeats 1000000 in
theorem refScale_short (x y most m mm n : Int) (w : World) (c : ∀ w, Calls Try.prog 19 #[pt x y] w (Ib (.int .i64 n) w))
    (hm : max most 0 = m) (hg : decide (4194304 < m) = true ∨ (decide (4194304 < m) = false ∧ wrap64 (m * m) = mm ∧ decide (n ≤ mm) = true)) :
    Calls Try.prog 18 #[pt x y, .int .i64 most] w (Ib (pt x y) w) := by
  by_cases h : most < 0
  · have e9 : m = 0 := by omega
    subst e9
    have hd : decide (most < 0) = true := by simpa using h
    obtain ⟨g0, g1, g2⟩ := hg.resolve_left (by simp)
    have g3 : mm = 0 := by rw [← g1]; unfold wrap64; omega
    subst g3
    clear h hg hm g1
    go_enter Try.func18, Try.ntmps18
    go_wp2_with fail
    refine (c _).mono ?_
    rintro e w1 ⟨rfl, hb⟩
    have hx0 : w1.cell? ⟨w.heap.size, 0, none⟩ = some (.int .i64 x) := by rw [(bcell hb).1 _ _ (by simp; omega)]; simp
    have hx1 : w1.cell? ⟨w.heap.size, 1, none⟩ = some (.int .i64 y) := by rw [(bcell hb).1 _ _ (by simp; omega)]; simp
    have hz0 : w1.cell? ⟨w.heap.size + 1, 0, none⟩ = some (.int .i64 0) := by rw [(bcell hb).1 _ _ (by simp)]; simp
    have hz1 : w1.cell? ⟨w.heap.size + 1, 1, none⟩ = some (.int .i64 0) := by rw [(bcell hb).1 _ _ (by simp)]; simp
    have hf0 : w1.frozen? ⟨w.heap.size + 1, 0, none⟩ = false := by rw [(bcell hb).2 _ _ (by simp)]; simp
    have hf1 : w1.frozen? ⟨w.heap.size + 1, 1, none⟩ = false := by rw [(bcell hb).2 _ _ (by simp)]; simp
    have hs1 : w.heap.size + 1 < w1.heap.size := by have := hb.size; simp at this; omega
    have hB : Below w.heap.size w w1 := up (up (one _ _) (one _ _)) hb
    clear hb
    go_wp2_with fail
    exact bodyPost_ret (v := pt x y) (by simp [results, Try.results18, go_sem, hz0, hz1]) rfl ⟨rfl, (hB.setCell (by simp) _).setCell (by simp) _⟩
  · have e9 : m = most := by omega
    subst e9
    have hd : decide (m < 0) = false := by simpa using h
    rcases hg with g0 | ⟨g0, g1, g2⟩
    · clear h hm
      go_enter Try.func18, Try.ntmps18
      go_wp2_with fail
      refine (c _).mono ?_
      rintro e w1 ⟨rfl, hb⟩
      have hx0 : w1.cell? ⟨w.heap.size, 0, none⟩ = some (.int .i64 x) := by rw [(bcell hb).1 _ _ (by simp; omega)]; simp
      have hx1 : w1.cell? ⟨w.heap.size, 1, none⟩ = some (.int .i64 y) := by rw [(bcell hb).1 _ _ (by simp; omega)]; simp
      have hz0 : w1.cell? ⟨w.heap.size + 1, 0, none⟩ = some (.int .i64 0) := by rw [(bcell hb).1 _ _ (by simp)]; simp
      have hz1 : w1.cell? ⟨w.heap.size + 1, 1, none⟩ = some (.int .i64 0) := by rw [(bcell hb).1 _ _ (by simp)]; simp
      have hf0 : w1.frozen? ⟨w.heap.size + 1, 0, none⟩ = false := by rw [(bcell hb).2 _ _ (by simp)]; simp
      have hf1 : w1.frozen? ⟨w.heap.size + 1, 1, none⟩ = false := by rw [(bcell hb).2 _ _ (by simp)]; simp
      have hs1 : w.heap.size + 1 < w1.heap.size := by have := hb.size; simp at this; omega
      have hB : Below w.heap.size w w1 := up (up (one _ _) (one _ _)) hb
      clear hb
      go_wp2_with fail
      exact bodyPost_ret (v := pt x y) (by simp [results, Try.results18, go_sem, hz0, hz1]) rfl ⟨rfl, (hB.setCell (by simp) _).setCell (by simp) _⟩
    · clear h hm
      go_enter Try.func18, Try.ntmps18
      go_wp2_with fail
      refine (c _).mono ?_
      rintro e w1 ⟨rfl, hb⟩
      have hx0 : w1.cell? ⟨w.heap.size, 0, none⟩ = some (.int .i64 x) := by rw [(bcell hb).1 _ _ (by simp; omega)]; simp
      have hx1 : w1.cell? ⟨w.heap.size, 1, none⟩ = some (.int .i64 y) := by rw [(bcell hb).1 _ _ (by simp; omega)]; simp
      have hz0 : w1.cell? ⟨w.heap.size + 1, 0, none⟩ = some (.int .i64 0) := by rw [(bcell hb).1 _ _ (by simp)]; simp
      have hz1 : w1.cell? ⟨w.heap.size + 1, 1, none⟩ = some (.int .i64 0) := by rw [(bcell hb).1 _ _ (by simp)]; simp
      have hf0 : w1.frozen? ⟨w.heap.size + 1, 0, none⟩ = false := by rw [(bcell hb).2 _ _ (by simp)]; simp
      have hf1 : w1.frozen? ⟨w.heap.size + 1, 1, none⟩ = false := by rw [(bcell hb).2 _ _ (by simp)]; simp
      have hs1 : w.heap.size + 1 < w1.heap.size := by have := hb.size; simp at this; omega
      have hB : Below w.heap.size w w1 := up (up (one _ _) (one _ _)) hb
      clear hb
      go_wp2_with fail
      exact bodyPost_ret (v := pt x y) (by simp [results, Try.results18, go_sem, hz0, hz1]) rfl ⟨rfl, (hB.setCell (by simp) _).setCell (by simp) _⟩
set_option maxRecDepth 100000 in
set_option maxHeartbeats 2000000 in
theorem refScale_long (x y most m mm n s ss L mx my qx qy : Int) (w : World) (c : ∀ w, Calls Try.prog 19 #[pt x y] w (Ib (.int .i64 n) w)) (r : ∀ w, Calls Try.prog 37 #[.int .i64 n] w (Is (.int .i64 s) w))
    (hm : max most 0 = m) (g0 : decide (4194304 < m) = false) (g1 : wrap64 (m * m) = mm) (g2 : decide (n ≤ mm) = false) (g3 : wrap64 (s * s) = ss) (hu : (decide (ss < n) = true ∧ wrap64 (s + 1) = L) ∨ (decide (ss < n) = false ∧ s = L))
    (hL0 : L ≠ 0) (hmx : IntKind.i64.wrap (x * m) = mx) (hmy : IntKind.i64.wrap (y * m) = my) (hqx : IntKind.i64.wrap (mx.tdiv L) = qx) (hqy : IntKind.i64.wrap (my.tdiv L) = qy) :
    Calls Try.prog 18 #[pt x y, .int .i64 most] w (Ib (pt qx qy) w) := by
  have HX := Lib.hid (And.intro hmx (And.intro hmy (And.intro hqx hqy)))
  clear hmx hmy hqx hqy
  by_cases h : most < 0
  · have e9 : m = 0 := by omega
    subst e9
    have hd : decide (most < 0) = true := by simpa using h
    have g4 : mm = 0 := by rw [← g1]; unfold wrap64; omega
    subst g4
    clear h hm g1
    rcases hu with ⟨u1, u2⟩ | ⟨u1, rfl⟩
    · go_enter Try.func18, Try.ntmps18
      go_wp2_with fail
      refine (c _).mono ?_
      rintro e w1 ⟨rfl, hb⟩
      have hx0 : w1.cell? ⟨w.heap.size, 0, none⟩ = some (.int .i64 x) := by rw [(bcell hb).1 _ _ (by simp; omega)]; simp
      have hx1 : w1.cell? ⟨w.heap.size, 1, none⟩ = some (.int .i64 y) := by rw [(bcell hb).1 _ _ (by simp; omega)]; simp
      have hz0 : w1.cell? ⟨w.heap.size + 1, 0, none⟩ = some (.int .i64 0) := by rw [(bcell hb).1 _ _ (by simp)]; simp
      have hz1 : w1.cell? ⟨w.heap.size + 1, 1, none⟩ = some (.int .i64 0) := by rw [(bcell hb).1 _ _ (by simp)]; simp
      have hf0 : w1.frozen? ⟨w.heap.size + 1, 0, none⟩ = false := by rw [(bcell hb).2 _ _ (by simp)]; simp
      have hf1 : w1.frozen? ⟨w.heap.size + 1, 1, none⟩ = false := by rw [(bcell hb).2 _ _ (by simp)]; simp
      have hs1 : w.heap.size + 1 < w1.heap.size := by have := hb.size; simp at this; omega
      have hB : Below w.heap.size w w1 := up (up (one _ _) (one _ _)) hb
      clear hb
      go_wp2_with fail
      refine (r _).mono ?_
      rintro e w2 ⟨rfl, rfl⟩
      go_wp2_with fail
      obtain ⟨hmx, hmy, hqx, hqy⟩ := HX.out
      refine wp_region_seq (by kernel_rfl) (FF [(2, Fact.at_ w1 (.pointer (some ⟨w.heap.size, 0, none⟩))), (1, Fact.eq (.int .i64 0)), (6, Fact.eq (.int .i64 L)), (30, Fact.at_ w1 (.pointer (some ⟨w.heap.size, 0, none⟩))), (31, Fact.eq (.int .i64 x)), (32, Fact.eq (.int .i64 0)), (33, Fact.eq (.int .i64 mx)), (34, Fact.eq (.int .i64 L)), (35, Fact.eq (.int .i64 qx)), (36, Fact.at_ w1 (.pointer (some ⟨w.heap.size, 1, none⟩))), (37, Fact.eq (.int .i64 y)), (38, Fact.eq (.int .i64 0)), (39, Fact.eq (.int .i64 my)), (40, Fact.eq (.int .i64 L)), (41, Fact.eq (.int .i64 qy)), (42, Fact.eq (pt qx qy))]) [2, 1, 6] [] 43 13 [30, 31, 32, 33, 34, 35, 36, 37, 38, 39, 40, 41, 42] rfl (by kernel_rfl) (by kernel_rfl) (by decide) (by kernel_rfl) (by kernel_rfl) ?_ ?_ ?_
      · intro t ht
        simp only [List.mem_cons, List.not_mem_nil, or_false] at ht
        rcases ht with rfl | rfl | rfl
        · exact ⟨rfl, Below.refl _ _⟩
        · exact rfl
        · exact congrArg (Value.int .i64) u2
      · refine fcs ⟨Ob.new_ (ob_fieldat w1 2 30 0 32 ⟨w.heap.size, 0, none⟩ ⟨w.heap.size, 0, none⟩ rfl rfl (by first | exact .inl rfl | exact .inr ⟨_, _, _, rfl, rfl, by kernel_rfl, by decide, rfl⟩) (by kernel_rfl) rfl rfl (fun w => by go_simp)) (by kernel_rfl), ?_⟩
        refine fcs ⟨Ob.new_ (ob_loadat w1 30 31 3 ⟨w.heap.size, 0, none⟩ (.int .i64 x) rfl rfl (by first | exact .inl rfl | exact .inr ⟨_, _, _, rfl, rfl, by kernel_rfl, by decide, rfl⟩) (by kernel_rfl) rfl rfl (fun w' hb => load_i64 (((bcell hb).1 (w.heap.size) 0 (by omega)).trans hx0))) (by kernel_rfl), ?_⟩
        refine fcs ⟨Ob.new_ (ob_copy 1 32 (.inl rfl) rfl (by first | exact .inl rfl | exact .inr ⟨_, _, _, rfl, rfl, by kernel_rfl, by decide, rfl⟩) (by kernel_rfl) rfl) (by kernel_rfl), ?_⟩
        refine fcs ⟨Ob.new_ (ob_mul2 .i64 31 32 33 x 0 mx _ _ hmx rfl rfl (by first | exact .inl rfl | exact .inr ⟨_, _, _, rfl, rfl, by kernel_rfl, by decide, rfl⟩) (by kernel_rfl) (by kernel_rfl) rfl rfl rfl) (by kernel_rfl), ?_⟩
        refine fcs ⟨Ob.new_ (ob_copy 6 34 (.inl rfl) rfl (by first | exact .inl rfl | exact .inr ⟨_, _, _, rfl, rfl, by kernel_rfl, by decide, rfl⟩) (by kernel_rfl) rfl) (by kernel_rfl), ?_⟩
        refine fcs ⟨Ob.new_ (ob_quo2 33 34 35 mx L qx _ _ hL0 hqx rfl rfl (by first | exact .inl rfl | exact .inr ⟨_, _, _, rfl, rfl, by kernel_rfl, by decide, rfl⟩) (by kernel_rfl) (by kernel_rfl) rfl rfl rfl) (by kernel_rfl), ?_⟩
        refine fcs ⟨Ob.new_ (ob_fieldat w1 2 36 1 32 ⟨w.heap.size, 0, none⟩ ⟨w.heap.size, 1, none⟩ rfl rfl (by first | exact .inl rfl | exact .inr ⟨_, _, _, rfl, rfl, by kernel_rfl, by decide, rfl⟩) (by kernel_rfl) rfl rfl (fun w => by go_simp)) (by kernel_rfl), ?_⟩
        refine fcs ⟨Ob.new_ (ob_loadat w1 36 37 3 ⟨w.heap.size, 1, none⟩ (.int .i64 y) rfl rfl (by first | exact .inl rfl | exact .inr ⟨_, _, _, rfl, rfl, by kernel_rfl, by decide, rfl⟩) (by kernel_rfl) rfl rfl (fun w' hb => load_i64 (((bcell hb).1 (w.heap.size) 1 (by omega)).trans hx1))) (by kernel_rfl), ?_⟩
        refine fcs ⟨Ob.new_ (ob_copy 1 38 (.inl rfl) rfl (by first | exact .inl rfl | exact .inr ⟨_, _, _, rfl, rfl, by kernel_rfl, by decide, rfl⟩) (by kernel_rfl) rfl) (by kernel_rfl), ?_⟩
        refine fcs ⟨Ob.new_ (ob_mul2 .i64 37 38 39 y 0 my _ _ hmy rfl rfl (by first | exact .inl rfl | exact .inr ⟨_, _, _, rfl, rfl, by kernel_rfl, by decide, rfl⟩) (by kernel_rfl) (by kernel_rfl) rfl rfl rfl) (by kernel_rfl), ?_⟩
        refine fcs ⟨Ob.new_ (ob_copy 6 40 (.inl rfl) rfl (by first | exact .inl rfl | exact .inr ⟨_, _, _, rfl, rfl, by kernel_rfl, by decide, rfl⟩) (by kernel_rfl) rfl) (by kernel_rfl), ?_⟩
        refine fcs ⟨Ob.new_ (ob_quo2 39 40 41 my L qy _ _ hL0 hqy rfl rfl (by first | exact .inl rfl | exact .inr ⟨_, _, _, rfl, rfl, by kernel_rfl, by decide, rfl⟩) (by kernel_rfl) (by kernel_rfl) rfl rfl rfl) (by kernel_rfl), ?_⟩
        refine fcs ⟨Ob.new_ (ob_buildpt 35 41 42 qx qy rfl rfl (by first | exact .inl rfl | exact .inr ⟨_, _, _, rfl, rfl, by kernel_rfl, by decide, rfl⟩) (by kernel_rfl) (by kernel_rfl) rfl rfl rfl) (by kernel_rfl), ?_⟩
        exact fnl
      intro vv wv hvv hbv _ _
      have hva : vv 42 = (pt qx qy) := hvv 42 (by decide)
      simp only [lay, List.foldl_cons, List.foldl_nil, List.setIfInBounds_toArray, List.set_cons_succ, List.set_cons_zero, hva, List.drop_succ_cons, List.drop_zero]
      clear hvv
      have e0 := ((bcell hbv).1 (w.heap.size + 1) 0 (by omega)).trans hz0
      have e1 := ((bcell hbv).1 (w.heap.size + 1) 1 (by omega)).trans hz1
      have e2 := ((bcell hbv).2 (w.heap.size + 1) 0 (by omega)).trans hf0
      have e3 := ((bcell hbv).2 (w.heap.size + 1) 1 (by omega)).trans hf1
      have hB2 := up hB hbv
      clear hz0 hz1 hf0 hf1 hbv
      go_wp2_with fail
      exact bodyPost_ret (v := pt qx qy) (by simp [results, Try.results18, go_sem, e0, e1]) rfl ⟨rfl, (hB2.setCell (by simp) _).setCell (by simp) _⟩
    · go_enter Try.func18, Try.ntmps18
      go_wp2_with fail
      refine (c _).mono ?_
      rintro e w1 ⟨rfl, hb⟩
      have hx0 : w1.cell? ⟨w.heap.size, 0, none⟩ = some (.int .i64 x) := by rw [(bcell hb).1 _ _ (by simp; omega)]; simp
      have hx1 : w1.cell? ⟨w.heap.size, 1, none⟩ = some (.int .i64 y) := by rw [(bcell hb).1 _ _ (by simp; omega)]; simp
      have hz0 : w1.cell? ⟨w.heap.size + 1, 0, none⟩ = some (.int .i64 0) := by rw [(bcell hb).1 _ _ (by simp)]; simp
      have hz1 : w1.cell? ⟨w.heap.size + 1, 1, none⟩ = some (.int .i64 0) := by rw [(bcell hb).1 _ _ (by simp)]; simp
      have hf0 : w1.frozen? ⟨w.heap.size + 1, 0, none⟩ = false := by rw [(bcell hb).2 _ _ (by simp)]; simp
      have hf1 : w1.frozen? ⟨w.heap.size + 1, 1, none⟩ = false := by rw [(bcell hb).2 _ _ (by simp)]; simp
      have hs1 : w.heap.size + 1 < w1.heap.size := by have := hb.size; simp at this; omega
      have hB : Below w.heap.size w w1 := up (up (one _ _) (one _ _)) hb
      clear hb
      go_wp2_with fail
      refine (r _).mono ?_
      rintro e w2 ⟨rfl, rfl⟩
      go_wp2_with fail
      obtain ⟨hmx, hmy, hqx, hqy⟩ := HX.out
      refine wp_region_seq (by kernel_rfl) (FF [(2, Fact.at_ w1 (.pointer (some ⟨w.heap.size, 0, none⟩))), (1, Fact.eq (.int .i64 0)), (6, Fact.eq (.int .i64 s)), (30, Fact.at_ w1 (.pointer (some ⟨w.heap.size, 0, none⟩))), (31, Fact.eq (.int .i64 x)), (32, Fact.eq (.int .i64 0)), (33, Fact.eq (.int .i64 mx)), (34, Fact.eq (.int .i64 s)), (35, Fact.eq (.int .i64 qx)), (36, Fact.at_ w1 (.pointer (some ⟨w.heap.size, 1, none⟩))), (37, Fact.eq (.int .i64 y)), (38, Fact.eq (.int .i64 0)), (39, Fact.eq (.int .i64 my)), (40, Fact.eq (.int .i64 s)), (41, Fact.eq (.int .i64 qy)), (42, Fact.eq (pt qx qy))]) [2, 1, 6] [] 43 13 [30, 31, 32, 33, 34, 35, 36, 37, 38, 39, 40, 41, 42] rfl (by kernel_rfl) (by kernel_rfl) (by decide) (by kernel_rfl) (by kernel_rfl) ?_ ?_ ?_
      · intro t ht
        simp only [List.mem_cons, List.not_mem_nil, or_false] at ht
        rcases ht with rfl | rfl | rfl
        · exact ⟨rfl, Below.refl _ _⟩
        · exact rfl
        · exact rfl
      · refine fcs ⟨Ob.new_ (ob_fieldat w1 2 30 0 32 ⟨w.heap.size, 0, none⟩ ⟨w.heap.size, 0, none⟩ rfl rfl (by first | exact .inl rfl | exact .inr ⟨_, _, _, rfl, rfl, by kernel_rfl, by decide, rfl⟩) (by kernel_rfl) rfl rfl (fun w => by go_simp)) (by kernel_rfl), ?_⟩
        refine fcs ⟨Ob.new_ (ob_loadat w1 30 31 3 ⟨w.heap.size, 0, none⟩ (.int .i64 x) rfl rfl (by first | exact .inl rfl | exact .inr ⟨_, _, _, rfl, rfl, by kernel_rfl, by decide, rfl⟩) (by kernel_rfl) rfl rfl (fun w' hb => load_i64 (((bcell hb).1 (w.heap.size) 0 (by omega)).trans hx0))) (by kernel_rfl), ?_⟩
        refine fcs ⟨Ob.new_ (ob_copy 1 32 (.inl rfl) rfl (by first | exact .inl rfl | exact .inr ⟨_, _, _, rfl, rfl, by kernel_rfl, by decide, rfl⟩) (by kernel_rfl) rfl) (by kernel_rfl), ?_⟩
        refine fcs ⟨Ob.new_ (ob_mul2 .i64 31 32 33 x 0 mx _ _ hmx rfl rfl (by first | exact .inl rfl | exact .inr ⟨_, _, _, rfl, rfl, by kernel_rfl, by decide, rfl⟩) (by kernel_rfl) (by kernel_rfl) rfl rfl rfl) (by kernel_rfl), ?_⟩
        refine fcs ⟨Ob.new_ (ob_copy 6 34 (.inl rfl) rfl (by first | exact .inl rfl | exact .inr ⟨_, _, _, rfl, rfl, by kernel_rfl, by decide, rfl⟩) (by kernel_rfl) rfl) (by kernel_rfl), ?_⟩
        refine fcs ⟨Ob.new_ (ob_quo2 33 34 35 mx s qx _ _ hL0 hqx rfl rfl (by first | exact .inl rfl | exact .inr ⟨_, _, _, rfl, rfl, by kernel_rfl, by decide, rfl⟩) (by kernel_rfl) (by kernel_rfl) rfl rfl rfl) (by kernel_rfl), ?_⟩
        refine fcs ⟨Ob.new_ (ob_fieldat w1 2 36 1 32 ⟨w.heap.size, 0, none⟩ ⟨w.heap.size, 1, none⟩ rfl rfl (by first | exact .inl rfl | exact .inr ⟨_, _, _, rfl, rfl, by kernel_rfl, by decide, rfl⟩) (by kernel_rfl) rfl rfl (fun w => by go_simp)) (by kernel_rfl), ?_⟩
        refine fcs ⟨Ob.new_ (ob_loadat w1 36 37 3 ⟨w.heap.size, 1, none⟩ (.int .i64 y) rfl rfl (by first | exact .inl rfl | exact .inr ⟨_, _, _, rfl, rfl, by kernel_rfl, by decide, rfl⟩) (by kernel_rfl) rfl rfl (fun w' hb => load_i64 (((bcell hb).1 (w.heap.size) 1 (by omega)).trans hx1))) (by kernel_rfl), ?_⟩
        refine fcs ⟨Ob.new_ (ob_copy 1 38 (.inl rfl) rfl (by first | exact .inl rfl | exact .inr ⟨_, _, _, rfl, rfl, by kernel_rfl, by decide, rfl⟩) (by kernel_rfl) rfl) (by kernel_rfl), ?_⟩
        refine fcs ⟨Ob.new_ (ob_mul2 .i64 37 38 39 y 0 my _ _ hmy rfl rfl (by first | exact .inl rfl | exact .inr ⟨_, _, _, rfl, rfl, by kernel_rfl, by decide, rfl⟩) (by kernel_rfl) (by kernel_rfl) rfl rfl rfl) (by kernel_rfl), ?_⟩
        refine fcs ⟨Ob.new_ (ob_copy 6 40 (.inl rfl) rfl (by first | exact .inl rfl | exact .inr ⟨_, _, _, rfl, rfl, by kernel_rfl, by decide, rfl⟩) (by kernel_rfl) rfl) (by kernel_rfl), ?_⟩
        refine fcs ⟨Ob.new_ (ob_quo2 39 40 41 my s qy _ _ hL0 hqy rfl rfl (by first | exact .inl rfl | exact .inr ⟨_, _, _, rfl, rfl, by kernel_rfl, by decide, rfl⟩) (by kernel_rfl) (by kernel_rfl) rfl rfl rfl) (by kernel_rfl), ?_⟩
        refine fcs ⟨Ob.new_ (ob_buildpt 35 41 42 qx qy rfl rfl (by first | exact .inl rfl | exact .inr ⟨_, _, _, rfl, rfl, by kernel_rfl, by decide, rfl⟩) (by kernel_rfl) (by kernel_rfl) rfl rfl rfl) (by kernel_rfl), ?_⟩
        exact fnl
      intro vv wv hvv hbv _ _
      have hva : vv 42 = (pt qx qy) := hvv 42 (by decide)
      simp only [lay, List.foldl_cons, List.foldl_nil, List.setIfInBounds_toArray, List.set_cons_succ, List.set_cons_zero, hva, List.drop_succ_cons, List.drop_zero]
      clear hvv
      have e0 := ((bcell hbv).1 (w.heap.size + 1) 0 (by omega)).trans hz0
      have e1 := ((bcell hbv).1 (w.heap.size + 1) 1 (by omega)).trans hz1
      have e2 := ((bcell hbv).2 (w.heap.size + 1) 0 (by omega)).trans hf0
      have e3 := ((bcell hbv).2 (w.heap.size + 1) 1 (by omega)).trans hf1
      have hB2 := up hB hbv
      clear hz0 hz1 hf0 hf1 hbv
      go_wp2_with fail
      exact bodyPost_ret (v := pt qx qy) (by simp [results, Try.results18, go_sem, e0, e1]) rfl ⟨rfl, (hB2.setCell (by simp) _).setCell (by simp) _⟩
  · have e9 : m = most := by omega
    subst e9
    have hd : decide (m < 0) = false := by simpa using h
    clear h hm
    rcases hu with ⟨u1, u2⟩ | ⟨u1, rfl⟩
    · go_enter Try.func18, Try.ntmps18
      go_wp2_with fail
      refine (c _).mono ?_
      rintro e w1 ⟨rfl, hb⟩
      have hx0 : w1.cell? ⟨w.heap.size, 0, none⟩ = some (.int .i64 x) := by rw [(bcell hb).1 _ _ (by simp; omega)]; simp
      have hx1 : w1.cell? ⟨w.heap.size, 1, none⟩ = some (.int .i64 y) := by rw [(bcell hb).1 _ _ (by simp; omega)]; simp
      have hz0 : w1.cell? ⟨w.heap.size + 1, 0, none⟩ = some (.int .i64 0) := by rw [(bcell hb).1 _ _ (by simp)]; simp
      have hz1 : w1.cell? ⟨w.heap.size + 1, 1, none⟩ = some (.int .i64 0) := by rw [(bcell hb).1 _ _ (by simp)]; simp
      have hf0 : w1.frozen? ⟨w.heap.size + 1, 0, none⟩ = false := by rw [(bcell hb).2 _ _ (by simp)]; simp
      have hf1 : w1.frozen? ⟨w.heap.size + 1, 1, none⟩ = false := by rw [(bcell hb).2 _ _ (by simp)]; simp
      have hs1 : w.heap.size + 1 < w1.heap.size := by have := hb.size; simp at this; omega
      have hB : Below w.heap.size w w1 := up (up (one _ _) (one _ _)) hb
      clear hb
      go_wp2_with fail
      refine (r _).mono ?_
      rintro e w2 ⟨rfl, rfl⟩
      go_wp2_with fail
      obtain ⟨hmx, hmy, hqx, hqy⟩ := HX.out
      refine wp_region_seq (by kernel_rfl) (FF [(2, Fact.at_ w1 (.pointer (some ⟨w.heap.size, 0, none⟩))), (1, Fact.eq (.int .i64 m)), (6, Fact.eq (.int .i64 L)), (30, Fact.at_ w1 (.pointer (some ⟨w.heap.size, 0, none⟩))), (31, Fact.eq (.int .i64 x)), (32, Fact.eq (.int .i64 m)), (33, Fact.eq (.int .i64 mx)), (34, Fact.eq (.int .i64 L)), (35, Fact.eq (.int .i64 qx)), (36, Fact.at_ w1 (.pointer (some ⟨w.heap.size, 1, none⟩))), (37, Fact.eq (.int .i64 y)), (38, Fact.eq (.int .i64 m)), (39, Fact.eq (.int .i64 my)), (40, Fact.eq (.int .i64 L)), (41, Fact.eq (.int .i64 qy)), (42, Fact.eq (pt qx qy))]) [2, 1, 6] [] 43 13 [30, 31, 32, 33, 34, 35, 36, 37, 38, 39, 40, 41, 42] rfl (by kernel_rfl) (by kernel_rfl) (by decide) (by kernel_rfl) (by kernel_rfl) ?_ ?_ ?_
      · intro t ht
        simp only [List.mem_cons, List.not_mem_nil, or_false] at ht
        rcases ht with rfl | rfl | rfl
        · exact ⟨rfl, Below.refl _ _⟩
        · exact rfl
        · exact congrArg (Value.int .i64) u2
      · refine fcs ⟨Ob.new_ (ob_fieldat w1 2 30 0 32 ⟨w.heap.size, 0, none⟩ ⟨w.heap.size, 0, none⟩ rfl rfl (by first | exact .inl rfl | exact .inr ⟨_, _, _, rfl, rfl, by kernel_rfl, by decide, rfl⟩) (by kernel_rfl) rfl rfl (fun w => by go_simp)) (by kernel_rfl), ?_⟩
        refine fcs ⟨Ob.new_ (ob_loadat w1 30 31 3 ⟨w.heap.size, 0, none⟩ (.int .i64 x) rfl rfl (by first | exact .inl rfl | exact .inr ⟨_, _, _, rfl, rfl, by kernel_rfl, by decide, rfl⟩) (by kernel_rfl) rfl rfl (fun w' hb => load_i64 (((bcell hb).1 (w.heap.size) 0 (by omega)).trans hx0))) (by kernel_rfl), ?_⟩
        refine fcs ⟨Ob.new_ (ob_copy 1 32 (.inl rfl) rfl (by first | exact .inl rfl | exact .inr ⟨_, _, _, rfl, rfl, by kernel_rfl, by decide, rfl⟩) (by kernel_rfl) rfl) (by kernel_rfl), ?_⟩
        refine fcs ⟨Ob.new_ (ob_mul2 .i64 31 32 33 x m mx _ _ hmx rfl rfl (by first | exact .inl rfl | exact .inr ⟨_, _, _, rfl, rfl, by kernel_rfl, by decide, rfl⟩) (by kernel_rfl) (by kernel_rfl) rfl rfl rfl) (by kernel_rfl), ?_⟩
        refine fcs ⟨Ob.new_ (ob_copy 6 34 (.inl rfl) rfl (by first | exact .inl rfl | exact .inr ⟨_, _, _, rfl, rfl, by kernel_rfl, by decide, rfl⟩) (by kernel_rfl) rfl) (by kernel_rfl), ?_⟩
        refine fcs ⟨Ob.new_ (ob_quo2 33 34 35 mx L qx _ _ hL0 hqx rfl rfl (by first | exact .inl rfl | exact .inr ⟨_, _, _, rfl, rfl, by kernel_rfl, by decide, rfl⟩) (by kernel_rfl) (by kernel_rfl) rfl rfl rfl) (by kernel_rfl), ?_⟩
        refine fcs ⟨Ob.new_ (ob_fieldat w1 2 36 1 32 ⟨w.heap.size, 0, none⟩ ⟨w.heap.size, 1, none⟩ rfl rfl (by first | exact .inl rfl | exact .inr ⟨_, _, _, rfl, rfl, by kernel_rfl, by decide, rfl⟩) (by kernel_rfl) rfl rfl (fun w => by go_simp)) (by kernel_rfl), ?_⟩
        refine fcs ⟨Ob.new_ (ob_loadat w1 36 37 3 ⟨w.heap.size, 1, none⟩ (.int .i64 y) rfl rfl (by first | exact .inl rfl | exact .inr ⟨_, _, _, rfl, rfl, by kernel_rfl, by decide, rfl⟩) (by kernel_rfl) rfl rfl (fun w' hb => load_i64 (((bcell hb).1 (w.heap.size) 1 (by omega)).trans hx1))) (by kernel_rfl), ?_⟩
        refine fcs ⟨Ob.new_ (ob_copy 1 38 (.inl rfl) rfl (by first | exact .inl rfl | exact .inr ⟨_, _, _, rfl, rfl, by kernel_rfl, by decide, rfl⟩) (by kernel_rfl) rfl) (by kernel_rfl), ?_⟩
        refine fcs ⟨Ob.new_ (ob_mul2 .i64 37 38 39 y m my _ _ hmy rfl rfl (by first | exact .inl rfl | exact .inr ⟨_, _, _, rfl, rfl, by kernel_rfl, by decide, rfl⟩) (by kernel_rfl) (by kernel_rfl) rfl rfl rfl) (by kernel_rfl), ?_⟩
        refine fcs ⟨Ob.new_ (ob_copy 6 40 (.inl rfl) rfl (by first | exact .inl rfl | exact .inr ⟨_, _, _, rfl, rfl, by kernel_rfl, by decide, rfl⟩) (by kernel_rfl) rfl) (by kernel_rfl), ?_⟩
        refine fcs ⟨Ob.new_ (ob_quo2 39 40 41 my L qy _ _ hL0 hqy rfl rfl (by first | exact .inl rfl | exact .inr ⟨_, _, _, rfl, rfl, by kernel_rfl, by decide, rfl⟩) (by kernel_rfl) (by kernel_rfl) rfl rfl rfl) (by kernel_rfl), ?_⟩
        refine fcs ⟨Ob.new_ (ob_buildpt 35 41 42 qx qy rfl rfl (by first | exact .inl rfl | exact .inr ⟨_, _, _, rfl, rfl, by kernel_rfl, by decide, rfl⟩) (by kernel_rfl) (by kernel_rfl) rfl rfl rfl) (by kernel_rfl), ?_⟩
        exact fnl
      intro vv wv hvv hbv _ _
      have hva : vv 42 = (pt qx qy) := hvv 42 (by decide)
      simp only [lay, List.foldl_cons, List.foldl_nil, List.setIfInBounds_toArray, List.set_cons_succ, List.set_cons_zero, hva, List.drop_succ_cons, List.drop_zero]
      clear hvv
      have e0 := ((bcell hbv).1 (w.heap.size + 1) 0 (by omega)).trans hz0
      have e1 := ((bcell hbv).1 (w.heap.size + 1) 1 (by omega)).trans hz1
      have e2 := ((bcell hbv).2 (w.heap.size + 1) 0 (by omega)).trans hf0
      have e3 := ((bcell hbv).2 (w.heap.size + 1) 1 (by omega)).trans hf1
      have hB2 := up hB hbv
      clear hz0 hz1 hf0 hf1 hbv
      go_wp2_with fail
      exact bodyPost_ret (v := pt qx qy) (by simp [results, Try.results18, go_sem, e0, e1]) rfl ⟨rfl, (hB2.setCell (by simp) _).setCell (by simp) _⟩
    · go_enter Try.func18, Try.ntmps18
      go_wp2_with fail
      refine (c _).mono ?_
      rintro e w1 ⟨rfl, hb⟩
      have hx0 : w1.cell? ⟨w.heap.size, 0, none⟩ = some (.int .i64 x) := by rw [(bcell hb).1 _ _ (by simp; omega)]; simp
      have hx1 : w1.cell? ⟨w.heap.size, 1, none⟩ = some (.int .i64 y) := by rw [(bcell hb).1 _ _ (by simp; omega)]; simp
      have hz0 : w1.cell? ⟨w.heap.size + 1, 0, none⟩ = some (.int .i64 0) := by rw [(bcell hb).1 _ _ (by simp)]; simp
      have hz1 : w1.cell? ⟨w.heap.size + 1, 1, none⟩ = some (.int .i64 0) := by rw [(bcell hb).1 _ _ (by simp)]; simp
      have hf0 : w1.frozen? ⟨w.heap.size + 1, 0, none⟩ = false := by rw [(bcell hb).2 _ _ (by simp)]; simp
      have hf1 : w1.frozen? ⟨w.heap.size + 1, 1, none⟩ = false := by rw [(bcell hb).2 _ _ (by simp)]; simp
      have hs1 : w.heap.size + 1 < w1.heap.size := by have := hb.size; simp at this; omega
      have hB : Below w.heap.size w w1 := up (up (one _ _) (one _ _)) hb
      clear hb
      go_wp2_with fail
      refine (r _).mono ?_
      rintro e w2 ⟨rfl, rfl⟩
      go_wp2_with fail
      obtain ⟨hmx, hmy, hqx, hqy⟩ := HX.out
      refine wp_region_seq (by kernel_rfl) (FF [(2, Fact.at_ w1 (.pointer (some ⟨w.heap.size, 0, none⟩))), (1, Fact.eq (.int .i64 m)), (6, Fact.eq (.int .i64 s)), (30, Fact.at_ w1 (.pointer (some ⟨w.heap.size, 0, none⟩))), (31, Fact.eq (.int .i64 x)), (32, Fact.eq (.int .i64 m)), (33, Fact.eq (.int .i64 mx)), (34, Fact.eq (.int .i64 s)), (35, Fact.eq (.int .i64 qx)), (36, Fact.at_ w1 (.pointer (some ⟨w.heap.size, 1, none⟩))), (37, Fact.eq (.int .i64 y)), (38, Fact.eq (.int .i64 m)), (39, Fact.eq (.int .i64 my)), (40, Fact.eq (.int .i64 s)), (41, Fact.eq (.int .i64 qy)), (42, Fact.eq (pt qx qy))]) [2, 1, 6] [] 43 13 [30, 31, 32, 33, 34, 35, 36, 37, 38, 39, 40, 41, 42] rfl (by kernel_rfl) (by kernel_rfl) (by decide) (by kernel_rfl) (by kernel_rfl) ?_ ?_ ?_
      · intro t ht
        simp only [List.mem_cons, List.not_mem_nil, or_false] at ht
        rcases ht with rfl | rfl | rfl
        · exact ⟨rfl, Below.refl _ _⟩
        · exact rfl
        · exact rfl
      · refine fcs ⟨Ob.new_ (ob_fieldat w1 2 30 0 32 ⟨w.heap.size, 0, none⟩ ⟨w.heap.size, 0, none⟩ rfl rfl (by first | exact .inl rfl | exact .inr ⟨_, _, _, rfl, rfl, by kernel_rfl, by decide, rfl⟩) (by kernel_rfl) rfl rfl (fun w => by go_simp)) (by kernel_rfl), ?_⟩
        refine fcs ⟨Ob.new_ (ob_loadat w1 30 31 3 ⟨w.heap.size, 0, none⟩ (.int .i64 x) rfl rfl (by first | exact .inl rfl | exact .inr ⟨_, _, _, rfl, rfl, by kernel_rfl, by decide, rfl⟩) (by kernel_rfl) rfl rfl (fun w' hb => load_i64 (((bcell hb).1 (w.heap.size) 0 (by omega)).trans hx0))) (by kernel_rfl), ?_⟩
        refine fcs ⟨Ob.new_ (ob_copy 1 32 (.inl rfl) rfl (by first | exact .inl rfl | exact .inr ⟨_, _, _, rfl, rfl, by kernel_rfl, by decide, rfl⟩) (by kernel_rfl) rfl) (by kernel_rfl), ?_⟩
        refine fcs ⟨Ob.new_ (ob_mul2 .i64 31 32 33 x m mx _ _ hmx rfl rfl (by first | exact .inl rfl | exact .inr ⟨_, _, _, rfl, rfl, by kernel_rfl, by decide, rfl⟩) (by kernel_rfl) (by kernel_rfl) rfl rfl rfl) (by kernel_rfl), ?_⟩
        refine fcs ⟨Ob.new_ (ob_copy 6 34 (.inl rfl) rfl (by first | exact .inl rfl | exact .inr ⟨_, _, _, rfl, rfl, by kernel_rfl, by decide, rfl⟩) (by kernel_rfl) rfl) (by kernel_rfl), ?_⟩
        refine fcs ⟨Ob.new_ (ob_quo2 33 34 35 mx s qx _ _ hL0 hqx rfl rfl (by first | exact .inl rfl | exact .inr ⟨_, _, _, rfl, rfl, by kernel_rfl, by decide, rfl⟩) (by kernel_rfl) (by kernel_rfl) rfl rfl rfl) (by kernel_rfl), ?_⟩
        refine fcs ⟨Ob.new_ (ob_fieldat w1 2 36 1 32 ⟨w.heap.size, 0, none⟩ ⟨w.heap.size, 1, none⟩ rfl rfl (by first | exact .inl rfl | exact .inr ⟨_, _, _, rfl, rfl, by kernel_rfl, by decide, rfl⟩) (by kernel_rfl) rfl rfl (fun w => by go_simp)) (by kernel_rfl), ?_⟩
        refine fcs ⟨Ob.new_ (ob_loadat w1 36 37 3 ⟨w.heap.size, 1, none⟩ (.int .i64 y) rfl rfl (by first | exact .inl rfl | exact .inr ⟨_, _, _, rfl, rfl, by kernel_rfl, by decide, rfl⟩) (by kernel_rfl) rfl rfl (fun w' hb => load_i64 (((bcell hb).1 (w.heap.size) 1 (by omega)).trans hx1))) (by kernel_rfl), ?_⟩
        refine fcs ⟨Ob.new_ (ob_copy 1 38 (.inl rfl) rfl (by first | exact .inl rfl | exact .inr ⟨_, _, _, rfl, rfl, by kernel_rfl, by decide, rfl⟩) (by kernel_rfl) rfl) (by kernel_rfl), ?_⟩
        refine fcs ⟨Ob.new_ (ob_mul2 .i64 37 38 39 y m my _ _ hmy rfl rfl (by first | exact .inl rfl | exact .inr ⟨_, _, _, rfl, rfl, by kernel_rfl, by decide, rfl⟩) (by kernel_rfl) (by kernel_rfl) rfl rfl rfl) (by kernel_rfl), ?_⟩
        refine fcs ⟨Ob.new_ (ob_copy 6 40 (.inl rfl) rfl (by first | exact .inl rfl | exact .inr ⟨_, _, _, rfl, rfl, by kernel_rfl, by decide, rfl⟩) (by kernel_rfl) rfl) (by kernel_rfl), ?_⟩
        refine fcs ⟨Ob.new_ (ob_quo2 39 40 41 my s qy _ _ hL0 hqy rfl rfl (by first | exact .inl rfl | exact .inr ⟨_, _, _, rfl, rfl, by kernel_rfl, by decide, rfl⟩) (by kernel_rfl) (by kernel_rfl) rfl rfl rfl) (by kernel_rfl), ?_⟩
        refine fcs ⟨Ob.new_ (ob_buildpt 35 41 42 qx qy rfl rfl (by first | exact .inl rfl | exact .inr ⟨_, _, _, rfl, rfl, by kernel_rfl, by decide, rfl⟩) (by kernel_rfl) (by kernel_rfl) rfl rfl rfl) (by kernel_rfl), ?_⟩
        exact fnl
      intro vv wv hvv hbv _ _
      have hva : vv 42 = (pt qx qy) := hvv 42 (by decide)
      simp only [lay, List.foldl_cons, List.foldl_nil, List.setIfInBounds_toArray, List.set_cons_succ, List.set_cons_zero, hva, List.drop_succ_cons, List.drop_zero]
      clear hvv
      have e0 := ((bcell hbv).1 (w.heap.size + 1) 0 (by omega)).trans hz0
      have e1 := ((bcell hbv).1 (w.heap.size + 1) 1 (by omega)).trans hz1
      have e2 := ((bcell hbv).2 (w.heap.size + 1) 0 (by omega)).trans hf0
      have e3 := ((bcell hbv).2 (w.heap.size + 1) 1 (by omega)).trans hf1
      have hB2 := up hB hbv
      clear hz0 hz1 hf0 hf1 hbv
      go_wp2_with fail
      exact bodyPost_ret (v := pt qx qy) (by simp [results, Try.results18, go_sem, e0, e1]) rfl ⟨rfl, (hB2.setCell (by simp) _).setCell (by simp) _⟩
end Go.Proofs.Ytgfahenhobnjpaa

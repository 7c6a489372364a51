/-
  The law of points: it returns true. No conditions.
-/
import Derived.Test.YtgfahenhobnjpaaPq
import Derived.Test.YtgfahenhobnjpaaG4
namespace Go.Proofs.Ytgfahenhobnjpaa
open Go.RowKit
theorem load_i32 {w : World} {p : Addr} {x : Int} (h : w.cell? p = some (.int .i32 x)) : (Instr.loadAt 21 (.pointer (some p))).run Try.prog w = .ok (.int .i32 x) w := by
  go_simp
theorem load_pt {w : World} {b : Nat} {x y : Int} (h : w.cell? ⟨b, 0, none⟩ = some (.int .i64 x)) (h2 : w.cell? ⟨b, 1, none⟩ = some (.int .i64 y)) : (Instr.loadAt 32 (.pointer (some ⟨b, 0, none⟩))).run Try.prog w = .ok (pt x y) w := by
  go_simp
/-- The variable at b holds this point. -/
structure Pv (w : World) (b : Nat) (x y : Int) : Prop where
  lt : b < w.heap.size
  c0 : w.cell? ⟨b, 0, none⟩ = some (.int .i64 x)
  c1 : w.cell? ⟨b, 1, none⟩ = some (.int .i64 y)
theorem Pv.below {w w' : World} {b : Nat} {x y : Int} (h : Pv w b x y) (hb : Below w.heap.size w w') : Pv w' b x y := ⟨Nat.lt_of_lt_of_le h.lt hb.size, ((bcell hb).1 b 0 h.lt).trans h.c0, ((bcell hb).1 b 1 h.lt).trans h.c1⟩
theorem Pv.load {w : World} {b : Nat} {x y : Int} (h : Pv w b x y) : ∀ w', Below w.heap.size w w' → (Instr.loadAt 32 (.pointer (some ⟨b, 0, none⟩))).run Try.prog w' = .ok (pt x y) w' := fun _ hb => load_pt (h.below hb).c0 (h.below hb).c1
theorem cell_b {w : World} {p q i j : Nat} {v : Value} (h : p ≠ q) : (w.setCell ⟨p, i, none⟩ v).cell? ⟨q, j, none⟩ = w.cell? ⟨q, j, none⟩ := World.cell?_setCell_other _ _ _ _ fun e => h (by injection e)
theorem cell_o {w : World} {p i j : Nat} {v : Value} (h : i ≠ j) : (w.setCell ⟨p, i, none⟩ v).cell? ⟨p, j, none⟩ = w.cell? ⟨p, j, none⟩ := World.cell?_setCell_other _ _ _ _ fun e => h (by injection e)
/-- Two new variables, written. -/
theorem two_set {w : World} {p q : Nat} {x y z t : Int} (hpq : p ≠ q) (hp : p < w.heap.size) (hq : q < w.heap.size) (p0 : w.cell? ⟨p, 0, none⟩ = some (.int .i64 0)) (p1 : w.cell? ⟨p, 1, none⟩ = some (.int .i64 0)) (q0 : w.cell? ⟨q, 0, none⟩ = some (.int .i64 0)) (q1 : w.cell? ⟨q, 1, none⟩ = some (.int .i64 0)) :
    Pv ((((w.setCell ⟨p, 0, none⟩ (.int .i64 x)).setCell ⟨p, 1, none⟩ (.int .i64 y)).setCell ⟨q, 0, none⟩ (.int .i64 z)).setCell ⟨q, 1, none⟩ (.int .i64 t)) p x y ∧
    Pv ((((w.setCell ⟨p, 0, none⟩ (.int .i64 x)).setCell ⟨p, 1, none⟩ (.int .i64 y)).setCell ⟨q, 0, none⟩ (.int .i64 z)).setCell ⟨q, 1, none⟩ (.int .i64 t)) q z t := by
  refine ⟨⟨by simpa using hp, ?_, ?_⟩, ⟨by simpa using hq, ?_, ?_⟩⟩
  · rw [cell_b (Ne.symm hpq), cell_b (Ne.symm hpq), cell_o (by decide), World.cell?_setCell_same _ _ _ p0]
  · rw [cell_b (Ne.symm hpq), cell_b (Ne.symm hpq), World.cell?_setCell_same _ _ _ ((cell_o (by decide)).trans p1)]
  · rw [cell_o (by decide), World.cell?_setCell_same _ _ _ (((cell_b hpq).trans (cell_b hpq)).trans q0)]
  · rw [World.cell?_setCell_same _ _ _ ((((cell_o (by decide)).trans (cell_b hpq)).trans (cell_b hpq)).trans q1)]
theorem two_below {w : World} {B p q : Nat} (u1 u2 u3 u4 : Value) (hp : B ≤ p) (hq : B ≤ q) :
    Below B w ((((w.setCell ⟨p, 0, none⟩ u1).setCell ⟨p, 1, none⟩ u2).setCell ⟨q, 0, none⟩ u3).setCell ⟨q, 1, none⟩ u4) :=
  ((((Below.refl _ _).setCell hp _).setCell hp _).setCell hq _).setCell hq _
set_option maxRecDepth 100000 in
set_option maxHeartbeats 4000000 in
theorem law_points0 (a b c d x y z t fx fy fz ft r lx lz s s1 u v ax ay bx bz gx gy dd : Int) (w : World)
    (p1 : ∀ w, Calls Try.prog 16 #[.int .i32 a, .int .i32 b] w (Ib (pt x y) w)) (p2 : ∀ w, Calls Try.prog 16 #[.int .i32 c, .int .i32 d] w (Ib (pt z t) w))
    (f1 : ∀ w, Calls Try.prog 24 #[.int .i32 a, .int .i32 b] w (Ib (pt fx fy) w)) (f2 : ∀ w, Calls Try.prog 24 #[.int .i32 c, .int .i32 d] w (Ib (pt fz ft) w))
    (d1 : ∀ w, Calls Try.prog 20 #[pt x y, pt z t] w (Ib (.int .i64 r) w)) (d2 : ∀ w, Calls Try.prog 20 #[pt z t, pt x y] w (Ib (.int .i64 r) w)) (d3 : ∀ w, Calls Try.prog 27 #[pt x y, pt z t] w (Ib (.int .i64 r) w))
    (l1 : ∀ w, Calls Try.prog 21 #[pt x y] w (Ib (.int .i64 lx) w)) (l2 : ∀ w, Calls Try.prog 21 #[pt z t] w (Ib (.int .i64 lz) w)) (l3 : ∀ w, Calls Try.prog 28 #[pt x y] w (Ib (.int .i64 lx) w))
    (s2 : ∀ w, Calls Try.prog 23 #[pt x y, pt z t] w (Ib (pt u v) w)) (s3 : ∀ w, Calls Try.prog 26 #[pt x y, pt z t] w (Ib (pt u v) w)) (a2 : ∀ w, Calls Try.prog 22 #[pt u v, pt z t] w (Ib (pt x y) w))
    (a3 : ∀ w, Calls Try.prog 22 #[pt fx fy, pt fz ft] w (Ib (pt ax ay) w)) (a4 : ∀ w, Calls Try.prog 25 #[pt fx fy, pt fz ft] w (Ib (pt ax ay) w)) (s4 : ∀ w, Calls Try.prog 23 #[pt fx fy, pt fz ft] w (Ib (pt bx bz) w)) (s5 : ∀ w, Calls Try.prog 26 #[pt fx fy, pt fz ft] w (Ib (pt bx bz) w))
    (a5 : ∀ w, Calls Try.prog 22 #[pt x y, pt z t] w (Ib (pt gx gy) w)) (a6 : ∀ w, Calls Try.prog 25 #[pt x y, pt z t] w (Ib (pt gx gy) w)) (o1 : ∀ w, Calls Try.prog 29 #[pt x y, pt z t] w (Ib (.int .i64 dd) w)) (o2 : ∀ w, Calls Try.prog 30 #[pt x y, pt z t] w (Ib (.int .i64 dd) w))
    (hs : IntKind.i64.wrap (lx + lz) = s) (hs1 : IntKind.i64.wrap (s + 1) = s1) (hgt : decide (r > s1) = false) :
    Calls Try.prog 7 #[.agg #[.int .i32 a, .int .i32 b], .agg #[.int .i32 c, .int .i32 d]] w (Ib (.bool true) w) := by
  have HS := Lib.hid hs
  have HS1 := Lib.hid hs1
  have HG := Lib.hid hgt
  clear hs hs1 hgt
  go_enter Try.func7, Try.ntmps7
  go_wp2_with fail
  generalize hw0 : ((w.alloc (Obj.cells #[Value.int IntKind.i32 a, Value.int IntKind.i32 b] 37)).alloc (Obj.cells #[Value.int IntKind.i32 c, Value.int IntKind.i32 d] 37)) = w0
  have c0_w0 : w0.cell? ⟨w.heap.size, 0, none⟩ = some (.int .i32 a) := by rw [← hw0]; simp
  have c1_w0 : w0.cell? ⟨w.heap.size, 1, none⟩ = some (.int .i32 b) := by rw [← hw0]; simp
  have c2_w0 : w0.cell? ⟨w.heap.size + 1, 0, none⟩ = some (.int .i32 c) := by rw [← hw0]; simp
  have c3_w0 : w0.cell? ⟨w.heap.size + 1, 1, none⟩ = some (.int .i32 d) := by rw [← hw0]; simp
  have hs0 : w.heap.size + 1 < w0.heap.size := by rw [← hw0]; simp
  have hB0 : Below w.heap.size w w0 := by rw [← hw0]; exact up (one _ _) (one _ _)
  clear hw0
  refine wp_region_seq (by kernel_rfl) (FF [(2, Fact.at_ w0 (.pointer (some ⟨w.heap.size, 0, none⟩))), (3, Fact.at_ w0 (.pointer (some ⟨w.heap.size + 1, 0, none⟩))), (10, Fact.at_ w0 (.pointer (some ⟨w.heap.size, 0, none⟩))), (11, Fact.eq (.int .i32 a)), (12, Fact.at_ w0 (.pointer (some ⟨w.heap.size, 1, none⟩))), (13, Fact.eq (.int .i32 b)), (14, Fact.eq (pt x y)), (15, Fact.at_ w0 (.pointer (some ⟨w.heap.size + 1, 0, none⟩))), (16, Fact.eq (.int .i32 c)), (17, Fact.at_ w0 (.pointer (some ⟨w.heap.size + 1, 1, none⟩))), (18, Fact.eq (.int .i32 d)), (19, Fact.eq (pt z t)), (5, Fact.room2 (.int .i64 0) (.int .i64 0)), (6, Fact.room2 (.int .i64 0) (.int .i64 0))]) [2, 3] [5, 6] 115 12 [10, 11, 12, 13, 14, 15, 16, 17, 18, 19, 5, 6] rfl (by kernel_rfl) (by kernel_rfl) (by decide) (by kernel_rfl) (by kernel_rfl) ?_ ?_ ?_
  · intro t ht
    simp only [List.mem_cons, List.not_mem_nil, or_false] at ht
    rcases ht with rfl | rfl
    · exact ⟨rfl, Below.refl _ _⟩
    · exact ⟨rfl, Below.refl _ _⟩
  · refine fcs ⟨Ob.new_ (ob_ixat w0 2 10 0 37 ⟨w.heap.size, 0, none⟩ ⟨w.heap.size, 0, none⟩ rfl rfl (by first | exact .inl rfl | exact .inr ⟨_, _, _, rfl, rfl, by kernel_rfl, by decide, rfl⟩) (by kernel_rfl) rfl rfl (fun w => by go_simp)) (by kernel_rfl), ?_⟩
    refine fcs ⟨Ob.new_ (ob_loadat w0 10 11 21 ⟨w.heap.size, 0, none⟩ (.int .i32 a) rfl rfl (by first | exact .inl rfl | exact .inr ⟨_, _, _, rfl, rfl, by kernel_rfl, by decide, rfl⟩) (by kernel_rfl) rfl rfl (fun w' hb => load_i32 (((bcell hb).1 (w.heap.size) 0 (by omega)).trans c0_w0))) (by kernel_rfl), ?_⟩
    refine fcs ⟨Ob.new_ (ob_ixat w0 2 12 1 37 ⟨w.heap.size, 0, none⟩ ⟨w.heap.size, 1, none⟩ rfl rfl (by first | exact .inl rfl | exact .inr ⟨_, _, _, rfl, rfl, by kernel_rfl, by decide, rfl⟩) (by kernel_rfl) rfl rfl (fun w => by go_simp)) (by kernel_rfl), ?_⟩
    refine fcs ⟨Ob.new_ (ob_loadat w0 12 13 21 ⟨w.heap.size, 1, none⟩ (.int .i32 b) rfl rfl (by first | exact .inl rfl | exact .inr ⟨_, _, _, rfl, rfl, by kernel_rfl, by decide, rfl⟩) (by kernel_rfl) rfl rfl (fun w' hb => load_i32 (((bcell hb).1 (w.heap.size) 1 (by omega)).trans c1_w0))) (by kernel_rfl), ?_⟩
    refine fcs ⟨Ob.new_ (ob_call2 16 11 13 14 _ rfl rfl (by first | exact .inl rfl | exact .inr ⟨_, _, _, rfl, rfl, by kernel_rfl, by decide, rfl⟩) (by kernel_rfl) (by kernel_rfl) (by kernel_rfl) (call2e p1)) (by kernel_rfl), ?_⟩
    refine fcs ⟨Ob.new_ (ob_ixat w0 3 15 0 37 ⟨w.heap.size + 1, 0, none⟩ ⟨w.heap.size + 1, 0, none⟩ rfl rfl (by first | exact .inl rfl | exact .inr ⟨_, _, _, rfl, rfl, by kernel_rfl, by decide, rfl⟩) (by kernel_rfl) rfl rfl (fun w => by go_simp)) (by kernel_rfl), ?_⟩
    refine fcs ⟨Ob.new_ (ob_loadat w0 15 16 21 ⟨w.heap.size + 1, 0, none⟩ (.int .i32 c) rfl rfl (by first | exact .inl rfl | exact .inr ⟨_, _, _, rfl, rfl, by kernel_rfl, by decide, rfl⟩) (by kernel_rfl) rfl rfl (fun w' hb => load_i32 (((bcell hb).1 (w.heap.size + 1) 0 (by omega)).trans c2_w0))) (by kernel_rfl), ?_⟩
    refine fcs ⟨Ob.new_ (ob_ixat w0 3 17 1 37 ⟨w.heap.size + 1, 0, none⟩ ⟨w.heap.size + 1, 1, none⟩ rfl rfl (by first | exact .inl rfl | exact .inr ⟨_, _, _, rfl, rfl, by kernel_rfl, by decide, rfl⟩) (by kernel_rfl) rfl rfl (fun w => by go_simp)) (by kernel_rfl), ?_⟩
    refine fcs ⟨Ob.new_ (ob_loadat w0 17 18 21 ⟨w.heap.size + 1, 1, none⟩ (.int .i32 d) rfl rfl (by first | exact .inl rfl | exact .inr ⟨_, _, _, rfl, rfl, by kernel_rfl, by decide, rfl⟩) (by kernel_rfl) rfl rfl (fun w' hb => load_i32 (((bcell hb).1 (w.heap.size + 1) 1 (by omega)).trans c3_w0))) (by kernel_rfl), ?_⟩
    refine fcs ⟨Ob.new_ (ob_call2 16 16 18 19 _ rfl rfl (by first | exact .inl rfl | exact .inr ⟨_, _, _, rfl, rfl, by kernel_rfl, by decide, rfl⟩) (by kernel_rfl) (by kernel_rfl) (by kernel_rfl) (call2e p2)) (by kernel_rfl), ?_⟩
    refine fcs ⟨obn_room 5 32 (.int .i64 0) (.int .i64 0) rfl rfl rfl rfl (fun w => by go_simp), ?_⟩
    refine fcs ⟨obn_room 6 32 (.int .i64 0) (.int .i64 0) rfl rfl rfl rfl (fun w => by go_simp), ?_⟩
    exact fnl
  intro vv wv hvv hbv hD hA
  have hva : vv 14 = (pt x y) := hvv 14 (by decide)
  have hvb : vv 19 = (pt z t) := hvv 19 (by decide)
  obtain ⟨p, hvp, hp0, hp1, hp2, hp3, hp4⟩ := hvv 5 (by decide)
  obtain ⟨q, hvq, hq0, hq1, hq2, hq3, hq4⟩ := hvv 6 (by decide)
  have hpq : p ≠ q := fun e => hA 5 (by decide) 6 (by decide) (by decide) (by rw [hvp, hvq, e])
  have hpB : w0.heap.size ≤ p := by obtain ⟨b', e, h', _⟩ := hD 5 (by decide); rw [hvp] at e; injection e with e; injection e with e; injection e with e; omega
  have hqB : w0.heap.size ≤ q := by obtain ⟨b', e, h', _⟩ := hD 6 (by decide); rw [hvq] at e; injection e with e; injection e with e; injection e with e; omega
  simp only [lay, List.foldl_cons, List.foldl_nil, List.setIfInBounds_toArray, List.set_cons_succ, List.set_cons_zero, hva, hvb, hvp, hvq, List.drop_succ_cons, List.drop_zero]
  go_wp2_with fail
  have hset := two_set (x := x) (y := y) (z := z) (t := t) hpq hp0 hq0 hp1 hp2 hq1 hq2
  have hbW : Below w0.heap.size w0 _ := hbv.trans (two_below (.int .i64 x) (.int .i64 y) (.int .i64 z) (.int .i64 t) hpB hqB)
  clear hp1 hp2 hp3 hp4 hq1 hq2 hq3 hq4
  generalize ((((wv.setCell ⟨p, 0, none⟩ (Value.int IntKind.i64 x)).setCell ⟨p, 1, none⟩ (Value.int IntKind.i64 y)).setCell ⟨q, 0, none⟩ (Value.int IntKind.i64 z)).setCell ⟨q, 1, none⟩ (Value.int IntKind.i64 t)) = w1 at *
  obtain ⟨P1, Q1⟩ := hset

  have c0_w1 := ((bcell hbW).1 (w.heap.size) 0 (by omega)).trans c0_w0
  have c1_w1 := ((bcell hbW).1 (w.heap.size) 1 (by omega)).trans c1_w0
  have c2_w1 := ((bcell hbW).1 (w.heap.size + 1) 0 (by omega)).trans c2_w0
  have c3_w1 := ((bcell hbW).1 (w.heap.size + 1) 1 (by omega)).trans c3_w0
  have hs1 : w.heap.size + 1 < w1.heap.size := by have := hbW.size; omega
  have hB1 : Below w.heap.size w w1 := up hB0 hbW
  clear c0_w0 c1_w0 c2_w0 c3_w0 hs0 hB0 hbW hbv hpB hqB hp0 hq0 hvv hD hA hva hvb hvp hvq
  refine (d1 _).mono ?_
  rintro e w2 ⟨rfl, hb2⟩
  have P1 := P1.below hb2
  have Q1 := Q1.below hb2
  have c0_w2 := ((bcell hb2).1 (w.heap.size) 0 (by omega)).trans c0_w1
  have c1_w2 := ((bcell hb2).1 (w.heap.size) 1 (by omega)).trans c1_w1
  have c2_w2 := ((bcell hb2).1 (w.heap.size + 1) 0 (by omega)).trans c2_w1
  have c3_w2 := ((bcell hb2).1 (w.heap.size + 1) 1 (by omega)).trans c3_w1
  have hs2 : w.heap.size + 1 < w2.heap.size := by have := hb2.size; omega
  have hB2 : Below w.heap.size w w2 := up hB1 hb2
  clear c0_w1 c1_w1 c2_w1 c3_w1 hs1 hB1 hb2
  go_wp2_with fail
  refine wp_region_on (by kernel_rfl) (FF [(5, Fact.at_ w2 (.pointer (some ⟨p, 0, none⟩))), (6, Fact.at_ w2 (.pointer (some ⟨q, 0, none⟩))), (7, Fact.eq (.int .i64 r)), (23, Fact.eq (.int .i64 r)), (24, Fact.eq (pt z t)), (25, Fact.eq (pt x y)), (26, Fact.eq (.int .i64 r)), (27, Fact.eq (.bool false)), (28, Fact.eq (.bool false)), (29, Fact.eq (.int .i64 r)), (30, Fact.eq (pt x y)), (31, Fact.eq (.int .i64 lx)), (32, Fact.eq (pt z t)), (33, Fact.eq (.int .i64 lz)), (34, Fact.eq (.int .i64 s)), (35, Fact.eq (.int .i64 s1)), (36, Fact.eq (.bool false)), (37, Fact.eq (.bool false)), (38, Fact.eq (.bool false)), (39, Fact.eq (pt x y)), (40, Fact.eq (pt z t)), (41, Fact.eq (pt u v)), (42, Fact.eq (pt z t)), (43, Fact.eq (pt x y)), (44, Fact.eq (pt x y)), (45, Fact.eq (.bool false)), (46, Fact.eq (.bool false))]) [5, 6, 7] 115 [23, 24, 25, 26, 27, 28, 29, 30, 31, 32, 33, 34, 35, 36, 37, 38, 39, 40, 41, 42, 43, 44, 45, 46] rfl (by kernel_rfl) (by kernel_rfl) ?_ ?_ ?_
  · intro t ht
    simp only [List.mem_cons, List.not_mem_nil, or_false] at ht
    rcases ht with rfl | rfl | rfl
    · exact ⟨rfl, Below.refl _ _⟩
    · exact ⟨rfl, Below.refl _ _⟩
    · exact rfl
  · refine fcs ⟨ob_copy 7 23 (.inl rfl) rfl (by first | exact .inl rfl | exact .inr ⟨_, _, _, rfl, rfl, by kernel_rfl, by decide, rfl⟩) (by kernel_rfl) rfl, ?_⟩
    refine fcs ⟨ob_loadat w2 6 24 32 ⟨q, 0, none⟩ (pt z t) rfl rfl (by first | exact .inl rfl | exact .inr ⟨_, _, _, rfl, rfl, by kernel_rfl, by decide, rfl⟩) (by kernel_rfl) rfl rfl Q1.load, ?_⟩
    refine fcs ⟨ob_loadat w2 5 25 32 ⟨p, 0, none⟩ (pt x y) rfl rfl (by first | exact .inl rfl | exact .inr ⟨_, _, _, rfl, rfl, by kernel_rfl, by decide, rfl⟩) (by kernel_rfl) rfl rfl P1.load, ?_⟩
    refine fcs ⟨ob_call2 20 24 25 26 _ rfl rfl (by first | exact .inl rfl | exact .inr ⟨_, _, _, rfl, rfl, by kernel_rfl, by decide, rfl⟩) (by kernel_rfl) (by kernel_rfl) (by kernel_rfl) (call2e d2), ?_⟩
    refine fcs ⟨ob_nei 23 26 27 .i64 _ _ r r false (by simp) rfl rfl (by first | exact .inl rfl | exact .inr ⟨_, _, _, rfl, rfl, by kernel_rfl, by decide, rfl⟩) (by kernel_rfl) (by kernel_rfl) rfl rfl rfl, ?_⟩
    refine fcs ⟨ob_copy 27 28 (.inl rfl) rfl (by first | exact .inl rfl | exact .inr ⟨_, _, _, rfl, rfl, by kernel_rfl, by decide, rfl⟩) (by kernel_rfl) rfl, ?_⟩
    refine fcs ⟨ob_copy 7 29 (.inl rfl) rfl (by first | exact .inl rfl | exact .inr ⟨_, _, _, rfl, rfl, by kernel_rfl, by decide, rfl⟩) (by kernel_rfl) rfl, ?_⟩
    refine fcs ⟨ob_loadat w2 5 30 32 ⟨p, 0, none⟩ (pt x y) rfl rfl (by first | exact .inl rfl | exact .inr ⟨_, _, _, rfl, rfl, by kernel_rfl, by decide, rfl⟩) (by kernel_rfl) rfl rfl P1.load, ?_⟩
    refine fcs ⟨ob_call1 21 30 31 _ rfl rfl (by first | exact .inl rfl | exact .inr ⟨_, _, _, rfl, rfl, by kernel_rfl, by decide, rfl⟩) (by kernel_rfl) (by kernel_rfl) (call1e l1), ?_⟩
    refine fcs ⟨ob_loadat w2 6 32 32 ⟨q, 0, none⟩ (pt z t) rfl rfl (by first | exact .inl rfl | exact .inr ⟨_, _, _, rfl, rfl, by kernel_rfl, by decide, rfl⟩) (by kernel_rfl) rfl rfl Q1.load, ?_⟩
    refine fcs ⟨ob_call1 21 32 33 _ rfl rfl (by first | exact .inl rfl | exact .inr ⟨_, _, _, rfl, rfl, by kernel_rfl, by decide, rfl⟩) (by kernel_rfl) (by kernel_rfl) (call1e l2), ?_⟩
    refine fcs ⟨ob_add2 .i64 31 33 34 lx lz s _ _ HS.out rfl rfl (by first | exact .inl rfl | exact .inr ⟨_, _, _, rfl, rfl, by kernel_rfl, by decide, rfl⟩) (by kernel_rfl) (by kernel_rfl) rfl rfl rfl, ?_⟩
    refine fcs ⟨ob_addc .i64 34 35 1 s s1 _ _ HS1.out rfl rfl (by first | exact .inl rfl | exact .inr ⟨_, _, _, rfl, rfl, by kernel_rfl, by decide, rfl⟩) (by kernel_rfl) rfl rfl, ?_⟩
    refine fcs ⟨ob_gt2 .i64 29 35 36 r s1 false _ _ HG.out rfl rfl (by first | exact .inl rfl | exact .inr ⟨_, _, _, rfl, rfl, by kernel_rfl, by decide, rfl⟩) (by kernel_rfl) (by kernel_rfl) rfl rfl rfl, ?_⟩
    refine fcs ⟨ob_pick_else 28 36 37 _ rfl rfl (by first | exact .inl rfl | exact .inr ⟨_, _, _, rfl, rfl, by kernel_rfl, by decide, rfl⟩) (by kernel_rfl) (by kernel_rfl) rfl rfl, ?_⟩
    refine fcs ⟨ob_copy 37 38 (.inl rfl) rfl (by first | exact .inl rfl | exact .inr ⟨_, _, _, rfl, rfl, by kernel_rfl, by decide, rfl⟩) (by kernel_rfl) rfl, ?_⟩
    refine fcs ⟨ob_loadat w2 5 39 32 ⟨p, 0, none⟩ (pt x y) rfl rfl (by first | exact .inl rfl | exact .inr ⟨_, _, _, rfl, rfl, by kernel_rfl, by decide, rfl⟩) (by kernel_rfl) rfl rfl P1.load, ?_⟩
    refine fcs ⟨ob_loadat w2 6 40 32 ⟨q, 0, none⟩ (pt z t) rfl rfl (by first | exact .inl rfl | exact .inr ⟨_, _, _, rfl, rfl, by kernel_rfl, by decide, rfl⟩) (by kernel_rfl) rfl rfl Q1.load, ?_⟩
    refine fcs ⟨ob_call2 23 39 40 41 _ rfl rfl (by first | exact .inl rfl | exact .inr ⟨_, _, _, rfl, rfl, by kernel_rfl, by decide, rfl⟩) (by kernel_rfl) (by kernel_rfl) (by kernel_rfl) (call2e s2), ?_⟩
    refine fcs ⟨ob_loadat w2 6 42 32 ⟨q, 0, none⟩ (pt z t) rfl rfl (by first | exact .inl rfl | exact .inr ⟨_, _, _, rfl, rfl, by kernel_rfl, by decide, rfl⟩) (by kernel_rfl) rfl rfl Q1.load, ?_⟩
    refine fcs ⟨ob_call2 22 41 42 43 _ rfl rfl (by first | exact .inl rfl | exact .inr ⟨_, _, _, rfl, rfl, by kernel_rfl, by decide, rfl⟩) (by kernel_rfl) (by kernel_rfl) (by kernel_rfl) (call2e a2), ?_⟩
    refine fcs ⟨ob_loadat w2 5 44 32 ⟨p, 0, none⟩ (pt x y) rfl rfl (by first | exact .inl rfl | exact .inr ⟨_, _, _, rfl, rfl, by kernel_rfl, by decide, rfl⟩) (by kernel_rfl) rfl rfl P1.load, ?_⟩
    refine fcs ⟨ob_same 43 44 45 (pt x y) false rfl (by first | exact .inl rfl | exact .inr ⟨_, _, _, rfl, rfl, by kernel_rfl, by decide, rfl⟩) (by kernel_rfl) (by kernel_rfl) rfl rfl rfl (fun a w h1 h2 => go_neq_pt _ _ a w 43 44 _ rfl h1 h2), ?_⟩
    refine fcs ⟨ob_pick_else 38 45 46 _ rfl rfl (by first | exact .inl rfl | exact .inr ⟨_, _, _, rfl, rfl, by kernel_rfl, by decide, rfl⟩) (by kernel_rfl) (by kernel_rfl) rfl rfl, ?_⟩
    exact fnl
  intro vv w3 hvv hbv
  have hv46 : vv 46 = (.bool false) := hvv 46 (by decide)
  simp only [lay, List.foldl_cons, List.foldl_nil, List.setIfInBounds_toArray, List.set_cons_succ, List.set_cons_zero, hv46]
  clear hvv
  have P1 := P1.below hbv
  have Q1 := Q1.below hbv
  have c0_w3 := ((bcell hbv).1 (w.heap.size) 0 (by omega)).trans c0_w2
  have c1_w3 := ((bcell hbv).1 (w.heap.size) 1 (by omega)).trans c1_w2
  have c2_w3 := ((bcell hbv).1 (w.heap.size + 1) 0 (by omega)).trans c2_w2
  have c3_w3 := ((bcell hbv).1 (w.heap.size + 1) 1 (by omega)).trans c3_w2
  have hs3 : w.heap.size + 1 < w3.heap.size := by have := hbv.size; omega
  have hB3 : Below w.heap.size w w3 := up hB2 hbv
  clear c0_w2 c1_w2 c2_w2 c3_w2 hs2 hB2 hbv
  go_wp2_with fail
  refine wp_region_seq (by kernel_rfl) (FF [(2, Fact.at_ w3 (.pointer (some ⟨w.heap.size, 0, none⟩))), (3, Fact.at_ w3 (.pointer (some ⟨w.heap.size + 1, 0, none⟩))), (47, Fact.at_ w3 (.pointer (some ⟨w.heap.size, 0, none⟩))), (48, Fact.eq (.int .i32 a)), (49, Fact.at_ w3 (.pointer (some ⟨w.heap.size, 1, none⟩))), (50, Fact.eq (.int .i32 b)), (51, Fact.eq (pt fx fy)), (52, Fact.at_ w3 (.pointer (some ⟨w.heap.size + 1, 0, none⟩))), (53, Fact.eq (.int .i32 c)), (54, Fact.at_ w3 (.pointer (some ⟨w.heap.size + 1, 1, none⟩))), (55, Fact.eq (.int .i32 d)), (56, Fact.eq (pt fz ft)), (8, Fact.room2 (.int .i64 0) (.int .i64 0)), (9, Fact.room2 (.int .i64 0) (.int .i64 0))]) [2, 3] [8, 9] 115 12 [47, 48, 49, 50, 51, 52, 53, 54, 55, 56, 8, 9] rfl (by kernel_rfl) (by kernel_rfl) (by decide) (by kernel_rfl) (by kernel_rfl) ?_ ?_ ?_
  · intro t ht
    simp only [List.mem_cons, List.not_mem_nil, or_false] at ht
    rcases ht with rfl | rfl
    · exact ⟨rfl, Below.refl _ _⟩
    · exact ⟨rfl, Below.refl _ _⟩
  · refine fcs ⟨Ob.new_ (ob_ixat w3 2 47 0 37 ⟨w.heap.size, 0, none⟩ ⟨w.heap.size, 0, none⟩ rfl rfl (by first | exact .inl rfl | exact .inr ⟨_, _, _, rfl, rfl, by kernel_rfl, by decide, rfl⟩) (by kernel_rfl) rfl rfl (fun w => by go_simp)) (by kernel_rfl), ?_⟩
    refine fcs ⟨Ob.new_ (ob_loadat w3 47 48 21 ⟨w.heap.size, 0, none⟩ (.int .i32 a) rfl rfl (by first | exact .inl rfl | exact .inr ⟨_, _, _, rfl, rfl, by kernel_rfl, by decide, rfl⟩) (by kernel_rfl) rfl rfl (fun w' hb => load_i32 (((bcell hb).1 (w.heap.size) 0 (by omega)).trans c0_w3))) (by kernel_rfl), ?_⟩
    refine fcs ⟨Ob.new_ (ob_ixat w3 2 49 1 37 ⟨w.heap.size, 0, none⟩ ⟨w.heap.size, 1, none⟩ rfl rfl (by first | exact .inl rfl | exact .inr ⟨_, _, _, rfl, rfl, by kernel_rfl, by decide, rfl⟩) (by kernel_rfl) rfl rfl (fun w => by go_simp)) (by kernel_rfl), ?_⟩
    refine fcs ⟨Ob.new_ (ob_loadat w3 49 50 21 ⟨w.heap.size, 1, none⟩ (.int .i32 b) rfl rfl (by first | exact .inl rfl | exact .inr ⟨_, _, _, rfl, rfl, by kernel_rfl, by decide, rfl⟩) (by kernel_rfl) rfl rfl (fun w' hb => load_i32 (((bcell hb).1 (w.heap.size) 1 (by omega)).trans c1_w3))) (by kernel_rfl), ?_⟩
    refine fcs ⟨Ob.new_ (ob_call2 24 48 50 51 _ rfl rfl (by first | exact .inl rfl | exact .inr ⟨_, _, _, rfl, rfl, by kernel_rfl, by decide, rfl⟩) (by kernel_rfl) (by kernel_rfl) (by kernel_rfl) (call2e f1)) (by kernel_rfl), ?_⟩
    refine fcs ⟨Ob.new_ (ob_ixat w3 3 52 0 37 ⟨w.heap.size + 1, 0, none⟩ ⟨w.heap.size + 1, 0, none⟩ rfl rfl (by first | exact .inl rfl | exact .inr ⟨_, _, _, rfl, rfl, by kernel_rfl, by decide, rfl⟩) (by kernel_rfl) rfl rfl (fun w => by go_simp)) (by kernel_rfl), ?_⟩
    refine fcs ⟨Ob.new_ (ob_loadat w3 52 53 21 ⟨w.heap.size + 1, 0, none⟩ (.int .i32 c) rfl rfl (by first | exact .inl rfl | exact .inr ⟨_, _, _, rfl, rfl, by kernel_rfl, by decide, rfl⟩) (by kernel_rfl) rfl rfl (fun w' hb => load_i32 (((bcell hb).1 (w.heap.size + 1) 0 (by omega)).trans c2_w3))) (by kernel_rfl), ?_⟩
    refine fcs ⟨Ob.new_ (ob_ixat w3 3 54 1 37 ⟨w.heap.size + 1, 0, none⟩ ⟨w.heap.size + 1, 1, none⟩ rfl rfl (by first | exact .inl rfl | exact .inr ⟨_, _, _, rfl, rfl, by kernel_rfl, by decide, rfl⟩) (by kernel_rfl) rfl rfl (fun w => by go_simp)) (by kernel_rfl), ?_⟩
    refine fcs ⟨Ob.new_ (ob_loadat w3 54 55 21 ⟨w.heap.size + 1, 1, none⟩ (.int .i32 d) rfl rfl (by first | exact .inl rfl | exact .inr ⟨_, _, _, rfl, rfl, by kernel_rfl, by decide, rfl⟩) (by kernel_rfl) rfl rfl (fun w' hb => load_i32 (((bcell hb).1 (w.heap.size + 1) 1 (by omega)).trans c3_w3))) (by kernel_rfl), ?_⟩
    refine fcs ⟨Ob.new_ (ob_call2 24 53 55 56 _ rfl rfl (by first | exact .inl rfl | exact .inr ⟨_, _, _, rfl, rfl, by kernel_rfl, by decide, rfl⟩) (by kernel_rfl) (by kernel_rfl) (by kernel_rfl) (call2e f2)) (by kernel_rfl), ?_⟩
    refine fcs ⟨obn_room 8 32 (.int .i64 0) (.int .i64 0) rfl rfl rfl rfl (fun w => by go_simp), ?_⟩
    refine fcs ⟨obn_room 9 32 (.int .i64 0) (.int .i64 0) rfl rfl rfl rfl (fun w => by go_simp), ?_⟩
    exact fnl
  intro vv wv hvv hbv hD hA
  have hva : vv 51 = (pt fx fy) := hvv 51 (by decide)
  have hvb : vv 56 = (pt fz ft) := hvv 56 (by decide)
  obtain ⟨p2, hvp, hp0, hp1, hp2, hp3, hp4⟩ := hvv 8 (by decide)
  obtain ⟨q2, hvq, hq0, hq1, hq2, hq3, hq4⟩ := hvv 9 (by decide)
  have hpq : p2 ≠ q2 := fun e => hA 8 (by decide) 9 (by decide) (by decide) (by rw [hvp, hvq, e])
  have hpB : w3.heap.size ≤ p2 := by obtain ⟨b', e, h', _⟩ := hD 8 (by decide); rw [hvp] at e; injection e with e; injection e with e; injection e with e; omega
  have hqB : w3.heap.size ≤ q2 := by obtain ⟨b', e, h', _⟩ := hD 9 (by decide); rw [hvq] at e; injection e with e; injection e with e; injection e with e; omega
  simp only [lay, List.foldl_cons, List.foldl_nil, List.setIfInBounds_toArray, List.set_cons_succ, List.set_cons_zero, hva, hvb, hvp, hvq, List.drop_succ_cons, List.drop_zero]
  go_wp2_with fail
  have hset := two_set (x := fx) (y := fy) (z := fz) (t := ft) hpq hp0 hq0 hp1 hp2 hq1 hq2
  have hbW : Below w3.heap.size w3 _ := hbv.trans (two_below (.int .i64 fx) (.int .i64 fy) (.int .i64 fz) (.int .i64 ft) hpB hqB)
  clear hp1 hp2 hp3 hp4 hq1 hq2 hq3 hq4
  generalize ((((wv.setCell ⟨p2, 0, none⟩ (Value.int IntKind.i64 fx)).setCell ⟨p2, 1, none⟩ (Value.int IntKind.i64 fy)).setCell ⟨q2, 0, none⟩ (Value.int IntKind.i64 fz)).setCell ⟨q2, 1, none⟩ (Value.int IntKind.i64 ft)) = w4 at *
  obtain ⟨P2, Q2⟩ := hset
  have P1 := P1.below hbW
  have Q1 := Q1.below hbW
  have c0_w4 := ((bcell hbW).1 (w.heap.size) 0 (by omega)).trans c0_w3
  have c1_w4 := ((bcell hbW).1 (w.heap.size) 1 (by omega)).trans c1_w3
  have c2_w4 := ((bcell hbW).1 (w.heap.size + 1) 0 (by omega)).trans c2_w3
  have c3_w4 := ((bcell hbW).1 (w.heap.size + 1) 1 (by omega)).trans c3_w3
  have hs4 : w.heap.size + 1 < w4.heap.size := by have := hbW.size; omega
  have hB4 : Below w.heap.size w w4 := up hB3 hbW
  clear c0_w3 c1_w3 c2_w3 c3_w3 hs3 hB3 hbW hbv hpB hqB hp0 hq0 hvv hD hA hva hvb hvp hvq
  refine wp_region_on (by kernel_rfl) (FF [(8, Fact.at_ w4 (.pointer (some ⟨p2, 0, none⟩))), (9, Fact.at_ w4 (.pointer (some ⟨q2, 0, none⟩))), (57, Fact.eq (pt fx fy)), (58, Fact.eq (pt fz ft)), (59, Fact.eq (pt ax ay)), (60, Fact.eq (pt fx fy)), (61, Fact.eq (pt fz ft)), (62, Fact.eq (pt ax ay)), (63, Fact.eq (.bool false)), (64, Fact.eq (.bool false)), (65, Fact.eq (pt fx fy)), (66, Fact.eq (pt fz ft)), (67, Fact.eq (pt bx bz)), (68, Fact.eq (pt fx fy)), (69, Fact.eq (pt fz ft)), (70, Fact.eq (pt bx bz)), (71, Fact.eq (.bool false)), (72, Fact.eq (.bool false))]) [8, 9] 115 [57, 58, 59, 60, 61, 62, 63, 64, 65, 66, 67, 68, 69, 70, 71, 72] rfl (by kernel_rfl) (by kernel_rfl) ?_ ?_ ?_
  · intro t ht
    simp only [List.mem_cons, List.not_mem_nil, or_false] at ht
    rcases ht with rfl | rfl
    · exact ⟨rfl, Below.refl _ _⟩
    · exact ⟨rfl, Below.refl _ _⟩
  · refine fcs ⟨ob_loadat w4 8 57 32 ⟨p2, 0, none⟩ (pt fx fy) rfl rfl (by first | exact .inl rfl | exact .inr ⟨_, _, _, rfl, rfl, by kernel_rfl, by decide, rfl⟩) (by kernel_rfl) rfl rfl P2.load, ?_⟩
    refine fcs ⟨ob_loadat w4 9 58 32 ⟨q2, 0, none⟩ (pt fz ft) rfl rfl (by first | exact .inl rfl | exact .inr ⟨_, _, _, rfl, rfl, by kernel_rfl, by decide, rfl⟩) (by kernel_rfl) rfl rfl Q2.load, ?_⟩
    refine fcs ⟨ob_call2 22 57 58 59 _ rfl rfl (by first | exact .inl rfl | exact .inr ⟨_, _, _, rfl, rfl, by kernel_rfl, by decide, rfl⟩) (by kernel_rfl) (by kernel_rfl) (by kernel_rfl) (call2e a3), ?_⟩
    refine fcs ⟨ob_loadat w4 8 60 32 ⟨p2, 0, none⟩ (pt fx fy) rfl rfl (by first | exact .inl rfl | exact .inr ⟨_, _, _, rfl, rfl, by kernel_rfl, by decide, rfl⟩) (by kernel_rfl) rfl rfl P2.load, ?_⟩
    refine fcs ⟨ob_loadat w4 9 61 32 ⟨q2, 0, none⟩ (pt fz ft) rfl rfl (by first | exact .inl rfl | exact .inr ⟨_, _, _, rfl, rfl, by kernel_rfl, by decide, rfl⟩) (by kernel_rfl) rfl rfl Q2.load, ?_⟩
    refine fcs ⟨ob_call2 25 60 61 62 _ rfl rfl (by first | exact .inl rfl | exact .inr ⟨_, _, _, rfl, rfl, by kernel_rfl, by decide, rfl⟩) (by kernel_rfl) (by kernel_rfl) (by kernel_rfl) (call2e a4), ?_⟩
    refine fcs ⟨ob_same 59 62 63 (pt ax ay) false rfl (by first | exact .inl rfl | exact .inr ⟨_, _, _, rfl, rfl, by kernel_rfl, by decide, rfl⟩) (by kernel_rfl) (by kernel_rfl) rfl rfl rfl (fun a w h1 h2 => go_neq_pt _ _ a w 59 62 _ rfl h1 h2), ?_⟩
    refine fcs ⟨ob_copy 63 64 (.inl rfl) rfl (by first | exact .inl rfl | exact .inr ⟨_, _, _, rfl, rfl, by kernel_rfl, by decide, rfl⟩) (by kernel_rfl) rfl, ?_⟩
    refine fcs ⟨ob_loadat w4 8 65 32 ⟨p2, 0, none⟩ (pt fx fy) rfl rfl (by first | exact .inl rfl | exact .inr ⟨_, _, _, rfl, rfl, by kernel_rfl, by decide, rfl⟩) (by kernel_rfl) rfl rfl P2.load, ?_⟩
    refine fcs ⟨ob_loadat w4 9 66 32 ⟨q2, 0, none⟩ (pt fz ft) rfl rfl (by first | exact .inl rfl | exact .inr ⟨_, _, _, rfl, rfl, by kernel_rfl, by decide, rfl⟩) (by kernel_rfl) rfl rfl Q2.load, ?_⟩
    refine fcs ⟨ob_call2 23 65 66 67 _ rfl rfl (by first | exact .inl rfl | exact .inr ⟨_, _, _, rfl, rfl, by kernel_rfl, by decide, rfl⟩) (by kernel_rfl) (by kernel_rfl) (by kernel_rfl) (call2e s4), ?_⟩
    refine fcs ⟨ob_loadat w4 8 68 32 ⟨p2, 0, none⟩ (pt fx fy) rfl rfl (by first | exact .inl rfl | exact .inr ⟨_, _, _, rfl, rfl, by kernel_rfl, by decide, rfl⟩) (by kernel_rfl) rfl rfl P2.load, ?_⟩
    refine fcs ⟨ob_loadat w4 9 69 32 ⟨q2, 0, none⟩ (pt fz ft) rfl rfl (by first | exact .inl rfl | exact .inr ⟨_, _, _, rfl, rfl, by kernel_rfl, by decide, rfl⟩) (by kernel_rfl) rfl rfl Q2.load, ?_⟩
    refine fcs ⟨ob_call2 26 68 69 70 _ rfl rfl (by first | exact .inl rfl | exact .inr ⟨_, _, _, rfl, rfl, by kernel_rfl, by decide, rfl⟩) (by kernel_rfl) (by kernel_rfl) (by kernel_rfl) (call2e s5), ?_⟩
    refine fcs ⟨ob_same 67 70 71 (pt bx bz) false rfl (by first | exact .inl rfl | exact .inr ⟨_, _, _, rfl, rfl, by kernel_rfl, by decide, rfl⟩) (by kernel_rfl) (by kernel_rfl) rfl rfl rfl (fun a w h1 h2 => go_neq_pt _ _ a w 67 70 _ rfl h1 h2), ?_⟩
    refine fcs ⟨ob_pick_else 64 71 72 _ rfl rfl (by first | exact .inl rfl | exact .inr ⟨_, _, _, rfl, rfl, by kernel_rfl, by decide, rfl⟩) (by kernel_rfl) (by kernel_rfl) rfl rfl, ?_⟩
    exact fnl
  intro vv w5 hvv hbv
  have hv72 : vv 72 = (.bool false) := hvv 72 (by decide)
  simp only [lay, List.foldl_cons, List.foldl_nil, List.setIfInBounds_toArray, List.set_cons_succ, List.set_cons_zero, hv72]
  clear hvv
  have P1 := P1.below hbv
  have Q1 := Q1.below hbv
  have c0_w5 := ((bcell hbv).1 (w.heap.size) 0 (by omega)).trans c0_w4
  have c1_w5 := ((bcell hbv).1 (w.heap.size) 1 (by omega)).trans c1_w4
  have c2_w5 := ((bcell hbv).1 (w.heap.size + 1) 0 (by omega)).trans c2_w4
  have c3_w5 := ((bcell hbv).1 (w.heap.size + 1) 1 (by omega)).trans c3_w4
  have hs5 : w.heap.size + 1 < w5.heap.size := by have := hbv.size; omega
  have hB5 : Below w.heap.size w w5 := up hB4 hbv
  clear c0_w4 c1_w4 c2_w4 c3_w4 hs4 hB4 hbv
  go_wp2_with fail
  refine wp_region_on (by kernel_rfl) (FF [(5, Fact.at_ w5 (.pointer (some ⟨p, 0, none⟩))), (6, Fact.at_ w5 (.pointer (some ⟨q, 0, none⟩))), (7, Fact.eq (.int .i64 r)), (73, Fact.eq (.int .i64 r)), (74, Fact.eq (pt x y)), (75, Fact.eq (pt z t)), (76, Fact.eq (.int .i64 r)), (77, Fact.eq (.bool true)), (78, Fact.eq (.bool true)), (79, Fact.eq (pt x y)), (80, Fact.eq (.int .i64 lx)), (81, Fact.eq (pt x y)), (82, Fact.eq (.int .i64 lx)), (83, Fact.eq (.bool true)), (84, Fact.eq (.bool true)), (85, Fact.eq (.bool true)), (86, Fact.eq (pt x y)), (87, Fact.eq (pt z t)), (88, Fact.eq (pt gx gy)), (89, Fact.eq (pt x y)), (90, Fact.eq (pt z t)), (91, Fact.eq (pt gx gy)), (92, Fact.eq (.bool true)), (93, Fact.eq (.bool true)), (94, Fact.eq (.bool true)), (95, Fact.eq (pt x y)), (96, Fact.eq (pt z t)), (97, Fact.eq (pt u v)), (98, Fact.eq (pt x y)), (99, Fact.eq (pt z t)), (100, Fact.eq (pt u v)), (101, Fact.eq (.bool true)), (102, Fact.eq (.bool true)), (103, Fact.eq (.bool true)), (104, Fact.eq (pt x y)), (105, Fact.eq (pt z t)), (106, Fact.eq (.int .i64 dd)), (107, Fact.eq (pt x y)), (108, Fact.eq (pt z t)), (109, Fact.eq (.int .i64 dd)), (110, Fact.eq (.bool true)), (111, Fact.eq (.bool true)), (112, Fact.eq (.bool true)), (113, Fact.eq (.bool true)), (114, Fact.eq (.bool true)), (4, Fact.eq (.bool true))]) [5, 6, 7] 115 [73, 74, 75, 76, 77, 78, 79, 80, 81, 82, 83, 84, 85, 86, 87, 88, 89, 90, 91, 92, 93, 94, 95, 96, 97, 98, 99, 100, 101, 102, 103, 104, 105, 106, 107, 108, 109, 110, 111, 112, 113, 114, 4] rfl (by kernel_rfl) (by kernel_rfl) ?_ ?_ ?_
  · intro t ht
    simp only [List.mem_cons, List.not_mem_nil, or_false] at ht
    rcases ht with rfl | rfl | rfl
    · exact ⟨rfl, Below.refl _ _⟩
    · exact ⟨rfl, Below.refl _ _⟩
    · exact rfl
  · refine fcs ⟨ob_copy 7 73 (.inl rfl) rfl (by first | exact .inl rfl | exact .inr ⟨_, _, _, rfl, rfl, by kernel_rfl, by decide, rfl⟩) (by kernel_rfl) rfl, ?_⟩
    refine fcs ⟨ob_loadat w5 5 74 32 ⟨p, 0, none⟩ (pt x y) rfl rfl (by first | exact .inl rfl | exact .inr ⟨_, _, _, rfl, rfl, by kernel_rfl, by decide, rfl⟩) (by kernel_rfl) rfl rfl P1.load, ?_⟩
    refine fcs ⟨ob_loadat w5 6 75 32 ⟨q, 0, none⟩ (pt z t) rfl rfl (by first | exact .inl rfl | exact .inr ⟨_, _, _, rfl, rfl, by kernel_rfl, by decide, rfl⟩) (by kernel_rfl) rfl rfl Q1.load, ?_⟩
    refine fcs ⟨ob_call2 27 74 75 76 _ rfl rfl (by first | exact .inl rfl | exact .inr ⟨_, _, _, rfl, rfl, by kernel_rfl, by decide, rfl⟩) (by kernel_rfl) (by kernel_rfl) (by kernel_rfl) (call2e d3), ?_⟩
    refine fcs ⟨ob_eqi 73 76 77 .i64 _ _ r r true (by simp) rfl rfl (by first | exact .inl rfl | exact .inr ⟨_, _, _, rfl, rfl, by kernel_rfl, by decide, rfl⟩) (by kernel_rfl) (by kernel_rfl) rfl rfl rfl, ?_⟩
    refine fcs ⟨ob_copy 77 78 (.inl rfl) rfl (by first | exact .inl rfl | exact .inr ⟨_, _, _, rfl, rfl, by kernel_rfl, by decide, rfl⟩) (by kernel_rfl) rfl, ?_⟩
    refine fcs ⟨ob_loadat w5 5 79 32 ⟨p, 0, none⟩ (pt x y) rfl rfl (by first | exact .inl rfl | exact .inr ⟨_, _, _, rfl, rfl, by kernel_rfl, by decide, rfl⟩) (by kernel_rfl) rfl rfl P1.load, ?_⟩
    refine fcs ⟨ob_call1 21 79 80 _ rfl rfl (by first | exact .inl rfl | exact .inr ⟨_, _, _, rfl, rfl, by kernel_rfl, by decide, rfl⟩) (by kernel_rfl) (by kernel_rfl) (call1e l1), ?_⟩
    refine fcs ⟨ob_loadat w5 5 81 32 ⟨p, 0, none⟩ (pt x y) rfl rfl (by first | exact .inl rfl | exact .inr ⟨_, _, _, rfl, rfl, by kernel_rfl, by decide, rfl⟩) (by kernel_rfl) rfl rfl P1.load, ?_⟩
    refine fcs ⟨ob_call1 28 81 82 _ rfl rfl (by first | exact .inl rfl | exact .inr ⟨_, _, _, rfl, rfl, by kernel_rfl, by decide, rfl⟩) (by kernel_rfl) (by kernel_rfl) (call1e l3), ?_⟩
    refine fcs ⟨ob_eqi 80 82 83 .i64 _ _ lx lx true (by simp) rfl rfl (by first | exact .inl rfl | exact .inr ⟨_, _, _, rfl, rfl, by kernel_rfl, by decide, rfl⟩) (by kernel_rfl) (by kernel_rfl) rfl rfl rfl, ?_⟩
    refine fcs ⟨ob_pick 78 83 84 _ rfl rfl (by first | exact .inl rfl | exact .inr ⟨_, _, _, rfl, rfl, by kernel_rfl, by decide, rfl⟩) (by kernel_rfl) (by kernel_rfl) rfl rfl, ?_⟩
    refine fcs ⟨ob_copy 84 85 (.inl rfl) rfl (by first | exact .inl rfl | exact .inr ⟨_, _, _, rfl, rfl, by kernel_rfl, by decide, rfl⟩) (by kernel_rfl) rfl, ?_⟩
    refine fcs ⟨ob_loadat w5 5 86 32 ⟨p, 0, none⟩ (pt x y) rfl rfl (by first | exact .inl rfl | exact .inr ⟨_, _, _, rfl, rfl, by kernel_rfl, by decide, rfl⟩) (by kernel_rfl) rfl rfl P1.load, ?_⟩
    refine fcs ⟨ob_loadat w5 6 87 32 ⟨q, 0, none⟩ (pt z t) rfl rfl (by first | exact .inl rfl | exact .inr ⟨_, _, _, rfl, rfl, by kernel_rfl, by decide, rfl⟩) (by kernel_rfl) rfl rfl Q1.load, ?_⟩
    refine fcs ⟨ob_call2 22 86 87 88 _ rfl rfl (by first | exact .inl rfl | exact .inr ⟨_, _, _, rfl, rfl, by kernel_rfl, by decide, rfl⟩) (by kernel_rfl) (by kernel_rfl) (by kernel_rfl) (call2e a5), ?_⟩
    refine fcs ⟨ob_loadat w5 5 89 32 ⟨p, 0, none⟩ (pt x y) rfl rfl (by first | exact .inl rfl | exact .inr ⟨_, _, _, rfl, rfl, by kernel_rfl, by decide, rfl⟩) (by kernel_rfl) rfl rfl P1.load, ?_⟩
    refine fcs ⟨ob_loadat w5 6 90 32 ⟨q, 0, none⟩ (pt z t) rfl rfl (by first | exact .inl rfl | exact .inr ⟨_, _, _, rfl, rfl, by kernel_rfl, by decide, rfl⟩) (by kernel_rfl) rfl rfl Q1.load, ?_⟩
    refine fcs ⟨ob_call2 25 89 90 91 _ rfl rfl (by first | exact .inl rfl | exact .inr ⟨_, _, _, rfl, rfl, by kernel_rfl, by decide, rfl⟩) (by kernel_rfl) (by kernel_rfl) (by kernel_rfl) (call2e a6), ?_⟩
    refine fcs ⟨ob_same 88 91 92 (pt gx gy) true rfl (by first | exact .inl rfl | exact .inr ⟨_, _, _, rfl, rfl, by kernel_rfl, by decide, rfl⟩) (by kernel_rfl) (by kernel_rfl) rfl rfl rfl (fun a w h1 h2 => go_eql_pt _ _ a w 88 91 _ rfl h1 h2), ?_⟩
    refine fcs ⟨ob_pick 85 92 93 _ rfl rfl (by first | exact .inl rfl | exact .inr ⟨_, _, _, rfl, rfl, by kernel_rfl, by decide, rfl⟩) (by kernel_rfl) (by kernel_rfl) rfl rfl, ?_⟩
    refine fcs ⟨ob_copy 93 94 (.inl rfl) rfl (by first | exact .inl rfl | exact .inr ⟨_, _, _, rfl, rfl, by kernel_rfl, by decide, rfl⟩) (by kernel_rfl) rfl, ?_⟩
    refine fcs ⟨ob_loadat w5 5 95 32 ⟨p, 0, none⟩ (pt x y) rfl rfl (by first | exact .inl rfl | exact .inr ⟨_, _, _, rfl, rfl, by kernel_rfl, by decide, rfl⟩) (by kernel_rfl) rfl rfl P1.load, ?_⟩
    refine fcs ⟨ob_loadat w5 6 96 32 ⟨q, 0, none⟩ (pt z t) rfl rfl (by first | exact .inl rfl | exact .inr ⟨_, _, _, rfl, rfl, by kernel_rfl, by decide, rfl⟩) (by kernel_rfl) rfl rfl Q1.load, ?_⟩
    refine fcs ⟨ob_call2 23 95 96 97 _ rfl rfl (by first | exact .inl rfl | exact .inr ⟨_, _, _, rfl, rfl, by kernel_rfl, by decide, rfl⟩) (by kernel_rfl) (by kernel_rfl) (by kernel_rfl) (call2e s2), ?_⟩
    refine fcs ⟨ob_loadat w5 5 98 32 ⟨p, 0, none⟩ (pt x y) rfl rfl (by first | exact .inl rfl | exact .inr ⟨_, _, _, rfl, rfl, by kernel_rfl, by decide, rfl⟩) (by kernel_rfl) rfl rfl P1.load, ?_⟩
    refine fcs ⟨ob_loadat w5 6 99 32 ⟨q, 0, none⟩ (pt z t) rfl rfl (by first | exact .inl rfl | exact .inr ⟨_, _, _, rfl, rfl, by kernel_rfl, by decide, rfl⟩) (by kernel_rfl) rfl rfl Q1.load, ?_⟩
    refine fcs ⟨ob_call2 26 98 99 100 _ rfl rfl (by first | exact .inl rfl | exact .inr ⟨_, _, _, rfl, rfl, by kernel_rfl, by decide, rfl⟩) (by kernel_rfl) (by kernel_rfl) (by kernel_rfl) (call2e s3), ?_⟩
    refine fcs ⟨ob_same 97 100 101 (pt u v) true rfl (by first | exact .inl rfl | exact .inr ⟨_, _, _, rfl, rfl, by kernel_rfl, by decide, rfl⟩) (by kernel_rfl) (by kernel_rfl) rfl rfl rfl (fun a w h1 h2 => go_eql_pt _ _ a w 97 100 _ rfl h1 h2), ?_⟩
    refine fcs ⟨ob_pick 94 101 102 _ rfl rfl (by first | exact .inl rfl | exact .inr ⟨_, _, _, rfl, rfl, by kernel_rfl, by decide, rfl⟩) (by kernel_rfl) (by kernel_rfl) rfl rfl, ?_⟩
    refine fcs ⟨ob_copy 102 103 (.inl rfl) rfl (by first | exact .inl rfl | exact .inr ⟨_, _, _, rfl, rfl, by kernel_rfl, by decide, rfl⟩) (by kernel_rfl) rfl, ?_⟩
    refine fcs ⟨ob_loadat w5 5 104 32 ⟨p, 0, none⟩ (pt x y) rfl rfl (by first | exact .inl rfl | exact .inr ⟨_, _, _, rfl, rfl, by kernel_rfl, by decide, rfl⟩) (by kernel_rfl) rfl rfl P1.load, ?_⟩
    refine fcs ⟨ob_loadat w5 6 105 32 ⟨q, 0, none⟩ (pt z t) rfl rfl (by first | exact .inl rfl | exact .inr ⟨_, _, _, rfl, rfl, by kernel_rfl, by decide, rfl⟩) (by kernel_rfl) rfl rfl Q1.load, ?_⟩
    refine fcs ⟨ob_call2 29 104 105 106 _ rfl rfl (by first | exact .inl rfl | exact .inr ⟨_, _, _, rfl, rfl, by kernel_rfl, by decide, rfl⟩) (by kernel_rfl) (by kernel_rfl) (by kernel_rfl) (call2e o1), ?_⟩
    refine fcs ⟨ob_loadat w5 5 107 32 ⟨p, 0, none⟩ (pt x y) rfl rfl (by first | exact .inl rfl | exact .inr ⟨_, _, _, rfl, rfl, by kernel_rfl, by decide, rfl⟩) (by kernel_rfl) rfl rfl P1.load, ?_⟩
    refine fcs ⟨ob_loadat w5 6 108 32 ⟨q, 0, none⟩ (pt z t) rfl rfl (by first | exact .inl rfl | exact .inr ⟨_, _, _, rfl, rfl, by kernel_rfl, by decide, rfl⟩) (by kernel_rfl) rfl rfl Q1.load, ?_⟩
    refine fcs ⟨ob_call2 30 107 108 109 _ rfl rfl (by first | exact .inl rfl | exact .inr ⟨_, _, _, rfl, rfl, by kernel_rfl, by decide, rfl⟩) (by kernel_rfl) (by kernel_rfl) (by kernel_rfl) (call2e o2), ?_⟩
    refine fcs ⟨ob_eqi 106 109 110 .i64 _ _ dd dd true (by simp) rfl rfl (by first | exact .inl rfl | exact .inr ⟨_, _, _, rfl, rfl, by kernel_rfl, by decide, rfl⟩) (by kernel_rfl) (by kernel_rfl) rfl rfl rfl, ?_⟩
    refine fcs ⟨ob_pick 103 110 111 _ rfl rfl (by first | exact .inl rfl | exact .inr ⟨_, _, _, rfl, rfl, by kernel_rfl, by decide, rfl⟩) (by kernel_rfl) (by kernel_rfl) rfl rfl, ?_⟩
    refine fcs ⟨ob_copy 111 112 (.inl rfl) rfl (by first | exact .inl rfl | exact .inr ⟨_, _, _, rfl, rfl, by kernel_rfl, by decide, rfl⟩) (by kernel_rfl) rfl, ?_⟩
    refine fcs ⟨ob_call0 12 113 _ rfl rfl (by first | exact .inl rfl | exact .inr ⟨_, _, _, rfl, rfl, by kernel_rfl, by decide, rfl⟩)  (by kernel_rfl) (call0e (fun w => awake_any w)), ?_⟩
    refine fcs ⟨ob_pick 112 113 114 _ rfl rfl (by first | exact .inl rfl | exact .inr ⟨_, _, _, rfl, rfl, by kernel_rfl, by decide, rfl⟩) (by kernel_rfl) (by kernel_rfl) rfl rfl, ?_⟩
    refine fcs ⟨ob_copy 114 4 (.inr rfl) rfl (by first | exact .inl rfl | exact .inr ⟨_, _, _, rfl, rfl, by kernel_rfl, by decide, rfl⟩) (by kernel_rfl) rfl, ?_⟩
    exact fnl
  intro vv wv hvv hbv
  have hv4 : vv 4 = (.bool true) := hvv 4 (by decide)
  simp only [lay, List.foldl_cons, List.foldl_nil, List.setIfInBounds_toArray, List.set_cons_succ, List.set_cons_zero, hv4]
  go_wp2_with fail
  go_ret
  exact ⟨by rfl, up hB5 hbv⟩
end Go.Proofs.Ytgfahenhobnjpaa

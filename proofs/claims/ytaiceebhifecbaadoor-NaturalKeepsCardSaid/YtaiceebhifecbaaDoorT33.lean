/-
  The law that Cmp, Add, Sub, Mul and Bits are as the reference says: it returns true. No conditions.
-/
import Derived.Test.YtaiceebhifecbaaDoorT32
namespace Go.Proofs.YtaiceebhifecbaaDoor
open Go.RowKit
theorem c_refCmp (xs ys : List Nat) : ∀ v u w, (Fact.num xs).holds v w → (Fact.num ys).holds u w → Calls Tryd.prog 17 #[v, u] w (Ret (Fact.eq (.int .i64 (cmpI (Nm.val xs) (Nm.val ys)))) w) := by
  rintro v u w ⟨A, c, rfl, h⟩ ⟨B, d, rfl, k⟩
  exact (refCmp_n h k).mono fun e w' ⟨he, hb⟩ => ⟨_, he, hb, rfl⟩
theorem c_refAdd (xs ys rs : List Nat) (hr : Nm.nat (Nm.val xs + Nm.val ys) = rs) (hm : rs.length ≤ 400) : ∀ v u w, (Fact.num xs).holds v w → (Fact.num ys).holds u w → Calls Tryd.prog 20 #[v, u] w (Ret (Fact.num rs) w) := by
  rintro v u w ⟨A, c, rfl, h⟩ ⟨B, d, rfl, k⟩
  exact (refAdd_n h k rs hr).mono fun e w' ⟨A', c', he, hc, hf, hb⟩ => ⟨_, he, hb, num_of_fr hf hc (hr ▸ Nm.dig_nat _) hm⟩
theorem c_refMul (xs ys rs : List Nat) (hr : Nm.nat (Nm.val xs * Nm.val ys) = rs) (hm : rs.length ≤ 400) : ∀ v u w, (Fact.num xs).holds v w → (Fact.num ys).holds u w → Calls Tryd.prog 22 #[v, u] w (Ret (Fact.num rs) w) := by
  rintro v u w ⟨A, c, rfl, h⟩ ⟨B, d, rfl, k⟩
  exact (refMul_n h k rs hr).mono fun e w' ⟨A', c', he, hc, hf, hb⟩ => ⟨_, he, hb, num_of_fr hf hc (hr ▸ Nm.dig_nat _) hm⟩
theorem c_refBits (xs : List Nat) (ht : Nm.tlen xs = xs.length) : ∀ v w, (Fact.num xs).holds v w → Calls Tryd.prog 24 #[v] w (Ret (Fact.eq (.int .i64 (Nm.blen (Nm.val xs) : Int))) w) := by
  rintro v w ⟨A, c, rfl, h⟩
  exact (refBits_n h ht _ rfl).mono fun e w' ⟨he, hb⟩ => ⟨_, he, hb, rfl⟩
/-- What is known of a region's slots. -/
def tellsF (s : Bool) (xs ys : List Nat) (t : Nat) : Fact := (([(2, Fact.var xs), (3, Fact.var ys), (4, Fact.eq (.bool true)), (5, Fact.var (Nm.nat (Nm.val xs - Nm.val ys))), (6, Fact.eq (.bool s)), (7, Fact.var (Nm.nat (Nm.val xs - Nm.val ys))), (8, Fact.eq (.bool s)), (30, Fact.num xs), (31, Fact.num ys), (32, Fact.eq (.int .i64 (cmpI (Nm.val xs) (Nm.val ys)))), (33, Fact.num xs), (34, Fact.num ys), (35, Fact.eq (.int .i64 (cmpI (Nm.val xs) (Nm.val ys)))), (36, Fact.eq (.bool true)), (37, Fact.eq (.bool true)), (38, Fact.num xs), (39, Fact.num ys), (40, Fact.num (Nm.nat (Nm.val xs + Nm.val ys))), (41, Fact.num xs), (42, Fact.num ys), (43, Fact.num (Nm.nat (Nm.val xs + Nm.val ys))), (44, Fact.eq (.bool true)), (45, Fact.eq (.bool true)), (46, Fact.eq (.bool true)), (47, Fact.num (Nm.nat (Nm.val xs - Nm.val ys))), (48, Fact.num (Nm.nat (Nm.val xs - Nm.val ys))), (49, Fact.eq (.bool true)), (50, Fact.eq (.bool true)), (51, Fact.eq (.bool true)), (52, Fact.eq (.bool s)), (53, Fact.eq (.bool s)), (54, Fact.eq (.bool true)), (55, Fact.eq (.bool true)), (56, Fact.eq (.bool true)), (57, Fact.num xs), (58, Fact.num ys), (59, Fact.num (Nm.nat (Nm.val xs * Nm.val ys))), (60, Fact.num xs), (61, Fact.num ys), (62, Fact.num (Nm.nat (Nm.val xs * Nm.val ys))), (63, Fact.eq (.bool true)), (64, Fact.eq (.bool true)), (65, Fact.eq (.bool true)), (66, Fact.num xs), (67, Fact.eq (.int .i64 (Nm.blen (Nm.val xs) : Int))), (68, Fact.num xs), (69, Fact.eq (.int .i64 (Nm.blen (Nm.val xs) : Int))), (70, Fact.eq (.bool true)), (71, Fact.eq (.bool true)), (72, Fact.eq (.bool true)), (73, Fact.eq (.bool true)), (74, Fact.eq (.bool true))] : List (Nat × Fact)).lookup t).getD Fact.any
set_option maxRecDepth 100000 in
set_option maxHeartbeats 1000000 in
theorem tells_any (A B : Option Addr) (a b : Nat) (xs ys : List Nat) (w : World) (hx : Rd w A xs) (hy : Rd w B ys) (cx : xs.length ≤ a) (cy : ys.length ≤ b) (dx : Nm.Dig xs) (dy : Nm.Dig ys) :
    Calls Tryd.prog 3 #[nt A (xs.length) a, nt B (ys.length) b] w fun e w' => e = .returned (.bool true) ∧ Below w.heap.size w w' := by
  go_enter Tryd.func3, Tryd.ntmps3
  go_wp2_with fail
  have vx : Arg _ w.heap.size A (xs.length) a xs := Arg.at_ (c := a) (n := (xs.length)) (w := w) hx (by simp)
  have vy : Arg _ (w.heap.size + 1) B (ys.length) b ys := Arg.at_ (c := b) (n := (ys.length)) (w := (w.alloc (Obj.cells #[Value.slice A (xs.length) a] 24))) (hy.below (one _ (Obj.cells #[Value.slice A (xs.length) a] 24))) (by simp)
  have vx := vx.below (one _ (Obj.cells #[Value.slice B (ys.length) b] 24))
  have hb := (have h := one w (Obj.cells #[Value.slice A (xs.length) a] 24); h.alloc h.size (Obj.cells #[Value.slice B (ys.length) b] 24))
  clear hx hy
  cases hfx : decide (xs.length ≤ 12 ∧ Nm.tlen xs = xs.length) with
  | false =>
    refine (few_is a vx.rd rfl hfx).mono ?_
    rintro e w1 ⟨rfl, hs1⟩
    have vx := vx.below hs1
    have vy := vy.below hs1
    have hb := up hb hs1
    clear hs1
    have kvx := vx.cell
    have kvy := vy.cell
    go_wp2_with fail
    clear kvx kvy
    refine (awake_any _).mono ?_
    rintro e wa ⟨rfl, hsa⟩
    go_wp2_with fail
    exact bodyPost_ret (v := .bool true) (by first | rfl | kernel_rfl) rfl ⟨rfl, up hb hsa⟩
  | true =>
    refine (few_is a vx.rd rfl hfx).mono ?_
    rintro e w1 ⟨rfl, hs1⟩
    have vx := vx.below hs1
    have vy := vy.below hs1
    have hb := up hb hs1
    clear hs1
    have kvx := vx.cell
    have kvy := vy.cell
    go_wp2_with fail
    clear kvx kvy
    cases hfy : decide (ys.length ≤ 12 ∧ Nm.tlen ys = ys.length) with
    | false =>
      refine (few_is b vy.rd rfl hfy).mono ?_
      rintro e w2 ⟨rfl, hs2⟩
      have vx := vx.below hs2
      have vy := vy.below hs2
      have hb := up hb hs2
      clear hs2
      have kvx := vx.cell
      have kvy := vy.cell
      go_wp2_with fail
      clear kvx kvy
      refine (awake_any _).mono ?_
      rintro e wa ⟨rfl, hsa⟩
      go_wp2_with fail
      exact bodyPost_ret (v := .bool true) (by first | rfl | kernel_rfl) rfl ⟨rfl, up hb hsa⟩
    | true =>
      refine (few_is b vy.rd rfl hfy).mono ?_
      rintro e w2 ⟨rfl, hs2⟩
      have vx := vx.below hs2
      have vy := vy.below hs2
      have hb := up hb hs2
      clear hs2
      have kvx := vx.cell
      have kvy := vy.cell
      go_wp2_with fail
      clear kvx kvy
      have tx := (of_decide_eq_true hfx).2
      have ty := (of_decide_eq_true hfy).2
      have vx := vx.var rfl cx dx hfx
      have sx := Nm.Sz.val dx hfx
      have ex := Nm.canon dx hfx
      have vy := vy.var rfl cy dy hfy
      have sy := Nm.Sz.val dy hfy
      have ey := Nm.canon dy hfy
      clear hfx cx dx
      clear hfy cy dy
      obtain ⟨s, hs0⟩ : ∃ s, decide (Nm.val ys ≤ Nm.val xs) = s := ⟨_, rfl⟩
      refine (sub_n vx.num vy.num (Nm.nat (Nm.val xs - Nm.val ys)) s rfl hs0).mono ?_
      rintro e w3 ⟨Ad, cAd, rfl, hc, hf, hs⟩
      have vx := vx.below hs
      have vy := vy.below hs
      have hb := up hb hs
      have nd := hf.num hc (Nm.dig_nat _) ((sx.mono (Nat.sub_le _ _)).len (by decide))
      clear hc hf hs
      have vx := vx.below (one _ (Obj.cells #[Value.slice Ad (Nm.nat (Nm.val xs - Nm.val ys)).length cAd] 24))
      have vy := vy.below (one _ (Obj.cells #[Value.slice Ad (Nm.nat (Nm.val xs - Nm.val ys)).length cAd] 24))
      have vd := Var.new nd
      have hb := hb.alloc hb.size (Obj.cells #[Value.slice Ad (Nm.nat (Nm.val xs - Nm.val ys)).length cAd] 24)
      clear nd
      have kvx := vx.cell
      have kvy := vy.cell
      have kvd := vd.cell
      go_wp2_with fail
      clear kvx kvy kvd
      refine (refSub_n vx.num vy.num (Nm.nat (Nm.val xs - Nm.val ys)) s rfl hs0).mono ?_
      rintro e w4 ⟨Ae, cAe, rfl, hc, hf, hs⟩
      have vx := vx.below hs
      have vy := vy.below hs
      have vd := vd.below hs
      have hb := up hb hs
      have ne := hf.num hc (Nm.dig_nat _) ((sx.mono (Nat.sub_le _ _)).len (by decide))
      clear hc hf hs
      have vx := vx.below (one _ (Obj.cells #[Value.slice Ae (Nm.nat (Nm.val xs - Nm.val ys)).length cAe] 24))
      have vy := vy.below (one _ (Obj.cells #[Value.slice Ae (Nm.nat (Nm.val xs - Nm.val ys)).length cAe] 24))
      have vd := vd.below (one _ (Obj.cells #[Value.slice Ae (Nm.nat (Nm.val xs - Nm.val ys)).length cAe] 24))
      have ve := Var.new ne
      have hb := hb.alloc hb.size (Obj.cells #[Value.slice Ae (Nm.nat (Nm.val xs - Nm.val ys)).length cAe] 24)
      clear ne
      have kvx := vx.cell
      have kvy := vy.cell
      have kvd := vd.cell
      have kve := ve.cell
      go_wp2_with fail
      clear kvx kvy kvd kve
      refine wp_region_stable (by kernel_rfl) (tellsF s xs ys) [2, 3, 5, 6, 7, 8] 75 rfl (by kernel_rfl) ?_ ?_ ?_
      · intro t ht
        simp only [List.mem_cons, List.not_mem_nil, or_false] at ht
        rcases ht with rfl | rfl | rfl | rfl | rfl | rfl
        · exact ⟨_, _, _, rfl, vx⟩
        · exact ⟨_, _, _, rfl, vy⟩
        · exact ⟨_, _, _, rfl, vd⟩
        · rfl
        · exact ⟨_, _, _, rfl, ve⟩
        · rfl
      · refine List.forall_mem_cons.2 ⟨ob_load 2 30 xs rfl rfl (by first | exact .inl rfl | exact .inr ⟨_, _, _, rfl, rfl, by kernel_rfl, by decide, rfl⟩) (by kernel_rfl) rfl rfl, ?_⟩
        refine List.forall_mem_cons.2 ⟨ob_load 3 31 ys rfl rfl (by first | exact .inl rfl | exact .inr ⟨_, _, _, rfl, rfl, by kernel_rfl, by decide, rfl⟩) (by kernel_rfl) rfl rfl, ?_⟩
        refine List.forall_mem_cons.2 ⟨ob_call2 16 30 31 32 _ rfl rfl (by first | exact .inl rfl | exact .inr ⟨_, _, _, rfl, rfl, by kernel_rfl, by decide, rfl⟩) (by kernel_rfl) (by kernel_rfl) (by kernel_rfl) (c_cmp xs ys _ rfl), ?_⟩
        refine List.forall_mem_cons.2 ⟨ob_load 2 33 xs rfl rfl (by first | exact .inl rfl | exact .inr ⟨_, _, _, rfl, rfl, by kernel_rfl, by decide, rfl⟩) (by kernel_rfl) rfl rfl, ?_⟩
        refine List.forall_mem_cons.2 ⟨ob_load 3 34 ys rfl rfl (by first | exact .inl rfl | exact .inr ⟨_, _, _, rfl, rfl, by kernel_rfl, by decide, rfl⟩) (by kernel_rfl) rfl rfl, ?_⟩
        refine List.forall_mem_cons.2 ⟨ob_call2 17 33 34 35 _ rfl rfl (by first | exact .inl rfl | exact .inr ⟨_, _, _, rfl, rfl, by kernel_rfl, by decide, rfl⟩) (by kernel_rfl) (by kernel_rfl) (by kernel_rfl) (c_refCmp xs ys), ?_⟩
        refine List.forall_mem_cons.2 ⟨ob_two 32 35 36 _ _ (.bool true) rfl (by first | exact .inl rfl | exact .inr ⟨_, _, _, rfl, rfl, by kernel_rfl, by decide, rfl⟩) (by kernel_rfl) (by kernel_rfl) rfl rfl rfl (fun a w h1 h2 => (go_eql_int _ _ a w 32 35 _ _ _ _ rfl h1 h2).trans (by rw [beq_self_eq_true])), ?_⟩
        refine List.forall_mem_cons.2 ⟨ob_copy 36 37 (.inl rfl) rfl (by first | exact .inl rfl | exact .inr ⟨_, _, _, rfl, rfl, by kernel_rfl, by decide, rfl⟩) (by kernel_rfl) rfl, ?_⟩
        refine List.forall_mem_cons.2 ⟨ob_load 2 38 xs rfl rfl (by first | exact .inl rfl | exact .inr ⟨_, _, _, rfl, rfl, by kernel_rfl, by decide, rfl⟩) (by kernel_rfl) rfl rfl, ?_⟩
        refine List.forall_mem_cons.2 ⟨ob_load 3 39 ys rfl rfl (by first | exact .inl rfl | exact .inr ⟨_, _, _, rfl, rfl, by kernel_rfl, by decide, rfl⟩) (by kernel_rfl) rfl rfl, ?_⟩
        refine List.forall_mem_cons.2 ⟨ob_call2 19 38 39 40 _ rfl rfl (by first | exact .inl rfl | exact .inr ⟨_, _, _, rfl, rfl, by kernel_rfl, by decide, rfl⟩) (by kernel_rfl) (by kernel_rfl) (by kernel_rfl) (c_add xs ys (Nm.nat (Nm.val xs + Nm.val ys)) rfl ((sx.add sy (by decide)).len (by decide))), ?_⟩
        refine List.forall_mem_cons.2 ⟨ob_load 2 41 xs rfl rfl (by first | exact .inl rfl | exact .inr ⟨_, _, _, rfl, rfl, by kernel_rfl, by decide, rfl⟩) (by kernel_rfl) rfl rfl, ?_⟩
        refine List.forall_mem_cons.2 ⟨ob_load 3 42 ys rfl rfl (by first | exact .inl rfl | exact .inr ⟨_, _, _, rfl, rfl, by kernel_rfl, by decide, rfl⟩) (by kernel_rfl) rfl rfl, ?_⟩
        refine List.forall_mem_cons.2 ⟨ob_call2 20 41 42 43 _ rfl rfl (by first | exact .inl rfl | exact .inr ⟨_, _, _, rfl, rfl, by kernel_rfl, by decide, rfl⟩) (by kernel_rfl) (by kernel_rfl) (by kernel_rfl) (c_refAdd xs ys (Nm.nat (Nm.val xs + Nm.val ys)) rfl ((sx.add sy (by decide)).len (by decide))), ?_⟩
        refine List.forall_mem_cons.2 ⟨ob_call2 18 40 43 44 _ rfl rfl (by first | exact .inl rfl | exact .inr ⟨_, _, _, rfl, rfl, by kernel_rfl, by decide, rfl⟩) (by kernel_rfl) (by kernel_rfl) (by kernel_rfl) (c_same (Nm.nat (Nm.val xs + Nm.val ys)) (Nm.nat (Nm.val xs + Nm.val ys)) true (decide_eq_true rfl)), ?_⟩
        refine List.forall_mem_cons.2 ⟨ob_pick 37 44 45 _ rfl rfl (by first | exact .inl rfl | exact .inr ⟨_, _, _, rfl, rfl, by kernel_rfl, by decide, rfl⟩) (by kernel_rfl) (by kernel_rfl) rfl rfl, ?_⟩
        refine List.forall_mem_cons.2 ⟨ob_copy 45 46 (.inl rfl) rfl (by first | exact .inl rfl | exact .inr ⟨_, _, _, rfl, rfl, by kernel_rfl, by decide, rfl⟩) (by kernel_rfl) rfl, ?_⟩
        refine List.forall_mem_cons.2 ⟨ob_load 5 47 (Nm.nat (Nm.val xs - Nm.val ys)) rfl rfl (by first | exact .inl rfl | exact .inr ⟨_, _, _, rfl, rfl, by kernel_rfl, by decide, rfl⟩) (by kernel_rfl) rfl rfl, ?_⟩
        refine List.forall_mem_cons.2 ⟨ob_load 7 48 (Nm.nat (Nm.val xs - Nm.val ys)) rfl rfl (by first | exact .inl rfl | exact .inr ⟨_, _, _, rfl, rfl, by kernel_rfl, by decide, rfl⟩) (by kernel_rfl) rfl rfl, ?_⟩
        refine List.forall_mem_cons.2 ⟨ob_call2 18 47 48 49 _ rfl rfl (by first | exact .inl rfl | exact .inr ⟨_, _, _, rfl, rfl, by kernel_rfl, by decide, rfl⟩) (by kernel_rfl) (by kernel_rfl) (by kernel_rfl) (c_same (Nm.nat (Nm.val xs - Nm.val ys)) (Nm.nat (Nm.val xs - Nm.val ys)) true (decide_eq_true rfl)), ?_⟩
        refine List.forall_mem_cons.2 ⟨ob_pick 46 49 50 _ rfl rfl (by first | exact .inl rfl | exact .inr ⟨_, _, _, rfl, rfl, by kernel_rfl, by decide, rfl⟩) (by kernel_rfl) (by kernel_rfl) rfl rfl, ?_⟩
        refine List.forall_mem_cons.2 ⟨ob_copy 50 51 (.inl rfl) rfl (by first | exact .inl rfl | exact .inr ⟨_, _, _, rfl, rfl, by kernel_rfl, by decide, rfl⟩) (by kernel_rfl) rfl, ?_⟩
        refine List.forall_mem_cons.2 ⟨ob_copy 6 52 (.inl rfl) rfl (by first | exact .inl rfl | exact .inr ⟨_, _, _, rfl, rfl, by kernel_rfl, by decide, rfl⟩) (by kernel_rfl) rfl, ?_⟩
        refine List.forall_mem_cons.2 ⟨ob_copy 8 53 (.inl rfl) rfl (by first | exact .inl rfl | exact .inr ⟨_, _, _, rfl, rfl, by kernel_rfl, by decide, rfl⟩) (by kernel_rfl) rfl, ?_⟩
        refine List.forall_mem_cons.2 ⟨ob_two 52 53 54 _ _ (.bool true) rfl (by first | exact .inl rfl | exact .inr ⟨_, _, _, rfl, rfl, by kernel_rfl, by decide, rfl⟩) (by kernel_rfl) (by kernel_rfl) rfl rfl rfl (fun a w h1 h2 => (go_eql_bool _ _ a w 52 53 _ rfl h1 h2).trans (by rw [beq_self_eq_true])), ?_⟩
        refine List.forall_mem_cons.2 ⟨ob_pick 51 54 55 _ rfl rfl (by first | exact .inl rfl | exact .inr ⟨_, _, _, rfl, rfl, by kernel_rfl, by decide, rfl⟩) (by kernel_rfl) (by kernel_rfl) rfl rfl, ?_⟩
        refine List.forall_mem_cons.2 ⟨ob_copy 55 56 (.inl rfl) rfl (by first | exact .inl rfl | exact .inr ⟨_, _, _, rfl, rfl, by kernel_rfl, by decide, rfl⟩) (by kernel_rfl) rfl, ?_⟩
        refine List.forall_mem_cons.2 ⟨ob_load 2 57 xs rfl rfl (by first | exact .inl rfl | exact .inr ⟨_, _, _, rfl, rfl, by kernel_rfl, by decide, rfl⟩) (by kernel_rfl) rfl rfl, ?_⟩
        refine List.forall_mem_cons.2 ⟨ob_load 3 58 ys rfl rfl (by first | exact .inl rfl | exact .inr ⟨_, _, _, rfl, rfl, by kernel_rfl, by decide, rfl⟩) (by kernel_rfl) rfl rfl, ?_⟩
        refine List.forall_mem_cons.2 ⟨ob_call2 21 57 58 59 _ rfl rfl (by first | exact .inl rfl | exact .inr ⟨_, _, _, rfl, rfl, by kernel_rfl, by decide, rfl⟩) (by kernel_rfl) (by kernel_rfl) (by kernel_rfl) (c_mul xs ys (Nm.nat (Nm.val xs * Nm.val ys)) rfl ((sx.mul sy).len (by decide))), ?_⟩
        refine List.forall_mem_cons.2 ⟨ob_load 2 60 xs rfl rfl (by first | exact .inl rfl | exact .inr ⟨_, _, _, rfl, rfl, by kernel_rfl, by decide, rfl⟩) (by kernel_rfl) rfl rfl, ?_⟩
        refine List.forall_mem_cons.2 ⟨ob_load 3 61 ys rfl rfl (by first | exact .inl rfl | exact .inr ⟨_, _, _, rfl, rfl, by kernel_rfl, by decide, rfl⟩) (by kernel_rfl) rfl rfl, ?_⟩
        refine List.forall_mem_cons.2 ⟨ob_call2 22 60 61 62 _ rfl rfl (by first | exact .inl rfl | exact .inr ⟨_, _, _, rfl, rfl, by kernel_rfl, by decide, rfl⟩) (by kernel_rfl) (by kernel_rfl) (by kernel_rfl) (c_refMul xs ys (Nm.nat (Nm.val xs * Nm.val ys)) rfl ((sx.mul sy).len (by decide))), ?_⟩
        refine List.forall_mem_cons.2 ⟨ob_call2 18 59 62 63 _ rfl rfl (by first | exact .inl rfl | exact .inr ⟨_, _, _, rfl, rfl, by kernel_rfl, by decide, rfl⟩) (by kernel_rfl) (by kernel_rfl) (by kernel_rfl) (c_same (Nm.nat (Nm.val xs * Nm.val ys)) (Nm.nat (Nm.val xs * Nm.val ys)) true (decide_eq_true rfl)), ?_⟩
        refine List.forall_mem_cons.2 ⟨ob_pick 56 63 64 _ rfl rfl (by first | exact .inl rfl | exact .inr ⟨_, _, _, rfl, rfl, by kernel_rfl, by decide, rfl⟩) (by kernel_rfl) (by kernel_rfl) rfl rfl, ?_⟩
        refine List.forall_mem_cons.2 ⟨ob_copy 64 65 (.inl rfl) rfl (by first | exact .inl rfl | exact .inr ⟨_, _, _, rfl, rfl, by kernel_rfl, by decide, rfl⟩) (by kernel_rfl) rfl, ?_⟩
        refine List.forall_mem_cons.2 ⟨ob_load 2 66 xs rfl rfl (by first | exact .inl rfl | exact .inr ⟨_, _, _, rfl, rfl, by kernel_rfl, by decide, rfl⟩) (by kernel_rfl) rfl rfl, ?_⟩
        refine List.forall_mem_cons.2 ⟨ob_call1 23 66 67 _ rfl rfl (by first | exact .inl rfl | exact .inr ⟨_, _, _, rfl, rfl, by kernel_rfl, by decide, rfl⟩) (by kernel_rfl) (by kernel_rfl) (c_bits xs _ _ rfl rfl), ?_⟩
        refine List.forall_mem_cons.2 ⟨ob_load 2 68 xs rfl rfl (by first | exact .inl rfl | exact .inr ⟨_, _, _, rfl, rfl, by kernel_rfl, by decide, rfl⟩) (by kernel_rfl) rfl rfl, ?_⟩
        refine List.forall_mem_cons.2 ⟨ob_call1 24 68 69 _ rfl rfl (by first | exact .inl rfl | exact .inr ⟨_, _, _, rfl, rfl, by kernel_rfl, by decide, rfl⟩) (by kernel_rfl) (by kernel_rfl) (c_refBits xs tx), ?_⟩
        refine List.forall_mem_cons.2 ⟨ob_two 67 69 70 _ _ (.bool true) rfl (by first | exact .inl rfl | exact .inr ⟨_, _, _, rfl, rfl, by kernel_rfl, by decide, rfl⟩) (by kernel_rfl) (by kernel_rfl) rfl rfl rfl (fun a w h1 h2 => (go_eql_int _ _ a w 67 69 _ _ _ _ rfl h1 h2).trans (by rw [beq_self_eq_true])), ?_⟩
        refine List.forall_mem_cons.2 ⟨ob_pick 65 70 71 _ rfl rfl (by first | exact .inl rfl | exact .inr ⟨_, _, _, rfl, rfl, by kernel_rfl, by decide, rfl⟩) (by kernel_rfl) (by kernel_rfl) rfl rfl, ?_⟩
        refine List.forall_mem_cons.2 ⟨ob_copy 71 72 (.inl rfl) rfl (by first | exact .inl rfl | exact .inr ⟨_, _, _, rfl, rfl, by kernel_rfl, by decide, rfl⟩) (by kernel_rfl) rfl, ?_⟩
        refine List.forall_mem_cons.2 ⟨ob_call0 13 73 _ rfl rfl (by first | exact .inl rfl | exact .inr ⟨_, _, _, rfl, rfl, by kernel_rfl, by decide, rfl⟩) (by kernel_rfl) c_awake, ?_⟩
        refine List.forall_mem_cons.2 ⟨ob_pick 72 73 74 _ rfl rfl (by first | exact .inl rfl | exact .inr ⟨_, _, _, rfl, rfl, by kernel_rfl, by decide, rfl⟩) (by kernel_rfl) (by kernel_rfl) rfl rfl, ?_⟩
        refine List.forall_mem_cons.2 ⟨ob_copy 74 4 (.inr rfl) rfl (by first | exact .inl rfl | exact .inr ⟨_, _, _, rfl, rfl, by kernel_rfl, by decide, rfl⟩) (by kernel_rfl) rfl, ?_⟩
        exact fun _ h => absurd h List.not_mem_nil
      · intro a' w' hdef hsz hbs hall hoth hbel
        have hres : a'.tmps.getD 4 undef = .bool true := hall 45 4 rfl
        rename_i hK
        refine hK _ _ ?_
        apply wp_ret
        exact bodyPost_ret (v := .bool true) (by rw [results_tmp (t := 4) rfl, hres]) hdef ⟨rfl, up hb hbel⟩
end Go.Proofs.YtaiceebhifecbaaDoor

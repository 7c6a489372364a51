/-
  The law that DivMod returns the quotient and the remainder: it returns true. No conditions.
-/
import Derived.Test.YtaiceebhifecbaaDoorT33
import Derived.Test.YtaiceebhifecbaaDoorT47
namespace Go.Proofs.YtaiceebhifecbaaDoor
open Go.RowKit
/-- What is known of a region's slots. -/
def dividesF (xs ys : List Nat) (t : Nat) : Fact := (([(2, Fact.var xs), (3, Fact.var ys), (4, Fact.eq (.bool true)), (5, Fact.var (Nm.nat (Nm.val xs / Nm.val ys))), (6, Fact.var (Nm.nat (Nm.val xs % Nm.val ys))), (63, Fact.num (Nm.nat (Nm.val xs / Nm.val ys))), (64, Fact.num ys), (65, Fact.num (Nm.nat (Nm.val xs / Nm.val ys * Nm.val ys))), (66, Fact.num (Nm.nat (Nm.val xs % Nm.val ys))), (67, Fact.num xs), (68, Fact.num xs), (69, Fact.eq (.bool true)), (70, Fact.eq (.bool true)), (71, Fact.eq (.bool true)), (72, Fact.eq (.bool true))] : List (Nat × Fact)).lookup t).getD Fact.any
set_option maxRecDepth 100000 in
set_option maxHeartbeats 1000000 in
theorem divides_any (A B : Option Addr) (a b : Nat) (xs ys : List Nat) (w : World) (hx : Rd w A xs) (hy : Rd w B ys) (cx : xs.length ≤ a) (cy : ys.length ≤ b) (dx : Nm.Dig xs) (dy : Nm.Dig ys) :
    Calls Tryd.prog 5 #[nt A (xs.length) a, nt B (ys.length) b] w fun e w' => e = .returned (.bool true) ∧ Below w.heap.size w w' := by
  go_enter Tryd.func5, Tryd.ntmps5
  go_wp2_with fail
  have vx : Arg _ w.heap.size A (xs.length) a xs := Arg.at_ (c := a) (n := (xs.length)) (w := w) hx (by simp)
  have vy : Arg _ (w.heap.size + 1) B (ys.length) b ys := Arg.at_ (c := b) (n := (ys.length)) (w := (w.alloc (Obj.cells #[Value.slice A (xs.length) a] 24))) (hy.below (one _ (Obj.cells #[Value.slice A (xs.length) a] 24))) (by simp)
  have vx := vx.below (one _ (Obj.cells #[Value.slice B (ys.length) b] 24))
  have hb := (have h := one w (Obj.cells #[Value.slice A (xs.length) a] 24); h.alloc h.size (Obj.cells #[Value.slice B (ys.length) b] 24))
  clear hx hy
  cases hfx : decide (xs.length ≤ 12 ∧ Nm.tlen xs = xs.length) with
  | false =>
    refine (few_is a vx.rd rfl hfx).mono ?_
    rintro e w1 ⟨rfl, hs1⟩
    have vx := vx.below hs1
    have vy := vy.below hs1
    have hb := up hb hs1
    clear hs1
    have kvx := vx.cell
    have kvy := vy.cell
    go_wp2_with fail
    clear kvx kvy
    refine (awake_any _).mono ?_
    rintro e wa ⟨rfl, hsa⟩
    go_wp2_with fail
    exact bodyPost_ret (v := .bool true) (by first | rfl | kernel_rfl) rfl ⟨rfl, up hb hsa⟩
  | true =>
    refine (few_is a vx.rd rfl hfx).mono ?_
    rintro e w1 ⟨rfl, hs1⟩
    have vx := vx.below hs1
    have vy := vy.below hs1
    have hb := up hb hs1
    clear hs1
    have kvx := vx.cell
    have kvy := vy.cell
    go_wp2_with fail
    clear kvx kvy
    cases hfy : decide (ys.length ≤ 12 ∧ Nm.tlen ys = ys.length) with
    | false =>
      refine (few_is b vy.rd rfl hfy).mono ?_
      rintro e w2 ⟨rfl, hs2⟩
      have vx := vx.below hs2
      have vy := vy.below hs2
      have hb := up hb hs2
      clear hs2
      have kvx := vx.cell
      have kvy := vy.cell
      go_wp2_with fail
      clear kvx kvy
      refine (awake_any _).mono ?_
      rintro e wa ⟨rfl, hsa⟩
      go_wp2_with fail
      exact bodyPost_ret (v := .bool true) (by first | rfl | kernel_rfl) rfl ⟨rfl, up hb hsa⟩
    | true =>
      refine (few_is b vy.rd rfl hfy).mono ?_
      rintro e w2 ⟨rfl, hs2⟩
      have vx := vx.below hs2
      have vy := vy.below hs2
      have hb := up hb hs2
      clear hs2
      have kvx := vx.cell
      have kvy := vy.cell
      go_wp2_with fail
      clear kvx kvy
      have tx := (of_decide_eq_true hfx).2
      have ty := (of_decide_eq_true hfy).2
      have vx := vx.var rfl cx dx hfx
      have sx := Nm.Sz.val dx hfx
      have ex := Nm.canon dx hfx
      have vy := vy.var rfl cy dy hfy
      have sy := Nm.Sz.val dy hfy
      have ey := Nm.canon dy hfy
      clear hfx cx dx
      clear hfy cy dy
      rcases Nat.eq_zero_or_pos ys.length with h0 | h0
      · skip
        have hzero := fun V (h1 : Rd V A xs) (h2 : Rd V B ys) => divMod_zero A B a b xs ys V h1 h2 vx.num.cap vy.num.cap (by have := vx.num.small; omega) (by omega) (by omega)
        refine (hzero _ vx.num.rd vy.num.rd).mono ?_
        rintro e w3 ⟨rfl, hs⟩
        have vx := vx.below hs
        have vy := vy.below hs
        have hb := up hb hs
        clear hs hzero
        have hyl : ((ys.length : Int) == 0) = true := by rw [beq_iff_eq]; omega
        have vy2 := (vy.below (two _ (Obj.cells #[Value.slice none 0 0] 24) (Obj.cells #[Value.slice none 0 0] 24))).cell
        have hb2 := up hb (two _ (Obj.cells #[Value.slice none 0 0] 24) (Obj.cells #[Value.slice none 0 0] 24))
        go_wp2_with fail
        refine (awake_any _).mono ?_
        rintro e wa ⟨rfl, hsa⟩
        go_wp2_with fail
        exact bodyPost_ret (v := .bool true) (by first | rfl | kernel_rfl) rfl ⟨rfl, up hb2 hsa⟩
      · skip
        have hy0 : 0 < Nm.val ys := by
          have h1 := Nm.tlen_pos_val (zs := ys) (by omega)
          have h2 : 0 < 4294967296 ^ (Nm.tlen ys - 1) := Nat.pow_pos (by decide)
          omega
        have sq : Nm.Sz 12 (Nm.val xs / Nm.val ys) := sx.mono (Nat.div_le_self _ _)
        have sr : Nm.Sz 12 (Nm.val xs % Nm.val ys) := sx.mono (Nat.mod_le _ _)
        have fq : decide ((Nm.nat (Nm.val xs / Nm.val ys)).length ≤ 12 ∧ Nm.tlen (Nm.nat (Nm.val xs / Nm.val ys)) = (Nm.nat (Nm.val xs / Nm.val ys)).length) = true := decide_eq_true ⟨Nm.nat_len sq, Nm.tlen_nat _⟩
        have fr : decide ((Nm.nat (Nm.val xs % Nm.val ys)).length ≤ 12 ∧ Nm.tlen (Nm.nat (Nm.val xs % Nm.val ys)) = (Nm.nat (Nm.val xs % Nm.val ys)).length) = true := decide_eq_true ⟨Nm.nat_len sr, Nm.tlen_nat _⟩
        have hcmp : cmpI ((Nm.val (Nm.nat (Nm.val xs % Nm.val ys)) : Nat) : Int) ((Nm.val ys : Nat) : Int) = -1 := by rw [Nm.val_nat]; exact cmpI_lt' (Nat.mod_lt _ hy0)
        have h0i : ((ys.length : Int) == 0) = false := digit_ne (by omega)
        have Hcmp := Lib.hid hcmp
        have hdm : Nm.nat (Nm.val (Nm.nat (Nm.val xs / Nm.val ys * Nm.val ys)) + Nm.val (Nm.nat (Nm.val xs % Nm.val ys))) = xs := by rw [Nm.val_nat, Nm.val_nat, Nat.mul_comm, Nat.div_add_mod, ex]
        have Hdm := Lib.hid hdm
        clear hcmp hdm
        refine (divMod_n 900 divOk_all vx.num vy.num (by omega) (by have := vy.num.small; omega) (Nm.nat (Nm.val xs / Nm.val ys)) (Nm.nat (Nm.val xs % Nm.val ys)) rfl rfl).mono ?_
        rintro e w3 ⟨Aq, cq, Ar, cr, rfl, hcq, hcr, hfq, hfr, hs⟩
        have vx := vx.below hs
        have vy := vy.below hs
        have hb := up hb hs
        have nq := hfq.num hcq (Nm.dig_nat _) (sq.len (by decide))
        have nr := hfr.num hcr (Nm.dig_nat _) (sr.len (by decide))
        clear hcq hcr hfq hfr hs
        have vx := vx.below (two _ (Obj.cells #[Value.slice Aq (Nm.nat (Nm.val xs / Nm.val ys)).length cq] 24) (Obj.cells #[Value.slice Ar (Nm.nat (Nm.val xs % Nm.val ys)).length cr] 24))
        have vy := vy.below (two _ (Obj.cells #[Value.slice Aq (Nm.nat (Nm.val xs / Nm.val ys)).length cq] 24) (Obj.cells #[Value.slice Ar (Nm.nat (Nm.val xs % Nm.val ys)).length cr] 24))
        have hb := up hb (two _ (Obj.cells #[Value.slice Aq (Nm.nat (Nm.val xs / Nm.val ys)).length cq] 24) (Obj.cells #[Value.slice Ar (Nm.nat (Nm.val xs % Nm.val ys)).length cr] 24))
        have vq := (Var.new nq).below (one _ (Obj.cells #[Value.slice Ar (Nm.nat (Nm.val xs % Nm.val ys)).length cr] 24))
        have vr : Var _ (w3.heap.size + 1) _ _ _ _ := Var.at_ (nr.below (one _ (Obj.cells #[Value.slice Aq (Nm.nat (Nm.val xs / Nm.val ys)).length cq] 24))) (by simp)
        clear nq nr
        have kvx := vx.cell
        have kvy := vy.cell
        have kvq := vq.cell
        have kvr := vr.cell
        go_wp2_with fail
        clear kvx kvy kvq kvr
        refine (few_is _ vq.num.rd rfl fq).mono ?_
        rintro e w4 ⟨rfl, hs⟩
        have vx := vx.below hs
        have vy := vy.below hs
        have vq := vq.below hs
        have vr := vr.below hs
        have hb := up hb hs
        clear hs
        have kvx := vx.cell
        have kvy := vy.cell
        have kvq := vq.cell
        have kvr := vr.cell
        go_wp2_with fail
        clear kvx kvy kvq kvr
        refine (few_is _ vr.num.rd rfl fr).mono ?_
        rintro e w5 ⟨rfl, hs⟩
        have vx := vx.below hs
        have vy := vy.below hs
        have vq := vq.below hs
        have vr := vr.below hs
        have hb := up hb hs
        clear hs
        have kvx := vx.cell
        have kvy := vy.cell
        have kvq := vq.cell
        have kvr := vr.cell
        go_wp2_with fail
        clear kvx kvy kvq kvr
        refine (Hcmp.out ▸ refCmp_n vr.num vy.num).mono ?_
        rintro e w6 ⟨rfl, hs⟩
        have vx := vx.below hs
        have vy := vy.below hs
        have vq := vq.below hs
        have vr := vr.below hs
        have hb := up hb hs
        clear hs
        have kvx := vx.cell
        have kvy := vy.cell
        have kvq := vq.cell
        have kvr := vr.cell
        go_wp2_with fail
        clear kvx kvy kvq kvr
        refine wp_region_stable (by kernel_rfl) (dividesF xs ys) [2, 3, 5, 6] 73 rfl (by kernel_rfl) ?_ ?_ ?_
        · intro t ht
          simp only [List.mem_cons, List.not_mem_nil, or_false] at ht
          rcases ht with rfl | rfl | rfl | rfl
          · exact ⟨_, _, _, rfl, vx⟩
          · exact ⟨_, _, _, rfl, vy⟩
          · exact ⟨_, _, _, rfl, vq⟩
          · exact ⟨_, _, _, rfl, vr⟩
        · refine List.forall_mem_cons.2 ⟨ob_load 5 63 (Nm.nat (Nm.val xs / Nm.val ys)) rfl rfl (by first | exact .inl rfl | exact .inr ⟨_, _, _, rfl, rfl, by kernel_rfl, by decide, rfl⟩) (by kernel_rfl) rfl rfl, ?_⟩
          refine List.forall_mem_cons.2 ⟨ob_load 3 64 ys rfl rfl (by first | exact .inl rfl | exact .inr ⟨_, _, _, rfl, rfl, by kernel_rfl, by decide, rfl⟩) (by kernel_rfl) rfl rfl, ?_⟩
          refine List.forall_mem_cons.2 ⟨ob_call2 22 63 64 65 _ rfl rfl (by first | exact .inl rfl | exact .inr ⟨_, _, _, rfl, rfl, by kernel_rfl, by decide, rfl⟩) (by kernel_rfl) (by kernel_rfl) (by kernel_rfl) (c_refMul (Nm.nat (Nm.val xs / Nm.val ys)) ys (Nm.nat (Nm.val xs / Nm.val ys * Nm.val ys)) (by rw [Nm.val_nat]) ((sx.mono (Nat.div_mul_le_self _ _)).len (by decide))), ?_⟩
          refine List.forall_mem_cons.2 ⟨ob_load 6 66 (Nm.nat (Nm.val xs % Nm.val ys)) rfl rfl (by first | exact .inl rfl | exact .inr ⟨_, _, _, rfl, rfl, by kernel_rfl, by decide, rfl⟩) (by kernel_rfl) rfl rfl, ?_⟩
          refine List.forall_mem_cons.2 ⟨ob_call2 20 65 66 67 _ rfl rfl (by first | exact .inl rfl | exact .inr ⟨_, _, _, rfl, rfl, by kernel_rfl, by decide, rfl⟩) (by kernel_rfl) (by kernel_rfl) (by kernel_rfl) (c_refAdd (Nm.nat (Nm.val xs / Nm.val ys * Nm.val ys)) (Nm.nat (Nm.val xs % Nm.val ys)) xs Hdm.out vx.num.small), ?_⟩
          refine List.forall_mem_cons.2 ⟨ob_load 2 68 xs rfl rfl (by first | exact .inl rfl | exact .inr ⟨_, _, _, rfl, rfl, by kernel_rfl, by decide, rfl⟩) (by kernel_rfl) rfl rfl, ?_⟩
          refine List.forall_mem_cons.2 ⟨ob_call2 18 67 68 69 _ rfl rfl (by first | exact .inl rfl | exact .inr ⟨_, _, _, rfl, rfl, by kernel_rfl, by decide, rfl⟩) (by kernel_rfl) (by kernel_rfl) (by kernel_rfl) (c_same xs xs true (decide_eq_true rfl)), ?_⟩
          refine List.forall_mem_cons.2 ⟨ob_copy 69 70 (.inl rfl) rfl (by first | exact .inl rfl | exact .inr ⟨_, _, _, rfl, rfl, by kernel_rfl, by decide, rfl⟩) (by kernel_rfl) rfl, ?_⟩
          refine List.forall_mem_cons.2 ⟨ob_call0 13 71 _ rfl rfl (by first | exact .inl rfl | exact .inr ⟨_, _, _, rfl, rfl, by kernel_rfl, by decide, rfl⟩) (by kernel_rfl) c_awake, ?_⟩
          refine List.forall_mem_cons.2 ⟨ob_pick 70 71 72 _ rfl rfl (by first | exact .inl rfl | exact .inr ⟨_, _, _, rfl, rfl, by kernel_rfl, by decide, rfl⟩) (by kernel_rfl) (by kernel_rfl) rfl rfl, ?_⟩
          refine List.forall_mem_cons.2 ⟨ob_copy 72 4 (.inr rfl) rfl (by first | exact .inl rfl | exact .inr ⟨_, _, _, rfl, rfl, by kernel_rfl, by decide, rfl⟩) (by kernel_rfl) rfl, ?_⟩
          exact fun _ h => absurd h List.not_mem_nil
        · intro a' w' hdef hsz hbs hall hoth hbel
          have hres : a'.tmps.getD 4 undef = .bool true := hall 10 4 rfl
          rename_i hK
          refine hK _ _ ?_
          apply wp_ret
          exact bodyPost_ret (v := .bool true) (by rw [results_tmp (t := 4) rfl, hres]) hdef ⟨rfl, up hb hbel⟩
end Go.Proofs.YtaiceebhifecbaaDoor

/-
  Contract of the reference's DivMod. Conditions: numbers without leading zeros, of at most 300 digits; a divisor that is not 0. Also: Contracts of the reference's bit and DivMod. Conditions: numbers without leading zeros, of at most 300 digits; a divisor that is not 0.
-/
import Derived.Test.YtaiceebhifecbaaDoorT33
import Derived.Test.YtaiceebhifecbaaDoorReg2
import Derived.Test.YtaiceebhifecbaaDoorT34
namespace Go.Proofs.YtaiceebhifecbaaDoor
open Go.RowKit
namespace Nm
theorem dg_div (k : Nat) : ∀ (zs : List Nat), Dig zs → dg zs k = val zs / 4294967296 ^ k % 4294967296 := by
  induction k with
  | zero =>
    intro zs h
    have h0 := dg_lt h 0
    rw [val_tail zs, Nat.pow_zero, Nat.div_one]
    omega
  | succ k ih =>
    intro zs h
    have h0 := dg_lt h 0
    rw [← dg_tail, ih zs.tail (dig_tail h), val_tail zs, Nat.pow_succ, Nat.mul_comm (4294967296 ^ k), ← Nat.div_div_eq_div_mul]
    congr 2
    omega
theorem bit_at {V q r x : Nat} (hr : r < 32) (hx : x = V / 4294967296 ^ q % 4294967296) : x / 2 ^ r % 2 = V / 2 ^ (32 * q + r) % 2 := by
  subst hx
  obtain ⟨t, ht⟩ : ∃ t, 32 = r + (t + 1) := ⟨31 - r, by omega⟩
  have h1 : 4294967296 = 2 ^ r * 2 ^ (t + 1) := by rw [← Nat.pow_add, ← ht]
  have h2 : V / 4294967296 ^ q % 4294967296 / 2 ^ r = V / 4294967296 ^ q / 2 ^ r % 2 ^ (t + 1) := by
    conv => lhs; rw [show V / 4294967296 ^ q % 4294967296 = V / 4294967296 ^ q % (2 ^ r * 2 ^ (t + 1)) from by rw [← h1]]
    rw [Nat.mod_mul_right_div_self]
  rw [h2, Nat.mod_mod_of_dvd _ (by rw [Nat.pow_succ]; exact Nat.dvd_mul_left 2 _), Nat.div_div_eq_div_mul, pow_two, ← Nat.pow_add]
theorem bit_step (V k : Nat) : V / 2 ^ k = 2 * (V / 2 ^ (k + 1)) + V / 2 ^ k % 2 := by
  rw [Nat.pow_succ, ← Nat.div_div_eq_div_mul]
  omega
theorem nat_len_le' {zs : List Nat} {v : Nat} (hd : Dig zs) (h : v ≤ val zs) : (nat v).length ≤ zs.length := nat_len (Nat.lt_of_le_of_lt h (val_lt hd))
end Nm
set_option maxHeartbeats 400000 in
theorem bit_any (A : Option Addr) (n c i : Nat) (zs : List Nat) (w : World) (h : Rd w A zs) (hl : zs.length = n) (hm : n ≤ 400) (hzd : Nm.Dig zs) (hi : i ≤ 1000000) :
    Calls Tryd.prog 63 #[nt A n c, .int .i64 (i : Int)] w fun e w' => e = .returned (.int .u64 ((Nm.val zs / 2 ^ i % 2 : Nat) : Int)) ∧ Below w.heap.size w w' := by
  have hq := Nm.dg_div (i / 32) zs hzd
  have hfin := fun x (hx : x = Nm.val zs / 4294967296 ^ (i / 32) % 4294967296) => Nm.bit_at (V := Nm.val zs) (q := i / 32) (r := i % 32) (by omega) hx
  rw [Nat.div_add_mod] at hfin
  have hdl := Nm.dg_lt hzd (i / 32)
  have Hfin := Lib.hid (hfin _ hq)
  have hdiv : (i : Int) / 32 = ((i / 32 : Nat) : Int) := by simp
  have hcall := fun W (hr : Rd W A zs) => digit_any A n c (i / 32) zs W hr hl (by omega) hzd
  have h1 := h.alloc (Obj.cells #[Value.slice A n c] 24)
  obtain ⟨x, hx⟩ : ∃ x, Nm.dg zs (i / 32) = x := ⟨_, rfl⟩
  rw [hx] at Hfin hdl
  simp only [hx] at hcall
  have Hdl := Lib.hid hdl
  have hmod : (i : Int) % 32 = ((i % 32 : Nat) : Int) := by simp
  obtain ⟨r, hr⟩ : ∃ r, i % 32 = r := ⟨_, rfl⟩
  rw [hr] at Hfin hmod
  have hr32 : r < 32 := by omega
  obtain ⟨q, hqq⟩ : ∃ q, i / 32 = q := ⟨_, rfl⟩
  rw [hqq] at hdiv hcall
  clear hq hfin hx hdl hr hqq hl
  go_enter Tryd.func63, Tryd.ntmps63
  go_wp2_with fail
  refine (hcall _ h1).mono ?_
  rintro e w1 ⟨rfl, hs⟩
  have hb := up (one _ _) hs
  clear hs h h1
  go_wp2_with fail
  go_loop [5, 6] (fun xv kv => ∃ k y : Nat, k ≤ r ∧ kv = .int .i64 (k : Int) ∧ xv = .int .u64 (y : Int) ∧ Hid (y = x / 2 ^ k) ∧ y ≤ 4294967295) (fun _ k => r - (intOf k).toNat)
  case atStart => exact ⟨0, x, Nat.zero_le _, rfl, rfl, by show _ = _; simp, by have := Hdl.out; omega⟩
  case round =>
    obtain ⟨k, y, hk, rfl, rfl, hy, hy3⟩ := hrel
    by_cases hlt : k < r
    · have hstep : y / 2 = x / 2 ^ (k + 1) := by rw [hy.out, Nat.div_div_eq_div_mul, Nat.pow_succ]
      have Hstep := Lib.hid hstep
      clear hstep
      go_wp2_with fail
      exact ⟨⟨k + 1, y / 2, by omega, by go_num, by first | rfl | go_num, Hstep, by omega⟩, by simp [intOf]; omega⟩
    · have hkr : k = r := by omega
      subst hkr
      have hf : y % 2 = Nm.val zs / 2 ^ i % 2 := by rw [hy.out]; exact Hfin.out
      have Hf := Lib.hid hf
      clear hf
      go_wp2_with fail
      go_ret
      exact ⟨ret_int (by have := congrArg (fun t : Nat => (t : Int)) Hf.out; simpa using this), hb⟩
end Go.Proofs.YtaiceebhifecbaaDoor
namespace Go.Proofs.YtaiceebhifecbaaDoor
open Go.RowKit
theorem c_bit (xs : List Nat) (k : Nat) (hk : k ≤ 1000000) : ∀ v u w, (Fact.num xs).holds v w → (Fact.eq (.int .i64 (k : Int))).holds u w → Calls Tryd.prog 63 #[v, u] w (Ret (Fact.eq (.int .u64 (Nm.val xs / 2 ^ k % 2 : Nat))) w) := by
  rintro v u w ⟨A, c, rfl, h⟩ rfl
  exact (bit_any A xs.length c k xs w h.rd rfl h.small h.dig hk).mono fun e w' ⟨he, hb⟩ => ⟨_, he, hb, rfl⟩
theorem c_refOne : ∀ w, Calls Tryd.prog 62 #[.int .u64 1] w (Ret (Fact.num (Nm.nat 1)) w) := fun w => c_refOf 1 (by decide) _ w rfl
theorem Var.put {w : World} {b n c : Nat} {A B : Option Addr} {n' c' : Nat} {ys zs : List Nat} (h : Var w b B n' c' ys) (k : Num w A n c zs) : Var (w.setCell ⟨b, 0, none⟩ (.slice A n c)) b A n c zs :=
  ⟨by simpa using h.lt, World.cell?_setCell_same (u := _) _ _ _ h.cell, ⟨k.rd.setCell h.cell (by simp), k.len, k.cap, k.dig, k.small⟩⟩
theorem Var.other {w : World} {b b' n c : Nat} {A : Option Addr} {zs : List Nat} {u v : Value} (h : Var w b A n c zs) (hc : w.cell? ⟨b', 0, none⟩ = some u) (hu : ∀ n, u ≠ .int .u32 n) (hne : b ≠ b') : Var (w.setCell ⟨b', 0, none⟩ v) b A n c zs :=
  ⟨by simpa using h.lt, by rw [World.cell?_setCell_other _ _ _ _ (by intro e; injection e; omega)]; exact h.cell, ⟨h.num.rd.setCell hc hu, h.num.len, h.num.cap, h.num.dig, h.num.small⟩⟩
theorem num_drew {w : World} {A : Option Addr} {n c : Nat} {zs : List Nat} (h : Num w A n c zs) : Num w.drew A n c zs := ⟨h.rd.drew, h.len, h.cap, h.dig, h.small⟩
theorem soft_set {w : World} {p q : Addr} {v : Value} (h : w.frozen? q = false) : (w.setCell p v).frozen? q = false := by rw [World.frozen?_setCell]; exact h
theorem six_cells (w : World) (a b : Value) : ∃ W, (((((w.alloc (Obj.cells #[a] 24)).alloc (Obj.cells #[b] 24)).alloc (Obj.cells #[Value.slice none 0 0] 24)).alloc (Obj.cells #[Value.slice none 0 0] 24)).alloc (Obj.cells #[Value.slice none 0 0] 24)).alloc (Obj.cells #[Value.slice none 0 0] 24) = W ∧ W.heap.size = w.heap.size + 1 + 1 + 1 + 1 + 1 + 1 ∧
    W.cell? ⟨w.heap.size, 0, none⟩ = some a ∧ W.cell? ⟨w.heap.size + 1, 0, none⟩ = some b ∧ W.cell? ⟨w.heap.size + 1 + 1, 0, none⟩ = some (.slice none 0 0) ∧ W.cell? ⟨w.heap.size + 1 + 1 + 1, 0, none⟩ = some (.slice none 0 0) ∧ W.cell? ⟨w.heap.size + 1 + 1 + 1 + 1, 0, none⟩ = some (.slice none 0 0) ∧ W.cell? ⟨w.heap.size + 1 + 1 + 1 + 1 + 1, 0, none⟩ = some (.slice none 0 0) ∧
    W.frozen? ⟨w.heap.size + 1 + 1, 0, none⟩ = false ∧ W.frozen? ⟨w.heap.size + 1 + 1 + 1, 0, none⟩ = false ∧ W.frozen? ⟨w.heap.size + 1 + 1 + 1 + 1, 0, none⟩ = false ∧ W.frozen? ⟨w.heap.size + 1 + 1 + 1 + 1 + 1, 0, none⟩ = false ∧ Below w.heap.size w W := by
  refine ⟨_, rfl, by simp, ?_, ?_, ?_, ?_, ?_, ?_, ?_, ?_, ?_, ?_, up (three w _ _ _) (three _ _ _ _)⟩
  · refine ((seen (one _ _)).1 _ _ (by simp <;> omega)).trans ?_
    refine ((seen (one _ _)).1 _ _ (by simp <;> omega)).trans ?_
    refine ((seen (one _ _)).1 _ _ (by simp <;> omega)).trans ?_
    refine ((seen (one _ _)).1 _ _ (by simp <;> omega)).trans ?_
    refine ((seen (one _ _)).1 _ _ (by simp <;> omega)).trans ?_
    exact new_cell _ _ _ _ (by simp)
  · refine ((seen (one _ _)).1 _ _ (by simp <;> omega)).trans ?_
    refine ((seen (one _ _)).1 _ _ (by simp <;> omega)).trans ?_
    refine ((seen (one _ _)).1 _ _ (by simp <;> omega)).trans ?_
    refine ((seen (one _ _)).1 _ _ (by simp <;> omega)).trans ?_
    exact new_cell _ _ _ _ (by simp)
  · refine ((seen (one _ _)).1 _ _ (by simp <;> omega)).trans ?_
    refine ((seen (one _ _)).1 _ _ (by simp <;> omega)).trans ?_
    refine ((seen (one _ _)).1 _ _ (by simp <;> omega)).trans ?_
    exact new_cell _ _ _ _ (by simp)
  · refine ((seen (one _ _)).1 _ _ (by simp <;> omega)).trans ?_
    refine ((seen (one _ _)).1 _ _ (by simp <;> omega)).trans ?_
    exact new_cell _ _ _ _ (by simp)
  · refine ((seen (one _ _)).1 _ _ (by simp <;> omega)).trans ?_
    exact new_cell _ _ _ _ (by simp)
  · exact new_cell _ _ _ _ (by simp)
  · refine ((seen (one _ _)).2 _ _ (by simp <;> omega)).trans ?_
    refine ((seen (one _ _)).2 _ _ (by simp <;> omega)).trans ?_
    refine ((seen (one _ _)).2 _ _ (by simp <;> omega)).trans ?_
    exact new_soft _ _ _ _ (by simp)
  · refine ((seen (one _ _)).2 _ _ (by simp <;> omega)).trans ?_
    refine ((seen (one _ _)).2 _ _ (by simp <;> omega)).trans ?_
    exact new_soft _ _ _ _ (by simp)
  · refine ((seen (one _ _)).2 _ _ (by simp <;> omega)).trans ?_
    exact new_soft _ _ _ _ (by simp)
  · exact new_soft _ _ _ _ (by simp)
/-- What is known of a region's slots. -/
def divF (xs : List Nat) (R0 k : Nat) (t : Nat) : Fact := (([(2, Fact.var xs), (8, Fact.var (Nm.nat (R0))), (9, Fact.eq (.int .i64 (k : Int))), (25, Fact.num (Nm.nat (R0))), (26, Fact.num (Nm.nat (R0))), (27, Fact.num (Nm.nat (2 * R0))), (28, Fact.num xs), (29, Fact.eq (.int .i64 (k : Int))), (30, Fact.eq (.int .u64 ((Nm.val xs / 2 ^ k % 2) : Nat))), (31, Fact.num (Nm.nat (Nm.val xs / 2 ^ k % 2))), (32, Fact.num (Nm.nat (2 * R0 + Nm.val xs / 2 ^ k % 2)))] : List (Nat × Fact)).lookup t).getD Fact.any
/-- What is known of a region's slots. -/
def divG (Q0 : Nat) (t : Nat) : Fact := (([(7, Fact.var (Nm.nat (2 * Q0))), (46, Fact.num (Nm.nat (2 * Q0))), (47, Fact.num (Nm.nat 1)), (48, Fact.num (Nm.nat (2 * Q0 + 1)))] : List (Nat × Fact)).lookup t).getD Fact.any
/-- The loop of DivMod: the number without its k lowest binary digits is divided. -/
def RDivRel (b : Nat) (xs ys : List Nat) (w : World) (iv : Value) (wr : World) : Prop :=
  ∃ (k : Nat) (A B : Option Addr) (n m c d : Nat), k ≤ 10000 ∧ iv = .int .i64 ((k : Int) - 1) ∧ Var wr (b + 1 + 1 + 1 + 1) A n c (Nm.nat (Nm.val xs / 2 ^ k / Nm.val ys)) ∧ Var wr (b + 1 + 1 + 1 + 1 + 1) B m d (Nm.nat (Nm.val xs / 2 ^ k % Nm.val ys)) ∧ wr.frozen? ⟨b + 1 + 1 + 1 + 1, 0, none⟩ = false ∧ wr.frozen? ⟨b + 1 + 1 + 1 + 1 + 1, 0, none⟩ = false ∧ Below (b + 1 + 1 + 1 + 1) w wr
theorem Nm.div_bit {V Y k : Nat} (hY : 0 < Y) : (2 * (V / 2 ^ (k + 1) % Y) + V / 2 ^ k % 2 < Y → V / 2 ^ k / Y = 2 * (V / 2 ^ (k + 1) / Y) ∧ V / 2 ^ k % Y = 2 * (V / 2 ^ (k + 1) % Y) + V / 2 ^ k % 2) ∧
    (Y ≤ 2 * (V / 2 ^ (k + 1) % Y) + V / 2 ^ k % 2 → V / 2 ^ k / Y = 2 * (V / 2 ^ (k + 1) / Y) + 1 ∧ V / 2 ^ k % Y = 2 * (V / 2 ^ (k + 1) % Y) + V / 2 ^ k % 2 - Y) := by
  have h1 := Nm.bit_step V k
  have h2 := Nat.div_add_mod (V / 2 ^ (k + 1)) Y
  have h3 := Nat.mod_lt (V / 2 ^ (k + 1)) hY
  have h4 := Nat.mod_lt (V / 2 ^ k) (show 0 < 2 by decide)
  generalize V / 2 ^ (k + 1) = T at *
  generalize V / 2 ^ k = S at *
  generalize T / Y = q at *
  generalize T % Y = r at *
  generalize S % 2 = e at *
  have h5 : S = Y * (2 * q) + (2 * r + e) := by
    rw [h1, ← h2, Nat.mul_left_comm Y 2 q]
    omega
  refine ⟨fun h => ?_, fun h => ?_⟩
  · rw [h5, Nat.mul_add_div hY, Nat.div_eq_of_lt h, Nat.mul_add_mod, Nat.mod_eq_of_lt h]
    exact ⟨rfl, rfl⟩
  · have h6 : S = Y * (2 * q + 1) + (2 * r + e - Y) := by rw [h5, Nat.mul_succ]; omega
    have h7 : 2 * r + e - Y < Y := by omega
    rw [h6, Nat.mul_add_div hY, Nat.div_eq_of_lt h7, Nat.mul_add_mod, Nat.mod_eq_of_lt h7]
    exact ⟨rfl, rfl⟩
set_option maxRecDepth 100000 in
set_option maxHeartbeats 2000000 in
theorem refDivMod_n {w : World} {A B : Option Addr} {n m c d : Nat} {xs ys : List Nat} (hx : Num w A n c xs) (hy : Num w B m d ys) (hn : n ≤ 300) (hm : m ≤ 300) (htx : Nm.tlen xs = n) (hty : Nm.tlen ys = m) (h0 : 0 < m) (qs rs : List Nat) (hq : Nm.nat (Nm.val xs / Nm.val ys) = qs) (hr : Nm.nat (Nm.val xs % Nm.val ys) = rs) :
    Calls Tryd.prog 49 #[nt A n c, nt B m d] w fun e w' => ∃ A1 c1 A2 c2, e = .returned (.tuple #[nt A1 qs.length c1, nt A2 rs.length c2, .int .i64 0]) ∧ Num w' A1 qs.length c1 qs ∧ Num w' A2 rs.length c2 rs ∧ Below w.heap.size w w' := by
  subst hq hr
  obtain rfl := hx.len
  obtain rfl := hy.len
  have hlx : xs.length = xs.length := rfl
  have hly : ys.length = ys.length := rfl
  obtain ⟨W, hW, hWs, hW0, hW1, hW2, hW3, hW4, hW5, hf2, hf3, hf4, hf5, hWb⟩ := six_cells w (.slice A xs.length c) (.slice B ys.length d)
  have vx : Var W w.heap.size A xs.length c xs := ⟨by omega, hW0, hx.below hWb⟩
  have vy : Var W (w.heap.size + 1) B ys.length d ys := ⟨by omega, hW1, hy.below hWb⟩
  have hY : 0 < Nm.val ys := by
    have h1 := Nm.tlen_pos_val (zs := ys) (by omega)
    have h2 : 0 < 4294967296 ^ (Nm.tlen ys - 1) := Nat.pow_pos (by decide)
    omega
  have HY := Lib.hid hY
  have HWs := Lib.hid hWs
  have hxd := hx.dig
  have hyd := hy.dig
  have hm0 : ((ys.length : Int) == 0) = false := digit_ne (by omega)
  have hbl : Nm.blen (Nm.val xs) ≤ 9600 := by
    have h1 : Nm.val xs < 2 ^ (32 * xs.length) := by rw [← Nm.pow_two]; exact Nm.val_lt hx.dig
    have := Nm.blen_lt h1
    omega
  obtain ⟨bl, hbe⟩ : ∃ bl, Nm.blen (Nm.val xs) = bl := ⟨_, rfl⟩
  rw [hbe] at hbl
  have hend : Nm.val xs / 2 ^ bl = 0 := by
    apply Nat.div_eq_of_lt
    rw [← hbe]
    unfold Nm.blen
    split
    · rename_i h; rw [h]; decide
    · exact Nat.lt_log2_self
  have Hend := Lib.hid hend
  have Hbe := Lib.hid hbe
  have HW := Lib.hid hW
  clear hY hWs hty hly hlx h0 hbe hend hW
  go_enter Tryd.func49, Tryd.ntmps49
  go_wp2_with fail
  rw [HW.out]
  refine (refBits_n vx.num htx bl Hbe.out).mono ?_
  rintro e w1 ⟨rfl, hs⟩
  have vx := vx.below hs
  have vy := vy.below hs
  obtain ⟨k1, k2⟩ := seen hs
  have hsz := HWs.out
  have hcells : w1.cell? ⟨w.heap.size + 1 + 1, 0, none⟩ = some (.slice none 0 0) ∧ w1.cell? ⟨w.heap.size + 1 + 1 + 1, 0, none⟩ = some (.slice none 0 0) ∧ w1.cell? ⟨w.heap.size + 1 + 1 + 1 + 1, 0, none⟩ = some (.slice none 0 0) ∧ w1.cell? ⟨w.heap.size + 1 + 1 + 1 + 1 + 1, 0, none⟩ = some (.slice none 0 0) :=
    ⟨(k1 _ _ (by omega)).trans hW2, (k1 _ _ (by omega)).trans hW3, (k1 _ _ (by omega)).trans hW4, (k1 _ _ (by omega)).trans hW5⟩
  have hsoft : w1.frozen? ⟨w.heap.size + 1 + 1, 0, none⟩ = false ∧ w1.frozen? ⟨w.heap.size + 1 + 1 + 1, 0, none⟩ = false ∧ w1.frozen? ⟨w.heap.size + 1 + 1 + 1 + 1, 0, none⟩ = false ∧ w1.frozen? ⟨w.heap.size + 1 + 1 + 1 + 1 + 1, 0, none⟩ = false :=
    ⟨(k2 _ _ (by omega)).trans hf2, (k2 _ _ (by omega)).trans hf3, (k2 _ _ (by omega)).trans hf4, (k2 _ _ (by omega)).trans hf5⟩
  have hsz1 : w.heap.size + 1 + 1 + 1 + 1 + 1 + 1 ≤ w1.heap.size := by have := hs.size; omega
  have hb1 := up hWb hs
  clear hs k1 k2 hW0 hW1 hW2 hW3 hW4 hW5 hf2 hf3 hf4 hf5 hWb hsz htx
  go_wp2_with fail
  go_loopw [9] (fun iv wr => RDivRel w.heap.size xs ys w1 iv wr) (fun i _ => (intOf i + 1).toNat)
  case atStart =>
    refine ⟨bl, none, none, 0, 0, 0, 0, by omega, rfl, ?_, ?_, hsoft.2.2.1, hsoft.2.2.2, Below.refl _ _⟩
    · rw [Hend.out, Nat.zero_div, Nm.nat_zero]
      exact ⟨by omega, hcells.2.2.1, .inl rfl, rfl, Nat.le_refl _, Nm.Dig.nil, by decide⟩
    · rw [Hend.out, Nat.zero_mod, Nm.nat_zero]
      exact ⟨by omega, hcells.2.2.2, .inl rfl, rfl, Nat.le_refl _, Nm.Dig.nil, by decide⟩
  case round =>
    obtain ⟨k, Aq, Ar, nq, nr', cq, cr, hk, rfl, vq, vr, fq, fr, hbj⟩ := hrel
    obtain rfl := vq.num.len
    obtain rfl := vr.num.len
    have hbw : Below w.heap.size w wr := hb1.trans (hbj.mono (by omega))
    have hszj := hbj.size
    have vx2 : Var wr w.heap.size A xs.length c xs := ⟨by omega, (hbj.cell (p := ⟨w.heap.size, 0, none⟩) (by show w.heap.size < _; omega)).trans vx.cell, hx.below hbw⟩
    have vy2 : Var wr (w.heap.size + 1) B ys.length d ys := ⟨by omega, (hbj.cell (p := ⟨w.heap.size + 1, 0, none⟩) (by show w.heap.size + 1 < _; omega)).trans vy.cell, hy.below hbw⟩
    rcases Nat.eq_zero_or_pos k with hk0 | hk0
    · subst hk0
      rw [Nat.pow_zero, Nat.div_one] at vq vr
      have c2 : wr.cell? ⟨w.heap.size + 1 + 1, 0, none⟩ = some (.slice none 0 0) := (hbj.cell (p := ⟨w.heap.size + 1 + 1, 0, none⟩) (by show w.heap.size + 1 + 1 < _; omega)).trans hcells.1
      have c3 : wr.cell? ⟨w.heap.size + 1 + 1 + 1, 0, none⟩ = some (.slice none 0 0) := (hbj.cell (p := ⟨w.heap.size + 1 + 1 + 1, 0, none⟩) (by show w.heap.size + 1 + 1 + 1 < _; omega)).trans hcells.2.1
      have g2 : wr.frozen? ⟨w.heap.size + 1 + 1, 0, none⟩ = false := (hbj.frozen (p := ⟨w.heap.size + 1 + 1, 0, none⟩) (by show w.heap.size + 1 + 1 < _; omega)).trans hsoft.1
      have g3 : wr.frozen? ⟨w.heap.size + 1 + 1 + 1, 0, none⟩ = false := (hbj.frozen (p := ⟨w.heap.size + 1 + 1 + 1, 0, none⟩) (by show w.heap.size + 1 + 1 + 1 < _; omega)).trans hsoft.2.1
      have kq := vq.cell
      have kr := vr.cell
      go_wp2_with fail
      go_region
      rename_i hK
      refine hK _ _ ?_
      apply wp_ret
      refine bodyPost_ret (v := .tuple #[nt Aq (Nm.nat (Nm.val xs / Nm.val ys)).length cq, nt Ar (Nm.nat (Nm.val xs % Nm.val ys)).length cr, .int .i64 0]) ?_ rfl ⟨Aq, cq, Ar, cr, rfl, ?_, ?_, ?_⟩
      · simp [results, Tryd.results49, go_sem, c2, c3]
      · refine num_drew ((vq.other (v := .slice Aq (Nm.nat (Nm.val xs / Nm.val ys)).length cq) c2 (by simp) (by omega)).other (b' := w.heap.size + 1 + 1 + 1) (u := .slice none 0 0) (v := .slice Ar (Nm.nat (Nm.val xs % Nm.val ys)).length cr) (by rw [World.cell?_setCell_other _ _ _ _ (by intro e; injection e; omega)]; exact c3) (by simp) (by omega)).num
      · refine num_drew ((vr.other (v := .slice Aq (Nm.nat (Nm.val xs / Nm.val ys)).length cq) c2 (by simp) (by omega)).other (b' := w.heap.size + 1 + 1 + 1) (u := .slice none 0 0) (v := .slice Ar (Nm.nat (Nm.val xs % Nm.val ys)).length cr) (by rw [World.cell?_setCell_other _ _ _ _ (by intro e; injection e; omega)]; exact c3) (by simp) (by omega)).num
      · exact ((hbw.setCell (by show w.heap.size ≤ w.heap.size + 1 + 1; omega) _).setCell (by show w.heap.size ≤ w.heap.size + 1 + 1 + 1; omega) _).drew
    · obtain ⟨k, rfl⟩ : ∃ j, k = j + 1 := ⟨k - 1, by omega⟩
      have hji : ((k + 1 : Nat) : Int) - 1 = (k : Int) := by omega
      rw [hji]
      have hdb := Nm.div_bit (V := Nm.val xs) (Y := Nm.val ys) (k := k) HY.out
      have hR0lt : Nm.val xs / 2 ^ (k + 1) % Nm.val ys < Nm.val ys := Nat.mod_lt _ HY.out
      obtain ⟨R0, hR0⟩ : ∃ R0, Nm.val xs / 2 ^ (k + 1) % Nm.val ys = R0 := ⟨_, rfl⟩
      obtain ⟨Q0, hQ0⟩ : ∃ Q0, Nm.val xs / 2 ^ (k + 1) / Nm.val ys = Q0 := ⟨_, rfl⟩
      rw [hR0] at vr hdb hR0lt
      rw [hQ0] at vq hdb
      have hbit := Nat.mod_lt (Nm.val xs / 2 ^ k) (show 0 < 2 by decide)
      have hZ : 2 * R0 + Nm.val xs / 2 ^ k % 2 < 2 * Nm.val ys := by omega
      have hYn := Nm.val_lt hyd
      have hl3 : (Nm.nat (2 * R0 + Nm.val xs / 2 ^ k % 2)).length ≤ 301 := Nat.le_trans (Nm.nat_len (k := ys.length + 1) (by rw [Nat.pow_succ]; omega)) (by omega)
      have hl2 : (Nm.nat (2 * R0)).length ≤ 301 := Nat.le_trans (Nm.nat_len (k := ys.length + 1) (by rw [Nat.pow_succ]; omega)) (by omega)
      have hQV : 2 * Q0 ≤ Nm.val xs := by
        have h1 : Q0 ≤ Nm.val xs / 2 ^ (k + 1) := by rw [← hQ0]; exact Nat.div_le_self _ _
        have h2 := Nm.bit_step (Nm.val xs) k
        have h3 : Nm.val xs / 2 ^ k ≤ Nm.val xs := Nat.div_le_self _ _
        omega
      have hl4 : (Nm.nat (2 * Q0)).length ≤ 300 := Nat.le_trans (Nm.nat_len_le' hxd hQV) hn
      have Hl2 : Hid ((Nm.nat (2 * R0)).length ≤ 400) := by show _ ≤ 400; omega
      have Hl3 : Hid ((Nm.nat (2 * R0 + Nm.val xs / 2 ^ k % 2)).length ≤ 400) := by show _ ≤ 400; omega
      have Hl4 := Lib.hid hl4
      have Hk : Hid (k ≤ 1000000) := by show k ≤ 1000000; omega
      have Hdb := Lib.hid hdb
      have HZ := Lib.hid hZ
      clear hdb hR0lt hR0 hQ0 hbit hZ hYn hl3 hl2 hl4 hQV
      have vx := vx2
      go_wp2_with fail
      refine wp_region_then (by kernel_rfl) (divF xs R0 k) [8, 2, 9] 51 8 [25, 26, 27, 28, 29, 30, 31, 32] rfl (by kernel_rfl) (by kernel_rfl) (by decide) (by kernel_rfl) ?_ ?_ ?_
      · intro t ht
        simp only [List.mem_cons, List.not_mem_nil, or_false] at ht
        rcases ht with rfl | rfl | rfl
        · exact ⟨_, _, _, rfl, vr⟩
        · exact ⟨_, _, _, rfl, vx⟩
        · rfl
      · refine List.forall_mem_cons.2 ⟨ob_load 8 25 (Nm.nat (R0)) rfl rfl (by first | exact .inl rfl | exact .inr ⟨_, _, _, rfl, rfl, by kernel_rfl, by decide, rfl⟩) (by kernel_rfl) rfl rfl, ?_⟩
        refine List.forall_mem_cons.2 ⟨ob_load 8 26 (Nm.nat (R0)) rfl rfl (by first | exact .inl rfl | exact .inr ⟨_, _, _, rfl, rfl, by kernel_rfl, by decide, rfl⟩) (by kernel_rfl) rfl rfl, ?_⟩
        refine List.forall_mem_cons.2 ⟨ob_call2 20 25 26 27 _ rfl rfl (by first | exact .inl rfl | exact .inr ⟨_, _, _, rfl, rfl, by kernel_rfl, by decide, rfl⟩) (by kernel_rfl) (by kernel_rfl) (by kernel_rfl) (c_refAdd (Nm.nat (R0)) (Nm.nat (R0)) (Nm.nat (2 * R0)) (by rw [Nm.val_nat, Nat.two_mul]) Hl2.out), ?_⟩
        refine List.forall_mem_cons.2 ⟨ob_load 2 28 xs rfl rfl (by first | exact .inl rfl | exact .inr ⟨_, _, _, rfl, rfl, by kernel_rfl, by decide, rfl⟩) (by kernel_rfl) rfl rfl, ?_⟩
        refine List.forall_mem_cons.2 ⟨ob_copy 9 29 (.inl rfl) rfl (by first | exact .inl rfl | exact .inr ⟨_, _, _, rfl, rfl, by kernel_rfl, by decide, rfl⟩) (by kernel_rfl) rfl, ?_⟩
        refine List.forall_mem_cons.2 ⟨ob_call2 63 28 29 30 _ rfl rfl (by first | exact .inl rfl | exact .inr ⟨_, _, _, rfl, rfl, by kernel_rfl, by decide, rfl⟩) (by kernel_rfl) (by kernel_rfl) (by kernel_rfl) (c_bit xs k Hk.out), ?_⟩
        refine List.forall_mem_cons.2 ⟨ob_call1 62 30 31 _ rfl rfl (by first | exact .inl rfl | exact .inr ⟨_, _, _, rfl, rfl, by kernel_rfl, by decide, rfl⟩) (by kernel_rfl) (by kernel_rfl) (c_refOf (Nm.val xs / 2 ^ k % 2) (by have := Nat.mod_lt (Nm.val xs / 2 ^ k) (show 0 < 2 by decide); omega)), ?_⟩
        refine List.forall_mem_cons.2 ⟨ob_call2 20 27 31 32 _ rfl rfl (by first | exact .inl rfl | exact .inr ⟨_, _, _, rfl, rfl, by kernel_rfl, by decide, rfl⟩) (by kernel_rfl) (by kernel_rfl) (by kernel_rfl) (c_refAdd (Nm.nat (2 * R0)) (Nm.nat (Nm.val xs / 2 ^ k % 2)) (Nm.nat (2 * R0 + Nm.val xs / 2 ^ k % 2)) (by rw [Nm.val_nat, Nm.val_nat]) Hl3.out), ?_⟩
        exact fun _ h => absurd h List.not_mem_nil
      intro vv wv hvv hbv
      obtain ⟨Ax, cx, hv32, nr⟩ := hvv 32 (by decide)
      simp only [lay, List.foldl_cons, List.foldl_nil, List.setIfInBounds_toArray, List.set_cons_succ, List.set_cons_zero, List.drop_succ_cons, List.drop_zero, hv32]
      have gq := fq
      have gr := fr
      have vy := vy2
      clear fq fr vx2 vy2 hbw
      have hszr := hbj.size
      have gq := ((seen hbv).2 _ 0 vq.lt).trans gq
      have gr := ((seen hbv).2 _ 0 vr.lt).trans gr
      have hbj := hbj.trans (hbv.mono (by omega))
      have vq := vq.below hbv
      have vr := vr.below hbv
      have vx := vx.below hbv
      have vy := vy.below hbv
      have hcc := vr.cell
      have hff := gr
      have vq := vq.other (v := .slice Ax (Nm.nat (2 * R0 + Nm.val xs / 2 ^ k % 2)).length cx) hcc (by simp) (by omega)
      have vx := vx.other (v := .slice Ax (Nm.nat (2 * R0 + Nm.val xs / 2 ^ k % 2)).length cx) hcc (by simp) (by omega)
      have vy := vy.other (v := .slice Ax (Nm.nat (2 * R0 + Nm.val xs / 2 ^ k % 2)).length cx) hcc (by simp) (by omega)
      have vr := vr.put nr
      have hbj : Below (w.heap.size + 1 + 1 + 1 + 1) w1 (wv.setCell ⟨w.heap.size + 1 + 1 + 1 + 1 + 1, 0, none⟩ (.slice Ax (Nm.nat (2 * R0 + Nm.val xs / 2 ^ k % 2)).length cx)) := hbj.setCell (by show w.heap.size + 1 + 1 + 1 + 1 ≤ w.heap.size + 1 + 1 + 1 + 1 + 1; omega) _
      have gq := soft_set (p := ⟨w.heap.size + 1 + 1 + 1 + 1 + 1, 0, none⟩) (v := .slice Ax (Nm.nat (2 * R0 + Nm.val xs / 2 ^ k % 2)).length cx) gq
      have gr := soft_set (p := ⟨w.heap.size + 1 + 1 + 1 + 1 + 1, 0, none⟩) (v := .slice Ax (Nm.nat (2 * R0 + Nm.val xs / 2 ^ k % 2)).length cx) gr
      clear hbv hvv nr
      have kvq := vq.cell
      go_wp2_with fail
      clear hcc hff
      refine (refAdd_n vq.num vq.num (Nm.nat (2 * Q0)) (by rw [Nm.val_nat, Nat.two_mul])).mono ?_
      rintro e w4 ⟨A4, c4, rfl, hc4, hf4, hs4⟩
      have n4 := hf4.num hc4 (Nm.dig_nat _) (by have := Hl4.out; omega)
      have hszr := hbj.size
      have gq := ((seen hs4).2 _ 0 vq.lt).trans gq
      have gr := ((seen hs4).2 _ 0 vr.lt).trans gr
      have hbj := hbj.trans (hs4.mono (by omega))
      have vq := vq.below hs4
      have vr := vr.below hs4
      have vx := vx.below hs4
      have vy := vy.below hs4
      have kvq := vq.cell
      have hcc := vq.cell
      have hff := gq
      have vr := vr.other (v := .slice A4 (Nm.nat (2 * Q0)).length c4) hcc (by simp) (by omega)
      have vx := vx.other (v := .slice A4 (Nm.nat (2 * Q0)).length c4) hcc (by simp) (by omega)
      have vy := vy.other (v := .slice A4 (Nm.nat (2 * Q0)).length c4) hcc (by simp) (by omega)
      have vq := vq.put n4
      have hbj : Below (w.heap.size + 1 + 1 + 1 + 1) w1 (w4.setCell ⟨w.heap.size + 1 + 1 + 1 + 1, 0, none⟩ (.slice A4 (Nm.nat (2 * Q0)).length c4)) := hbj.setCell (by show w.heap.size + 1 + 1 + 1 + 1 ≤ w.heap.size + 1 + 1 + 1 + 1; omega) _
      have gq := soft_set (p := ⟨w.heap.size + 1 + 1 + 1 + 1, 0, none⟩) (v := .slice A4 (Nm.nat (2 * Q0)).length c4) gq
      have gr := soft_set (p := ⟨w.heap.size + 1 + 1 + 1 + 1, 0, none⟩) (v := .slice A4 (Nm.nat (2 * Q0)).length c4) gr
      clear hs4 hc4 hf4 n4
      have kvr := vr.cell
      have kvy := vy.cell
      by_cases hlt : (2 * R0 + Nm.val xs / 2 ^ k % 2) < Nm.val ys
      · skip
        have hcmp : cmpI ((Nm.val (Nm.nat (2 * R0 + Nm.val xs / 2 ^ k % 2)) : Nat) : Int) ((Nm.val ys : Nat) : Int) = -1 := by rw [Nm.val_nat]; exact cmpI_lt' hlt
        have Hnew := Lib.hid (Hdb.out.1 hlt)
        have Hcmp := Lib.hid hcmp
        clear hcmp hlt
        go_wp2_with fail
        clear hcc hff
        refine (Hcmp.out ▸ refCmp_n vr.num vy.num).mono ?_
        rintro e w5 ⟨rfl, hs5⟩
        have hszr := hbj.size
        have gq := ((seen hs5).2 _ 0 vq.lt).trans gq
        have gr := ((seen hs5).2 _ 0 vr.lt).trans gr
        have hbj := hbj.trans (hs5.mono (by omega))
        have vq := vq.below hs5
        have vr := vr.below hs5
        have vx := vx.below hs5
        have vy := vy.below hs5
        clear hs5 kvq kvr kvy
        go_wp2_with fail
        rw [← Hnew.out.1] at vq
        rw [← Hnew.out.2] at vr
        exact ⟨⟨k, A4, Ax, _, _, c4, cx, by omega, rfl, vq, vr, gq, gr, hbj⟩, by simp [intOf]⟩
      · skip
        have hge : Nm.val ys ≤ (2 * R0 + Nm.val xs / 2 ^ k % 2) := by omega
        obtain ⟨z, hz⟩ : ∃ z, cmpI ((Nm.val (Nm.nat (2 * R0 + Nm.val xs / 2 ^ k % 2)) : Nat) : Int) ((Nm.val ys : Nat) : Int) = z := ⟨_, rfl⟩
        have hz0 : 0 ≤ z := by
          rw [← hz, Nm.val_nat]
          rcases cmpI_cases (((2 * R0 + Nm.val xs / 2 ^ k % 2) : Nat) : Int) ((Nm.val ys : Nat) : Int) with h1 | h1 | h1 <;> omega
        have Hnew := Lib.hid (Hdb.out.2 hge)
        have Hcmp := Lib.hid hz
        have Hge := Lib.hid hge
        clear hz hge hlt
        go_wp2_with fail
        clear hcc hff
        refine (Hcmp.out ▸ refCmp_n vr.num vy.num).mono ?_
        rintro e w5 ⟨rfl, hs5⟩
        have hszr := hbj.size
        have gq := ((seen hs5).2 _ 0 vq.lt).trans gq
        have gr := ((seen hs5).2 _ 0 vr.lt).trans gr
        have hbj := hbj.trans (hs5.mono (by omega))
        have vq := vq.below hs5
        have vr := vr.below hs5
        have vx := vx.below hs5
        have vy := vy.below hs5
        clear hs5 kvq kvr kvy
        have kvr := vr.cell
        have kvy := vy.cell
        go_wp2_with fail
        refine (refSub_n vr.num vy.num (Nm.nat (2 * R0 + Nm.val xs / 2 ^ k % 2 - Nm.val ys)) true (by rw [Nm.val_nat]) (by rw [Nm.val_nat]; exact decide_eq_true Hge.out)).mono ?_
        rintro e w6 ⟨A6, c6, rfl, hc6, hf6, hs6⟩
        have hl6 : (Nm.nat (2 * R0 + Nm.val xs / 2 ^ k % 2 - Nm.val ys)).length ≤ 400 := by have := Nm.nat_len_le' (zs := Nm.nat (2 * R0 + Nm.val xs / 2 ^ k % 2)) (v := (2 * R0 + Nm.val xs / 2 ^ k % 2) - Nm.val ys) (Nm.dig_nat _) (by rw [Nm.val_nat]; exact Nat.sub_le _ _); have := Hl3.out; omega
        have n6 := hf6.num hc6 (Nm.dig_nat _) hl6
        have hszr := hbj.size
        have gq := ((seen hs6).2 _ 0 vq.lt).trans gq
        have gr := ((seen hs6).2 _ 0 vr.lt).trans gr
        have hbj := hbj.trans (hs6.mono (by omega))
        have vq := vq.below hs6
        have vr := vr.below hs6
        have vx := vx.below hs6
        have vy := vy.below hs6
        have kvr := vr.cell
        have hcc := vr.cell
        have hff := gr
        have vq := vq.other (v := .slice A6 (Nm.nat (2 * R0 + Nm.val xs / 2 ^ k % 2 - Nm.val ys)).length c6) hcc (by simp) (by omega)
        have vx := vx.other (v := .slice A6 (Nm.nat (2 * R0 + Nm.val xs / 2 ^ k % 2 - Nm.val ys)).length c6) hcc (by simp) (by omega)
        have vy := vy.other (v := .slice A6 (Nm.nat (2 * R0 + Nm.val xs / 2 ^ k % 2 - Nm.val ys)).length c6) hcc (by simp) (by omega)
        have vr := vr.put n6
        have hbj : Below (w.heap.size + 1 + 1 + 1 + 1) w1 (w6.setCell ⟨w.heap.size + 1 + 1 + 1 + 1 + 1, 0, none⟩ (.slice A6 (Nm.nat (2 * R0 + Nm.val xs / 2 ^ k % 2 - Nm.val ys)).length c6)) := hbj.setCell (by show w.heap.size + 1 + 1 + 1 + 1 ≤ w.heap.size + 1 + 1 + 1 + 1 + 1; omega) _
        have gq := soft_set (p := ⟨w.heap.size + 1 + 1 + 1 + 1 + 1, 0, none⟩) (v := .slice A6 (Nm.nat (2 * R0 + Nm.val xs / 2 ^ k % 2 - Nm.val ys)).length c6) gq
        have gr := soft_set (p := ⟨w.heap.size + 1 + 1 + 1 + 1 + 1, 0, none⟩) (v := .slice A6 (Nm.nat (2 * R0 + Nm.val xs / 2 ^ k % 2 - Nm.val ys)).length c6) gr
        clear hs6 hc6 hf6 n6 hl6 kvy
        have hQ3 : (Nm.nat (2 * Q0 + 1)).length ≤ 400 := by
          have h1 : 2 * Q0 + 1 ≤ Nm.val xs := by rw [← Hnew.out.1]; exact Nat.le_trans (Nat.div_le_self _ _) (Nat.div_le_self _ _)
          have := Nm.nat_len_le' hxd h1
          omega
        have Hq3 := Lib.hid hQ3
        clear hQ3
        have kvq := vq.cell
        go_wp2_with fail
        clear hcc hff
        refine wp_region_then (by kernel_rfl) (divG Q0) [7] 51 3 [46, 47, 48] rfl (by kernel_rfl) (by kernel_rfl) (by decide) (by kernel_rfl) ?_ ?_ ?_
        · intro t ht
          simp only [List.mem_cons, List.not_mem_nil, or_false] at ht
          rcases ht with rfl
          · exact ⟨_, _, _, rfl, vq⟩
        · refine List.forall_mem_cons.2 ⟨ob_load 7 46 (Nm.nat (2 * Q0)) rfl rfl (by first | exact .inl rfl | exact .inr ⟨_, _, _, rfl, rfl, by kernel_rfl, by decide, rfl⟩) (by kernel_rfl) rfl rfl, ?_⟩
          refine List.forall_mem_cons.2 ⟨ob_callc 62 _ 47 _ rfl rfl (by first | exact .inl rfl | exact .inr ⟨_, _, _, rfl, rfl, by kernel_rfl, by decide, rfl⟩) (by kernel_rfl) c_refOne, ?_⟩
          refine List.forall_mem_cons.2 ⟨ob_call2 20 46 47 48 _ rfl rfl (by first | exact .inl rfl | exact .inr ⟨_, _, _, rfl, rfl, by kernel_rfl, by decide, rfl⟩) (by kernel_rfl) (by kernel_rfl) (by kernel_rfl) (c_refAdd (Nm.nat (2 * Q0)) (Nm.nat 1) (Nm.nat (2 * Q0 + 1)) (by rw [Nm.val_nat, Nm.val_nat]) Hq3.out), ?_⟩
          exact fun _ h => absurd h List.not_mem_nil
        intro vv wv_ hvv hbv
        obtain ⟨Ay, cy, hv48, nq⟩ := hvv 48 (by decide)
        simp only [lay, List.foldl_cons, List.foldl_nil, List.setIfInBounds_toArray, List.set_cons_succ, List.set_cons_zero, List.drop_succ_cons, List.drop_zero, hv48]
        have hszr := hbj.size
        have gq := ((seen hbv).2 _ 0 vq.lt).trans gq
        have gr := ((seen hbv).2 _ 0 vr.lt).trans gr
        have hbj := hbj.trans (hbv.mono (by omega))
        have vq := vq.below hbv
        have vr := vr.below hbv
        have vx := vx.below hbv
        have vy := vy.below hbv
        have kvq := vq.cell
        have hcc := vq.cell
        have hff := gq
        have vr := vr.other (v := .slice Ay (Nm.nat (2 * Q0 + 1)).length cy) hcc (by simp) (by omega)
        have vx := vx.other (v := .slice Ay (Nm.nat (2 * Q0 + 1)).length cy) hcc (by simp) (by omega)
        have vy := vy.other (v := .slice Ay (Nm.nat (2 * Q0 + 1)).length cy) hcc (by simp) (by omega)
        have vq := vq.put nq
        have hbj : Below (w.heap.size + 1 + 1 + 1 + 1) w1 (wv_.setCell ⟨w.heap.size + 1 + 1 + 1 + 1, 0, none⟩ (.slice Ay (Nm.nat (2 * Q0 + 1)).length cy)) := hbj.setCell (by show w.heap.size + 1 + 1 + 1 + 1 ≤ w.heap.size + 1 + 1 + 1 + 1; omega) _
        have gq := soft_set (p := ⟨w.heap.size + 1 + 1 + 1 + 1, 0, none⟩) (v := .slice Ay (Nm.nat (2 * Q0 + 1)).length cy) gq
        have gr := soft_set (p := ⟨w.heap.size + 1 + 1 + 1 + 1, 0, none⟩) (v := .slice Ay (Nm.nat (2 * Q0 + 1)).length cy) gr
        clear hbv hvv
        go_wp2_with fail
        exact ⟨⟨k, Ay, A6, (Nm.nat (2 * Q0 + 1)).length, (Nm.nat (2 * R0 + Nm.val xs / 2 ^ k % 2 - Nm.val ys)).length, cy, c6, by omega, rfl, by rw [Hnew.out.1]; exact vq, by rw [Hnew.out.2]; exact vr, gq, gr, hbj⟩, by simp [intOf]⟩
end Go.Proofs.YtaiceebhifecbaaDoor

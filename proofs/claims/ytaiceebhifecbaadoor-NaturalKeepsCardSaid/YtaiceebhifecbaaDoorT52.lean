/-
  The law of the greatest common divisor: it returns true. No conditions. Also: Contract of the reference's Gcd. Conditions: numbers without leading zeros, of at most 300 digits.
-/
import Derived.Test.YtaiceebhifecbaaDoorT50
import Derived.Test.YtaiceebhifecbaaDoorT48
import Derived.Test.YtaiceebhifecbaaDoorReg3
namespace Go.Proofs.YtaiceebhifecbaaDoor
open Go.RowKit
/-- The loop of Gcd: the greatest common divisor of what the two cells hold stays. -/
def RGcdRel (b G : Nat) (w : World) (gk : Nat) (wr : World) : Prop :=
  ∃ (A B : Option Addr) (n m c d : Nat) (X Y : List Nat), Var wr b A n c X ∧ Var wr (b + 1) B m d Y ∧ wr.frozen? ⟨b, 0, none⟩ = false ∧ wr.frozen? ⟨b + 1, 0, none⟩ = false ∧ wr.cell? ⟨b + 1 + 1, 0, none⟩ = some (.slice none 0 0) ∧ wr.frozen? ⟨b + 1 + 1, 0, none⟩ = false ∧ b + 1 + 1 < wr.heap.size ∧
    Hid (Nm.nat (Nm.val X) = X) ∧ Hid (Nm.nat (Nm.val Y) = Y) ∧ n ≤ 300 ∧ m ≤ 300 ∧ Hid (Nat.gcd (Nm.val X) (Nm.val Y) = G) ∧ Hid (gk = Nm.val Y) ∧ Below w.heap.size w wr
theorem Var.drew {w : World} {b n c : Nat} {A : Option Addr} {zs : List Nat} (h : Var w b A n c zs) : Var w.drew b A n c zs := ⟨h.lt, h.cell, num_drew h.num⟩
theorem Nm.tlen_of {zs : List Nat} (h : Nm.nat (Nm.val zs) = zs) : Nm.tlen zs = zs.length := by
  have := Nm.tlen_nat (Nm.val zs)
  rwa [h] at this
set_option maxRecDepth 100000 in
set_option maxHeartbeats 2000000 in
theorem refGcd_n {w : World} {A B : Option Addr} {n m c d : Nat} {xs ys : List Nat} (hx : Num w A n c xs) (hy : Num w B m d ys) (hn : n ≤ 300) (hm : m ≤ 300) (hex : Nm.nat (Nm.val xs) = xs) (hey : Nm.nat (Nm.val ys) = ys) (rs : List Nat) (hr : Nm.nat (Nat.gcd (Nm.val xs) (Nm.val ys)) = rs) :
    Calls Tryd.prog 30 #[nt A n c, nt B m d] w fun e w' => ∃ A' c', e = .returned (nt A' rs.length c') ∧ Num w' A' rs.length c' rs ∧ Below w.heap.size w w' := by
  subst hr
  obtain ⟨G, hG⟩ : ∃ G, Nat.gcd (Nm.val xs) (Nm.val ys) = G := ⟨_, rfl⟩
  rw [hG]
  obtain ⟨V0, hV0⟩ : ∃ V0, Nm.val ys = V0 := ⟨_, rfl⟩
  have hb := three w (Obj.cells #[Value.slice A n c] 24) (Obj.cells #[Value.slice B m d] 24) (Obj.cells #[Value.slice none 0 0] 24)
  have hfirst : RGcdRel w.heap.size G w V0 (((w.alloc (Obj.cells #[Value.slice A n c] 24)).alloc (Obj.cells #[Value.slice B m d] 24)).alloc (Obj.cells #[Value.slice none 0 0] 24)) := by
    refine ⟨A, B, n, m, c, d, xs, ys, (Var.new hx).below (two _ _ _), (Var.at_ (hy.below (one _ _)) (by simp)).below (one _ _), ?_, ?_, new_cell _ _ _ _ (by simp), new_soft _ _ _ _ (by simp), by simp, hex, hey, hn, hm, hG, hV0.symm, hb⟩
    · exact ((seen (two (w.alloc (Obj.cells #[Value.slice A n c] 24)) _ _)).2 _ _ (by simp)).trans (new_soft _ _ _ _ rfl)
    · exact ((seen (one ((w.alloc (Obj.cells #[Value.slice A n c] 24)).alloc (Obj.cells #[Value.slice B m d] 24)) _)).2 _ _ (by simp)).trans (new_soft _ _ _ _ (by simp))
  have Hfirst := Lib.hid hfirst
  clear hfirst hb hV0 hG hex hey hx hy
  go_enter Tryd.func30, Tryd.ntmps30
  go_wp2_with fail
  go_loopg [7] V0 (fun gk _ wr => RGcdRel w.heap.size G w gk wr)
  case atStart => exact Hfirst.out
  case round =>
    obtain ⟨A1, B1, n1, m1, c1, d1, X, Y, vx, vy, fx, fy, cz, fz, hz, hex, hey, hn1, hm1, hg, hgk, hb⟩ := hrel
    obtain rfl := vx.num.len
    obtain rfl := vy.num.len
    have kx := vx.cell
    have ky := vy.cell
    rcases Nat.eq_zero_or_pos Y.length with h0 | h0
    · have hfin : Nm.nat G = X := by
        have h1 := hg.out
        rw [List.eq_nil_of_length_eq_zero h0] at h1
        have h2 : Nat.gcd (Nm.val X) 0 = G := h1
        rw [Nat.gcd_zero_right] at h2
        rw [← h2, hex.out]
      have Hf := Lib.hid hfin
      have hy0 : ¬ (0 : Int) < (Y.length : Int) := by omega
      clear hfin
      go_wp2_with fail
      refine bodyPost_ret (v := nt A1 X.length c1) (by simp [results, Tryd.results30, go_sem, cz]) rfl ⟨A1, c1, by rw [Hf.out], ?_, hb.setCell (by show w.heap.size ≤ w.heap.size + 1 + 1; omega) _⟩
      rw [Hf.out]
      exact ⟨vx.num.rd.setCell cz (by simp), rfl, vx.num.cap, vx.num.dig, vx.num.small⟩
    · have hY0 : (0 : Int) < (Y.length : Int) := by omega
      have hcall := fun V (h1 : Num V A1 X.length c1 X) (h2 : Num V B1 Y.length d1 Y) => refDivMod_n h1 h2 hn1 hm1 (Nm.tlen_of hex.out) (Nm.tlen_of hey.out) h0 (Nm.nat (Nm.val X / Nm.val Y)) (Nm.nat (Nm.val X % Nm.val Y)) rfl rfl
      have Hcall := Lib.hid hcall
      clear hcall
      go_wp2_with fail
      refine (Hcall.out _ vx.num vy.num).mono ?_
      rintro e w2 ⟨A2, c2, A3, c3, rfl, n2, n3, hs⟩
      have h2 := two w2 (Obj.cells #[Value.slice A2 (Nm.nat (Nm.val X / Nm.val Y)).length c2] 24) (Obj.cells #[Value.slice A3 (Nm.nat (Nm.val X % Nm.val Y)).length c3] 24)
      have fx := ((seen hs).2 _ 0 vx.lt).trans fx
      have fy := ((seen hs).2 _ 0 vy.lt).trans fy
      have cz := ((seen hs).1 _ 0 hz).trans cz
      have fz := ((seen hs).2 _ 0 hz).trans fz
      have vx := vx.below hs
      have vy := vy.below hs
      have hz : w.heap.size + 1 + 1 < w2.heap.size := by have := hs.size; omega
      have kx := vx.cell
      have ky := vy.cell
      have hlt1 := vx.lt
      have hlt2 := vy.lt
      clear h2 n2
      go_wp2_with fail
      go_region
      have hK := ‹∀ (a' : Act) (w' : World), Handed _ gk a' w' → _›
      refine hK _ _ ?_
      clear hK
      go_roundg (Nm.val X % Nm.val Y)
      case measure =>
        have := hgk.out
        have h1 := Nm.tlen_pos_val (zs := Y) (by rw [Nm.tlen_of hey.out]; exact h0)
        have h3 : 0 < 4294967296 ^ (Nm.tlen Y - 1) := Nat.pow_pos (by decide)
        have := Nat.mod_lt (Nm.val X) (show 0 < Nm.val Y by omega)
        omega
      case rel =>
        have m3 : Num (w2.setCell ⟨w.heap.size, 0, none⟩ (.slice B1 Y.length d1)) A3 (Nm.nat (Nm.val X % Nm.val Y)).length c3 (Nm.nat (Nm.val X % Nm.val Y)) := ⟨n3.rd.setCell kx (by simp), rfl, n3.cap, n3.dig, n3.small⟩
        have ux := (vx.put vy.num).other (b' := w.heap.size + 1) (u := .slice B1 Y.length d1) (v := .slice A3 (Nm.nat (Nm.val X % Nm.val Y)).length c3) (by rw [World.cell?_setCell_other _ _ _ _ (by intro e; injection e; omega)]; exact ky) (by simp) (by omega)
        have uy := (vy.other (b' := w.heap.size) (v := .slice B1 Y.length d1) kx (by simp) (by omega)).put m3
        have h3 := two ((w2.setCell ⟨w.heap.size, 0, none⟩ (.slice B1 Y.length d1)).setCell ⟨w.heap.size + 1, 0, none⟩ (.slice A3 (Nm.nat (Nm.val X % Nm.val Y)).length c3)) (Obj.cells #[Value.slice A2 (Nm.nat (Nm.val X / Nm.val Y)).length c2] 24) (Obj.cells #[Value.slice A3 (Nm.nat (Nm.val X % Nm.val Y)).length c3] 24)
        have hsz3 := h3.size
        refine ⟨B1, A3, Y.length, _, d1, c3, Y, Nm.nat (Nm.val X % Nm.val Y), (ux.below h3).drew, (uy.below h3).drew, ?_, ?_, ?_, ?_, ?_, hey, ?_, hm1, ?_, ?_, ?_, ?_⟩
        · exact ((seen h3).2 _ 0 ux.lt).trans (by rw [World.frozen?_setCell, World.frozen?_setCell]; exact fx)
        · exact ((seen h3).2 _ 0 uy.lt).trans (by rw [World.frozen?_setCell, World.frozen?_setCell]; exact fy)
        · exact ((seen h3).1 _ 0 (by simpa using hz)).trans (by rw [World.cell?_setCell_other _ _ _ _ (by intro e; injection e; omega), World.cell?_setCell_other _ _ _ _ (by intro e; injection e; omega)]; exact cz)
        · exact ((seen h3).2 _ 0 (by simpa using hz)).trans (by rw [World.frozen?_setCell, World.frozen?_setCell]; exact fz)
        · show w.heap.size + 1 + 1 < _
          simp
          omega
        · show _ = _
          rw [Nm.val_nat]
        · exact Nat.le_trans (Nm.nat_len_le' vx.num.dig (Nat.mod_le _ _)) hn1
        · show _ = _
          rw [Nm.val_nat, ← hg.out, Nat.gcd_comm (Nm.val X), Nat.gcd_rec (Nm.val Y) (Nm.val X), Nat.gcd_comm]
        · show _ = _
          rw [Nm.val_nat]
        · exact (((((up hb hs).setCell (Nat.le_refl _) _).setCell (by show w.heap.size ≤ w.heap.size + 1; omega) _).trans (h3.mono (by have := hb.size; have := hs.size; simp; omega)))).drew
end Go.Proofs.YtaiceebhifecbaaDoor
namespace Go.Proofs.YtaiceebhifecbaaDoor
open Go.RowKit
theorem Nm.Sz.gcd {k a b : Nat} (h : Nm.Sz k a) (h' : Nm.Sz k b) : Nm.Sz k (Nat.gcd a b) := by
  rcases Nat.eq_zero_or_pos a with h0 | h0
  · subst h0
    rw [Nat.gcd_zero_left]; exact h'
  · exact h.mono (Nat.gcd_le_left _ h0)
theorem c_refGcd (xs ys rs : List Nat) (hex : Nm.nat (Nm.val xs) = xs) (hey : Nm.nat (Nm.val ys) = ys) (hn : xs.length ≤ 300) (hm : ys.length ≤ 300) (hr : Nm.nat (Nat.gcd (Nm.val xs) (Nm.val ys)) = rs) : ∀ v u w, (Fact.num xs).holds v w → (Fact.num ys).holds u w → Calls Tryd.prog 30 #[v, u] w (Ret (Fact.num rs) w) := by
  rintro v u w ⟨A, c, rfl, h⟩ ⟨B, d, rfl, k⟩
  exact (refGcd_n h k hn hm hex hey rs hr).mono fun e w' ⟨A', c', he, hn, hb⟩ => ⟨_, he, hb, A', c', rfl, hn⟩
theorem go_not (b : Bool) (a : Act) (w : World) (t : Nat) (o : Oper) (ho : o.op = .unOp .not 4 (.tmp t)) (h1 : a.eval (.tmp t) = .bool b) : (execOp a.eval o).run Tryd.prog w = .ok (.value (.bool (!b))) w := by
  simp [execOp, ho, h1]
  go_simp
section
variable {ops : Array Oper} {Q : Exit → Act → World → Prop} {F : Nat → Fact} {base : List Nat} {N : Nat} {o : Oper}
theorem ob_low {g : Nat} (t d : Nat) (zs : List Nat) (ho : o.op = .load 24 (.tmp t)) (hd : o.dst = some d) (hg : GuardOk ops F base N o) (hk : known ops base o t = true) (hv : F t = Fact.low g zs) (hF : F d = Fact.num zs) : Ob ops Q F base N o :=
  ob_val hg fun a w hf => by
    have h1 := hf t hk
    rw [hv] at h1
    obtain ⟨_, b, A, c, h2, _, hvar⟩ := h1
    have hc := hvar.cell
    refine ⟨nt A zs.length c, w, ?_, Below.refl _ _, fun s hs => ?_⟩
    · have h3 : a.eval (.tmp t) = .pointer (some ⟨b, 0, none⟩) := h2
      have hrun : (Instr.loadAt 24 (.pointer (some ⟨b, 0, none⟩))).run Tryd.prog w = .ok (nt A zs.length c) w := by
        go_simp
      simp [execOp, ho, h3, hrun]
    · rw [hd] at hs; injection hs with hs; subst hs; rw [hF]
      exact ⟨A, c, rfl, hvar.num⟩
end
theorem made_num {v : Nat → Value} {w' : World} {F : Nat → Fact} {p : Made} {g : Nat} {zs : List Nat} (hF : F p.from_ = Fact.num zs) (h : ∃ b A n c, v p.slot = .pointer (some ⟨b, 0, none⟩) ∧ g ≤ b ∧ b < w'.heap.size ∧ w'.frozen? ⟨b, 0, none⟩ = false ∧ w'.cell? ⟨b, 0, none⟩ = some (.slice A n c) ∧ (F p.from_).holds (nt A n c) w') :
    ∃ b A c, v p.slot = .pointer (some ⟨b, 0, none⟩) ∧ g ≤ b ∧ w'.frozen? ⟨b, 0, none⟩ = false ∧ Var w' b A zs.length c zs := by
  obtain ⟨b, A, n, c, h1, h2, h3, h4, h5, h6⟩ := h
  rw [hF] at h6
  obtain ⟨A', c', h7, h8⟩ := h6
  injection h7 with h7
  injection h7 with h7
  injection h7 with h7 _
  injection h7 with e1 e2 e3
  subst e1 e2 e3
  exact ⟨b, A, c, h1, h2, h4, h3, h5, h8⟩
/-- What is known of a region's slots. -/
def gcdF (xs ys : List Nat) (t : Nat) : Fact := (([(3, Fact.var xs), (4, Fact.var ys), (7, Fact.var (Nm.nat (Nat.gcd (Nm.val xs) (Nm.val ys)))), (44, Fact.num (Nm.nat (Nat.gcd (Nm.val xs) (Nm.val ys)))), (45, Fact.num xs), (46, Fact.num ys), (47, Fact.num (Nm.nat (Nat.gcd (Nm.val xs) (Nm.val ys)))), (48, Fact.eq (.bool true)), (49, Fact.eq (.bool false))] : List (Nat × Fact)).lookup t).getD Fact.any
/-- What is known of a region's slots. -/
def gcdM (g : Nat) (xs ys zs : List Nat) (t : Nat) : Fact := (([(3, Fact.low g xs), (4, Fact.low g ys), (5, Fact.low g zs), (8, Fact.any), (50, Fact.num zs), (51, Fact.num xs), (52, Fact.num (Nm.nat (Nm.val zs * Nm.val xs))), (53, Fact.num zs), (54, Fact.num ys), (55, Fact.num (Nm.nat (Nm.val zs * Nm.val ys))), (56, Fact.num (Nm.nat (Nm.val zs * Nat.gcd (Nm.val xs) (Nm.val ys))))] : List (Nat × Fact)).lookup t).getD Fact.any
/-- What is known of a region's slots. -/
def gcdL (xs ys zs : List Nat) (t : Nat) : Fact := (([(3, Fact.var xs), (4, Fact.var ys), (5, Fact.var zs), (6, Fact.eq (.bool true)), (7, Fact.var (Nm.nat (Nat.gcd (Nm.val xs) (Nm.val ys)))), (8, Fact.var (Nm.nat (Nm.val zs * Nat.gcd (Nm.val xs) (Nm.val ys)))), (57, Fact.num (Nm.nat (Nm.val zs * Nat.gcd (Nm.val xs) (Nm.val ys)))), (58, Fact.num zs), (59, Fact.num (Nm.nat (Nat.gcd (Nm.val xs) (Nm.val ys)))), (60, Fact.num (Nm.nat (Nm.val zs * Nat.gcd (Nm.val xs) (Nm.val ys)))), (61, Fact.eq (.bool true)), (62, Fact.eq (.bool true)), (63, Fact.num ys), (64, Fact.num xs), (65, Fact.num (Nm.nat (Nat.gcd (Nm.val xs) (Nm.val ys)))), (66, Fact.num (Nm.nat (Nat.gcd (Nm.val xs) (Nm.val ys)))), (67, Fact.eq (.bool true)), (68, Fact.eq (.bool true)), (69, Fact.eq (.bool true)), (70, Fact.eq (.bool true)), (71, Fact.eq (.bool true))] : List (Nat × Fact)).lookup t).getD Fact.any
set_option maxRecDepth 100000 in
set_option maxHeartbeats 1000000 in
theorem gcd_law (A B C : Option Addr) (a b c : Nat) (xs ys zs : List Nat) (w : World) (hx : Rd w A xs) (hy : Rd w B ys) (hz : Rd w C zs) (cx : xs.length ≤ a) (cy : ys.length ≤ b) (cz : zs.length ≤ c) (dx : Nm.Dig xs) (dy : Nm.Dig ys) (dz : Nm.Dig zs) :
    Calls Tryd.prog 6 #[nt A (xs.length) a, nt B (ys.length) b, nt C (zs.length) c] w fun e w' => e = .returned (.bool true) ∧ Below w.heap.size w w' := by
  go_enter Tryd.func6, Tryd.ntmps6
  go_wp2_with fail
  have vx : Arg _ w.heap.size A (xs.length) a xs := Arg.at_ (c := a) (n := (xs.length)) (w := w) hx (by simp)
  have vy : Arg _ (w.heap.size + 1) B (ys.length) b ys := Arg.at_ (c := b) (n := (ys.length)) (w := (w.alloc (Obj.cells #[Value.slice A (xs.length) a] 24))) (hy.below (one _ (Obj.cells #[Value.slice A (xs.length) a] 24))) (by simp)
  have vx := vx.below (one _ (Obj.cells #[Value.slice B (ys.length) b] 24))
  have vz : Arg _ (w.heap.size + 1 + 1) C (zs.length) c zs := Arg.at_ (c := c) (n := (zs.length)) (w := ((w.alloc (Obj.cells #[Value.slice A (xs.length) a] 24)).alloc (Obj.cells #[Value.slice B (ys.length) b] 24))) ((hz.below (one _ (Obj.cells #[Value.slice A (xs.length) a] 24))).below (one _ (Obj.cells #[Value.slice B (ys.length) b] 24))) (by simp)
  have vx := vx.below (one _ (Obj.cells #[Value.slice C (zs.length) c] 24))
  have vy := vy.below (one _ (Obj.cells #[Value.slice C (zs.length) c] 24))
  have hb := (have h := (have h := one w (Obj.cells #[Value.slice A (xs.length) a] 24); h.alloc h.size (Obj.cells #[Value.slice B (ys.length) b] 24)); h.alloc h.size (Obj.cells #[Value.slice C (zs.length) c] 24))
  clear hx hy hz
  cases hfx : decide (xs.length ≤ 12 ∧ Nm.tlen xs = xs.length) with
  | false =>
    refine (few_is a vx.rd rfl hfx).mono ?_
    rintro e w1 ⟨rfl, hs1⟩
    have vx := vx.below hs1
    have vy := vy.below hs1
    have vz := vz.below hs1
    have hb := up hb hs1
    clear hs1
    have kvx := vx.cell
    have kvy := vy.cell
    have kvz := vz.cell
    go_wp2_with fail
    clear kvx kvy kvz
    refine (awake_any _).mono ?_
    rintro e wa ⟨rfl, hsa⟩
    go_wp2_with fail
    exact bodyPost_ret (v := .bool true) (by first | rfl | kernel_rfl) rfl ⟨rfl, up hb hsa⟩
  | true =>
    refine (few_is a vx.rd rfl hfx).mono ?_
    rintro e w1 ⟨rfl, hs1⟩
    have vx := vx.below hs1
    have vy := vy.below hs1
    have vz := vz.below hs1
    have hb := up hb hs1
    clear hs1
    have kvx := vx.cell
    have kvy := vy.cell
    have kvz := vz.cell
    go_wp2_with fail
    clear kvx kvy kvz
    cases hfy : decide (ys.length ≤ 12 ∧ Nm.tlen ys = ys.length) with
    | false =>
      refine (few_is b vy.rd rfl hfy).mono ?_
      rintro e w2 ⟨rfl, hs2⟩
      have vx := vx.below hs2
      have vy := vy.below hs2
      have vz := vz.below hs2
      have hb := up hb hs2
      clear hs2
      have kvx := vx.cell
      have kvy := vy.cell
      have kvz := vz.cell
      go_wp2_with fail
      clear kvx kvy kvz
      refine (awake_any _).mono ?_
      rintro e wa ⟨rfl, hsa⟩
      go_wp2_with fail
      exact bodyPost_ret (v := .bool true) (by first | rfl | kernel_rfl) rfl ⟨rfl, up hb hsa⟩
    | true =>
      refine (few_is b vy.rd rfl hfy).mono ?_
      rintro e w2 ⟨rfl, hs2⟩
      have vx := vx.below hs2
      have vy := vy.below hs2
      have vz := vz.below hs2
      have hb := up hb hs2
      clear hs2
      have kvx := vx.cell
      have kvy := vy.cell
      have kvz := vz.cell
      go_wp2_with fail
      clear kvx kvy kvz
      cases hfz : decide (zs.length ≤ 12 ∧ Nm.tlen zs = zs.length) with
      | false =>
        refine (few_is c vz.rd rfl hfz).mono ?_
        rintro e w3 ⟨rfl, hs3⟩
        have vx := vx.below hs3
        have vy := vy.below hs3
        have vz := vz.below hs3
        have hb := up hb hs3
        clear hs3
        have kvx := vx.cell
        have kvy := vy.cell
        have kvz := vz.cell
        go_wp2_with fail
        clear kvx kvy kvz
        refine (awake_any _).mono ?_
        rintro e wa ⟨rfl, hsa⟩
        go_wp2_with fail
        exact bodyPost_ret (v := .bool true) (by first | rfl | kernel_rfl) rfl ⟨rfl, up hb hsa⟩
      | true =>
        refine (few_is c vz.rd rfl hfz).mono ?_
        rintro e w3 ⟨rfl, hs3⟩
        have vx := vx.below hs3
        have vy := vy.below hs3
        have vz := vz.below hs3
        have hb := up hb hs3
        clear hs3
        rcases Nat.lt_or_ge 4 xs.length with h4x | h4x
        · skip
          have kvx := vx.cell
          have kvy := vy.cell
          have kvz := vz.cell
          go_wp2_with fail
          clear kvx kvy kvz
          refine (awake_any _).mono ?_
          rintro e wa ⟨rfl, hsa⟩
          go_wp2_with fail
          exact bodyPost_ret (v := .bool true) (by first | rfl | kernel_rfl) rfl ⟨rfl, up hb hsa⟩
        rcases Nat.lt_or_ge 4 ys.length with h4y | h4y
        · skip
          have kvx := vx.cell
          have kvy := vy.cell
          have kvz := vz.cell
          go_wp2_with fail
          clear kvx kvy kvz
          refine (awake_any _).mono ?_
          rintro e wa ⟨rfl, hsa⟩
          go_wp2_with fail
          exact bodyPost_ret (v := .bool true) (by first | rfl | kernel_rfl) rfl ⟨rfl, up hb hsa⟩
        rcases Nat.lt_or_ge 4 zs.length with h4z | h4z
        · skip
          have kvx := vx.cell
          have kvy := vy.cell
          have kvz := vz.cell
          go_wp2_with fail
          clear kvx kvy kvz
          refine (awake_any _).mono ?_
          rintro e wa ⟨rfl, hsa⟩
          go_wp2_with fail
          exact bodyPost_ret (v := .bool true) (by first | rfl | kernel_rfl) rfl ⟨rfl, up hb hsa⟩
        have kvx := vx.cell
        have kvy := vy.cell
        have kvz := vz.cell
        go_wp2_with fail
        clear kvx kvy kvz
        have tx := (of_decide_eq_true hfx).2
        have ty := (of_decide_eq_true hfy).2
        have tz := (of_decide_eq_true hfz).2
        have vx := vx.var rfl cx dx hfx
        have sx := Nm.Sz.val dx hfx
        have ex := Nm.canon dx hfx
        have vy := vy.var rfl cy dy hfy
        have sy := Nm.Sz.val dy hfy
        have ey := Nm.canon dy hfy
        have vz := vz.var rfl cz dz hfz
        have sz := Nm.Sz.val dz hfz
        have ez := Nm.canon dz hfz
        clear hfx cx dx
        clear hfy cy dy
        clear hfz cz dz
        have sg := sx.gcd sy
        refine (gcd_n 900 divOk_all vx.num vy.num (by omega) (Nm.nat (Nat.gcd (Nm.val xs) (Nm.val ys))) rfl).mono ?_
        rintro e w4 ⟨Ag, cg, rfl, hc, hf, hs⟩
        have vx := vx.below hs
        have vy := vy.below hs
        have vz := vz.below hs
        have hb := up hb hs
        have ng := hf.num hc (Nm.dig_nat _) (sg.len (by decide))
        clear hc hf hs
        have vx := vx.below (one _ (Obj.cells #[Value.slice Ag (Nm.nat (Nat.gcd (Nm.val xs) (Nm.val ys))).length cg] 24))
        have vy := vy.below (one _ (Obj.cells #[Value.slice Ag (Nm.nat (Nat.gcd (Nm.val xs) (Nm.val ys))).length cg] 24))
        have vz := vz.below (one _ (Obj.cells #[Value.slice Ag (Nm.nat (Nat.gcd (Nm.val xs) (Nm.val ys))).length cg] 24))
        have vg := Var.new ng
        have hb := hb.alloc hb.size (Obj.cells #[Value.slice Ag (Nm.nat (Nat.gcd (Nm.val xs) (Nm.val ys))).length cg] 24)
        clear ng
        have kvx := vx.cell
        have kvy := vy.cell
        have kvz := vz.cell
        have kvg := vg.cell
        go_wp2_with fail
        clear kvx kvy kvz kvg
        refine wp_region_on (by kernel_rfl) (gcdF xs ys) [3, 4, 7] 72 [44, 45, 46, 47, 48, 49] rfl (by kernel_rfl) (by kernel_rfl) ?_ ?_ ?_
        · intro t ht
          simp only [List.mem_cons, List.not_mem_nil, or_false] at ht
          rcases ht with rfl | rfl | rfl
          · exact ⟨_, _, _, rfl, vx⟩
          · exact ⟨_, _, _, rfl, vy⟩
          · exact ⟨_, _, _, rfl, vg⟩
        · refine List.forall_mem_cons.2 ⟨ob_load 7 44 (Nm.nat (Nat.gcd (Nm.val xs) (Nm.val ys))) rfl rfl (by first | exact .inl rfl | exact .inr ⟨_, _, _, rfl, rfl, by kernel_rfl, by decide, rfl⟩) (by kernel_rfl) rfl rfl, ?_⟩
          refine List.forall_mem_cons.2 ⟨ob_load 3 45 xs rfl rfl (by first | exact .inl rfl | exact .inr ⟨_, _, _, rfl, rfl, by kernel_rfl, by decide, rfl⟩) (by kernel_rfl) rfl rfl, ?_⟩
          refine List.forall_mem_cons.2 ⟨ob_load 4 46 ys rfl rfl (by first | exact .inl rfl | exact .inr ⟨_, _, _, rfl, rfl, by kernel_rfl, by decide, rfl⟩) (by kernel_rfl) rfl rfl, ?_⟩
          refine List.forall_mem_cons.2 ⟨ob_call2 30 45 46 47 _ rfl rfl (by first | exact .inl rfl | exact .inr ⟨_, _, _, rfl, rfl, by kernel_rfl, by decide, rfl⟩) (by kernel_rfl) (by kernel_rfl) (by kernel_rfl) (c_refGcd xs ys (Nm.nat (Nat.gcd (Nm.val xs) (Nm.val ys))) ex ey (by omega) (by omega) rfl), ?_⟩
          refine List.forall_mem_cons.2 ⟨ob_call2 18 44 47 48 _ rfl rfl (by first | exact .inl rfl | exact .inr ⟨_, _, _, rfl, rfl, by kernel_rfl, by decide, rfl⟩) (by kernel_rfl) (by kernel_rfl) (by kernel_rfl) (c_same (Nm.nat (Nat.gcd (Nm.val xs) (Nm.val ys))) (Nm.nat (Nat.gcd (Nm.val xs) (Nm.val ys))) true (decide_eq_true rfl)), ?_⟩
          refine List.forall_mem_cons.2 ⟨ob_one 48 49 _ _ rfl (.inl rfl) (by kernel_rfl) rfl rfl (fun a w h1 => go_not true a w 48 _ rfl h1), ?_⟩
          exact fun _ h => absurd h List.not_mem_nil
        intro vv wv hvv hbv
        have hv49 : vv 49 = .bool false := hvv 49 (by decide)
        simp only [lay, List.foldl_cons, List.foldl_nil, List.setIfInBounds_toArray, List.set_cons_succ, List.set_cons_zero, hv49]
        have vx := vx.below hbv
        have vy := vy.below hbv
        have vz := vz.below hbv
        have vg := vg.below hbv
        have hb := up hb hbv
        clear hvv hbv
        have kvx := vx.cell
        have kvy := vy.cell
        have kvz := vz.cell
        have kvg := vg.cell
        go_wp2_with fail
        clear kvx kvy kvz kvg
        refine wp_region_made (by kernel_rfl) (gcdM _ xs ys zs) [3, 4, 5] 72 [⟨8, 8, 56⟩] [8, 50, 51, 52, 53, 54, 55, 56] rfl (by kernel_rfl) (by kernel_rfl) (by kernel_rfl) (by kernel_rfl) (fun t => Fact.soft_list _ (List.forall_mem_cons.2 ⟨Fact.soft_low _, List.forall_mem_cons.2 ⟨Fact.soft_low _, List.forall_mem_cons.2 ⟨Fact.soft_low _, List.forall_mem_cons.2 ⟨Fact.soft_any, List.forall_mem_cons.2 ⟨Fact.soft_num _, List.forall_mem_cons.2 ⟨Fact.soft_num _, List.forall_mem_cons.2 ⟨Fact.soft_num _, List.forall_mem_cons.2 ⟨Fact.soft_num _, List.forall_mem_cons.2 ⟨Fact.soft_num _, List.forall_mem_cons.2 ⟨Fact.soft_num _, List.forall_mem_cons.2 ⟨Fact.soft_num _, fun _ h => absurd h List.not_mem_nil⟩⟩⟩⟩⟩⟩⟩⟩⟩⟩⟩) t) ?_ ?_ ?_
        · intro t ht
          simp only [List.mem_cons, List.not_mem_nil, or_false] at ht
          rcases ht with rfl | rfl | rfl
          · exact ⟨Nat.le_refl _, _, _, _, rfl, vx.lt, vx⟩
          · exact ⟨Nat.le_refl _, _, _, _, rfl, vy.lt, vy⟩
          · exact ⟨Nat.le_refl _, _, _, _, rfl, vz.lt, vz⟩
        · refine List.forall_mem_cons.2 ⟨.plain (ob_low 5 50 zs rfl rfl (by first | exact .inl rfl | exact .inr ⟨_, _, _, rfl, rfl, by kernel_rfl, by decide, rfl⟩) (by kernel_rfl) rfl rfl) (by kernel_rfl), ?_⟩
          refine List.forall_mem_cons.2 ⟨.plain (ob_low 3 51 xs rfl rfl (by first | exact .inl rfl | exact .inr ⟨_, _, _, rfl, rfl, by kernel_rfl, by decide, rfl⟩) (by kernel_rfl) rfl rfl) (by kernel_rfl), ?_⟩
          refine List.forall_mem_cons.2 ⟨.plain (ob_call2 22 50 51 52 _ rfl rfl (by first | exact .inl rfl | exact .inr ⟨_, _, _, rfl, rfl, by kernel_rfl, by decide, rfl⟩) (by kernel_rfl) (by kernel_rfl) (by kernel_rfl) (c_refMul zs xs (Nm.nat (Nm.val zs * Nm.val xs)) rfl ((sz.mul sx).len (by decide)))) (by kernel_rfl), ?_⟩
          refine List.forall_mem_cons.2 ⟨.plain (ob_low 5 53 zs rfl rfl (by first | exact .inl rfl | exact .inr ⟨_, _, _, rfl, rfl, by kernel_rfl, by decide, rfl⟩) (by kernel_rfl) rfl rfl) (by kernel_rfl), ?_⟩
          refine List.forall_mem_cons.2 ⟨.plain (ob_low 4 54 ys rfl rfl (by first | exact .inl rfl | exact .inr ⟨_, _, _, rfl, rfl, by kernel_rfl, by decide, rfl⟩) (by kernel_rfl) rfl rfl) (by kernel_rfl), ?_⟩
          refine List.forall_mem_cons.2 ⟨.plain (ob_call2 22 53 54 55 _ rfl rfl (by first | exact .inl rfl | exact .inr ⟨_, _, _, rfl, rfl, by kernel_rfl, by decide, rfl⟩) (by kernel_rfl) (by kernel_rfl) (by kernel_rfl) (c_refMul zs ys (Nm.nat (Nm.val zs * Nm.val ys)) rfl ((sz.mul sy).len (by decide)))) (by kernel_rfl), ?_⟩
          refine List.forall_mem_cons.2 ⟨.plain (ob_call2 29 52 55 56 _ rfl rfl (by first | exact .inl rfl | exact .inr ⟨_, _, _, rfl, rfl, by kernel_rfl, by decide, rfl⟩) (by kernel_rfl) (by kernel_rfl) (by kernel_rfl) (c_gcd 900 divOk_all (Nm.nat (Nm.val zs * Nm.val xs)) (Nm.nat (Nm.val zs * Nm.val ys)) (Nm.nat (Nm.val zs * Nat.gcd (Nm.val xs) (Nm.val ys))) (by rw [Nm.tlen_nat]; have := (sz.mul sy).len (by decide); omega) (by rw [Nm.val_nat, Nm.val_nat, Nat.gcd_mul_left]) ((sz.mul sg).len (by decide)))) (by kernel_rfl), ?_⟩
          refine List.forall_mem_cons.2 ⟨.alloc 8 rfl rfl rfl rfl (by kernel_rfl), ?_⟩
          refine List.forall_mem_cons.2 ⟨.store ⟨8, 8, 56⟩ (by simp) rfl rfl rfl rfl (by kernel_rfl) (by kernel_rfl) (fun _ _ ⟨_, _, h, _⟩ => ⟨_, _, _, h⟩) (by kernel_rfl), ?_⟩
          exact fun _ h => absurd h List.not_mem_nil
        intro vv wv hvv hmv hav hbv
        obtain ⟨bh, Ah, ch, hv8, hgh, hfh, vh⟩ := made_num (p := ⟨8, 8, 56⟩) rfl (hmv ⟨8, 8, 56⟩ (by simp))
        simp only [lay, List.foldl_cons, List.foldl_nil, List.setIfInBounds_toArray, List.set_cons_succ, List.set_cons_zero, hv8]
        have vx := vx.below hbv
        have vy := vy.below hbv
        have vz := vz.below hbv
        have vg := vg.below hbv
        have hb := up hb hbv
        clear hvv hmv hav hbv hgh hfh
        have kvx := vx.cell
        have kvy := vy.cell
        have kvz := vz.cell
        have kvg := vg.cell
        have kvh := vh.cell
        go_wp2_with fail
        clear kvx kvy kvz kvg kvh
        refine wp_region_stable (by kernel_rfl) (gcdL xs ys zs) [3, 4, 5, 7, 8] 72 rfl (by kernel_rfl) ?_ ?_ ?_
        · intro t ht
          simp only [List.mem_cons, List.not_mem_nil, or_false] at ht
          rcases ht with rfl | rfl | rfl | rfl | rfl
          · exact ⟨_, _, _, rfl, vx⟩
          · exact ⟨_, _, _, rfl, vy⟩
          · exact ⟨_, _, _, rfl, vz⟩
          · exact ⟨_, _, _, rfl, vg⟩
          · exact ⟨_, _, _, rfl, vh⟩
        · refine List.forall_mem_cons.2 ⟨ob_load 8 57 (Nm.nat (Nm.val zs * Nat.gcd (Nm.val xs) (Nm.val ys))) rfl rfl (by first | exact .inl rfl | exact .inr ⟨_, _, _, rfl, rfl, by kernel_rfl, by decide, rfl⟩) (by kernel_rfl) rfl rfl, ?_⟩
          refine List.forall_mem_cons.2 ⟨ob_load 5 58 zs rfl rfl (by first | exact .inl rfl | exact .inr ⟨_, _, _, rfl, rfl, by kernel_rfl, by decide, rfl⟩) (by kernel_rfl) rfl rfl, ?_⟩
          refine List.forall_mem_cons.2 ⟨ob_load 7 59 (Nm.nat (Nat.gcd (Nm.val xs) (Nm.val ys))) rfl rfl (by first | exact .inl rfl | exact .inr ⟨_, _, _, rfl, rfl, by kernel_rfl, by decide, rfl⟩) (by kernel_rfl) rfl rfl, ?_⟩
          refine List.forall_mem_cons.2 ⟨ob_call2 22 58 59 60 _ rfl rfl (by first | exact .inl rfl | exact .inr ⟨_, _, _, rfl, rfl, by kernel_rfl, by decide, rfl⟩) (by kernel_rfl) (by kernel_rfl) (by kernel_rfl) (c_refMul zs (Nm.nat (Nat.gcd (Nm.val xs) (Nm.val ys))) (Nm.nat (Nm.val zs * Nat.gcd (Nm.val xs) (Nm.val ys))) (by rw [Nm.val_nat]) ((sz.mul sg).len (by decide))), ?_⟩
          refine List.forall_mem_cons.2 ⟨ob_call2 18 57 60 61 _ rfl rfl (by first | exact .inl rfl | exact .inr ⟨_, _, _, rfl, rfl, by kernel_rfl, by decide, rfl⟩) (by kernel_rfl) (by kernel_rfl) (by kernel_rfl) (c_same (Nm.nat (Nm.val zs * Nat.gcd (Nm.val xs) (Nm.val ys))) (Nm.nat (Nm.val zs * Nat.gcd (Nm.val xs) (Nm.val ys))) true (decide_eq_true rfl)), ?_⟩
          refine List.forall_mem_cons.2 ⟨ob_copy 61 62 (.inl rfl) rfl (by first | exact .inl rfl | exact .inr ⟨_, _, _, rfl, rfl, by kernel_rfl, by decide, rfl⟩) (by kernel_rfl) rfl, ?_⟩
          refine List.forall_mem_cons.2 ⟨ob_load 4 63 ys rfl rfl (by first | exact .inl rfl | exact .inr ⟨_, _, _, rfl, rfl, by kernel_rfl, by decide, rfl⟩) (by kernel_rfl) rfl rfl, ?_⟩
          refine List.forall_mem_cons.2 ⟨ob_load 3 64 xs rfl rfl (by first | exact .inl rfl | exact .inr ⟨_, _, _, rfl, rfl, by kernel_rfl, by decide, rfl⟩) (by kernel_rfl) rfl rfl, ?_⟩
          refine List.forall_mem_cons.2 ⟨ob_call2 29 63 64 65 _ rfl rfl (by first | exact .inl rfl | exact .inr ⟨_, _, _, rfl, rfl, by kernel_rfl, by decide, rfl⟩) (by kernel_rfl) (by kernel_rfl) (by kernel_rfl) (c_gcd 900 divOk_all ys xs (Nm.nat (Nat.gcd (Nm.val xs) (Nm.val ys))) (by omega) (by rw [Nat.gcd_comm]) (sg.len (by decide))), ?_⟩
          refine List.forall_mem_cons.2 ⟨ob_load 7 66 (Nm.nat (Nat.gcd (Nm.val xs) (Nm.val ys))) rfl rfl (by first | exact .inl rfl | exact .inr ⟨_, _, _, rfl, rfl, by kernel_rfl, by decide, rfl⟩) (by kernel_rfl) rfl rfl, ?_⟩
          refine List.forall_mem_cons.2 ⟨ob_call2 18 65 66 67 _ rfl rfl (by first | exact .inl rfl | exact .inr ⟨_, _, _, rfl, rfl, by kernel_rfl, by decide, rfl⟩) (by kernel_rfl) (by kernel_rfl) (by kernel_rfl) (c_same (Nm.nat (Nat.gcd (Nm.val xs) (Nm.val ys))) (Nm.nat (Nat.gcd (Nm.val xs) (Nm.val ys))) true (decide_eq_true rfl)), ?_⟩
          refine List.forall_mem_cons.2 ⟨ob_pick 62 67 68 _ rfl rfl (by first | exact .inl rfl | exact .inr ⟨_, _, _, rfl, rfl, by kernel_rfl, by decide, rfl⟩) (by kernel_rfl) (by kernel_rfl) rfl rfl, ?_⟩
          refine List.forall_mem_cons.2 ⟨ob_copy 68 69 (.inl rfl) rfl (by first | exact .inl rfl | exact .inr ⟨_, _, _, rfl, rfl, by kernel_rfl, by decide, rfl⟩) (by kernel_rfl) rfl, ?_⟩
          refine List.forall_mem_cons.2 ⟨ob_call0 13 70 _ rfl rfl (by first | exact .inl rfl | exact .inr ⟨_, _, _, rfl, rfl, by kernel_rfl, by decide, rfl⟩) (by kernel_rfl) c_awake, ?_⟩
          refine List.forall_mem_cons.2 ⟨ob_pick 69 70 71 _ rfl rfl (by first | exact .inl rfl | exact .inr ⟨_, _, _, rfl, rfl, by kernel_rfl, by decide, rfl⟩) (by kernel_rfl) (by kernel_rfl) rfl rfl, ?_⟩
          refine List.forall_mem_cons.2 ⟨ob_copy 71 6 (.inr rfl) rfl (by first | exact .inl rfl | exact .inr ⟨_, _, _, rfl, rfl, by kernel_rfl, by decide, rfl⟩) (by kernel_rfl) rfl, ?_⟩
          exact fun _ h => absurd h List.not_mem_nil
        · intro a' w' hdef hsz hbs hall hoth hbel
          have hres : a'.tmps.getD 6 undef = .bool true := hall 15 6 rfl
          rename_i hK
          refine hK _ _ ?_
          apply wp_ret
          exact bodyPost_ret (v := .bool true) (by rw [results_tmp (t := 6) rfl, hres]) hdef ⟨rfl, up hb hbel⟩
end Go.Proofs.YtaiceebhifecbaaDoor

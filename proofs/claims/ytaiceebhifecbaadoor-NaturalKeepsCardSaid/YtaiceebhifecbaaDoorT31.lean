/-
  Contract of the reference's Mul. Conditions: numbers of at most 400 digits.
-/
import Derived.Test.YtaiceebhifecbaaDoorT30
namespace Go.Proofs.YtaiceebhifecbaaDoor
open Go.RowKit
namespace Nm
theorem val_set (zs : List Nat) (j s : Nat) (h : j < zs.length) : val (zs.set j s) + 4294967296 ^ j * zs[j] = val zs + 4294967296 ^ j * s := by
  induction zs generalizing j with
  | nil => simp at h
  | cons z zs ih =>
    cases j with
    | zero => simp [val]; omega
    | succ j =>
      have := ih j (by simpa using h)
      simp only [List.set_cons_succ, val, List.getElem_cons_succ, Nat.pow_succ]
      have e := congrArg (fun t => 4294967296 * t) this
      simp only [Nat.mul_add] at e
      rw [Nat.mul_comm (4294967296 ^ j) 4294967296, Nat.mul_assoc, Nat.mul_assoc]
      omega
/-- One digit of a row of the product. -/
theorem mul_digit {ps qs : List Nat} {j k t o x y p s V : Nat} (hj : j = k + t) (h : j < qs.length) (hp : qs[j] = p) (hs : s = x * y + p + o) (hv : val qs + 4294967296 ^ j * o = val ps + 4294967296 ^ k * (x * V)) :
    val (qs.set j (s % 4294967296)) + 4294967296 ^ (j + 1) * (s / 4294967296) = val ps + 4294967296 ^ k * (x * (V + 4294967296 ^ t * y)) := by
  have h1 := val_set qs j (s % 4294967296) h
  rw [hp] at h1
  have h2 : s % 4294967296 + 4294967296 * (s / 4294967296) = x * y + p + o := by omega
  have h3 := congrArg (fun u => 4294967296 ^ j * u) h2
  have h4 : 4294967296 ^ k * (x * (4294967296 ^ t * y)) = 4294967296 ^ j * (x * y) := by
    rw [hj, Nat.pow_add, Nat.mul_left_comm x, Nat.mul_assoc]
  simp only [Nat.mul_add] at h3 ⊢
  rw [Nat.pow_succ, Nat.mul_assoc]
  omega
end Nm
/-- The outer loop of Mul: k digits of the first factor are done. -/
def RMulRel (G m n : Nat) (X Y : List Nat) (W : World) (iv : Value) (wr : World) : Prop :=
  ∃ (k : Nat) (ps : List Nat), k ≤ m ∧ iv = .int .i64 (k : Int) ∧ Hid (ps.length = m + n) ∧ Nm.Dig ps ∧ Hid (∀ j, k + n ≤ j → j < m + n → ps[j]? = some 0) ∧ Hid (Nm.val ps = Nm.val (X.take k) * Nm.val Y) ∧ Own wr G 0 ps ∧ Below W.heap.size W wr
/-- The inner loop: t digits of the second factor are done. -/
def RInRel (G k m n x : Nat) (ps Y : List Nat) (W : World) (cv tv : Value) (wr : World) : Prop :=
  ∃ (t o : Nat) (qs : List Nat), t ≤ n ∧ cv = .int .u64 (o : Int) ∧ o < 4294967296 ∧ tv = .int .i64 (t : Int) ∧ Hid (qs.length = m + n) ∧ Nm.Dig qs ∧ Hid (∀ j, k + t ≤ j → qs[j]? = ps[j]?) ∧ Hid (Nm.val qs + 4294967296 ^ (k + t) * o = Nm.val ps + 4294967296 ^ k * (x * Nm.val (Y.take t))) ∧ Own wr G 0 qs ∧ Below W.heap.size W wr
set_option maxRecDepth 100000 in
set_option maxHeartbeats 1000000 in
theorem refMul_n {w : World} {A B : Option Addr} {n m c d : Nat} {xs ys : List Nat} (hx : Num w A n c xs) (hy : Num w B m d ys) (zs : List Nat) (hr : Nm.nat (Nm.val xs * Nm.val ys) = zs) :
    Calls Tryd.prog 22 #[nt A n c, nt B m d] w fun e w' => ∃ A' c', e = .returned (nt A' zs.length c') ∧ zs.length ≤ c' ∧ Fr w.heap.size w' A' zs ∧ Below w.heap.size w w' := by
  subst hr
  obtain ⟨W, hW, hWs, hW0, hW1, hW2, hWf, hWb⟩ := three_cells w (Value.slice A n c) (Value.slice B m d) (Value.slice none 0 0) 24
  have rX := hx.rd.below hWb
  have rY := hy.rd.below hWb
  have lX := Lib.hid hx.len
  have lY := Lib.hid hy.len
  have s1 := hx.small
  have s2 := hy.small
  have dX := hx.dig
  have dY := hy.dig
  have HWs := Lib.hid hWs
  have hmk := fun W => make32 (n + m) (n + m) (Nat.le_refl _) (by omega) ((n : Int) + (m : Int)) ((n : Int) + (m : Int)) (by omega) (by omega) W
  clear hx hy hWs
  go_enter Tryd.func22, Tryd.ntmps22
  go_wp2_with fail
  have hbase : Below W.heap.size W (W.alloc (Obj.cells (madeCells #[Value.int IntKind.u32 0] (n + m)) 35)) := one _ _
  go_loopw [6] (fun iv wr => RMulRel W.heap.size n m xs ys W iv wr) (fun i _ => n - (intOf i).toNat)
  case atStart => exact ⟨0, List.replicate (n + m) 0, Nat.zero_le _, rfl, by show _ = _; simp, Nm.dig_replicate _, fun j _ hj => by rw [List.getElem?_replicate, if_pos hj], by show _ = _; rw [Nm.val_replicate]; simp [Nm.val], own_made W (n + m), hbase⟩
  case round =>
    obtain ⟨k, ps, hk, rfl, hl, hpd, hz, hv, hown, hb⟩ := hrel
    obtain ⟨k1, k2⟩ := seen hb
    have kx : wr.cell? ⟨w.heap.size, 0, none⟩ = some (.slice A n c) := (k1 _ _ (by rw [HWs.out]; omega)).trans hW0
    have ky : wr.cell? ⟨w.heap.size + 1, 0, none⟩ = some (.slice B m d) := (k1 _ _ (by rw [HWs.out]; omega)).trans hW1
    by_cases hlt : k < n
    · have hkX : k < xs.length := by rw [lX.out]; exact hlt
      obtain ⟨x, hx⟩ : ∃ x, xs[k] = x := ⟨_, rfl⟩
      have hxlt : x < 4294967296 := by rw [← hx]; exact dX.at_ hkX
      have Hx := Lib.hid hx
      clear hx k1 k2
      go_wp2_with fail
      go_loopw [7, 8] (fun cv tv wr2 => RInRel W.heap.size k n m x ps ys W cv tv wr2) (fun _ t _ => m - (intOf t).toNat)
      case atStart => exact ⟨0, 0, ps, Nat.zero_le _, rfl, by omega, rfl, hl, hpd, fun _ _ => rfl, by show _ = _; simp [Nm.val], hown, hb⟩
      case round =>
        obtain ⟨t, o, qs, ht, rfl, ho, rfl, hl2, hqd, hsame, hv2, hown2, hb2⟩ := hrel
        obtain ⟨k1, k2⟩ := seen hb2
        have kx2 : wr.cell? ⟨w.heap.size, 0, none⟩ = some (.slice A n c) := (k1 _ _ (by rw [HWs.out]; omega)).trans hW0
        have ky2 : wr.cell? ⟨w.heap.size + 1, 0, none⟩ = some (.slice B m d) := (k1 _ _ (by rw [HWs.out]; omega)).trans hW1
        clear k1 k2 kx ky
        by_cases htl : t < m
        · have hkt : k + t < qs.length := by rw [hl2.out]; omega
          have htY : t < ys.length := by rw [lY.out]; exact htl
          have c3 := hown2.1 (k + t) hkt
          have f3 := hown2.2 (k + t) hkt
          rw [Nat.zero_add] at c3 f3
          obtain ⟨q, hq⟩ : ∃ q, qs[k + t] = q := ⟨_, rfl⟩
          rw [hq] at c3
          have hqlt : q < 4294967296 := by rw [← hq]; exact hqd.at_ hkt
          obtain ⟨g1, off1, hA, hr1⟩ := (rX.below hb2).at_ hkX
          have c1 := hr1 k hkX
          rw [Hx.out] at c1
          obtain ⟨g2, off2, hB, hr2⟩ := (rY.below hb2).at_ htY
          have c2 := hr2 t htY
          obtain ⟨y, hy⟩ : ∃ y, ys[t] = y := ⟨_, rfl⟩
          rw [hy] at c2
          have hylt : y < 4294967296 := by rw [← hy]; exact dY.at_ htY
          have hple := prod_le hxlt hylt
          obtain ⟨p, hp⟩ : ∃ p, x * y = p := ⟨_, rfl⟩
          rw [hp] at hple
          have hpi : (x : Int) * (y : Int) = (p : Int) := by rw [← hp]; simp
          have hval := Nm.mul_digit (s := p + q + o) rfl hkt hq (by rw [hp]) hv2.out
          have htk : Nm.val (ys.take (t + 1)) = Nm.val (ys.take t) + 4294967296 ^ t * y := by rw [Nm.val_take_succ ys t htY, hy]
          rw [← htk] at hval
          have Hval := Lib.hid hval
          have hix := fun V => index32 V W.heap.size 0 (n + m) (n + m) (k + t) ((k : Int) + (t : Int)) (by omega) (by omega)
          subst hA
          subst hB
          clear hr1 hr2 hq hy hp hval htk
          go_wp2_with fail
          go_quiet (fail)
          go_wp2_with fail
          have hmod : ((p : Int) + (q : Int) + (o : Int)) % 4294967296 = (((p + q + o) % 4294967296 : Nat) : Int) := by simp
          rw [hmod]
          refine ⟨⟨t + 1, (p + q + o) / 4294967296, qs.set (k + t) ((p + q + o) % 4294967296), by omega, by go_num, by omega, by go_num, ?_, hqd.set _ (by omega), fun j hj => ?_, Hval.out, ?_, ?_⟩, by simp [intOf]; omega⟩
          · show _ = _
            rw [List.length_set]; exact hl2.out
          · rw [List.getElem?_set_ne (by omega)]
            exact hsame.out j (by omega)
          · have := (show Own (wr.drewN nq) W.heap.size 0 qs from hown2).set (k + t) ((p + q + o) % 4294967296)
            rwa [Nat.zero_add] at this
          · exact (below_drewN hb2 nq).setCell (Nat.le_refl _) _
        · have htm : t = m := by omega
          have hkm : k + m < qs.length := by rw [hl2.out]; omega
          have c3 := hown2.1 (k + m) hkm
          have f3 := hown2.2 (k + m) hkm
          rw [Nat.zero_add] at c3 f3
          have hq0 : qs[k + m] = 0 := by
            have h1 := hsame.out (k + m) (by omega)
            rw [hz.out (k + m) (by omega) (by omega), List.getElem?_eq_getElem hkm] at h1
            exact Option.some.inj h1
          have hval : Nm.val (qs.set (k + m) o) = Nm.val (xs.take (k + 1)) * Nm.val ys := by
            have h1 := Nm.val_set qs (k + m) o hkm
            rw [hq0, Nat.mul_zero, Nat.add_zero] at h1
            have h2 := hv2.out
            rw [htm, List.take_of_length_le (by rw [lY.out]; exact Nat.le_refl _)] at h2
            rw [h1, h2, hv.out, Nm.val_take_succ xs k hkX, Hx.out, Nat.add_mul, Nat.mul_assoc]
          rw [hq0] at c3
          have Hval := Lib.hid hval
          have Htm := Lib.hid htm
          have hix := fun V => index32 V W.heap.size 0 (n + m) (n + m) (k + m) ((k : Int) + (m : Int)) (by omega) (by omega)
          clear hq0 hval htm
          go_wp2_with fail
          refine ⟨⟨k + 1, qs.set (k + m) o, by omega, by go_num, ?_, hqd.set _ ho, fun j h1 h2 => ?_, Hval.out, ?_, hb2.setCell (Nat.le_refl _) _⟩, by simp [intOf]; omega⟩
          · show _ = _
            rw [List.length_set]; exact hl2.out
          · rw [List.getElem?_set_ne (by omega), hsame.out j (by have := Htm.out; omega)]
            exact hz.out j (by omega) h2
          · have := hown2.set (k + m) o
            rwa [Nat.zero_add] at this
    · have hkk : k = n := by omega
      have hval : Nm.nat (Nm.val ps) = Nm.nat (Nm.val xs * Nm.val ys) := by
        have h1 := hv.out
        rw [hkk, List.take_of_length_le (Nat.le_of_eq lX.out)] at h1
        rw [h1]
      have Hval := Lib.hid hval
      clear hkk hval k1 k2
      go_wp2_with fail
      refine (refTrim_n (.inr ⟨_, _, rfl, hown.1⟩) hl.out (by omega) hpd Hval.out).mono ?_
      rintro e w5 ⟨A5, c5, rfl, hc5, hf5, hb5⟩
      have hb5' : Below W.heap.size W w5 := up hb hb5
      obtain ⟨k1, k2⟩ := seen hb5'
      have hcr : w5.cell? ⟨w.heap.size + 1 + 1, 0, none⟩ = some (.slice none 0 0) := (k1 _ _ (by rw [HWs.out]; omega)).trans hW2
      have hfr : w5.frozen? ⟨w.heap.size + 1 + 1, 0, none⟩ = false := (k2 _ _ (by rw [HWs.out]; omega)).trans hWf
      have hsz : w.heap.size ≤ wr.heap.size := Nat.le_trans hWb.size hb.size
      clear k1 k2 hW hW0 hW1 hW2 hWf
      go_wp2_with fail
      refine bodyPost_ret (v := nt A5 (Nm.nat (Nm.val xs * Nm.val ys)).length c5) (by simp [results, Tryd.results22, go_sem, hcr]) rfl ⟨_, _, rfl, hc5, ?_, ?_⟩
      · exact (hf5.mono hsz).setCell hcr (by simp)
      · exact (up hWb hb5').setCell (by show w.heap.size ≤ w.heap.size + 1 + 1; omega) _
end Go.Proofs.YtaiceebhifecbaaDoor

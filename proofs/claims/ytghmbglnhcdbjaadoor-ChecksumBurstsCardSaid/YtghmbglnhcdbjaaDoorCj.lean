/-
  A burst of bits in a string.
-/
import Derived.Test.YtghmbglnhcdbjaaDoorCh
namespace Go.Proofs.YtghmbglnhcdbjaaDoor
open Go.RowKit
set_option maxRecDepth 100000 in
theorem place_any (k : Int) (n : Nat) (w : World) (hn : 1 ≤ n) (hn2 : n ≤ 9000000000000000) :
    Calls Tryd.prog 19 #[.int .i64 k, .int .i64 (n : Int)] w (Is (.int .i64 (((IntKind.u64.wrap k).toNat % n : Nat) : Int)) w) := by
  obtain ⟨u, hu⟩ : ∃ u : Nat, IntKind.u64.wrap k = (u : Int) := ⟨(IntKind.u64.wrap k).toNat, by rw [IntKind.wrap_u64]; omega⟩
  obtain ⟨r, hr⟩ : ∃ r, u % n = r := ⟨_, rfl⟩
  have hr2 : r < n := by rw [← hr]; exact Nat.mod_lt _ hn
  have k1 : (u : Int).tmod (n : Int) = (r : Int) := by rw [← hr]; rfl
  have k2 : wrap64 (r : Int) = (r : Int) := by unfold wrap64; omega
  rw [hu, Int.toNat_natCast, hr]
  clear hr
  go_enter Tryd.func19, Tryd.ntmps19
  go_wp2_with fail
  go_ret
  exact ret_is rfl
/-- One step of a burst: the bytes, and the bits that were inverted. -/
def flipStep (a q : Nat) (s : List UInt8 × Nat) (i : Nat) : List UInt8 × Nat :=
  if q / 2 ^ i % 2 = 1 ∧ a + i < 8 * s.1.length then (s.1.set ((a + i) / 8) (s.1.getD ((a + i) / 8) 0 ^^^ UInt8.ofNat (2 ^ ((a + i) % 8))), s.2 + 2 ^ i) else s
def flips (l : List UInt8) (a q : Nat) : Nat → List UInt8 × Nat
  | 0 => (l, 0)
  | n + 1 => flipStep a q (flips l a q n) n
theorem low_or {b i : Nat} (h : b < 2 ^ i) (y : Nat) : b + 2 ^ i * y = b ^^^ 2 ^ i * y := by
  have e1 : (b ^^^ 2 ^ i * y) % 2 ^ i = b := by
    rw [Nat.xor_mod_two_pow, Nat.mul_mod_right, Nat.xor_zero]
    exact Nat.mod_eq_of_lt h
  have e2 : (b ^^^ 2 ^ i * y) / 2 ^ i = y := by
    have := Nat.shiftRight_xor_distrib (a := b) (b := 2 ^ i * y) (i := i)
    simp only [Nat.shiftRight_eq_div_pow] at this
    rw [this, Nat.div_eq_of_lt h, Nat.mul_div_cancel_left _ (Nat.two_pow_pos i), Nat.zero_xor]
  have := Nat.div_add_mod (b ^^^ 2 ^ i * y) (2 ^ i)
  rw [e1, e2] at this
  rw [Nat.add_comm]
  exact this
theorem flips_facts (l : List UInt8) (a q : Nat) : ∀ n, (flips l a q n).1.length = l.length ∧ (flips l a q n).2 < 2 ^ n ∧ num (flips l a q n).1 = num l ^^^ 2 ^ a * (flips l a q n).2 := by
  intro n
  induction n with
  | zero => exact ⟨rfl, Nat.one_pos, by simp [flips]⟩
  | succ n ih =>
    obtain ⟨h1, h2, h3⟩ := ih
    obtain ⟨s, hs⟩ : ∃ s, flips l a q n = s := ⟨_, rfl⟩
    rw [hs] at h1 h2 h3
    have e : flips l a q (n + 1) = flipStep a q s n := by rw [← hs]; rfl
    rw [e]
    clear hs e
    unfold flipStep
    by_cases hc : q / 2 ^ n % 2 = 1 ∧ a + n < 8 * s.1.length
    · rw [if_pos hc]
      refine ⟨by simpa using h1, by rw [Nat.pow_succ]; show s.2 + 2 ^ n < _; omega, ?_⟩
      have hj : (a + n) / 8 < s.1.length := by omega
      have hg : s.1[(a + n) / 8]? = some (s.1.getD ((a + n) / 8) 0) := by
        rw [List.getD_eq_getElem?_getD, List.getElem?_eq_getElem hj]; rfl
      show num (s.1.set ((a + n) / 8) (s.1.getD ((a + n) / 8) 0 ^^^ UInt8.ofNat (2 ^ ((a + n) % 8)))) = num l ^^^ 2 ^ a * (s.2 + 2 ^ n)
      rw [num_set _ _ _ _ hg, h3]
      have e1 : (UInt8.ofNat (2 ^ ((a + n) % 8))).toNat = 2 ^ ((a + n) % 8) := by
        rw [UInt8.toNat_ofNat']
        exact Nat.mod_eq_of_lt (Nat.pow_lt_pow_right (by decide) (Nat.mod_lt _ (by decide)) : 2 ^ ((a + n) % 8) < 2 ^ 8)
      have e2 : 256 ^ ((a + n) / 8) * 2 ^ ((a + n) % 8) = 2 ^ a * 2 ^ n := by
        rw [show (256 : Nat) = 2 ^ 8 from rfl, ← Nat.pow_mul, ← Nat.pow_add, ← Nat.pow_add]
        congr 1
        omega
      rw [e1, e2, Nat.xor_assoc]
      congr 1
      have e3 : s.2 + 2 ^ n = s.2 ^^^ 2 ^ n := by
        have := low_or h2 1
        simpa using this
      rw [e3]
      have e4 := Nat.shiftLeft_xor_distrib (a := s.2) (b := 2 ^ n) (i := a)
      simp only [Nat.shiftLeft_eq] at e4
      rw [Nat.mul_comm (2 ^ a) (_ ^^^ _), e4, Nat.mul_comm (2 ^ a), Nat.mul_comm (2 ^ a)]
    · rw [if_neg hc]
      exact ⟨h1, by rw [Nat.pow_succ]; omega, h3⟩
/-- The block g holds these bytes, and they may be written. -/
structure By (w : World) (g : Nat) (m : List UInt8) : Prop where
  cell : ∀ j (h : j < m.length), w.cell? ⟨g, j, none⟩ = some (.int .u8 (m[j].toNat : Int))
  froz : ∀ j, j < m.length → w.frozen? ⟨g, j, none⟩ = false
theorem By.set {w : World} {g : Nat} {m : List UInt8} (h : By w g m) (j : Nat) (b : UInt8) (hj : j < m.length) : By (w.setCell ⟨g, j, none⟩ (.int .u8 (b.toNat : Int))) g (m.set j b) := by
  refine ⟨fun k hk => ?_, fun k hk => by rw [World.frozen?_setCell]; exact h.froz k (by simpa using hk)⟩
  rw [List.length_set] at hk
  by_cases e : j = k
  · subst e
    rw [World.cell?_setCell_same _ _ _ (h.cell j hj)]
    simp
  · rw [World.cell?_setCell_other _ _ _ _ (by intro h; cases h; exact e rfl), h.cell k hk]
    simp [e]
set_option maxRecDepth 100000 in
set_option maxHeartbeats 1000000 in
theorem flipped_any (l : List UInt8) (a q : Nat) (w : World) (hs : l.length ≤ 140737488355328) (ha : a < 8 * l.length) :
    Calls Tryd.prog 18 #[.string (bs l), .int .i64 (a : Int), .int .u32 (q : Int)] w (Ib (.tuple #[.string (bs (flips l a q 32).1), .bool (decide ((flips l a q 32).2 ≠ 0))]) w) := by
  have hsz : (bs l).size = l.length := rfl
  have hcv := run_bytes_of_string (P := Tryd.prog) w 9 28 5 (bs l) Tryd.underlying9 Tryd.underlying28 Tryd.underlying5
  obtain ⟨C, hC⟩ : ∃ C, grownCap w (bs l).size 0 5 = C := ⟨_, rfl⟩
  obtain ⟨R, hR⟩ : ∃ R, bytesRow (bs l) C = R := ⟨_, rfl⟩
  rw [hC, hR, hsz] at hcv
  have hW0 : By (w.drew.alloc (.cells R 5 (R.size, R.size + 1))) w.heap.size l := by
    have hg : (w.drew.alloc (.cells R 5 (R.size, R.size + 1))).heap[w.heap.size]? = some (.cells R 5 (R.size, R.size + 1)) := heap_alloc_new w.drew _
    have hl : l.length ≤ R.size := by rw [← hR]; simp [bytesRow, bs]
    refine ⟨fun j h => ?_, fun j h => ?_⟩
    · simp only [World.cell?, hg]
      have : R[j]? = some (.int .u8 (l[j].toNat : Int)) := by
        rw [← hR, bytesRow, Array.getElem?_append_left (by simpa [bs] using h)]
        simp [bs, h]
      simpa using this
    · simp only [World.frozen?, hg]
      simp; omega
  have hb0 : Below w.heap.size w (w.drew.alloc (.cells R 5 (R.size, R.size + 1))) := ((Below.refl _ w).drew).alloc (Nat.le_refl _) _
  generalize w.drew.alloc (.cells R 5 (R.size, R.size + 1)) = W0 at hcv hW0 hb0
  clear hC hR
  go_enter Tryd.func18, Tryd.ntmps18
  go_wp2_with fail
  go_loopw [9, 10] (fun s i wr => ∃ k : Nat, k ≤ 32 ∧ i = .int .i64 (k : Int) ∧ s = .bool (decide ((flips l a q k).2 ≠ 0)) ∧ By wr w.heap.size (flips l a q k).1 ∧ Below w.heap.size w wr) (fun _ i _ => 32 - (intOf i).toNat)
  case atStart => exact ⟨0, by omega, rfl, rfl, hW0, hb0⟩
  case round =>
    obtain ⟨k, hk, rfl, rfl, hW, hb⟩ := hrel
    clear hW0 hb0 hcv
    obtain ⟨hl, hq2, -⟩ := flips_facts l a q k
    by_cases hlt : k < 32
    · obtain ⟨m, hm⟩ : ∃ m, (flips l a q k).1 = m := ⟨_, rfl⟩
      obtain ⟨z, hz⟩ : ∃ z, (flips l a q k).2 = z := ⟨_, rfl⟩
      obtain ⟨p, hp⟩ : ∃ p, q / 2 ^ k = p := ⟨_, rfl⟩
      have k0 : (q : Int) / 2 ^ k = (p : Int) := by rw [← hp]; simp
      obtain ⟨s, hs1⟩ : ∃ s, a + k = s := ⟨_, rfl⟩
      have k1 : (a : Int) + (k : Int) = (s : Int) := by omega
      have hstep : flips l a q (k + 1) = if p % 2 = 1 ∧ s < 8 * m.length then (m.set (s / 8) (m.getD (s / 8) 0 ^^^ UInt8.ofNat (2 ^ (s % 8))), z + 2 ^ k) else flips l a q k := by
        show flipStep a q (flips l a q k) k = _
        unfold flipStep
        rw [hp, hs1, hm, hz]
      rw [hm] at hl hW
      rw [hz]
      by_cases d : p % 2 = 1
      · have d1 : ((p : Int) % 2 == 1) = true := by simp; omega
        by_cases hs8 : s < 8 * l.length
        · rw [if_pos ⟨d, by omega⟩] at hstep
          obtain ⟨j, hj⟩ : ∃ j, s / 8 = j := ⟨_, rfl⟩
          obtain ⟨r, hr⟩ : ∃ r, s % 8 = r := ⟨_, rfl⟩
          have k2 : (s : Int) / 8 = (j : Int) := by omega
          have k3 : (s : Int) % 8 = (r : Int) := by omega
          have hjl : j < m.length := by omega
          have hr8 : r < 8 := by omega
          have hd8 : decide ((s : Int) < 8 * (l.length : Int)) = true := by simp; omega
          have hc := hW.cell j hjl
          have hz1 := hW.froz j hjl
          obtain ⟨b, hb2⟩ : ∃ b, m[j].toNat = b := ⟨_, rfl⟩
          have hb3 : b < 256 := by rw [← hb2]; exact m[j].toNat_lt
          have hr9 : 2 ^ r < 256 := (Nat.pow_lt_pow_right (by decide) hr8 : 2 ^ r < 2 ^ 8)
          obtain ⟨nb, hnb⟩ : ∃ nb : UInt8, m[j] ^^^ UInt8.ofNat (2 ^ r) = nb := ⟨_, rfl⟩
          have k4 : bits BinOp.xor IntKind.u8 (b : Int) (2 ^ r % 256) = (nb.toNat : Int) := by
            have h5 : ((2 : Int) ^ r % 256) = ((2 ^ r : Nat) : Int) := by
              have h6 : (2 : Int) ^ r = ((2 ^ r : Nat) : Int) := by simp
              obtain ⟨y, hy⟩ : ∃ y, 2 ^ r = y := ⟨_, rfl⟩
              rw [h6, hy]
              rw [hy] at hr9
              omega
            rw [h5, u8_xor_nat _ _ hb3 hr9, ← hnb, UInt8.toNat_xor, hb2, UInt8.toNat_ofNat', Nat.mod_eq_of_lt hr9]
          have hB := hW.set j nb hjl
          have hS : flips l a q (k + 1) = (m.set j nb, z + 2 ^ k) := by
            rw [hstep, hj, hr, List.getD_eq_getElem?_getD, List.getElem?_eq_getElem hjl]
            show (m.set j (m[j] ^^^ UInt8.ofNat (2 ^ r)), _) = _
            rw [hnb]
          rw [hb2] at hc
          have hne : z + 2 ^ k ≠ 0 := Nat.ne_of_gt (Nat.add_pos_right _ (Nat.two_pow_pos k))
          clear d hp hs1 hstep hj hr hr9 hnb
          go_wp2_with fail
          go_roundw
          case rel => exact ⟨k + 1, by omega, by go_num, by rw [hS]; simp, by rw [hS]; exact hB, hb.setCell (Nat.le_refl _) _⟩
          case measure => simp [intOf]; omega
        · rw [if_neg (by omega)] at hstep
          have hd8 : decide ((s : Int) < 8 * (l.length : Int)) = false := by simp; omega
          have hs9 : s ≤ 2000000000000000 := by omega
          clear d hp hs1
          go_wp2_with fail
          go_roundw
          case rel => exact ⟨k + 1, by omega, by go_num, by rw [hstep]; rw [hz], by rw [hstep, hm]; exact hW, hb⟩
          case measure => simp [intOf]; omega
      · have d1 : ((p : Int) % 2 == 1) = false := by simp; omega
        have hs9 : s ≤ 2000000000000000 := by omega
        rw [if_neg (fun h => d h.1)] at hstep
        clear d hp hs1
        go_wp2_with fail
        go_roundw
        case rel => exact ⟨k + 1, by omega, by go_num, by rw [hstep]; rw [hz], by rw [hstep, hm]; exact hW, hb⟩
        case measure => simp [intOf]; omega
    · obtain rfl : k = 32 := by omega
      have hv := run_convert_bytes_back wr 28 9 5 ⟨w.heap.size, 0, none⟩ C (flips l a q 32).1 Tryd.underlying28 Tryd.underlying5 Tryd.underlying9 (fun j hj => by
        rw [show (⟨w.heap.size, 0, none⟩ : Addr).add j = ⟨w.heap.size, j, none⟩ by simp [Addr.add]; exact Eq.symm]
        exact hW.cell j hj)
      rw [hl, show (⟨(flips l a q 32).1.toArray⟩ : ByteArray) = bs (flips l a q 32).1 from rfl] at hv
      generalize (flips l a q 32).1 = m at *
      generalize (flips l a q 32).2 = z at *
      clear hq2
      go_wp2_with fail
      go_ret2
      exact ⟨rfl, hb⟩
end Go.Proofs.YtghmbglnhcdbjaaDoor

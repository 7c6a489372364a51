/-
  The digits behind the point, and the tables of powers of ten. Condition: the program's table reads as it was laid.
-/
import Derived.Test.YtgfahenhobnjpaaDoorFb
namespace Go.Proofs.YtgfahenhobnjpaaDoor
open Go.RowKit
theorem cellOff {w : World} {p i j : Nat} {v : Value} (h : i ≠ j) : (w.setCell ⟨p, i, none⟩ v).cell? ⟨p, j, none⟩ = w.cell? ⟨p, j, none⟩ := World.cell?_setCell_other _ _ _ _ fun e => h (by injection e)
theorem Lib_tab_below {w w' : World} {name : String} {k : IntKind} {zs : List Int} {g : Nat} (hg : Tryd.prog.globalNamed name = some g) (h : Lib.TabIs Tryd.prog w name k zs) (h0 : 0 < zs.length) (hb : Below w.heap.size w w') : Lib.TabIs Tryd.prog w' name k zs := by
  have hlt : g < w.heap.size := World.block_lt_of_cell? w _ (h.cell hg 0 h0)
  have he := hb.block g hlt
  unfold Lib.TabIs at *
  rw [← h]
  simp only [World.var?, hg, Option.bind_some, he]
/-- The program's own table of powers of ten. -/
def Pw (w : World) : Prop := Lib.TabIs Tryd.prog w "robotics/fixed.powers" .u64 [1, 10, 100, 1000, 10000, 100000]
theorem gPw : Tryd.prog.globalNamed "robotics/fixed.powers" = some 0 := by kernel_rfl
theorem Pw.below {w w' : World} (h : Pw w) (hb : Below w.heap.size w w') : Pw w' := Lib_tab_below gPw h (by decide) hb
theorem gTb : ∃ g, Tryd.prog.globalNamed "internal/strconv.uint64pow10" = some g := Option.isSome_iff_exists.1 (show (Tryd.prog.globalNamed "internal/strconv.uint64pow10").isSome = true by kernel_rfl)
theorem Tb.below {w w' : World} (h : Tb w) (hb : Below w.heap.size w w') : Tb w' := by
  obtain ⟨g, hg⟩ := gTb
  exact Lib_tab_below hg h (by rw [Lib.pow10Tab_length]; decide) hb
theorem Pw.cell {w : World} (h : Pw w) (i : Nat) (hi : i < 6) : w.cell? ⟨0, i, none⟩ = some (.int .u64 ((10 ^ i : Nat) : Int)) := by
  have h1 := Lib.TabIs.cell h gPw i hi
  rw [h1]
  have : i = 0 ∨ i = 1 ∨ i = 2 ∨ i = 3 ∨ i = 4 ∨ i = 5 := by omega
  rcases this with rfl | rfl | rfl | rfl | rfl | rfl <;> rfl
/-- The digits behind the point. -/
def dec5 (m : Nat) : List UInt8 := [UInt8.ofNat (48 + m / 10000 % 10), UInt8.ofNat (48 + m / 1000 % 10), UInt8.ofNat (48 + m / 100 % 10), UInt8.ofNat (48 + m / 10 % 10), UInt8.ofNat (48 + m % 10)]
set_option maxRecDepth 100000 in
set_option maxHeartbeats 4000000 in
theorem decimals_any (n : Nat) (w : World) (hn : n < 65536) (hp : Pw w) :
    Calls Tryd.prog 21 #[.int .u64 (n : Int)] w (Ib (.string ⟨(dec5 (n * 100000 / 65536)).toArray⟩) w) := by
  obtain ⟨a, ha⟩ : ∃ a, n * 100000 = a := ⟨_, rfl⟩
  obtain ⟨m, hm⟩ : ∃ m, a / 65536 = m := ⟨_, rfl⟩
  have hm2 : m < 100000 := by omega
  have k5 : w.cell? ⟨0, 5, none⟩ = some (.int .u64 100000) := hp.cell 5 (by decide)
  have l1 : IntKind.u64.wrap ((n : Int) * 100000) = (a : Int) := by rw [IntKind.wrap_u64]; omega
  have l1b : IntKind.u64.wrap (m : Int) = (m : Int) := by rw [IntKind.wrap_u64]; omega
  have l2 : (a : Int) / 65536 = (m : Int) := by omega
  rw [ha, hm]
  clear ha hm hn
  go_enter Tryd.func21, Tryd.ntmps21
  go_wp2_with fail
  have hlt0 : 0 < w.heap.size := World.block_lt_of_cell? w _ k5
  have HP := Lib.hid hp
  have HM := Lib.hid hm2
  clear k5 l1 l2 l1b hp hm2
  go_loopw [11] (fun i wr => ∃ k : Nat, k ≤ 5 ∧ i = .int .i64 (k : Int) ∧ w.heap.size < wr.heap.size ∧ Hid (Below w.heap.size w wr ∧ (∀ j, j < k → wr.cell? ⟨w.heap.size, j, none⟩ = some (byteV ((dec5 m).getD j 0))) ∧ (∀ j, k ≤ j → j < 5 → wr.cell? ⟨w.heap.size, j, none⟩ = some (.int .u8 0)) ∧ ∀ j, j < 5 → wr.frozen? ⟨w.heap.size, j, none⟩ = false)) (fun i _ => 5 - (intOf i).toNat)
  case atStart =>
    refine ⟨0, by omega, rfl, by simp, Lib.hid ⟨one' _ _, fun j hj => by omega, fun j _ hj => ?_, fun j _ => by simp⟩⟩
    have : j = 0 ∨ j = 1 ∨ j = 2 ∨ j = 3 ∨ j = 4 := by omega
    rcases this with rfl | rfl | rfl | rfl | rfl <;> simp
  case round =>
    obtain ⟨k, hk, rfl, hsz, hI⟩ := hrel
    by_cases hlt : k < 5
    · obtain ⟨j, hj⟩ : ∃ j, 4 - k = j := ⟨_, rfl⟩
      have hj2 : (4 : Int) - (k : Int) = (j : Int) := by omega
      have hj3 : j < 6 := by omega
      obtain ⟨p, hp⟩ : ∃ p, 10 ^ j = p := ⟨_, rfl⟩
      have hp0 : 0 < p := by rw [← hp]; exact Nat.pow_pos (by decide)
      have cP : wr.cell? ⟨0, j, none⟩ = some (.int .u64 (p : Int)) := by rw [← hp]; exact (HP.out.below hI.out.1).cell j hj3
      have cD : wr.cell? ⟨w.heap.size, k, none⟩ = some (.int .u8 0) := hI.out.2.2.1 k (Nat.le_refl _) hlt
      have cF := hI.out.2.2.2 k hlt
      obtain ⟨q, hq⟩ : ∃ q, m / p = q := ⟨_, rfl⟩
      obtain ⟨r, hr⟩ : ∃ r, q % 10 = r := ⟨_, rfl⟩
      obtain ⟨c, hc⟩ : ∃ c, 48 + r = c := ⟨_, rfl⟩
      have hqm : q ≤ m := by rw [← hq]; exact Nat.div_le_self _ _
      have hm2 := HM.out
      have l0 : (m : Int) / (p : Int) = (q : Int) := by rw [← hq, Int.natCast_ediv]
      have l1 : IntKind.u64.wrap (q : Int) = (q : Int) := by rw [IntKind.wrap_u64]; omega
      have l2 : (q : Int) % 10 = (r : Int) := by omega
      have l3 : IntKind.u64.wrap (48 + (r : Int)) = (c : Int) := by rw [show 48 + (r : Int) = (c : Int) by omega, IntKind.wrap_u64]; omega
      have l4 : IntKind.u8.wrap (c : Int) = (c : Int) := by rw [IntKind.wrap_u8']; omega
      have E : (.int .u8 (c : Int)) = byteV ((dec5 m).getD k 0) := by
        have e : (dec5 m).getD k 0 = UInt8.ofNat (48 + m / 10 ^ (4 - k) % 10) := by
          have : k = 0 ∨ k = 1 ∨ k = 2 ∨ k = 3 ∨ k = 4 := by omega
          rcases this with rfl | rfl | rfl | rfl | rfl <;> simp [dec5]
        rw [e, hj, hp, hq, hr, hc]
        show Value.int IntKind.u8 (c : Int) = Value.int IntKind.u8 ((UInt8.ofNat c).toNat : Int)
        rw [UInt8.toNat_ofNat_of_lt' (show c < 256 by omega)]
      have HE := Lib.hid E
      have ne0 : ¬ ((p : Int) = 0) := by omega
      clear E hj hp hq hr hc hm2 hqm hj3
      go_wp2_with fail
      go_roundw
      case rel =>
        refine ⟨k + 1, by omega, by go_num, by simpa using hsz, Lib.hid ⟨hI.out.1.setCell (Nat.le_refl _) _, fun i hi => ?_, fun i h1 h2 => ?_, fun i hi => ?_⟩⟩
        · by_cases hik : i = k
          · subst hik
            rw [World.cell?_setCell_same _ _ _ cD, HE.out]
          · rw [cellOff (Ne.symm hik)]
            exact hI.out.2.1 i (by omega)
        · rw [cellOff (show k ≠ i by omega)]
          exact hI.out.2.2.1 i (by omega) h2
        · simpa using hI.out.2.2.2 i hi
      case measure => simp [intOf]; omega
    · obtain rfl : k = 5 := by omega
      obtain ⟨hB, hc, _, _⟩ := hI.out
      have hsl : (Instr.sliceAt 52 (.pointer (some ⟨w.heap.size, 0, none⟩)) none none none).run Tryd.prog wr = .ok (.slice (some ⟨w.heap.size, 0, none⟩) 5 5) wr := by go_simp
      have hcv : (convert 53 9 (.slice (some ⟨w.heap.size, 0, none⟩) 5 5)).run Tryd.prog wr = .ok (.string ⟨(dec5 m).toArray⟩) wr :=
        run_convert_bytes_back (P := Tryd.prog) wr 53 9 5 ⟨w.heap.size, 0, none⟩ 5 (dec5 m) Tryd.underlying53 Tryd.underlying5 Tryd.underlying9 (fun j hj => by
          have h := hc j hj
          rw [List.getD_eq_getElem?_getD, List.getElem?_eq_getElem hj] at h
          rw [Lib.add_plain, Nat.zero_add]
          exact h)
      have HB := Lib.hid hB
      clear hB hc hI
      go_wp2_with fail
      go_ret
      exact ⟨by rfl, HB.out⟩
end Go.Proofs.YtgfahenhobnjpaaDoor

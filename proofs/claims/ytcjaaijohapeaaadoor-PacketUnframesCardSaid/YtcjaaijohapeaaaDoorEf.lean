/-
  The eight bytes of a number in an array.
-/
import Derived.Test.YtcjaaijohapeaaaDoorEe
namespace Go.Proofs.YtcjaaijohapeaaaDoor
open Go.RowKit
/-- The array of eight bytes, the first k of them written. -/
def arr (l : List UInt8) (k : Nat) : Array Value := ((l.take k ++ List.replicate (8 - k) (0 : UInt8)).map fun (b : UInt8) => Value.int .u8 (b.toNat : Int)).toArray
theorem arr_zero (l : List UInt8) : arr l 0 = #[.int .u8 0, .int .u8 0, .int .u8 0, .int .u8 0, .int .u8 0, .int .u8 0, .int .u8 0, .int .u8 0] := rfl
theorem arr_at (l : List UInt8) (k : Nat) (hl : l.length = 8) (hk : k < 8) : (arr l k)[k]? = some (.int .u8 0) := by
  unfold arr
  simp only [List.getElem?_toArray, List.getElem?_map]
  rw [List.getElem?_append_right (by simp; omega)]
  simp [List.length_take, hl, Nat.min_eq_left (show k ≤ 8 by omega), show 0 < 8 - k by omega]
theorem arr_set (l : List UInt8) (k : Nat) (hl : l.length = 8) (hk : k < 8) : (arr l k).setIfInBounds k (.int .u8 ((l[k]'(by omega)).toNat : Int)) = arr l (k + 1) := by
  unfold arr
  apply Array.ext'
  simp only [Array.toList_setIfInBounds]
  apply List.ext_getElem?
  intro i
  rw [List.getElem?_set]
  simp only [List.getElem?_map, List.length_map]
  by_cases hi : k = i
  · subst hi
    rw [if_pos rfl, if_pos (by simp [hl]; omega), List.getElem?_append_left (by simp [hl]; omega)]
    simp [show k < k + 1 by omega, show k < l.length by omega]
  · rw [if_neg hi]
    congr 1
    by_cases h1 : i < k
    · rw [List.getElem?_append_left (by simp [hl]; omega), List.getElem?_append_left (by simp [hl]; omega)]
      simp [h1, show i < k + 1 by omega]
    · rw [List.getElem?_append_right (by simp; omega), List.getElem?_append_right (by simp; omega)]
      simp only [List.length_take, List.getElem?_replicate, hl]
      rw [Nat.min_eq_left (by omega), Nat.min_eq_left (by omega)]
      by_cases h2 : i < 8
      · rw [if_pos (by omega), if_pos (by omega)]
      · rw [if_neg (by omega), if_neg (by omega)]
theorem le_at (k : Nat) : ∀ (n j : Nat) (h : j < (le k n).length), ((le k n)[j]).toNat = n / 256 ^ j % 256 := by
  induction k with
  | zero => intro n j h; simp [le] at h
  | succ k ih =>
    intro n j h
    cases j with
    | zero => simp [le]
    | succ j =>
      simp only [le, List.getElem_cons_succ]
      rw [ih, Nat.div_div_eq_div_mul, Nat.pow_succ, Nat.mul_comm]
theorem le8 (n : Nat) : ∃ b0 b1 b2 b3 b4 b5 b6 b7, le 8 n = [b0, b1, b2, b3, b4, b5, b6, b7] := ⟨_, _, _, _, _, _, _, _, rfl⟩
/-- Eight bytes as an array's value. -/
def arr8 (l : List UInt8) : Value := .agg (bcells l).toArray
set_option maxRecDepth 100000 in
theorem bytesOf_any (n : Nat) (w : World) :
    Calls Tryd.prog 71 #[.int .u64 (n : Int)] w (Ib (arr8 (le 8 n)) w) := by
  have hl : (le 8 n).length = 8 := le_length 8 n
  go_enter Tryd.func71, Tryd.ntmps71
  go_wp2_with fail
  go_loopw [5] (fun i wr => ∃ k : Nat, k ≤ 8 ∧ i = .int .i64 (k : Int) ∧ wr = (w.alloc (Obj.cells (arr (le 8 n) 0) 136)).alloc (Obj.cells (arr (le 8 n) k) 136)) (fun i _ => 8 - (intOf i).toNat)
  case atStart => exact ⟨0, by omega, rfl, rfl⟩
  case round =>
    obtain ⟨k, hk, rfl, rfl⟩ := hrel
    by_cases hlt : k < 8
    · have hc := arr_at (le 8 n) k hl hlt
      have hs := arr_set (le 8 n) k hl hlt
      rw [le_at, show 256 ^ k = 2 ^ (8 * k) by rw [Nat.pow_mul]] at hs
      simp only [Int.natCast_emod, Int.natCast_ediv, Int.natCast_pow] at hs
      go_wp2_with fail
      go_roundw
      case rel => exact ⟨k + 1, by omega, by go_num, by rw [← hs]; rfl⟩
      case measure => simp [intOf]; omega
    · obtain rfl : k = 8 := by omega
      obtain ⟨b0, b1, b2, b3, b4, b5, b6, b7, hb⟩ := le8 n
      rw [hb, arr_zero, show arr [b0, b1, b2, b3, b4, b5, b6, b7] 8 = #[.int .u8 (b0.toNat : Int), .int .u8 (b1.toNat : Int), .int .u8 (b2.toNat : Int), .int .u8 (b3.toNat : Int), .int .u8 (b4.toNat : Int), .int .u8 (b5.toNat : Int), .int .u8 (b6.toNat : Int), .int .u8 (b7.toNat : Int)] from rfl]
      have HB := Lib.hid hb
      clear hb hl
      go_wp2_with fail
      refine bodyPost_ret (results_cell_row rfl _ _ w.heap.size _ _ _ _ rfl (heap_alloc2_old w _ _) Tryd.underlying136 rfl (by kernel_rfl)) rfl ?_
      exact ⟨by rw [HB.out]; rfl, ((Below.refl _ w).alloc (Nat.le_refl _) _).alloc (by simp) _⟩
end Go.Proofs.YtcjaaijohapeaaaDoor

import Derived.Test.YtlebppjldoodgaaYc
import Derived.Test.YtlebppjldoodgaaSo
/-
  The developers' Compare and Equal: the library's comparisons. No conditions beyond those that each names.
-/
namespace Go.Proofs.Ytlebppjldoodgaa
open Go.RowKit Go.Sort
set_option maxRecDepth 100000 in
theorem cmpInt_any (a b : Int) (w : World) : Calls Try.prog 32 #[.int .i64 a, .int .i64 b] w (Is (.int .i64 (sg a b)) w) := by
  have d0 : (a != a) = false := by simp
  have e0 : (b != b) = false := by simp
  by_cases h1 : a < b
  · have d1 : decide (a < b) = true := decide_eq_true h1
    rw [sg_lt h1]
    clear h1
    go_enter Try.func32, Try.ntmps32
    go_wp2_with (go_in)
    go_ret
    exact ⟨rfl, rfl⟩
  · have d1 : decide (a < b) = false := decide_eq_false h1
    by_cases h2 : b < a
    · have d2 : decide (b < a) = true := decide_eq_true h2
      rw [sg_gt h2]
      clear h1 h2
      go_enter Try.func32, Try.ntmps32
      go_wp2_with (go_in)
      go_ret
      exact ⟨rfl, rfl⟩
    · have d2 : decide (b < a) = false := decide_eq_false h2
      obtain rfl : a = b := by omega
      rw [sg_eq]
      clear h1 h2
      go_enter Try.func32, Try.ntmps32
      go_wp2_with (go_in)
      go_ret
      exact ⟨rfl, rfl⟩
set_option maxRecDepth 100000 in
theorem cmpI64_any (a b : Int) (w : World) : Calls Try.prog 33 #[.int .i64 a, .int .i64 b] w (Is (.int .i64 (sg a b)) w) := by
  have d0 : (a != a) = false := by simp
  have e0 : (b != b) = false := by simp
  by_cases h1 : a < b
  · have d1 : decide (a < b) = true := decide_eq_true h1
    rw [sg_lt h1]
    clear h1
    go_enter Try.func33, Try.ntmps33
    go_wp2_with (go_in)
    go_ret
    exact ⟨rfl, rfl⟩
  · have d1 : decide (a < b) = false := decide_eq_false h1
    by_cases h2 : b < a
    · have d2 : decide (b < a) = true := decide_eq_true h2
      rw [sg_gt h2]
      clear h1 h2
      go_enter Try.func33, Try.ntmps33
      go_wp2_with (go_in)
      go_ret
      exact ⟨rfl, rfl⟩
    · have d2 : decide (b < a) = false := decide_eq_false h2
      obtain rfl : a = b := by omega
      rw [sg_eq]
      clear h1 h2
      go_enter Try.func33, Try.ntmps33
      go_wp2_with (go_in)
      go_ret
      exact ⟨rfl, rfl⟩
theorem bytesLess_ob : ∀ a b : List UInt8, Op.bytesLess a b = decide (ob a b < 0)
  | [], [] => rfl
  | [], _ :: _ => rfl
  | _ :: _, [] => rfl
  | a :: r, b :: q => by
    rw [Op.bytesLess, bytesLess_ob r q, ob]
    rw [Bool.eq_iff_iff]
    simp only [Bool.or_eq_true, Bool.and_eq_true, decide_eq_true_eq, beq_iff_eq, UInt8.lt_iff_toNat_lt, ← UInt8.toNat_inj]
    unfold o1 sg
    split <;> omega
theorem ob_zero : ∀ {a b : List UInt8}, ob a b = 0 ↔ a = b
  | [], [] => by simp [ob]
  | [], _ :: _ => by simp [ob]
  | _ :: _, [] => by simp [ob]
  | a :: r, b :: q => by
    rw [ob, List.cons.injEq, ← ob_zero (a := r) (b := q), ← UInt8.toNat_inj]
    unfold o1 sg
    split <;> omega
theorem ob_in (a b : List UInt8) : ob a b = -1 ∨ ob a b = 0 ∨ ob a b = 1 := by
  induction a generalizing b with
  | nil => cases b <;> simp [ob]
  | cons x r ih =>
    cases b with
    | nil => simp [ob]
    | cons y q =>
      rw [ob]
      unfold o1 sg
      have := ih q
      split <;> omega
set_option maxRecDepth 100000 in
theorem cmpStr_any (a b : List UInt8) (w : World) : Calls Try.prog 34 #[.string (bs a), .string (bs b)] w (Is (.int .i64 (ob a b)) w) := by
  obtain ⟨z, hz⟩ : ∃ z, ob a b = z := ⟨_, rfl⟩
  have f1 : Op.bytesLess (bs a).toList (bs b).toList = decide (z < 0) := by rw [toList_bs, toList_bs, bytesLess_ob, hz]
  have f2 : ((bs a).toList == (bs b).toList) = decide (z = 0) := by rw [toList_bs, toList_bs, Bool.eq_iff_iff, beq_iff_eq, decide_eq_true_eq, ← hz, ob_zero]
  have hin := ob_in a b
  rw [hz] at hin ⊢
  clear hz
  rcases hin with rfl | rfl | rfl
  · have g1 : Op.bytesLess (bs a).toList (bs b).toList = true := f1
    clear f1 f2
    go_enter Try.func34, Try.ntmps34
    go_wp2_with (go_in)
    go_ret
    exact ⟨rfl, rfl⟩
  · have g1 : Op.bytesLess (bs a).toList (bs b).toList = false := f1
    have g2 : (!(bs a).toList == (bs b).toList) = false := by rw [f2]; rfl
    clear f1 f2
    go_enter Try.func34, Try.ntmps34
    go_wp2_with (go_in)
    go_ret
    exact ⟨rfl, rfl⟩
  · have g1 : Op.bytesLess (bs a).toList (bs b).toList = false := f1
    have g2 : (!(bs a).toList == (bs b).toList) = true := by rw [f2]; rfl
    clear f1 f2
    go_enter Try.func34, Try.ntmps34
    go_wp2_with (go_in)
    go_ret
    exact ⟨rfl, rfl⟩
end Go.Proofs.Ytlebppjldoodgaa

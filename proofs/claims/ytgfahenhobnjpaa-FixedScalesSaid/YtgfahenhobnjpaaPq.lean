/-
  Contracts of distances and of the points of the laws. No conditions but those stated.
-/
import Derived.Test.YtgfahenhobnjpaaPp
namespace Go.Proofs.Ytgfahenhobnjpaa
open Go.RowKit
theorem distance_any (a b c d : Int) (w : World) (h1 : -4194304 ≤ a - c) (h2 : a - c ≤ 4194304) (h3 : -4194304 ≤ b - d) (h4 : b - d ≤ 4194304) :
    Calls Try.prog 20 #[pt a b, pt c d] w (Ib (.int .i64 (rootI (sqI (a - c) (b - d)))) w) := by
  have s := fun w => sub_any a b c d (a - c) (b - d) w (wrap64_in (by omega) (by omega)) (wrap64_in (by omega) (by omega))
  have l := fun w => length_any (a - c) (b - d) w h1 h2 h3 h4
  generalize rootI (sqI (a - c) (b - d)) = r at *
  generalize a - c = x at *
  generalize b - d = y at *
  go_enter Try.func20, Try.ntmps20
  go_wp2_with (first | (go_at_call 23; refine (s _).mono ?_; rintro e w' ⟨rfl, hb⟩) | (go_at_call 21; refine (l _).mono ?_; rintro e w'' ⟨rfl, hb2⟩))
  go_ret
  exact ⟨by rfl, up' (up' (up' (one' _ _) (one' _ _)) hb) hb2⟩
theorem refDistance_any (a b c d : Int) (w : World) (h1 : -4194304 ≤ a - c) (h2 : a - c ≤ 4194304) (h3 : -4194304 ≤ b - d) (h4 : b - d ≤ 4194304) :
    Calls Try.prog 27 #[pt a b, pt c d] w (Ib (.int .i64 (rootI (sqI (a - c) (b - d)))) w) := by
  have s := fun w => refSub_any a b c d (a - c) (b - d) w (wrap64_in (by omega) (by omega)) (wrap64_in (by omega) (by omega))
  have l := fun w => refLength_any (a - c) (b - d) w h1 h2 h3 h4
  generalize rootI (sqI (a - c) (b - d)) = r at *
  generalize a - c = x at *
  generalize b - d = y at *
  go_enter Try.func27, Try.ntmps27
  go_wp2_with (first | (go_at_call 26; refine (s _).mono ?_; rintro e w' ⟨rfl, hb⟩) | (go_at_call 28; refine (l _).mono ?_; rintro e w'' ⟨rfl, hb2⟩))
  go_ret
  exact ⟨by rfl, up' (up' (up' (one' _ _) (one' _ _)) hb) hb2⟩
theorem point_any (x y : Int) (w : World) (h1 : -2147483648 ≤ x) (h2 : x ≤ 2147483647) (h3 : -2147483648 ≤ y) (h4 : y ≤ 2147483647) :
    Calls Try.prog 16 #[.int .i32 x, .int .i32 y] w (Ib (pt (x.tmod 1048577) (y.tmod 1048577)) w) := by
  go_enter Try.func16, Try.ntmps16
  go_wp2_with fail
  exact bodyPost_ret (v := pt (x.tmod 1048577) (y.tmod 1048577)) (by simp [results, Try.results16, go_sem]) rfl ⟨rfl, one' _ _⟩
theorem far_any (x y : Int) (w : World) (h1 : -2147483648 ≤ x) (h2 : x ≤ 2147483647) (h3 : -2147483648 ≤ y) (h4 : y ≤ 2147483647) :
    Calls Try.prog 24 #[.int .i32 x, .int .i32 y] w (Ib (pt (x * 512) (y * 512)) w) := by
  go_enter Try.func24, Try.ntmps24
  go_wp2_with fail
  exact bodyPost_ret (v := pt (x * 512) (y * 512)) (by simp [results, Try.results24, go_sem]) rfl ⟨rfl, one' _ _⟩
theorem tmod_in (x : Int) : -1048576 ≤ x.tmod 1048577 ∧ x.tmod 1048577 ≤ 1048576 := by
  have h1 := Int.tmod_lt_of_pos x (show (0 : Int) < 1048577 by omega)
  rcases Int.le_total 0 x with h | h
  · have := Int.tmod_nonneg 1048577 h; omega
  · have h2 := Int.neg_tmod (-x) 1048577
    rw [Int.neg_neg] at h2
    have h3 := Int.tmod_lt_of_pos (-x) (show (0 : Int) < 1048577 by omega)
    have h4 := Int.tmod_nonneg (a := -x) 1048577 (by omega)
    omega
end Go.Proofs.Ytgfahenhobnjpaa

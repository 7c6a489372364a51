/-
  The contract of the reference's Parse, continued: nothing follows the digits.
-/
import Derived.Test.YtgfahenhobnjpaaDoorFj
namespace Go.Proofs.YtgfahenhobnjpaaDoor
open Go.RowKit
set_option maxRecDepth 100000 in
set_option maxHeartbeats 1000000 in
theorem refParse_whole (s : ByteArray) (w : World) (i n X : Nat) (hs : s.size ≤ 9223372036854775807) (h0 : s.toList ≠ []) (hi : sg (neg45 s.data.toList) = i) (hn0 : runN s.data.toList i = n)
    (n1 : 1 ≤ n) (n2 : n ≤ 10) (hq0 : n = 1 ∨ (1 < n ∧ ∀ h : i < s.size, (s[i].toNat : Int) ≠ 48)) (hend : i + n = s.size) (hX : numB ((s.data.toList.drop i).takeWhile isDg) * 65536 = X) :
    Calls Tryd.prog 5 #[.string s] w (Is (if 140737488355328 < X then .tuple #[.int .i64 0, .int .i64 4] else .tuple #[.int .i64 (sgn (neg45 s.data.toList) (min X 140737488355328)), .int .i64 0]) w) := by
  have h2 : s.toList.isEmpty = false := by cases hh : s.toList with | nil => exact absurd hh h0 | cons a b => rfl
  have hz : 0 < s.size := by omega
  have hb := head_neg s hz
  have cR := fun w => run_any s i w (by omega) hs
  have cX := fun w => refNum_run s i w (by omega)
  have bx : numB ((s.data.toList.drop i).takeWhile isDg) < 10000000000 := Nat.lt_of_lt_of_le (numB_lt _ (take_all _)) (Nat.pow_le_pow_right (n := 10) (by decide) (by show runN s.data.toList i ≤ 10; omega))
  rw [hn0] at cR cX
  generalize numB ((s.data.toList.drop i).takeWhile isDg) = x at *
  have cS := fun w => refSigned_any (neg45 s.data.toList) X w (by omega)
  clear hn0
  subst hi
  generalize neg45 s.data.toList = b at *
  cases b
  · have hn : sg false + n = n := by simp [sg]
    rw [hn] at cX hend
    have hq : n < 2 ∨ (1 < n ∧ ((s[0].toNat : Int) == 48) = false) := hq0.imp (fun h => by omega) fun h => ⟨h.1, beq_eq_false_iff_ne.2 (h.2 hz)⟩
    have cX : ∀ w, Calls Tryd.prog 17 #[.string (s.extract 0 n)] w (Is (.int .u64 (x : Int)) w) := cX
    have hlt : ¬ ((n : Int) < (s.size : Int)) := by omega
    have hle : (n : Int) ≤ (s.size : Int) := by omega
    have l4 : IntKind.u64.wrap ((x : Int) * 65536) = (X : Int) := by rw [show (x : Int) * 65536 = (X : Int) by omega, IntKind.wrap_u64]; omega
    have hsz : n ≤ s.size := by omega
    have hsz2 : 1 ≤ s.size := by omega
    clear hn hq0 hend
    by_cases h4 : 140737488355328 < X
    · rw [if_pos h4]
      rcases hq with hq | ⟨hq, hq2⟩
      all_goals
        go_enter Tryd.func5, Tryd.ntmps5
        go_wp2_with fail
        refine (cR _).mono ?_
        rintro e w' ⟨rfl, rfl⟩
        go_wp2_with fail
        refine (cX _).mono ?_
        rintro e w' ⟨rfl, rfl⟩
        go_wp2_with fail
        go_ret2
        exact ⟨rfl, rfl⟩
    · rw [if_neg h4]
      rcases hq with hq | ⟨hq, hq2⟩
      all_goals
        go_enter Tryd.func5, Tryd.ntmps5
        go_wp2_with fail
        refine (cR _).mono ?_
        rintro e w' ⟨rfl, rfl⟩
        go_wp2_with fail
        refine (cX _).mono ?_
        rintro e w' ⟨rfl, rfl⟩
        go_wp2_with fail
        refine (cS _).mono ?_
        rintro e w' ⟨rfl, rfl⟩
        go_wp2_with fail
        go_ret2
        exact ⟨rfl, rfl⟩
  · obtain ⟨e, he⟩ : ∃ e, 1 + n = e := ⟨_, rfl⟩
    have hn : sg true + n = e := by simp [sg, he]
    rw [hn] at cX hend
    have hz1 : 1 < s.size := by omega
    have hq : n < 2 ∨ (1 < n ∧ ((s[1].toNat : Int) == 48) = false) := hq0.imp (fun h => by omega) fun h => ⟨h.1, beq_eq_false_iff_ne.2 (h.2 hz1)⟩
    have cX : ∀ w, Calls Tryd.prog 17 #[.string (s.extract 1 e)] w (Is (.int .u64 (x : Int)) w) := cX
    have l1 : IntKind.i64.wrap (1 + (n : Int)) = (e : Int) := by rw [show 1 + (n : Int) = (e : Int) by omega]; exact IntWalk.i64_in _ (by omega)
    have l1b : 1 + (n : Int) = (e : Int) := by omega
    have hlt : ¬ ((e : Int) < (s.size : Int)) := by omega
    have hle : (e : Int) ≤ (s.size : Int) := by omega
    have l4 : IntKind.u64.wrap ((x : Int) * 65536) = (X : Int) := by rw [show (x : Int) * 65536 = (X : Int) by omega, IntKind.wrap_u64]; omega
    have hsz : n ≤ s.size := by omega
    have hsz2 : 1 ≤ s.size := by omega
    clear hn hq0 hend
    by_cases h4 : 140737488355328 < X
    · rw [if_pos h4]
      rcases hq with hq | ⟨hq, hq2⟩
      all_goals
        go_enter Tryd.func5, Tryd.ntmps5
        go_wp2_with fail
        refine (cR _).mono ?_
        rintro e w' ⟨rfl, rfl⟩
        go_wp2_with fail
        refine (cX _).mono ?_
        rintro e w' ⟨rfl, rfl⟩
        go_wp2_with fail
        go_ret2
        exact ⟨rfl, rfl⟩
    · rw [if_neg h4]
      rcases hq with hq | ⟨hq, hq2⟩
      all_goals
        go_enter Tryd.func5, Tryd.ntmps5
        go_wp2_with fail
        refine (cR _).mono ?_
        rintro e w' ⟨rfl, rfl⟩
        go_wp2_with fail
        refine (cX _).mono ?_
        rintro e w' ⟨rfl, rfl⟩
        go_wp2_with fail
        refine (cS _).mono ?_
        rintro e w' ⟨rfl, rfl⟩
        go_wp2_with fail
        go_ret2
        exact ⟨rfl, rfl⟩
end Go.Proofs.YtgfahenhobnjpaaDoor

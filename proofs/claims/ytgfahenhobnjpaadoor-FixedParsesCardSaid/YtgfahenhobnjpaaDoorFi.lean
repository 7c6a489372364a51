/-
  The contract of the reference's Parse. No conditions but Go's own bound of a string's length.
-/
import Derived.Test.YtgfahenhobnjpaaDoorFh
namespace Go.Proofs.YtgfahenhobnjpaaDoor
open Go.RowKit
theorem runN_nD (l : List UInt8) (i : Nat) : runN l i = nD (l.drop i) := rfl
theorem runN_le (l : List UInt8) (i : Nat) (h : i ≤ l.length) : i + runN l i ≤ l.length := by
  unfold runN
  have := (List.takeWhile_sublist isDg (l := l.drop i)).length_le
  rw [List.length_drop] at this
  omega
/-- How many bytes the minus sign takes. -/
def sg (b : Bool) : Nat := if b then 1 else 0
theorem unsg_drop (l : List UInt8) : unsg l = l.drop (sg (neg45 l)) := by
  unfold unsg sg
  split
  · rw [List.drop_one]
  · rfl
theorem head_neg (s : ByteArray) (h : 0 < s.size) : ((s[0].toNat : Int) == 45) = neg45 s.data.toList := by
  have h0 : s.data.toList.head? = some s[0] := by
    rw [List.head?_eq_getElem?, List.getElem?_eq_getElem (by rw [size_list]; exact h)]; rfl
  unfold neg45
  rw [h0]
  have := byte_ne s[0] 45
  by_cases hb : s[0] = 45
  · rw [hb]; rfl
  · rw [beq_eq_false_iff_ne.2 (fun e => hb (Option.some.inj e))]
    rw [bne_iff_ne.2 hb] at this
    exact beq_eq_false_iff_ne.2 (bne_iff_ne.1 this)
set_option maxRecDepth 100000 in
set_option maxHeartbeats 1000000 in
theorem refParse_few (s : ByteArray) (w : World) (hs : s.size ≤ 9223372036854775807) (h0 : s.toList ≠ []) (hn : runN s.data.toList (sg (neg45 s.data.toList)) < 1 ∨ 10 < runN s.data.toList (sg (neg45 s.data.toList))) :
    Calls Tryd.prog 5 #[.string s] w (Is (.tuple #[.int .i64 0, .int .i64 2]) w) := by
  have h2 : s.toList.isEmpty = false := by cases hh : s.toList with | nil => exact absurd hh h0 | cons a b => rfl
  have hz : 0 < s.size := by
    rw [← size_list]
    refine List.length_pos_iff.2 ?_
    rw [← ByteArray.toList_eq]; exact h0
  have hb := head_neg s hz
  generalize neg45 s.data.toList = b at *
  have cR := fun w => run_any s (sg b) w (by unfold sg; split <;> omega) hs
  generalize runN s.data.toList (sg b) = n at *
  cases b
  all_goals
    go_enter Tryd.func5, Tryd.ntmps5
    go_wp2_with fail
    refine (cR _).mono ?_
    rintro e w' ⟨rfl, rfl⟩
  · rcases hn with hn | hn
    · go_wp2_with fail
      go_ret2
      exact ⟨rfl, rfl⟩
    · go_wp2_with fail
      go_ret2
      exact ⟨rfl, rfl⟩
  · rcases hn with hn | hn
    · go_wp2_with fail
      go_ret2
      exact ⟨rfl, rfl⟩
    · go_wp2_with fail
      go_ret2
      exact ⟨rfl, rfl⟩
set_option maxRecDepth 100000 in
set_option maxHeartbeats 1000000 in
theorem refParse_zero (s : ByteArray) (w : World) (hs : s.size ≤ 9223372036854775807) (h0 : s.toList ≠ []) (n1 : 1 < runN s.data.toList (sg (neg45 s.data.toList))) (n2 : runN s.data.toList (sg (neg45 s.data.toList)) ≤ 10)
    (hq : ∀ h : sg (neg45 s.data.toList) < s.size, (s[sg (neg45 s.data.toList)].toNat : Int) = 48) :
    Calls Tryd.prog 5 #[.string s] w (Is (.tuple #[.int .i64 0, .int .i64 2]) w) := by
  have h2 : s.toList.isEmpty = false := by cases hh : s.toList with | nil => exact absurd hh h0 | cons a b => rfl
  have hz : 0 < s.size := by
    rw [← size_list]
    refine List.length_pos_iff.2 ?_
    rw [← ByteArray.toList_eq]; exact h0
  have hb := head_neg s hz
  have hle : sg (neg45 s.data.toList) + runN s.data.toList (sg (neg45 s.data.toList)) ≤ s.size := by
    have := runN_le s.data.toList (sg (neg45 s.data.toList)) (by rw [size_list]; unfold sg; split <;> omega)
    rw [size_list] at this
    exact this
  generalize neg45 s.data.toList = b at *
  have cR := fun w => run_any s (sg b) w (by unfold sg; split <;> omega) hs
  generalize runN s.data.toList (sg b) = n at *
  cases b
  · have hle2 : n ≤ s.size := by simpa [sg] using hle
    have hq2 : (s[0].toNat : Int) = 48 := hq hz
    have hq3 : ((s[0].toNat : Int) == 48) = true := by rw [hq2]; rfl
    clear hq hle
    go_enter Tryd.func5, Tryd.ntmps5
    go_wp2_with fail
    refine (cR _).mono ?_
    rintro e w' ⟨rfl, rfl⟩
    go_wp2_with fail
    go_ret2
    exact ⟨rfl, rfl⟩
  · have hle2 : 1 + n ≤ s.size := by simpa [sg] using hle
    have hz1 : 1 < s.size := by omega
    have hq2 : (s[1].toNat : Int) = 48 := hq hz1
    have hq3 : ((s[1].toNat : Int) == 48) = true := by rw [hq2]; rfl
    clear hq hle
    go_enter Tryd.func5, Tryd.ntmps5
    go_wp2_with fail
    refine (cR _).mono ?_
    rintro e w' ⟨rfl, rfl⟩
    go_wp2_with fail
    go_ret2
    exact ⟨rfl, rfl⟩
end Go.Proofs.YtgfahenhobnjpaaDoor

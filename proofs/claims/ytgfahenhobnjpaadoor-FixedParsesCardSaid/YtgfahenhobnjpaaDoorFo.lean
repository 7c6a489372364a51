/-
  The law of texts: it returns true. Condition: the two tables read as they were laid.
-/
import Derived.Test.YtgfahenhobnjpaaDoorFm
import Derived.Test.YtgfahenhobnjpaaDoorFn
namespace Go.Proofs.YtgfahenhobnjpaaDoor
open Go.RowKit
theorem fmt_len (a : Int) (h1 : -9223372036854775808 ≤ a) (h2 : a ≤ 9223372036854775807) : (sgnB (decide (a < 0)) ++ fmtM a.natAbs).length ≤ 9223372036854775807 := by
  have hl : (Lib.decDigits (a.natAbs / 65536)).length ≤ 20 := by rw [Lib.decDigits_length]; exact nDigits_le (by omega)
  have h5 : (dec5 (a.natAbs % 65536 * 100000 / 65536)).length = 5 := rfl
  have hs : (sgnB (decide (a < 0))).length ≤ 1 := by cases decide (a < 0) <;> decide
  unfold fmtM
  rw [List.length_append, List.length_append, List.length_cons, h5]
  omega
theorem Ib.next {w w1 w2 : World} (h : Below w.heap.size w w1) (k : Below w1.heap.size w1 w2) : Below w.heap.size w w2 := h.trans (k.mono h.size)
set_option maxRecDepth 100000 in
set_option maxHeartbeats 1000000 in
theorem law_parses (a : Int) (s : ByteArray) (w : World) (a1 : -9223372036854775808 ≤ a) (a2 : a ≤ 9223372036854775807) (hs : s.size ≤ 9223372036854775807) (ht : Tb w) (hp : Pw w) :
    Calls Tryd.prog 3 #[.int .i64 a, .string s] w (Ib (.bool true) w) := by
  have c1 := fun w => parse_any s w hs
  have c2 := fun w => refParse_any s w hs
  have c3 := fun w => format_any a w a1 a2
  have c4 := fun w => refFormat_any a w a1 a2
  obtain ⟨n, e, hsh, -, -⟩ := parB_shape s.data.toList
  rw [hsh] at c1 c2
  obtain ⟨T, hT⟩ : ∃ T : ByteArray, (⟨(sgnB (decide (a < 0)) ++ fmtM a.natAbs).toArray⟩ : ByteArray) = T := ⟨_, rfl⟩
  have hTl : T.data.toList = sgnB (decide (a < 0)) ++ fmtM a.natAbs := by rw [← hT]
  rw [hT] at c3 c4
  have c5 := fun w => parse_any T w (by rw [← size_list, hTl]; exact fmt_len a a1 a2)
  rw [hTl] at c5
  have HT := Lib.hid ht
  have HP := Lib.hid hp
  by_cases hr : -140737488355328 ≤ a ∧ a ≤ 140737488355328
  · obtain ⟨b, hb, b1, b2⟩ := par_fmt a hr.1 hr.2
    rw [hb] at c5
    have d1 : decide (-140737488355328 ≤ a) = true := by simpa using hr.1
    have d2 : decide (a ≤ 140737488355328) = true := by simpa using hr.2
    obtain ⟨m, hm⟩ : ∃ m, b - a = m := ⟨_, rfl⟩
    rw [hm] at b1 b2
    have l1 : wrap64 (b - a) = m := by rw [← hm]; exact wrap64_in (by omega) (by omega)
    have l2 : IntKind.i64.wrap (b - a) = m := by rw [← hm]; exact IntWalk.i64_in _ (by omega)
    have d3 : decide (-1 ≤ m) = true := by simpa using b1
    have d4 : decide (m ≤ 1) = true := by simpa using b2
    clear hsh hT hTl hb hm hr a1 a2 ht hp hs b1 b2
    go_enter Tryd.func3, Tryd.ntmps3
    go_wp2_with fail
    refine (c1 _ HP.out).mono ?_
    rintro e w1 ⟨rfl, h1⟩
    go_wp2_with fail
    refine (c2 _).mono ?_
    rintro e w' ⟨rfl, rfl⟩
    go_wp2_with fail
    refine (c3 _ (HT.out.below h1) (HP.out.below h1)).mono ?_
    rintro e w2 ⟨rfl, h2⟩
    have h2 := Ib.next h1 h2
    go_wp2_with fail
    refine (c4 _).mono ?_
    rintro e w' ⟨rfl, rfl⟩
    go_wp2_with fail
    refine (c3 _ (HT.out.below h2) (HP.out.below h2)).mono ?_
    rintro e w3 ⟨rfl, h3⟩
    have h3 := Ib.next h2 h3
    go_wp2_with fail
    refine (c5 _ (HP.out.below h3)).mono ?_
    rintro e w4 ⟨rfl, h4⟩
    have h4 := Ib.next h3 h4
    go_wp2_with (go_at_call 8; refine (awake_any _).mono ?_; rintro e w5 ⟨rfl, h5⟩)
    go_ret
    exact ⟨by rfl, Ib.next h4 h5⟩
  · obtain ⟨b, e2, hb, -, -⟩ := parB_shape (sgnB (decide (a < 0)) ++ fmtM a.natAbs)
    rw [hb] at c5
    have d12 : decide (-140737488355328 ≤ a) = false ∨ (decide (-140737488355328 ≤ a) = true ∧ decide (a ≤ 140737488355328) = false) := by
      by_cases h : -140737488355328 ≤ a
      · exact .inr ⟨by simpa using h, by simp; omega⟩
      · exact .inl (by simpa using h)
    clear hsh hT hTl hb hr a1 a2 ht hp hs
    rcases d12 with d1 | ⟨d1, d2⟩
    all_goals
      go_enter Tryd.func3, Tryd.ntmps3
      go_wp2_with fail
      refine (c1 _ HP.out).mono ?_
      rintro e w1 ⟨rfl, h1⟩
      go_wp2_with fail
      refine (c2 _).mono ?_
      rintro e w' ⟨rfl, rfl⟩
      go_wp2_with fail
      refine (c3 _ (HT.out.below h1) (HP.out.below h1)).mono ?_
      rintro e w2 ⟨rfl, h2⟩
      have h2 := Ib.next h1 h2
      go_wp2_with fail
      refine (c4 _).mono ?_
      rintro e w' ⟨rfl, rfl⟩
      go_wp2_with fail
      refine (c3 _ (HT.out.below h2) (HP.out.below h2)).mono ?_
      rintro e w3 ⟨rfl, h3⟩
      have h3 := Ib.next h2 h3
      go_wp2_with fail
      refine (c5 _ (HP.out.below h3)).mono ?_
      rintro e w4 ⟨rfl, h4⟩
      have h4 := Ib.next h3 h4
      go_wp2_with (go_at_call 8; refine (awake_any _).mono ?_; rintro e w5 ⟨rfl, h5⟩)
      go_ret
      exact ⟨by rfl, Ib.next h4 h5⟩
end Go.Proofs.YtgfahenhobnjpaaDoor

/-
  The contract of the reference's Parse, continued: what follows the digits.
-/
import Derived.Test.YtgfahenhobnjpaaDoorFi
namespace Go.Proofs.YtgfahenhobnjpaaDoor
open Go.RowKit
theorem ext_run (s : ByteArray) (i : Nat) : (s.extract i (i + runN s.data.toList i)).data.toList = (s.data.toList.drop i).takeWhile isDg := by
  rw [ext_list]
  show (List.take (i + runN s.data.toList i) s.data.toList).drop i = _
  rw [List.drop_take, show i + runN s.data.toList i - i = runN s.data.toList i by omega]
  unfold runN
  exact (List.prefix_iff_eq_take.1 (List.takeWhile_prefix isDg)).symm
theorem refNum_run (s : ByteArray) (i : Nat) (w : World) (h : runN s.data.toList i ≤ 10) :
    Calls Tryd.prog 17 #[.string (s.extract i (i + runN s.data.toList i))] w (Is (.int .u64 (numB ((s.data.toList.drop i).takeWhile isDg) : Nat)) w) := by
  have e := ext_run s i
  have := refNumber_any (s.extract i (i + runN s.data.toList i)) w (by rw [e]; exact take_all _) (by rw [← size_list, e]; exact h)
  rw [e] at this
  exact this
set_option maxRecDepth 100000 in
set_option maxHeartbeats 2000000 in
theorem refParse_tail (s : ByteArray) (w : World) (i n m : Nat) (hs : s.size ≤ 9223372036854775807) (h0 : s.toList ≠ []) (hi : sg (neg45 s.data.toList) = i) (hn0 : runN s.data.toList i = n) (hm0 : runN s.data.toList (i + n + 1) = m)
    (n1 : 1 ≤ n) (n2 : n ≤ 10) (hq0 : n = 1 ∨ (1 < n ∧ ∀ h : i < s.size, (s[i].toNat : Int) ≠ 48)) (hlt : i + n < s.size)
    (hbad : ¬ ∃ h : i + n < s.size, (s[i + n].toNat : Int) = 46 ∧ 1 ≤ m ∧ m ≤ 5 ∧ i + n + 1 + m = s.size) :
    Calls Tryd.prog 5 #[.string s] w (Is (.tuple #[.int .i64 0, .int .i64 2]) w) := by
  have h2 : s.toList.isEmpty = false := by cases hh : s.toList with | nil => exact absurd hh h0 | cons a b => rfl
  have hz : 0 < s.size := by omega
  have hb := head_neg s hz
  have hle := hlt
  have hfm : i + n + 1 + m ≤ s.size := by
    have := runN_le s.data.toList (i + n + 1) (by rw [size_list]; omega)
    rw [size_list, hm0] at this
    exact this
  have cR := fun w => run_any s i w (by omega) hs
  have cM := fun w => run_any s (i + n + 1) w (by omega) hs
  have cX := fun w => refNum_run s i w (by omega)
  have bx : numB ((s.data.toList.drop i).takeWhile isDg) < 10000000000 := Nat.lt_of_lt_of_le (numB_lt _ (take_all _)) (Nat.pow_le_pow_right (n := 10) (by decide) (by show runN s.data.toList i ≤ 10; omega))
  rw [hn0] at cR cX
  rw [hm0] at cM
  generalize numB ((s.data.toList.drop i).takeWhile isDg) = x at *
  clear hn0 hm0
  subst hi
  generalize neg45 s.data.toList = b at *
  cases b
  · obtain ⟨f, hf⟩ : ∃ f, n + 1 = f := ⟨_, rfl⟩
    have hq : n < 2 ∨ (1 < n ∧ ((s[0].toNat : Int) == 48) = false) := hq0.imp (fun h => by omega) fun h => ⟨h.1, beq_eq_false_iff_ne.2 (h.2 hz)⟩
    have hn : sg false + n = n := by simp [sg]
    rw [hn] at cX hle hbad hlt cM hfm
    have cX : ∀ w, Calls Tryd.prog 17 #[.string (s.extract 0 n)] w (Is (.int .u64 (x : Int)) w) := cX
    rw [hf] at cM hfm
    have l2 : IntKind.i64.wrap ((n : Int) + 1) = (f : Int) := by rw [show (n : Int) + 1 = (f : Int) by omega]; exact IntWalk.i64_in _ (by omega)
    have l2b : (n : Int) + 1 = (f : Int) := by omega
    obtain ⟨g, hg⟩ : ∃ g, f + m = g := ⟨_, rfl⟩
    rw [hg] at hfm
    have l3 : IntKind.i64.wrap ((f : Int) + (m : Int)) = (g : Int) := by rw [show (f : Int) + (m : Int) = (g : Int) by omega]; exact IntWalk.i64_in _ (by omega)
    have l4 : IntKind.u64.wrap ((x : Int) * 65536) = ((x * 65536 : Nat) : Int) := by rw [IntKind.wrap_u64]; omega
    have bad : ((s[n].toNat : Int) != 46) = true ∨ (((s[n].toNat : Int) != 46) = false ∧ m < 1) ∨ (((s[n].toNat : Int) != 46) = false ∧ 5 < m) ∨ (((s[n].toNat : Int) != 46) = false ∧ 1 ≤ m ∧ m ≤ 5 ∧ ((g : Int) != (s.size : Int)) = true) := by
      cases hc : ((s[n].toNat : Int) != 46) with
      | true => exact .inl rfl
      | false =>
        by_cases h1 : m < 1
        · exact .inr (.inl ⟨rfl, h1⟩)
        · by_cases h3 : 5 < m
          · exact .inr (.inr (.inl ⟨rfl, h3⟩))
          · refine .inr (.inr (.inr ⟨rfl, by omega, by omega, bne_iff_ne.2 fun h => hbad ⟨hlt, ?_, by omega, by omega, by omega⟩⟩))
            have h4 := bne_eq_false_iff_eq.1 hc
            exact h4
    clear hbad hn hq0
    rcases hq with hq | ⟨hq, hq2⟩ <;> rcases bad with hd | ⟨hd, hm⟩ | ⟨hd, hm⟩ | ⟨hd, hm, hm2, hgs⟩
    all_goals
      go_enter Tryd.func5, Tryd.ntmps5
      go_wp2_with fail
      refine (cR _).mono ?_
      rintro e w' ⟨rfl, rfl⟩
      go_wp2_with fail
      refine (cX _).mono ?_
      rintro e w' ⟨rfl, rfl⟩
      go_wp2_with fail
      refine (cM _).mono ?_
      rintro e w' ⟨rfl, rfl⟩
      go_wp2_with fail
      go_ret2
      exact ⟨rfl, rfl⟩
  · obtain ⟨e, he⟩ : ∃ e, 1 + n = e := ⟨_, rfl⟩
    obtain ⟨f, hf⟩ : ∃ f, e + 1 = f := ⟨_, rfl⟩
    have hn : sg true + n = e := by simp [sg, he]
    rw [hn] at cX hle hbad hlt cM hfm
    have hq : n < 2 ∨ (1 < n ∧ ((s[1].toNat : Int) == 48) = false) := hq0.imp (fun h => by omega) fun h => ⟨h.1, beq_eq_false_iff_ne.2 (h.2 (by show 1 < s.size; omega))⟩
    have cX : ∀ w, Calls Tryd.prog 17 #[.string (s.extract 1 e)] w (Is (.int .u64 (x : Int)) w) := cX
    have l1 : IntKind.i64.wrap (1 + (n : Int)) = (e : Int) := by rw [show 1 + (n : Int) = (e : Int) by omega]; exact IntWalk.i64_in _ (by omega)
    have l1b : 1 + (n : Int) = (e : Int) := by omega
    rw [hf] at cM hfm
    have l2 : IntKind.i64.wrap ((e : Int) + 1) = (f : Int) := by rw [show (e : Int) + 1 = (f : Int) by omega]; exact IntWalk.i64_in _ (by omega)
    have l2b : (e : Int) + 1 = (f : Int) := by omega
    obtain ⟨g, hg⟩ : ∃ g, f + m = g := ⟨_, rfl⟩
    rw [hg] at hfm
    have l3 : IntKind.i64.wrap ((f : Int) + (m : Int)) = (g : Int) := by rw [show (f : Int) + (m : Int) = (g : Int) by omega]; exact IntWalk.i64_in _ (by omega)
    have l4 : IntKind.u64.wrap ((x : Int) * 65536) = ((x * 65536 : Nat) : Int) := by rw [IntKind.wrap_u64]; omega
    have bad : ((s[e].toNat : Int) != 46) = true ∨ (((s[e].toNat : Int) != 46) = false ∧ m < 1) ∨ (((s[e].toNat : Int) != 46) = false ∧ 5 < m) ∨ (((s[e].toNat : Int) != 46) = false ∧ 1 ≤ m ∧ m ≤ 5 ∧ ((g : Int) != (s.size : Int)) = true) := by
      cases hc : ((s[e].toNat : Int) != 46) with
      | true => exact .inl rfl
      | false =>
        by_cases h1 : m < 1
        · exact .inr (.inl ⟨rfl, h1⟩)
        · by_cases h3 : 5 < m
          · exact .inr (.inr (.inl ⟨rfl, h3⟩))
          · refine .inr (.inr (.inr ⟨rfl, by omega, by omega, bne_iff_ne.2 fun h => hbad ⟨hlt, ?_, by omega, by omega, by omega⟩⟩))
            have h4 := bne_eq_false_iff_eq.1 hc
            exact h4
    clear hbad hn hq0
    rcases hq with hq | ⟨hq, hq2⟩ <;> rcases bad with hd | ⟨hd, hm⟩ | ⟨hd, hm⟩ | ⟨hd, hm, hm2, hgs⟩
    all_goals
      go_enter Tryd.func5, Tryd.ntmps5
      go_wp2_with fail
      refine (cR _).mono ?_
      rintro e w' ⟨rfl, rfl⟩
      go_wp2_with fail
      refine (cX _).mono ?_
      rintro e w' ⟨rfl, rfl⟩
      go_wp2_with fail
      refine (cM _).mono ?_
      rintro e w' ⟨rfl, rfl⟩
      go_wp2_with fail
      go_ret2
      exact ⟨rfl, rfl⟩
end Go.Proofs.YtgfahenhobnjpaaDoor

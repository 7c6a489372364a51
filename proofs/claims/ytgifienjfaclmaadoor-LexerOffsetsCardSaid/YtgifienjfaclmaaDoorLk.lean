/-
  The reference's printing of a string's content, and what a token of a result is. No conditions but Go's own bounds.
-/
import Derived.Test.YtgifienjfaclmaaDoorLj
namespace Go.Proofs.YtgifienjfaclmaaDoor
open Go.RowKit
theorem esc_append (a b : List UInt8) : esc (a ++ b) = esc a ++ esc b := by
  induction a with
  | nil => rfl
  | cons c r ih => simp only [List.cons_append, esc]; split <;> simp [ih]
theorem esc_length (a : List UInt8) : (esc a).length ≤ 2 * a.length := by
  induction a with
  | nil => simp [esc]
  | cons c r ih => simp only [esc]; split <;> simp <;> omega
set_option maxRecDepth 100000 in
set_option maxHeartbeats 1000000 in
theorem quotedR_any (l : List UInt8) (w : World) (hl : l.length ≤ 100000) :
    Calls Tryd.prog 29 #[.string (bs l)] w (Is (.string (bs (quo l))) w) := by
  have hsz : (bs l).size = l.length := rfl
  have hn0 : (⟨#[]⟩ : ByteArray) = bs [] := rfl
  have hn1 : (⟨#[34]⟩ : ByteArray) = bs [34] := rfl
  have hn2 : (⟨#[92]⟩ : ByteArray) = bs [92] := rfl
  have hs1 : (bs [34]).size = 1 := rfl
  have hs2 : (bs [92]).size = 1 := rfl
  obtain ⟨R, hR⟩ : ∃ R, quo l = R := ⟨_, rfl⟩
  rw [hR]
  have HR := Lib.hid hR
  clear hR
  go_enter Tryd.func29, Tryd.ntmps29
  go_wp2_with fail
  go_loop [3, 4] (fun u i => ∃ (j : Nat) (o : List UInt8), j ≤ l.length ∧ o.length ≤ 2 * j + 1 ∧ i = .int .i64 (j : Int) ∧ u = .string (bs o) ∧ Hid (o = 34 :: esc (l.take j))) (fun _ i => l.length - (intOf i).toNat)
  case atStart => exact ⟨0, [34], by omega, by simp, rfl, rfl, Lib.hid (by simp [esc])⟩
  case round =>
    obtain ⟨j, o, hj, ho, rfl, rfl, hI⟩ := hrel
    have hos : (bs o).size = o.length := rfl
    by_cases hlt : j < l.length
    · have hlt2 : j < (bs l).size := hlt
      obtain ⟨c, hc⟩ : ∃ c, l[j]'hlt = c := ⟨_, rfl⟩
      have hI2 : esc (l.take (j + 1)) = esc (l.take j) ++ esc [c] := by rw [List.take_succ_eq_append_getElem hlt, hc, esc_append]
      have hb : ((bs l)[j]'hlt2).toNat = c.toNat := by rw [← hc]; rfl
      have h1b := one_byte l j hlt
      rw [hc] at h1b
      have hb1 : (bs [c]).size = 1 := rfl
      obtain ⟨n, hn⟩ : ∃ n, c.toNat = n := ⟨_, rfl⟩
      rw [hn] at hb
      have g : ∀ d : UInt8, c ≠ d → ((n : Int) == (d.toNat : Int)) = false := fun d h => by rw [← hn, ← beq_nat]; simpa using h
      obtain ⟨f, hf⟩ : ∃ f, j + 1 = f := ⟨_, rfl⟩
      have l11 : (j : Int) + 1 = (f : Int) := by omega
      rw [hf] at h1b hI2
      by_cases h34 : c = 34 ∨ c = 92
      · have hap := bs_append o [92]
        have hap2 := bs_append (o ++ [92]) [c]
        have hos2 : (bs (o ++ [92])).size = o.length + 1 := by rw [bs_size]; simp
        have H := Lib.hid (show o ++ [92] ++ [c] = 34 :: esc (l.take f) by rw [hI2, hI.out]; simp [esc, h34])
        have hn3 : n = 34 ∨ n = 92 := by rcases h34 with h | h <;> rw [← hn, h] <;> simp
        clear HR hI hI2 hc hn g h34
        rcases hn3 with rfl | rfl
        all_goals
          go_wp2_with fail
          go_round
          case rel => exact ⟨f, o ++ [92] ++ [c], by omega, by simp; omega, rfl, by simp, H⟩
          case measure => simp [intOf]; omega
      · have hap := bs_append o [c]
        have g34 : ((n : Int) == 34) = false := g 34 (fun h => h34 (.inl h))
        have g92 : ((n : Int) == 92) = false := g 92 (fun h => h34 (.inr h))
        have f34 : ((n : Int) = 34) = False := by simp at g34 ⊢; omega
        have f92 : ((n : Int) = 92) = False := by simp at g92 ⊢; omega
        have H := Lib.hid (show o ++ [c] = 34 :: esc (l.take f) by rw [hI2, hI.out]; simp [esc, h34])
        clear HR hI hI2 hc hn g h34
        go_wp2_with fail
        go_round
        case rel => exact ⟨f, o ++ [c], by omega, by simp; omega, rfl, rfl, H⟩
        case measure => simp [intOf]; omega
    · have hj2 : j = l.length := by omega
      have hap := bs_append o [34]
      have H : o ++ [34] = R := by rw [← HR.out, hI.out, hj2, List.take_length]; rfl
      rw [H] at hap
      clear HR hI H
      subst hj2
      go_wp2_with fail
      go_ret
      exact ⟨rfl, rfl⟩
end Go.Proofs.YtgifienjfaclmaaDoor

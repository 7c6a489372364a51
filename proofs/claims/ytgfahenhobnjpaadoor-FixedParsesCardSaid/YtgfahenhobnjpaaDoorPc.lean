/-
  Contracts of products and quotients, the program's and the reference's. No conditions but those stated.
-/
import Derived.Test.YtgfahenhobnjpaaDoorPb
import Derived.Lib.MinMax
namespace Go.Proofs.YtgfahenhobnjpaaDoor
open Go.RowKit
/-- The call returns this value, and at most draws. -/
def Iq (v : Value) (w : World) (e : Ending) (w' : World) : Prop := ∃ n : Nat, e = .returned v ∧ w' = w.drewN n
theorem Is.iq {v : Value} {w : World} {e : Ending} {w' : World} (h : Is v w e w') : Iq v w e w' := ⟨0, h.1, h.2.symm⟩
theorem ret_iq {k : IntKind} {a b : Int} {w : World} {n : Nat} (h : a = b) : Iq (.int k b) w (.returned (.int k a)) (w.drewN n) := ⟨n, by rw [h], rfl⟩
theorem run_sum {x y s c : Nat} (h : x + y = c * 18446744073709551616 + s) (hs : s < 18446744073709551616) (w : World) :
    (callFunc 31 #[.int .u64 (x : Int), .int .u64 (y : Int), .int .u64 0]).run Tryd.prog w = .ok (.value (.tuple #[.int .u64 (s : Int), .int .u64 (c : Int)])) w := by
  rw [run_add _ _ (by omega) (by omega), show ((x : Int) + (y : Int) + 0) % 18446744073709551616 = (s : Int) by omega, show ((x : Int) + (y : Int) + 0) / 18446744073709551616 = (c : Int) by omega]
/-- A quotient, rounded and limited. -/
def qlim (a d : Nat) : Nat := min ((a + d / 2) / d) 140737488355328
set_option maxHeartbeats 1000000 in
theorem ratio_any (a b d : Nat) (w : World) (ha : a ≤ 9223372036854775808) (hb : b ≤ 9223372036854775808) (hd : d ≤ 9223372036854775808) (h0 : 0 < d) :
    Calls Tryd.prog 15 #[.int .u64 (a : Int), .int .u64 (b : Int), .int .u64 (d : Int)] w (Iq (.int .u64 (qlim (a * b) d : Nat)) w) := by
  have hp := Nat.mul_le_mul ha hb
  obtain ⟨P, hP⟩ : ∃ P, a * b = P := ⟨_, rfl⟩
  obtain ⟨H, hH⟩ : ∃ H, P / 18446744073709551616 = H := ⟨_, rfl⟩
  obtain ⟨L, hL⟩ : ∃ L, P % 18446744073709551616 = L := ⟨_, rfl⟩
  obtain ⟨D, hD⟩ : ∃ D, d / 2 = D := ⟨_, rfl⟩
  obtain ⟨S, hS⟩ : ∃ S, (L + D) % 18446744073709551616 = S := ⟨_, rfl⟩
  obtain ⟨C, hC⟩ : ∃ C, (L + D) / 18446744073709551616 = C := ⟨_, rfl⟩
  have hS2 : L + D = C * 18446744073709551616 + S := by omega
  have hS3 : S < 18446744073709551616 := by omega
  have d2 : (d : Int) / 2 = (D : Int) := by omega
  have k0 := wrapN D (by omega)
  obtain ⟨K, hK⟩ : ∃ K, H + C = K := ⟨_, rfl⟩
  have k1 : IntKind.u64.wrap ((H : Int) + (C : Int)) = (K : Int) := by rw [← Int.natCast_add, hK, wrapN _ (by omega)]
  have eN : P + d / 2 = K * 18446744073709551616 + S := by omega
  have m64 := Tryd.bits_Mul64 a b (by omega) (by omega)
  rw [hP, hH, hL] at m64
  rw [hP]
  unfold qlim
  rw [eN]
  have HS := Lib.hid (And.intro hS2 (And.intro hS3 (And.intro hd h0)))
  clear hp hP hH hL hD hS hC hS2 hK eN ha hb hS3 hd h0
  by_cases hk : d ≤ K
  · have q1 : min ((K * 18446744073709551616 + S) / d) 140737488355328 = 140737488355328 := by
      have h9 := HS.out.2.2
      have : 18446744073709551616 ≤ (K * 18446744073709551616 + S) / d := by
        rw [Nat.le_div_iff_mul_le h9.2]
        omega
      omega
    rw [q1]
    clear q1
    go_enter Tryd.func15, Tryd.ntmps15
    go_wp2_with (first | (go_at_call 30; refine (m64 _).mono ?_; rintro e w' ⟨rfl, rfl⟩) | (simp only [run_sum HS.out.1 HS.out.2.1]))
    go_ret
    exact ⟨0, rfl, rfl⟩
  · by_cases hz : K = 0
    · subst hz
      have d6 := fun w => div64_small S d w HS.out.2.1 (by have := HS.out.2.2; omega) HS.out.2.2.2
      have q1 : (0 * 18446744073709551616 + S) / d = S / d := by rw [Nat.zero_mul, Nat.zero_add]
      rw [q1]
      clear q1
      generalize S / d = q at *
      go_enter Tryd.func15, Tryd.ntmps15
      go_wp2_with (first | (go_at_call 30; refine (m64 _).mono ?_; rintro e w' ⟨rfl, rfl⟩) | (simp only [run_sum HS.out.1 HS.out.2.1]) | (go_at_call 32; refine (d6 _).mono ?_; rintro e w' ⟨r, n, rfl, rfl⟩))
      go_ret
      exact ret_iq (by first | rfl | omega | simp)
    · have d6 := fun w => div64_great K S d w HS.out.2.1 (by have := HS.out.2.2; omega) (by omega) (by omega)
      generalize (K * 18446744073709551616 + S) / d = q at *
      go_enter Tryd.func15, Tryd.ntmps15
      go_wp2_with (first | (go_at_call 30; refine (m64 _).mono ?_; rintro e w' ⟨rfl, rfl⟩) | (simp only [run_sum HS.out.1 HS.out.2.1]) | (go_at_call 32; refine (d6 _).mono ?_; rintro e w' ⟨r, n, rfl, rfl⟩))
      go_ret
      exact ret_iq (by first | rfl | omega | simp)
end Go.Proofs.YtgfahenhobnjpaaDoor

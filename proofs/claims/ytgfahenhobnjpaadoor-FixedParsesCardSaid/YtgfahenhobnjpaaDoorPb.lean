/-
  Contracts of the functions of 128 bits. No conditions but those stated.
-/
import Derived.Test.YtgfahenhobnjpaaDoorPa
import Derived.Test.YtgfahenhobnjpaaDoorShelf
import Derived.Test.YtgfahenhobnjpaaDoorPm
import Derived.Lib.ItoaNum
import Derived.Laws.Externs
import Derived.Laws.Bits64b
import Derived.Laws.ShiftsVar
namespace Go.Proofs.YtgfahenhobnjpaaDoor
open Go.RowKit
theorem run_add (x y : Int) (hx : 0 ≤ x) (hy : 0 ≤ y) (w : World) :
    (callFunc 31 #[.int .u64 x, .int .u64 y, .int .u64 0]).run Tryd.prog w = .ok (.value (.tuple #[.int .u64 ((x + y + 0) % 18446744073709551616), .int .u64 ((x + y + 0) / 18446744073709551616)])) w := by
  rw [run_callFunc_extern Tryd.func31 (by kernel_rfl) (by kernel_rfl) (by kernel_rfl) (e := add64Entry) (by kernel_rfl), run_add64 x y 0 hx hy (by omega) (by omega)]
  rfl
theorem bitLen_lo (x : Nat) (h : x < 18446744073709551616) (h0 : 0 < x) : ∃ s, Lib.bitLen x + s = 64 ∧ s ≤ 63 ∧ 9223372036854775808 ≤ x * 2 ^ s ∧ x * 2 ^ s < 18446744073709551616 := by
  obtain ⟨a, b, c⟩ := Lib.bitLenAux_bounds 64 x (by omega) (by omega)
  have h2 : Lib.bitLenAux 64 x ≤ 64 := Lib.bitLen_le x 64 (by omega) (by omega)
  unfold Lib.bitLen
  obtain ⟨k, hk⟩ : ∃ k, Lib.bitLenAux 64 x = k + 1 := ⟨Lib.bitLenAux 64 x - 1, by omega⟩
  rw [hk] at a b c h2 ⊢
  refine ⟨63 - k, by omega, by omega, ?_, ?_⟩
  · have e : 2 ^ (k + 1 - 1) * 2 ^ (63 - k) = 9223372036854775808 := by rw [← Nat.pow_add, show k + 1 - 1 + (63 - k) = 63 by omega]
    have h3 := Nat.mul_le_mul_right (2 ^ (63 - k)) b
    rw [e] at h3
    exact h3
  · have e : 2 ^ (k + 1) * 2 ^ (63 - k) = 18446744073709551616 := by rw [← Nat.pow_add, show k + 1 + (63 - k) = 64 by omega]
    have h3 := Nat.mul_lt_mul_of_pos_right c (Nat.two_pow_pos (63 - k))
    rw [e] at h3
    exact h3
theorem lz_any (y s : Nat) (w : World) (h : y < 18446744073709551616) (hs : Lib.bitLen y + s = 64) :
    Calls Tryd.prog 37 #[.int .u64 (y : Int)] w (Is (.int .i64 (s : Int)) w) :=
  (Tryd.bits_LeadingZeros64 (y : Int) w (by omega) (by omega)).mono fun e w' ⟨he, hw⟩ => ⟨by rw [he, Int.toNat_natCast]; congr 2; omega, hw.symm⟩
theorem wrapN (a : Nat) (ha : a < 18446744073709551616) : IntKind.u64.wrap (a : Int) = (a : Int) := by rw [IntKind.wrap_u64]; omega
theorem maskN (a : Nat) (ha : a < 18446744073709551616) : bits .and .u64 (a : Int) 4294967295 = ((a % 4294967296 : Nat) : Int) := by
  have h := bits_and_u64_nat a 4294967295 ha (by omega)
  have e : a &&& 4294967295 = a % 4294967296 := Nat.and_two_pow_sub_one_eq_mod a 32
  rw [e] at h
  exact h
/-- The call returns this quotient and some remainder, and at most draws. -/
def Qt (q : Nat) (w : World) (e : Ending) (w' : World) : Prop := ∃ (r : Int) (n : Nat), e = .returned (.tuple #[.int .u64 (q : Int), .int .u64 r]) ∧ w' = w.drewN n
theorem div64_small (lo y : Nat) (w : World) (hl : lo < 18446744073709551616) (hy : y < 18446744073709551616) (h0 : 0 < y) :
    Calls Tryd.prog 32 #[.int .u64 0, .int .u64 (lo : Int), .int .u64 (y : Int)] w (Qt (lo / y) w) := by
  have e0 : ((y : Int) == 0) = false := by simp; omega
  have e1 : decide ((y : Int) ≤ 0) = false := by simp; omega
  have e2 : IntKind.u64.wrap ((lo : Int) / (y : Int)) = ((lo / y : Nat) : Int) := by
    have := Nat.div_le_self lo y
    rw [← Int.natCast_ediv, wrapN _ (by omega)]
  go_enter Tryd.func32, Tryd.ntmps32
  go_wp2_with fail
  go_quiet (fail)
  go_wp2_with fail
  go_ret2
  exact ⟨_, _, rfl, rfl⟩
/-- What the loops hold. -/
def DInv (U C A Y Q R : Nat) : Prop := Q * A + R = U ∧ (U * 4294967296 + C) / Y ≤ Q ∧ Q ≤ 4294967297 ∧ R < 4294967296
set_option maxRecDepth 100000 in
set_option maxHeartbeats 4000000 in
theorem div64_great (hi lo y : Nat) (w : World) (hl : lo < 18446744073709551616) (hy : y < 18446744073709551616) (h0 : 0 < hi) (h1 : hi < y) :
    Calls Tryd.prog 32 #[.int .u64 (hi : Int), .int .u64 (lo : Int), .int .u64 (y : Int)] w (Qt ((hi * 18446744073709551616 + lo) / y) w) := by
  have e0 : ((y : Int) == 0) = false := by simp; omega
  have e1 : decide ((y : Int) ≤ hi) = false := by simp; omega
  have e2 : ((hi : Int) == 0) = false := by simp; omega
  obtain ⟨s, hs, hs2, hb, hb2⟩ := bitLen_lo y hy (by omega)
  have HS := Lib.hid hs
  clear hs
  obtain ⟨m1, m2, m3, m4⟩ := Dv.norm hl h1 hs2 hb2
  have hY : IntKind.u64.wrap ((y : Int) * 2 ^ s) = ((y * 2 ^ s : Nat) : Int) := by
    rw [show (y : Int) * 2 ^ s = ((y * 2 ^ s : Nat) : Int) by simp, wrapN _ hb2]
  have hU : bits BinOp.or IntKind.u64 (IntKind.u64.wrap ((hi : Int) * 2 ^ s)) ((lo : Int) / 2 ^ (64 - s)) = ((hi * 2 ^ s + lo / 2 ^ (64 - s) : Nat) : Int) := by
    rw [show (hi : Int) * 2 ^ s = ((hi * 2 ^ s : Nat) : Int) by simp, wrapN _ m1, show (lo : Int) / 2 ^ (64 - s) = ((lo / 2 ^ (64 - s) : Nat) : Int) by simp, bits_or_u64_nat _ _ m1 (by omega), Dv.or_add m2]
  have hL : IntKind.u64.wrap ((lo : Int) * 2 ^ s) = ((lo * 2 ^ s % 18446744073709551616 : Nat) : Int) := by
    rw [show (lo : Int) * 2 ^ s = ((lo * 2 ^ s : Nat) : Int) by simp, IntKind.wrap_u64]; omega
  rw [← m4]
  clear m1 m2 m4
  have hLl : lo * 2 ^ s % 18446744073709551616 < 18446744073709551616 := Nat.mod_lt _ (by omega)
  generalize y * 2 ^ s = Y at *
  generalize hi * 2 ^ s + lo / 2 ^ (64 - s) = U at *
  generalize lo * 2 ^ s % 18446744073709551616 = L at *
  have k1 := maskN Y hb2
  have k2 := maskN L hLl
  obtain ⟨A, hA⟩ : ∃ A, Y / 4294967296 = A := ⟨_, rfl⟩
  obtain ⟨B, hB⟩ : ∃ B, Y % 4294967296 = B := ⟨_, rfl⟩
  obtain ⟨C, hC⟩ : ∃ C, L / 4294967296 = C := ⟨_, rfl⟩
  obtain ⟨E, hE⟩ : ∃ E, L % 4294967296 = E := ⟨_, rfl⟩
  rw [hB] at k1
  rw [hE] at k2
  have k3 : (Y : Int) / 4294967296 = (A : Int) := by omega
  have k4 : (L : Int) / 4294967296 = (C : Int) := by omega
  have yE : Y = A * 4294967296 + B := by omega
  have lE : L = C * 4294967296 + E := by omega
  have hA2 : 2147483648 ≤ A := by omega
  have hA3 : A < 4294967296 := by omega
  have hB2 : B < 4294967296 := by omega
  have hC2 : C < 4294967296 := by omega
  have hE2 : E < 4294967296 := by omega
  clear hA hB hC hE
  have eT : (U * 18446744073709551616 + L) / Y = (U * 4294967296 + C) / Y * 4294967296 + ((U * 4294967296 + C) % Y * 4294967296 + E) / Y := by
    have e : U * 18446744073709551616 + L = (U * 4294967296 + C) * 4294967296 + E := by omega
    rw [← Dv.both (by omega), e]
  rw [eT]
  clear eT
  generalize hT : (U * 4294967296 + C) / Y * 4294967296 + ((U * 4294967296 + C) % Y * 4294967296 + E) / Y = T
  have HT := Lib.hid hT
  clear hT
  have e3 : ¬ ((A : Int) = 0) := by omega
  have k5 : IntKind.u64.wrap ((U : Int) / (A : Int)) = ((U / A : Nat) : Int) := by
    have := Nat.div_le_self U A
    rw [← Int.natCast_ediv, wrapN _ (by omega)]
  have i1 := Dv.init (C := C) (U := U) yE (by omega) hC2
  have i2 := Dv.top (U := U) (by omega) hB2 hA2
  have i3 : U / A * A + U % A = U := Nat.div_add_mod' U A
  have i4 : U % A < A := Nat.mod_lt _ (by omega)
  have k6 : IntKind.u64.wrap ((U : Int) - IntKind.u64.wrap (((U / A : Nat) : Int) * (A : Int))) = ((U % A : Nat) : Int) := by
    rw [← Int.natCast_mul, wrapN _ (by omega), IntKind.wrap_u64]; omega
  have HI : DInv U C A Y (U / A) (U % A) := ⟨i3, i1, i2, by omega⟩
  clear i1 i2 i3 i4
  generalize U / A = Q0 at *
  generalize U % A = R0 at *
  have LE := Lib.hid lE
  have YE := Lib.hid yE
  clear lE yE
  go_enter Tryd.func32, Tryd.ntmps32
  go_wp2_with (go_at_call 37; refine (lz_any y s _ hy HS.out).mono ?_; rintro e w' ⟨rfl, rfl⟩)
  clear k1 k2 k3 k4 k5 k6 hY hU hL e0 e1 e2 e3
  have HH := Lib.hid (And.intro hb (And.intro hb2 hLl))
  have M3 := Lib.hid m3
  clear hb hb2 hLl hl hy m3
  have HA := Lib.hid (And.intro hA2 hA3)
  have HB2 := Lib.hid hB2
  have HCU := Lib.hid hC2
  have HCV := Lib.hid hE2
  have MU := M3
  have z3 : ¬ ((A : Int) = 0) := by omega
  clear hA2 hA3 hB2 hC2 hE2 M3
  go_loop [15, 16] (fun q r => ∃ Q R : Nat, q = .int .u64 (Q : Int) ∧ r = .int .u64 (R : Int) ∧ DInv U C A Y Q R) (fun q _ => (intOf q).toNat)
  case atStart => exact ⟨Q0, R0, rfl, rfl, HI⟩
  case round =>
    obtain ⟨Q, R, rfl, rfl, n1, n2, n3, n4⟩ := hrel
    obtain ⟨Q1, hQ1⟩ : ∃ Q1, Q1 = Q - 1 := ⟨_, rfl⟩
    obtain ⟨R1, hR1⟩ : ∃ R1, R1 = R + A := ⟨_, rfl⟩
    have hAA := HA.out
    have hBB := HB2.out
    have hCC := HCU.out
    have l2 : IntKind.u64.wrap ((R : Int) + (A : Int)) = (R1 : Int) := by rw [show (R : Int) + (A : Int) = (R1 : Int) by omega, wrapN _ (by omega)]
    have l1 : 1 ≤ Q → IntKind.u64.wrap ((Q : Int) - 1) = (Q1 : Int) := fun h => by rw [show (Q : Int) - 1 = (Q1 : Int) by omega, wrapN _ (by omega)]
    by_cases hq : (4294967296 : Int) ≤ (Q : Int)
    · have n5 := Dv.step YE.out MU.out hCC n1 n2 (.inl (by omega))
      have n0 := Nat.le_trans (Nat.le_add_left 1 _) n5
      have n6 := Dv.less n1 n0
      rw [← hQ1, ← hR1] at n6
      have l1 := l1 (by omega)
      by_cases hr : (4294967296 : Int) ≤ (R1 : Int)
      · have n7 := Dv.exit_ YE.out (by have := MU.out; omega) n6 (by omega) (Dv.late (C := C) hBB (by omega) (by omega))
        obtain ⟨qa, rfl⟩ : ∃ qa, qa = Q1 := ⟨_, rfl⟩
        have h9 := Dv.lt MU.out HCU.out
        have VL : (U * 4294967296 + C) % Y < Y := Nat.mod_lt _ (by have := MU.out; omega)
        have f1 : IntKind.u64.wrap (IntKind.u64.wrap (IntKind.u64.wrap ((U : Int) * 4294967296) + (C : Int)) - IntKind.u64.wrap ((qa : Int) * (Y : Int))) = (((U * 4294967296 + C) % Y : Nat) : Int) := by
          have h10 := Nat.div_add_mod (U * 4294967296 + C) Y
          have h11 := HH.out.2.1
          rw [← n7, Nat.mul_comm Y] at h10
          rw [← Int.natCast_mul]
          generalize qa * Y = Z at *
          generalize (U * 4294967296 + C) % Y = V at *
          simp only [IntKind.wrap_u64]
          omega
        have HQ : Hid (qa < 4294967296 ∧ qa = (U * 4294967296 + C) / Y) := Lib.hid ⟨by omega, n7⟩
        clear h9
        obtain ⟨V, hV⟩ : ∃ V, (U * 4294967296 + C) % Y = V := ⟨_, rfl⟩
        rw [hV] at f1 VL
        have HV := Lib.hid hV
        have MV := Lib.hid VL
        have f2 : IntKind.u64.wrap ((V : Int) / (A : Int)) = ((V / A : Nat) : Int) := by
          have h8 := Nat.div_le_self V A
          have h9 := HH.out.2.1
          rw [← Int.natCast_ediv, wrapN _ (by omega)]
        have f3 : IntKind.u64.wrap ((V : Int) - IntKind.u64.wrap (((V / A : Nat) : Int) * (A : Int))) = ((V % A : Nat) : Int) := by
          have i3 : V / A * A + V % A = V := Nat.div_add_mod' V A
          have h9 := HH.out.2.1
          rw [← Int.natCast_mul, wrapN _ (by omega), IntKind.wrap_u64]; omega
        have HI2 : Hid (DInv V E A Y (V / A) (V % A)) := by
          have i4 : V % A < A := Nat.mod_lt _ (by omega)
          have h9 := YE.out
          exact Lib.hid ⟨Nat.div_add_mod' V A, Dv.init YE.out (by omega) HCV.out, Dv.top (B := B) (by omega) hBB hAA.1, by omega⟩
        generalize V / A = Q5 at *
        generalize V % A = R5 at *
        clear n7 n5 n6 n0 hV VL n1 n2 n3 n4 hQ1 hR1 hAA hBB hCC
        try clear hP hM hM0
        go_wp2_with fail
        go_loop [18, 16] (fun q r => ∃ Q R : Nat, q = .int .u64 (Q : Int) ∧ r = .int .u64 (R : Int) ∧ DInv V E A Y Q R) (fun q _ => (intOf q).toNat)
        case atStart => exact ⟨_, _, rfl, rfl, HI2.out⟩
        case round =>
          obtain ⟨Q, R, rfl, rfl, n1, n2, n3, n4⟩ := hrel
          obtain ⟨Q1, hQ1⟩ : ∃ Q1, Q1 = Q - 1 := ⟨_, rfl⟩
          obtain ⟨R1, hR1⟩ : ∃ R1, R1 = R + A := ⟨_, rfl⟩
          have hAA := HA.out
          have hBB := HB2.out
          have hCC := HCV.out
          have l2 : IntKind.u64.wrap ((R : Int) + (A : Int)) = (R1 : Int) := by rw [show (R : Int) + (A : Int) = (R1 : Int) by omega, wrapN _ (by omega)]
          have l1 : 1 ≤ Q → IntKind.u64.wrap ((Q : Int) - 1) = (Q1 : Int) := fun h => by rw [show (Q : Int) - 1 = (Q1 : Int) by omega, wrapN _ (by omega)]
          by_cases hq : (4294967296 : Int) ≤ (Q : Int)
          · have n5 := Dv.step YE.out MV.out hCC n1 n2 (.inl (by omega))
            have n0 := Nat.le_trans (Nat.le_add_left 1 _) n5
            have n6 := Dv.less n1 n0
            rw [← hQ1, ← hR1] at n6
            have l1 := l1 (by omega)
            by_cases hr : (4294967296 : Int) ≤ (R1 : Int)
            · have n7 := Dv.exit_ YE.out (by have := MV.out; omega) n6 (by omega) (Dv.late (C := E) hBB (by omega) (by omega))
              obtain ⟨qq, hqq⟩ : ∃ qq, qa * 4294967296 = qq := ⟨_, rfl⟩
              have l6 : IntKind.u64.wrap ((qa : Int) * 4294967296) = (qq : Int) := by
                have := HQ.out.1
                rw [show (qa : Int) * 4294967296 = (qq : Int) by omega, wrapN _ (by omega)]
              have l7 : IntKind.u64.wrap ((qq : Int) + (Q1 : Int)) = (T : Int) := by
                have h8 := HQ.out
                have h9 := Dv.lt MV.out HCV.out
                rw [← n7] at h9
                have h10 := HT.out
                rw [HV.out, ← h8.2, ← n7, hqq] at h10
                rw [← h10, ← Int.natCast_add, wrapN _ (by omega)]
              clear n7 n1 n2 n3 n4 hQ1 hR1 hAA hBB hCC n5 n6 n0 hqq
              try clear hP hM hM0
              go_wp2_with fail
              go_ret2
              exact ⟨_, 0, rfl, rfl⟩
            · have n7 : DInv V E A Y Q1 R1 := ⟨n6, by omega, by omega, by omega⟩
              have N7 := Lib.hid n7
              have m9 : Q1 < Q := by omega
              clear n7 n1 n2 n3 n4 n5 n6 n0 hQ1 hR1 hAA hBB hCC
              try clear hP hM hM0
              go_wp2_with fail
              go_round
              case rel => exact ⟨Q1, R1, rfl, rfl, N7.out⟩
              case measure => simp [intOf]; omega
          · obtain ⟨P, hP⟩ : ∃ P, Q * B = P := ⟨_, rfl⟩
            obtain ⟨M0, hM0⟩ : ∃ M0, R * 4294967296 = M0 := ⟨_, rfl⟩
            obtain ⟨M, hM⟩ : ∃ M, M0 + E = M := ⟨_, rfl⟩
            have l3 : IntKind.u64.wrap ((Q : Int) * (B : Int)) = (P : Int) := by
              have h9 := Nat.mul_le_mul (show Q ≤ 4294967295 by omega) (show B ≤ 4294967295 by omega)
              rw [← Int.natCast_mul, hP, wrapN _ (by omega)]
            have l4 : IntKind.u64.wrap (4294967296 * (R : Int)) = (M0 : Int) := by
              rw [show 4294967296 * (R : Int) = (M0 : Int) by omega, wrapN _ (by omega)]
            have l5 : IntKind.u64.wrap ((M0 : Int) + (E : Int)) = (M : Int) := by
              rw [← Int.natCast_add, hM, wrapN _ (by omega)]
            by_cases hc : (M : Int) < (P : Int)
            · have n5 := Dv.step YE.out MV.out hCC n1 n2 (.inr (by omega))
              have n0 := Nat.le_trans (Nat.le_add_left 1 _) n5
              have n6 := Dv.less n1 n0
              rw [← hQ1, ← hR1] at n6
              have l1 := l1 (by omega)
              by_cases hr : (4294967296 : Int) ≤ (R1 : Int)
              · have n7 := Dv.exit_ YE.out (by have := MV.out; omega) n6 (by omega) (Dv.late (C := E) hBB (by omega) (by omega))
                obtain ⟨qq, hqq⟩ : ∃ qq, qa * 4294967296 = qq := ⟨_, rfl⟩
                have l6 : IntKind.u64.wrap ((qa : Int) * 4294967296) = (qq : Int) := by
                  have := HQ.out.1
                  rw [show (qa : Int) * 4294967296 = (qq : Int) by omega, wrapN _ (by omega)]
                have l7 : IntKind.u64.wrap ((qq : Int) + (Q1 : Int)) = (T : Int) := by
                  have h8 := HQ.out
                  have h9 := Dv.lt MV.out HCV.out
                  rw [← n7] at h9
                  have h10 := HT.out
                  rw [HV.out, ← h8.2, ← n7, hqq] at h10
                  rw [← h10, ← Int.natCast_add, wrapN _ (by omega)]
                clear n7 n1 n2 n3 n4 hQ1 hR1 hAA hBB hCC n5 n6 n0 hqq
                try clear hP hM hM0
                go_wp2_with fail
                go_ret2
                exact ⟨_, 0, rfl, rfl⟩
              · have n7 : DInv V E A Y Q1 R1 := ⟨n6, by omega, by omega, by omega⟩
                have N7 := Lib.hid n7
                have m9 : Q1 < Q := by omega
                clear n7 n1 n2 n3 n4 n5 n6 n0 hQ1 hR1 hAA hBB hCC
                try clear hP hM hM0
                go_wp2_with fail
                go_round
                case rel => exact ⟨Q1, R1, rfl, rfl, N7.out⟩
                case measure => simp [intOf]; omega
            · have n7 := Dv.exit_ YE.out (by have := MV.out; omega) n1 n2 (by omega)
              obtain ⟨qq, hqq⟩ : ∃ qq, qa * 4294967296 = qq := ⟨_, rfl⟩
              have l6 : IntKind.u64.wrap ((qa : Int) * 4294967296) = (qq : Int) := by
                have := HQ.out.1
                rw [show (qa : Int) * 4294967296 = (qq : Int) by omega, wrapN _ (by omega)]
              have l7 : IntKind.u64.wrap ((qq : Int) + (Q : Int)) = (T : Int) := by
                have h8 := HQ.out
                have h9 := Dv.lt MV.out HCV.out
                rw [← n7] at h9
                have h10 := HT.out
                rw [HV.out, ← h8.2, ← n7, hqq] at h10
                rw [← h10, ← Int.natCast_add, wrapN _ (by omega)]
              clear n7 n1 n2 n3 n4 hQ1 hR1 hAA hBB hCC hqq
              try clear hP hM hM0
              go_wp2_with fail
              go_ret2
              exact ⟨_, 0, rfl, rfl⟩
      · have n7 : DInv U C A Y Q1 R1 := ⟨n6, by omega, by omega, by omega⟩
        have N7 := Lib.hid n7
        have m9 : Q1 < Q := by omega
        clear n7 n1 n2 n3 n4 n5 n6 n0 hQ1 hR1 hAA hBB hCC
        try clear hP hM hM0
        go_wp2_with fail
        go_round
        case rel => exact ⟨Q1, R1, rfl, rfl, N7.out⟩
        case measure => simp [intOf]; omega
    · obtain ⟨P, hP⟩ : ∃ P, Q * B = P := ⟨_, rfl⟩
      obtain ⟨M0, hM0⟩ : ∃ M0, R * 4294967296 = M0 := ⟨_, rfl⟩
      obtain ⟨M, hM⟩ : ∃ M, M0 + C = M := ⟨_, rfl⟩
      have l3 : IntKind.u64.wrap ((Q : Int) * (B : Int)) = (P : Int) := by
        have h9 := Nat.mul_le_mul (show Q ≤ 4294967295 by omega) (show B ≤ 4294967295 by omega)
        rw [← Int.natCast_mul, hP, wrapN _ (by omega)]
      have l4 : IntKind.u64.wrap (4294967296 * (R : Int)) = (M0 : Int) := by
        rw [show 4294967296 * (R : Int) = (M0 : Int) by omega, wrapN _ (by omega)]
      have l5 : IntKind.u64.wrap ((M0 : Int) + (C : Int)) = (M : Int) := by
        rw [← Int.natCast_add, hM, wrapN _ (by omega)]
      by_cases hc : (M : Int) < (P : Int)
      · have n5 := Dv.step YE.out MU.out hCC n1 n2 (.inr (by omega))
        have n0 := Nat.le_trans (Nat.le_add_left 1 _) n5
        have n6 := Dv.less n1 n0
        rw [← hQ1, ← hR1] at n6
        have l1 := l1 (by omega)
        by_cases hr : (4294967296 : Int) ≤ (R1 : Int)
        · have n7 := Dv.exit_ YE.out (by have := MU.out; omega) n6 (by omega) (Dv.late (C := C) hBB (by omega) (by omega))
          obtain ⟨qa, rfl⟩ : ∃ qa, qa = Q1 := ⟨_, rfl⟩
          have h9 := Dv.lt MU.out HCU.out
          have VL : (U * 4294967296 + C) % Y < Y := Nat.mod_lt _ (by have := MU.out; omega)
          have f1 : IntKind.u64.wrap (IntKind.u64.wrap (IntKind.u64.wrap ((U : Int) * 4294967296) + (C : Int)) - IntKind.u64.wrap ((qa : Int) * (Y : Int))) = (((U * 4294967296 + C) % Y : Nat) : Int) := by
            have h10 := Nat.div_add_mod (U * 4294967296 + C) Y
            have h11 := HH.out.2.1
            rw [← n7, Nat.mul_comm Y] at h10
            rw [← Int.natCast_mul]
            generalize qa * Y = Z at *
            generalize (U * 4294967296 + C) % Y = V at *
            simp only [IntKind.wrap_u64]
            omega
          have HQ : Hid (qa < 4294967296 ∧ qa = (U * 4294967296 + C) / Y) := Lib.hid ⟨by omega, n7⟩
          clear h9
          obtain ⟨V, hV⟩ : ∃ V, (U * 4294967296 + C) % Y = V := ⟨_, rfl⟩
          rw [hV] at f1 VL
          have HV := Lib.hid hV
          have MV := Lib.hid VL
          have f2 : IntKind.u64.wrap ((V : Int) / (A : Int)) = ((V / A : Nat) : Int) := by
            have h8 := Nat.div_le_self V A
            have h9 := HH.out.2.1
            rw [← Int.natCast_ediv, wrapN _ (by omega)]
          have f3 : IntKind.u64.wrap ((V : Int) - IntKind.u64.wrap (((V / A : Nat) : Int) * (A : Int))) = ((V % A : Nat) : Int) := by
            have i3 : V / A * A + V % A = V := Nat.div_add_mod' V A
            have h9 := HH.out.2.1
            rw [← Int.natCast_mul, wrapN _ (by omega), IntKind.wrap_u64]; omega
          have HI2 : Hid (DInv V E A Y (V / A) (V % A)) := by
            have i4 : V % A < A := Nat.mod_lt _ (by omega)
            have h9 := YE.out
            exact Lib.hid ⟨Nat.div_add_mod' V A, Dv.init YE.out (by omega) HCV.out, Dv.top (B := B) (by omega) hBB hAA.1, by omega⟩
          generalize V / A = Q5 at *
          generalize V % A = R5 at *
          clear n7 n5 n6 n0 hV VL n1 n2 n3 n4 hQ1 hR1 hAA hBB hCC
          try clear hP hM hM0
          go_wp2_with fail
          go_loop [18, 16] (fun q r => ∃ Q R : Nat, q = .int .u64 (Q : Int) ∧ r = .int .u64 (R : Int) ∧ DInv V E A Y Q R) (fun q _ => (intOf q).toNat)
          case atStart => exact ⟨_, _, rfl, rfl, HI2.out⟩
          case round =>
            obtain ⟨Q, R, rfl, rfl, n1, n2, n3, n4⟩ := hrel
            obtain ⟨Q1, hQ1⟩ : ∃ Q1, Q1 = Q - 1 := ⟨_, rfl⟩
            obtain ⟨R1, hR1⟩ : ∃ R1, R1 = R + A := ⟨_, rfl⟩
            have hAA := HA.out
            have hBB := HB2.out
            have hCC := HCV.out
            have l2 : IntKind.u64.wrap ((R : Int) + (A : Int)) = (R1 : Int) := by rw [show (R : Int) + (A : Int) = (R1 : Int) by omega, wrapN _ (by omega)]
            have l1 : 1 ≤ Q → IntKind.u64.wrap ((Q : Int) - 1) = (Q1 : Int) := fun h => by rw [show (Q : Int) - 1 = (Q1 : Int) by omega, wrapN _ (by omega)]
            by_cases hq : (4294967296 : Int) ≤ (Q : Int)
            · have n5 := Dv.step YE.out MV.out hCC n1 n2 (.inl (by omega))
              have n0 := Nat.le_trans (Nat.le_add_left 1 _) n5
              have n6 := Dv.less n1 n0
              rw [← hQ1, ← hR1] at n6
              have l1 := l1 (by omega)
              by_cases hr : (4294967296 : Int) ≤ (R1 : Int)
              · have n7 := Dv.exit_ YE.out (by have := MV.out; omega) n6 (by omega) (Dv.late (C := E) hBB (by omega) (by omega))
                obtain ⟨qq, hqq⟩ : ∃ qq, qa * 4294967296 = qq := ⟨_, rfl⟩
                have l6 : IntKind.u64.wrap ((qa : Int) * 4294967296) = (qq : Int) := by
                  have := HQ.out.1
                  rw [show (qa : Int) * 4294967296 = (qq : Int) by omega, wrapN _ (by omega)]
                have l7 : IntKind.u64.wrap ((qq : Int) + (Q1 : Int)) = (T : Int) := by
                  have h8 := HQ.out
                  have h9 := Dv.lt MV.out HCV.out
                  rw [← n7] at h9
                  have h10 := HT.out
                  rw [HV.out, ← h8.2, ← n7, hqq] at h10
                  rw [← h10, ← Int.natCast_add, wrapN _ (by omega)]
                clear n7 n1 n2 n3 n4 hQ1 hR1 hAA hBB hCC n5 n6 n0 hqq
                try clear hP hM hM0
                go_wp2_with fail
                go_ret2
                exact ⟨_, 0, rfl, rfl⟩
              · have n7 : DInv V E A Y Q1 R1 := ⟨n6, by omega, by omega, by omega⟩
                have N7 := Lib.hid n7
                have m9 : Q1 < Q := by omega
                clear n7 n1 n2 n3 n4 n5 n6 n0 hQ1 hR1 hAA hBB hCC
                try clear hP hM hM0
                go_wp2_with fail
                go_round
                case rel => exact ⟨Q1, R1, rfl, rfl, N7.out⟩
                case measure => simp [intOf]; omega
            · obtain ⟨P, hP⟩ : ∃ P, Q * B = P := ⟨_, rfl⟩
              obtain ⟨M0, hM0⟩ : ∃ M0, R * 4294967296 = M0 := ⟨_, rfl⟩
              obtain ⟨M, hM⟩ : ∃ M, M0 + E = M := ⟨_, rfl⟩
              have l3 : IntKind.u64.wrap ((Q : Int) * (B : Int)) = (P : Int) := by
                have h9 := Nat.mul_le_mul (show Q ≤ 4294967295 by omega) (show B ≤ 4294967295 by omega)
                rw [← Int.natCast_mul, hP, wrapN _ (by omega)]
              have l4 : IntKind.u64.wrap (4294967296 * (R : Int)) = (M0 : Int) := by
                rw [show 4294967296 * (R : Int) = (M0 : Int) by omega, wrapN _ (by omega)]
              have l5 : IntKind.u64.wrap ((M0 : Int) + (E : Int)) = (M : Int) := by
                rw [← Int.natCast_add, hM, wrapN _ (by omega)]
              by_cases hc : (M : Int) < (P : Int)
              · have n5 := Dv.step YE.out MV.out hCC n1 n2 (.inr (by omega))
                have n0 := Nat.le_trans (Nat.le_add_left 1 _) n5
                have n6 := Dv.less n1 n0
                rw [← hQ1, ← hR1] at n6
                have l1 := l1 (by omega)
                by_cases hr : (4294967296 : Int) ≤ (R1 : Int)
                · have n7 := Dv.exit_ YE.out (by have := MV.out; omega) n6 (by omega) (Dv.late (C := E) hBB (by omega) (by omega))
                  obtain ⟨qq, hqq⟩ : ∃ qq, qa * 4294967296 = qq := ⟨_, rfl⟩
                  have l6 : IntKind.u64.wrap ((qa : Int) * 4294967296) = (qq : Int) := by
                    have := HQ.out.1
                    rw [show (qa : Int) * 4294967296 = (qq : Int) by omega, wrapN _ (by omega)]
                  have l7 : IntKind.u64.wrap ((qq : Int) + (Q1 : Int)) = (T : Int) := by
                    have h8 := HQ.out
                    have h9 := Dv.lt MV.out HCV.out
                    rw [← n7] at h9
                    have h10 := HT.out
                    rw [HV.out, ← h8.2, ← n7, hqq] at h10
                    rw [← h10, ← Int.natCast_add, wrapN _ (by omega)]
                  clear n7 n1 n2 n3 n4 hQ1 hR1 hAA hBB hCC n5 n6 n0 hqq
                  try clear hP hM hM0
                  go_wp2_with fail
                  go_ret2
                  exact ⟨_, 0, rfl, rfl⟩
                · have n7 : DInv V E A Y Q1 R1 := ⟨n6, by omega, by omega, by omega⟩
                  have N7 := Lib.hid n7
                  have m9 : Q1 < Q := by omega
                  clear n7 n1 n2 n3 n4 n5 n6 n0 hQ1 hR1 hAA hBB hCC
                  try clear hP hM hM0
                  go_wp2_with fail
                  go_round
                  case rel => exact ⟨Q1, R1, rfl, rfl, N7.out⟩
                  case measure => simp [intOf]; omega
              · have n7 := Dv.exit_ YE.out (by have := MV.out; omega) n1 n2 (by omega)
                obtain ⟨qq, hqq⟩ : ∃ qq, qa * 4294967296 = qq := ⟨_, rfl⟩
                have l6 : IntKind.u64.wrap ((qa : Int) * 4294967296) = (qq : Int) := by
                  have := HQ.out.1
                  rw [show (qa : Int) * 4294967296 = (qq : Int) by omega, wrapN _ (by omega)]
                have l7 : IntKind.u64.wrap ((qq : Int) + (Q : Int)) = (T : Int) := by
                  have h8 := HQ.out
                  have h9 := Dv.lt MV.out HCV.out
                  rw [← n7] at h9
                  have h10 := HT.out
                  rw [HV.out, ← h8.2, ← n7, hqq] at h10
                  rw [← h10, ← Int.natCast_add, wrapN _ (by omega)]
                clear n7 n1 n2 n3 n4 hQ1 hR1 hAA hBB hCC hqq
                try clear hP hM hM0
                go_wp2_with fail
                go_ret2
                exact ⟨_, 0, rfl, rfl⟩
        · have n7 : DInv U C A Y Q1 R1 := ⟨n6, by omega, by omega, by omega⟩
          have N7 := Lib.hid n7
          have m9 : Q1 < Q := by omega
          clear n7 n1 n2 n3 n4 n5 n6 n0 hQ1 hR1 hAA hBB hCC
          try clear hP hM hM0
          go_wp2_with fail
          go_round
          case rel => exact ⟨Q1, R1, rfl, rfl, N7.out⟩
          case measure => simp [intOf]; omega
      · have n7 := Dv.exit_ YE.out (by have := MU.out; omega) n1 n2 (by omega)
        obtain ⟨qa, rfl⟩ : ∃ qa, qa = Q := ⟨_, rfl⟩
        have h9 := Dv.lt MU.out HCU.out
        have VL : (U * 4294967296 + C) % Y < Y := Nat.mod_lt _ (by have := MU.out; omega)
        have f1 : IntKind.u64.wrap (IntKind.u64.wrap (IntKind.u64.wrap ((U : Int) * 4294967296) + (C : Int)) - IntKind.u64.wrap ((qa : Int) * (Y : Int))) = (((U * 4294967296 + C) % Y : Nat) : Int) := by
          have h10 := Nat.div_add_mod (U * 4294967296 + C) Y
          have h11 := HH.out.2.1
          rw [← n7, Nat.mul_comm Y] at h10
          rw [← Int.natCast_mul]
          generalize qa * Y = Z at *
          generalize (U * 4294967296 + C) % Y = V at *
          simp only [IntKind.wrap_u64]
          omega
        have HQ : Hid (qa < 4294967296 ∧ qa = (U * 4294967296 + C) / Y) := Lib.hid ⟨by omega, n7⟩
        clear h9
        obtain ⟨V, hV⟩ : ∃ V, (U * 4294967296 + C) % Y = V := ⟨_, rfl⟩
        rw [hV] at f1 VL
        have HV := Lib.hid hV
        have MV := Lib.hid VL
        have f2 : IntKind.u64.wrap ((V : Int) / (A : Int)) = ((V / A : Nat) : Int) := by
          have h8 := Nat.div_le_self V A
          have h9 := HH.out.2.1
          rw [← Int.natCast_ediv, wrapN _ (by omega)]
        have f3 : IntKind.u64.wrap ((V : Int) - IntKind.u64.wrap (((V / A : Nat) : Int) * (A : Int))) = ((V % A : Nat) : Int) := by
          have i3 : V / A * A + V % A = V := Nat.div_add_mod' V A
          have h9 := HH.out.2.1
          rw [← Int.natCast_mul, wrapN _ (by omega), IntKind.wrap_u64]; omega
        have HI2 : Hid (DInv V E A Y (V / A) (V % A)) := by
          have i4 : V % A < A := Nat.mod_lt _ (by omega)
          have h9 := YE.out
          exact Lib.hid ⟨Nat.div_add_mod' V A, Dv.init YE.out (by omega) HCV.out, Dv.top (B := B) (by omega) hBB hAA.1, by omega⟩
        generalize V / A = Q5 at *
        generalize V % A = R5 at *
        clear n7 hV VL n1 n2 n3 n4 hQ1 hR1 hAA hBB hCC
        try clear hP hM hM0
        go_wp2_with fail
        go_loop [18, 16] (fun q r => ∃ Q R : Nat, q = .int .u64 (Q : Int) ∧ r = .int .u64 (R : Int) ∧ DInv V E A Y Q R) (fun q _ => (intOf q).toNat)
        case atStart => exact ⟨_, _, rfl, rfl, HI2.out⟩
        case round =>
          obtain ⟨Q, R, rfl, rfl, n1, n2, n3, n4⟩ := hrel
          obtain ⟨Q1, hQ1⟩ : ∃ Q1, Q1 = Q - 1 := ⟨_, rfl⟩
          obtain ⟨R1, hR1⟩ : ∃ R1, R1 = R + A := ⟨_, rfl⟩
          have hAA := HA.out
          have hBB := HB2.out
          have hCC := HCV.out
          have l2 : IntKind.u64.wrap ((R : Int) + (A : Int)) = (R1 : Int) := by rw [show (R : Int) + (A : Int) = (R1 : Int) by omega, wrapN _ (by omega)]
          have l1 : 1 ≤ Q → IntKind.u64.wrap ((Q : Int) - 1) = (Q1 : Int) := fun h => by rw [show (Q : Int) - 1 = (Q1 : Int) by omega, wrapN _ (by omega)]
          by_cases hq : (4294967296 : Int) ≤ (Q : Int)
          · have n5 := Dv.step YE.out MV.out hCC n1 n2 (.inl (by omega))
            have n0 := Nat.le_trans (Nat.le_add_left 1 _) n5
            have n6 := Dv.less n1 n0
            rw [← hQ1, ← hR1] at n6
            have l1 := l1 (by omega)
            by_cases hr : (4294967296 : Int) ≤ (R1 : Int)
            · have n7 := Dv.exit_ YE.out (by have := MV.out; omega) n6 (by omega) (Dv.late (C := E) hBB (by omega) (by omega))
              obtain ⟨qq, hqq⟩ : ∃ qq, qa * 4294967296 = qq := ⟨_, rfl⟩
              have l6 : IntKind.u64.wrap ((qa : Int) * 4294967296) = (qq : Int) := by
                have := HQ.out.1
                rw [show (qa : Int) * 4294967296 = (qq : Int) by omega, wrapN _ (by omega)]
              have l7 : IntKind.u64.wrap ((qq : Int) + (Q1 : Int)) = (T : Int) := by
                have h8 := HQ.out
                have h9 := Dv.lt MV.out HCV.out
                rw [← n7] at h9
                have h10 := HT.out
                rw [HV.out, ← h8.2, ← n7, hqq] at h10
                rw [← h10, ← Int.natCast_add, wrapN _ (by omega)]
              clear n7 n1 n2 n3 n4 hQ1 hR1 hAA hBB hCC n5 n6 n0 hqq
              try clear hP hM hM0
              go_wp2_with fail
              go_ret2
              exact ⟨_, 0, rfl, rfl⟩
            · have n7 : DInv V E A Y Q1 R1 := ⟨n6, by omega, by omega, by omega⟩
              have N7 := Lib.hid n7
              have m9 : Q1 < Q := by omega
              clear n7 n1 n2 n3 n4 n5 n6 n0 hQ1 hR1 hAA hBB hCC
              try clear hP hM hM0
              go_wp2_with fail
              go_round
              case rel => exact ⟨Q1, R1, rfl, rfl, N7.out⟩
              case measure => simp [intOf]; omega
          · obtain ⟨P, hP⟩ : ∃ P, Q * B = P := ⟨_, rfl⟩
            obtain ⟨M0, hM0⟩ : ∃ M0, R * 4294967296 = M0 := ⟨_, rfl⟩
            obtain ⟨M, hM⟩ : ∃ M, M0 + E = M := ⟨_, rfl⟩
            have l3 : IntKind.u64.wrap ((Q : Int) * (B : Int)) = (P : Int) := by
              have h9 := Nat.mul_le_mul (show Q ≤ 4294967295 by omega) (show B ≤ 4294967295 by omega)
              rw [← Int.natCast_mul, hP, wrapN _ (by omega)]
            have l4 : IntKind.u64.wrap (4294967296 * (R : Int)) = (M0 : Int) := by
              rw [show 4294967296 * (R : Int) = (M0 : Int) by omega, wrapN _ (by omega)]
            have l5 : IntKind.u64.wrap ((M0 : Int) + (E : Int)) = (M : Int) := by
              rw [← Int.natCast_add, hM, wrapN _ (by omega)]
            by_cases hc : (M : Int) < (P : Int)
            · have n5 := Dv.step YE.out MV.out hCC n1 n2 (.inr (by omega))
              have n0 := Nat.le_trans (Nat.le_add_left 1 _) n5
              have n6 := Dv.less n1 n0
              rw [← hQ1, ← hR1] at n6
              have l1 := l1 (by omega)
              by_cases hr : (4294967296 : Int) ≤ (R1 : Int)
              · have n7 := Dv.exit_ YE.out (by have := MV.out; omega) n6 (by omega) (Dv.late (C := E) hBB (by omega) (by omega))
                obtain ⟨qq, hqq⟩ : ∃ qq, qa * 4294967296 = qq := ⟨_, rfl⟩
                have l6 : IntKind.u64.wrap ((qa : Int) * 4294967296) = (qq : Int) := by
                  have := HQ.out.1
                  rw [show (qa : Int) * 4294967296 = (qq : Int) by omega, wrapN _ (by omega)]
                have l7 : IntKind.u64.wrap ((qq : Int) + (Q1 : Int)) = (T : Int) := by
                  have h8 := HQ.out
                  have h9 := Dv.lt MV.out HCV.out
                  rw [← n7] at h9
                  have h10 := HT.out
                  rw [HV.out, ← h8.2, ← n7, hqq] at h10
                  rw [← h10, ← Int.natCast_add, wrapN _ (by omega)]
                clear n7 n1 n2 n3 n4 hQ1 hR1 hAA hBB hCC n5 n6 n0 hqq
                try clear hP hM hM0
                go_wp2_with fail
                go_ret2
                exact ⟨_, 0, rfl, rfl⟩
              · have n7 : DInv V E A Y Q1 R1 := ⟨n6, by omega, by omega, by omega⟩
                have N7 := Lib.hid n7
                have m9 : Q1 < Q := by omega
                clear n7 n1 n2 n3 n4 n5 n6 n0 hQ1 hR1 hAA hBB hCC
                try clear hP hM hM0
                go_wp2_with fail
                go_round
                case rel => exact ⟨Q1, R1, rfl, rfl, N7.out⟩
                case measure => simp [intOf]; omega
            · have n7 := Dv.exit_ YE.out (by have := MV.out; omega) n1 n2 (by omega)
              obtain ⟨qq, hqq⟩ : ∃ qq, qa * 4294967296 = qq := ⟨_, rfl⟩
              have l6 : IntKind.u64.wrap ((qa : Int) * 4294967296) = (qq : Int) := by
                have := HQ.out.1
                rw [show (qa : Int) * 4294967296 = (qq : Int) by omega, wrapN _ (by omega)]
              have l7 : IntKind.u64.wrap ((qq : Int) + (Q : Int)) = (T : Int) := by
                have h8 := HQ.out
                have h9 := Dv.lt MV.out HCV.out
                rw [← n7] at h9
                have h10 := HT.out
                rw [HV.out, ← h8.2, ← n7, hqq] at h10
                rw [← h10, ← Int.natCast_add, wrapN _ (by omega)]
              clear n7 n1 n2 n3 n4 hQ1 hR1 hAA hBB hCC hqq
              try clear hP hM hM0
              go_wp2_with fail
              go_ret2
              exact ⟨_, 0, rfl, rfl⟩
end Go.Proofs.YtgfahenhobnjpaaDoor

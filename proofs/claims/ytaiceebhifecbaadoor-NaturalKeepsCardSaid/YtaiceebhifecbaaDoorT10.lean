/-
  Contracts of Len32 and Bits. Conditions: slices of at most 900 digits.
-/
import Derived.Test.YtaiceebhifecbaaDoorT9
import Derived.Deep.Cut
import Derived.Deep.DeepCutAuto
namespace Go.Proofs.YtaiceebhifecbaaDoor
open Go.RowKit
namespace Nm
/-- The number of binary digits. -/
def blen (x : Nat) : Nat := if x = 0 then 0 else Nat.log2 x + 1
theorem blen_half {x : Nat} (h : 0 < x) : blen x = blen (x / 2) + 1 := by
  unfold blen
  rw [if_neg (by omega)]
  by_cases h1 : x < 2
  · obtain rfl : x = 1 := by omega
    rfl
  · rw [if_neg (by omega), Nat.log2_def, if_pos (by omega)]
theorem blen_256 {x : Nat} (h : 256 ≤ x) : blen x = blen (x / 256) + 8 := by
  rw [blen_half (x := x) (by omega), blen_half (x := x / 2) (by omega), blen_half (x := x / 2 / 2) (by omega), blen_half (x := x / 2 / 2 / 2) (by omega), blen_half (x := x / 2 / 2 / 2 / 2) (by omega), blen_half (x := x / 2 / 2 / 2 / 2 / 2) (by omega),
    blen_half (x := x / 2 / 2 / 2 / 2 / 2 / 2) (by omega), blen_half (x := x / 2 / 2 / 2 / 2 / 2 / 2 / 2) (by omega), show x / 2 / 2 / 2 / 2 / 2 / 2 / 2 / 2 = x / 256 from by omega]
theorem blen_lt {x k : Nat} (h : x < 2 ^ k) : blen x ≤ k := by
  unfold blen
  split
  · omega
  · have := (Nat.log2_lt (n := x) (k := k) (by omega)).2 h
    omega
end Nm
theorem wpList_index_str {P : Program} {w : World} {ops : Array Oper} {rest : List Oper} {o : Oper} {a : Act} {Q : Exit → Act → World → Prop} (hgd : o.guard = none) (S : ByteArray) (t : Operand)
    (ho : o.op = .index 9 (.const (.string S)) t) (h9 : P.underlying 9 = some .string) (i : Nat) (z : Int) (hz : z = (i : Int)) (b : UInt8) (hv : a.eval t = .int .u8 z) (hS : S[i]? = some b)
    (h : wpList P ops Q rest (a.put o.dst (.int .u8 b.toNat)) w) : wpList P ops Q (o :: rest) a w :=
  wpList_plain hgd fun _ hK => by
    subst hz
    have hr : (Instr.index 9 (.string S) (.int .u8 (i : Int))).run P w = .ok (.int .u8 b.toNat) w := by
      simp [Instr.index, asIntOf, run_underlying h9, hS]
    have hc : a.eval (.const (.string S)) = .string S := rfl
    unfold Oper.wp execOp
    simp only [ho, hv, hc, Sem.run_bind, hr, Result.andThen_ok, Sem.run_pure]
    exact hK _ _ h
set_option maxRecDepth 1000000 in
set_option maxHeartbeats 400000 in
theorem len32_any (x : Nat) (w : World) (hx : x < 4294967296) :
    Calls Tryd.prog 47 #[.int .u32 x] w fun e w' => e = .returned (.int .i64 (Nm.blen x)) ∧ w = w' := by
  have h9 : Tryd.prog.underlying 9 = some .string := by kernel_rfl
  go_enter Tryd.func47, Tryd.ntmps47
  have hT : ∃ S : ByteArray, S = (ByteArray.mk (List.append (List.append ([0, 1, 2, 2, 3, 3, 3, 3, 4, 4, 4, 4, 4, 4, 4, 4, 5, 5, 5, 5, 5, 5, 5, 5, 5, 5, 5, 5, 5, 5, 5, 5, 6, 6, 6, 6, 6, 6, 6, 6, 6, 6, 6, 6, 6, 6, 6, 6, 6, 6, 6, 6, 6, 6, 6, 6, 6, 6, 6, 6, 6, 6, 6, 6] : List UInt8) [7, 7, 7, 7, 7, 7, 7, 7, 7, 7, 7, 7, 7, 7, 7, 7, 7, 7, 7, 7, 7, 7, 7, 7, 7, 7, 7, 7, 7, 7, 7, 7, 7, 7, 7, 7, 7, 7, 7, 7, 7, 7, 7, 7, 7, 7, 7, 7, 7, 7, 7, 7, 7, 7, 7, 7, 7, 7, 7, 7, 7, 7, 7, 7]) (List.append [8, 8, 8, 8, 8, 8, 8, 8, 8, 8, 8, 8, 8, 8, 8, 8, 8, 8, 8, 8, 8, 8, 8, 8, 8, 8, 8, 8, 8, 8, 8, 8, 8, 8, 8, 8, 8, 8, 8, 8, 8, 8, 8, 8, 8, 8, 8, 8, 8, 8, 8, 8, 8, 8, 8, 8, 8, 8, 8, 8, 8, 8, 8, 8] [8, 8, 8, 8, 8, 8, 8, 8, 8, 8, 8, 8, 8, 8, 8, 8, 8, 8, 8, 8, 8, 8, 8, 8, 8, 8, 8, 8, 8, 8, 8, 8, 8, 8, 8, 8, 8, 8, 8, 8, 8, 8, 8, 8, 8, 8, 8, 8, 8, 8, 8, 8, 8, 8, 8, 8, 8, 8, 8, 8, 8, 8, 8, 8])).toArray) ∧ ∀ i, i < 256 → S[i]? = some (UInt8.ofNat (Nm.blen i)) := by
    refine ⟨_, rfl, ?_⟩
    have h : (List.range 256).all (fun i => decide ((ByteArray.mk (List.append (List.append ([0, 1, 2, 2, 3, 3, 3, 3, 4, 4, 4, 4, 4, 4, 4, 4, 5, 5, 5, 5, 5, 5, 5, 5, 5, 5, 5, 5, 5, 5, 5, 5, 6, 6, 6, 6, 6, 6, 6, 6, 6, 6, 6, 6, 6, 6, 6, 6, 6, 6, 6, 6, 6, 6, 6, 6, 6, 6, 6, 6, 6, 6, 6, 6] : List UInt8) [7, 7, 7, 7, 7, 7, 7, 7, 7, 7, 7, 7, 7, 7, 7, 7, 7, 7, 7, 7, 7, 7, 7, 7, 7, 7, 7, 7, 7, 7, 7, 7, 7, 7, 7, 7, 7, 7, 7, 7, 7, 7, 7, 7, 7, 7, 7, 7, 7, 7, 7, 7, 7, 7, 7, 7, 7, 7, 7, 7, 7, 7, 7, 7]) (List.append [8, 8, 8, 8, 8, 8, 8, 8, 8, 8, 8, 8, 8, 8, 8, 8, 8, 8, 8, 8, 8, 8, 8, 8, 8, 8, 8, 8, 8, 8, 8, 8, 8, 8, 8, 8, 8, 8, 8, 8, 8, 8, 8, 8, 8, 8, 8, 8, 8, 8, 8, 8, 8, 8, 8, 8, 8, 8, 8, 8, 8, 8, 8, 8] [8, 8, 8, 8, 8, 8, 8, 8, 8, 8, 8, 8, 8, 8, 8, 8, 8, 8, 8, 8, 8, 8, 8, 8, 8, 8, 8, 8, 8, 8, 8, 8, 8, 8, 8, 8, 8, 8, 8, 8, 8, 8, 8, 8, 8, 8, 8, 8, 8, 8, 8, 8, 8, 8, 8, 8, 8, 8, 8, 8, 8, 8, 8, 8])).toArray)[i]? = some (UInt8.ofNat (Nm.blen i)))) = true := by decide +kernel
    intro i hi
    simpa using List.all_eq_true.1 h i (List.mem_range.2 hi)
  obtain ⟨S, hS, hT⟩ := hT
  rw [← hS]
  clear hS
  have hT : ∀ i, i < 256 → ∃ b : UInt8, S[i]? = some b ∧ b.toNat = Nm.blen i := fun i hi => ⟨_, hT i hi, by
    have := Nm.blen_lt (x := i) (k := 8) (by omega)
    rw [UInt8.toNat_ofNat']; omega⟩
  rcases Nat.lt_or_ge x 65536 with h1 | h1
  · have b1 : decide ((65536 : Int) ≤ (x : Int)) = false := decide_eq_false (by omega)
    rcases Nat.lt_or_ge x 256 with h2 | h2
    · have b2 : decide ((256 : Int) ≤ (x : Int)) = false := decide_eq_false (by omega)
      obtain ⟨b, hbS, hbn⟩ := hT (x) (by omega)
      have hfin : ((0 : Nat) : Int) + (b.toNat : Int) = (Nm.blen x : Int) := by omega
      have Hb := Lib.hid hbS
      have hb8 : (b.toNat : Int) < 256 := by have := b.toNat_lt; omega
      have Hf := Lib.hid hfin
      have b3 : (x : Int) < 256 := by omega
      clear hT hbS hfin hbn h1 hx h2
      go_wp2_with (with_reducible refine wpList_index_str rfl S (.tmp 15) rfl h9 (x) _ (by omega) _ rfl Hb.out ?_)
      go_ret
      exact ⟨ret_int (by rw [← Hf.out]; simp), rfl⟩
    · have b2 : decide ((256 : Int) ≤ (x : Int)) = true := decide_eq_true (by omega)
      obtain ⟨b, hbS, hbn⟩ := hT (x / 256) (by omega)
      have hfin : ((8 : Nat) : Int) + (b.toNat : Int) = (Nm.blen x : Int) := by rw [Nm.blen_256 h2]; omega
      have Hb := Lib.hid hbS
      have hb8 : (b.toNat : Int) < 256 := by have := b.toNat_lt; omega
      have Hf := Lib.hid hfin
      have b3 : (x : Int) / 256 < 256 := by omega
      clear hT hbS hfin hbn h1 hx h2
      go_wp2_with (with_reducible refine wpList_index_str rfl S (.tmp 15) rfl h9 (x / 256) _ (by omega) _ rfl Hb.out ?_)
      go_ret
      exact ⟨ret_int (by rw [← Hf.out]; simp), rfl⟩
  · have b1 : decide ((65536 : Int) ≤ (x : Int)) = true := decide_eq_true (by omega)
    rcases Nat.lt_or_ge (x / 65536) 256 with h2 | h2
    · have b2 : decide ((256 : Int) ≤ (x : Int) / 65536) = false := decide_eq_false (by omega)
      obtain ⟨b, hbS, hbn⟩ := hT (x / 65536) (by omega)
      have hfin : ((16 : Nat) : Int) + (b.toNat : Int) = (Nm.blen x : Int) := by rw [Nm.blen_256 (x := x) (by omega), Nm.blen_256 (x := x / 256) (by omega), show x / 256 / 256 = x / 65536 from by omega]; omega
      have Hb := Lib.hid hbS
      have hb8 : (b.toNat : Int) < 256 := by have := b.toNat_lt; omega
      have Hf := Lib.hid hfin
      have b3 : (x : Int) / 65536 < 256 := by omega
      clear hT hbS hfin hbn h1 hx h2
      go_wp2_with (with_reducible refine wpList_index_str rfl S (.tmp 15) rfl h9 (x / 65536) _ (by omega) _ rfl Hb.out ?_)
      go_ret
      exact ⟨ret_int (by rw [← Hf.out]; simp), rfl⟩
    · have b2 : decide ((256 : Int) ≤ (x : Int) / 65536) = true := decide_eq_true (by omega)
      obtain ⟨b, hbS, hbn⟩ := hT (x / 65536 / 256) (by omega)
      have hfin : ((24 : Nat) : Int) + (b.toNat : Int) = (Nm.blen x : Int) := by rw [Nm.blen_256 (x := x) (by omega), Nm.blen_256 (x := x / 256) (by omega), show x / 256 / 256 = x / 65536 from by omega, Nm.blen_256 (x := x / 65536) h2]; omega
      have Hb := Lib.hid hbS
      have hb8 : (b.toNat : Int) < 256 := by have := b.toNat_lt; omega
      have Hf := Lib.hid hfin
      have b3 : (x : Int) / 65536 / 256 < 256 := by omega
      clear hT hbS hfin hbn h1 hx h2
      go_wp2_with (with_reducible refine wpList_index_str rfl S (.tmp 15) rfl h9 (x / 65536 / 256) _ (by omega) _ rfl Hb.out ?_)
      go_ret
      exact ⟨ret_int (by rw [← Hf.out]; simp), rfl⟩
end Go.Proofs.YtaiceebhifecbaaDoor

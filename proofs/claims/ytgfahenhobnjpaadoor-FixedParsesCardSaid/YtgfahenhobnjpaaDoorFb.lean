/-
  A number's decimal digits, as the library writes them. Condition: the library's table of powers of ten reads as it was laid.
-/
import Derived.Test.YtgfahenhobnjpaaDoorFa
import Derived.Test.YtgfahenhobnjpaaDoorPp
import Derived.Test.YtgfahenhobnjpaaDoorShelf
import Derived.Lib.AppendIntMem
namespace Go.Proofs.YtgfahenhobnjpaaDoor
open Go.RowKit Go.Sort Go.Lib
/-- The library's table. -/
def Tb (w : World) : Prop := Lib.TabIs Tryd.prog w "internal/strconv.uint64pow10" .u64 Lib.pow10Tab
abbrev byteV : UInt8 → Value := fun (b : UInt8) => Value.int .u8 (b.toNat : Int)
set_option maxRecDepth 100000 in
set_option maxHeartbeats 4000000 in
theorem fmt0_any (u : Nat) (w : World) (hu : u < 281474976710656) (ht : Tb w) :
    Calls Tryd.prog 33 #[.int .u64 (u : Int), .int .i64 10] w (Ib (.string ⟨(Lib.decDigits u).toArray⟩) w) := by
  by_cases h1 : u < 100
  · have c := fun w => Tryd.internal_strconv_small u h1 w
    have hd : decide ((u : Int) < 100) = true := by simp; omega
    go_enter Tryd.func33, Tryd.ntmps33
    go_wp2_with (go_at_call 38; refine (c _).mono ?_; rintro e w' ⟨rfl, rfl⟩)
    go_ret
    exact ⟨by rfl, Below.refl _ _⟩
  · have hn20 : Lib.nDigits u ≤ 20 := by have := Lib.numDigits_eq u (by omega) (by omega); split at this <;> omega
    have c := fun w ht => Tryd.internal_strconv_numDigits u (by omega) (by omega) w ht
    have hal : Tryd.prog.arrayLen 62 = 24 := by simp [Program.arrayLen, Tryd.underlying62]
    have hsl : ∀ W b, (Instr.sliceAt 62 (.pointer (some ⟨b, 0, none⟩)) none (some (.int .i64 (Lib.nDigits u : Int))) none).run Tryd.prog W = .ok (.slice (some ⟨b, 0, none⟩) (Lib.nDigits u) 24) W := fun W b => by
      rw [run_sliceAt_array_h W 62 ⟨b, 0, none⟩ (by simp [Program.arrayLen, Program.elem, Tryd.underlying62]) .i64 (Lib.nDigits u : Int) (by omega) (by rw [hal]; omega)]
      go_simp
    have hd : decide ((u : Int) < 100) = false := by simp; omega
    have hH := Lib.holds_zero0 w 62 (Lib.nDigits u) (by omega)
    have hf := Tryd.internal_strconv_formatBase10 w.heap.size 0 24 u (Array.replicate (Lib.nDigits u) 0) (w.alloc (.cells Lib.zeros24 62)) hH (by rw [Array.size_replicate]; exact Lib.lt_pow_nDigits u) (by omega) (by rw [Array.size_replicate]; omega)
    rw [Array.size_replicate] at hf
    have HH := Lib.hid hH
    generalize hnd : Lib.nDigits u = nd at *
    have HL := Lib.hid ((Lib.decDigits_length u).trans hnd)
    have HN := Lib.hid hnd
    clear hnd
    clear hH hal h1 hu
    go_enter Tryd.func33, Tryd.ntmps33
    go_wp2_with (go_at_call 39; refine (c _ (Lib.tabIs_alloc ht _)).mono ?_; rintro e w' ⟨rfl, rfl⟩)
    refine hf.mono ?_
    rintro e w' ⟨rfl, k, v', dk, rfl, hF⟩
    have hcv : (convert 53 9 (.slice (some ⟨w.heap.size, 0, none⟩) nd 24)).run Tryd.prog ((putRow byteV (w.alloc (.cells Lib.zeros24 62)) w.heap.size 0 dk).drewN k) = .ok (.string ⟨(Lib.decDigits u).toArray⟩) ((putRow byteV (w.alloc (.cells Lib.zeros24 62)) w.heap.size 0 dk).drewN k) := by
      have h := run_convert_bytes_back (P := Tryd.prog) ((putRow byteV (w.alloc (.cells Lib.zeros24 62)) w.heap.size 0 dk).drewN k) 53 9 5 ⟨w.heap.size, 0, none⟩ 24 (Lib.decDigits u) Tryd.underlying53 Tryd.underlying5 Tryd.underlying9 (fun j hj => by
        have hj2 : j < nd := by rw [HL.out] at hj; exact hj
        rw [Lib.row_is_numeral (v' := v') (dk := dk) (by rw [HN.out]; exact hF) j hj, Lib.add_plain, World.cell?_drewN]
        exact cell?_putRow byteV _ w.heap.size 0 _ dk HH.out (by rw [hF.size, Array.size_replicate]) j (by rw [hF.size]; exact hj2))
      rw [HL.out] at h
      exact h
    obtain ⟨os, eo⟩ := Lib.fin_at w (.cells Lib.zeros24 62) dk k 0
    have hB : Below w.heap.size w ((putRow byteV (w.alloc (.cells Lib.zeros24 62)) w.heap.size 0 dk).drewN k) := by rw [eo]; exact Lib.below_grow _ w (Nat.le_refl _) k os
    generalize (putRow byteV (w.alloc (.cells Lib.zeros24 62)) w.heap.size 0 dk).drewN k = w2 at *
    clear eo hF hf HH c
    go_wp2_with fail
    go_ret
    exact ⟨by rfl, hB⟩
theorem fmt_any (u : Nat) (w : World) (hu : u < 281474976710656) (ht : Tb w) :
    Calls Tryd.prog 20 #[.int .u64 (u : Int), .int .i64 10] w (Ib (.string ⟨(Lib.decDigits u).toArray⟩) w) := by
  have c := fmt0_any u w hu ht
  clear hu ht
  go_enter Tryd.func20, Tryd.ntmps20
  go_wp2_with fail
  refine c.mono ?_
  rintro e w' ⟨rfl, hb⟩
  go_wp2_with fail
  go_ret
  exact ⟨by rfl, hb⟩
end Go.Proofs.YtgfahenhobnjpaaDoor

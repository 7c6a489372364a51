/-
  A range over a string's characters, byte by byte. The tables of utf8 as the program laid them.
-/
import Derived.Test.YtcjaaijohapeaaaDoorEc
import Derived.Lib.OthersKept
namespace Go.Proofs.YtcjaaijohapeaaaDoor
open Go.RowKit
theorem take_snoc (s : ByteArray) (k : Nat) (h : k < s.size) : s.data.toList.take (k + 1) = s.data.toList.take k ++ [s[k]] := by
  rw [List.take_succ_eq_append_getElem (by simpa using h)]; rfl
theorem size_list (s : ByteArray) : s.data.toList.length = s.size := by simp
set_option maxHeartbeats 1000000 in
set_option maxRecDepth 100000 in
theorem fold32_any (s : ByteArray) (x : Nat) (w : World) (hs : s.size ≤ 9223372036854775807) (hx : x ≤ 4294967295) (hT : Tabs w) :
    Calls Tryd.prog 91 #[.int .u32 (x : Int), .string s, .func (.func 92) #[] #[]] w (Ib (.int .u32 (reg x s.data.toList : Int)) w) := by
  go_enter Tryd.func91, Tryd.ntmps91
  go_wp2_with fail
  go_loopw [0] (fun u wx => ∃ pos acc : Nat, u = .int .u32 (acc : Int) ∧ acc ≤ 4294967295 ∧ pos ≤ s.size ∧ wx.heap[w.heap.size]? = some (.stringIter s pos) ∧ Below w.heap.size w wx ∧ Hid (acc = reg x (s.data.toList.take pos))) (fun _ wx => s.size - wx.iterPos w.heap.size)
  case atStart => exact ⟨0, x, rfl, hx, by omega, World.iter_heap w s 0, (Below.refl _ w).alloc (Nat.le_refl _) _, Lib.hid rfl⟩
  case round =>
    obtain ⟨pos, acc, rfl, ha, hp, hit, hbw, hI⟩ := hrel
    by_cases hps : pos < s.size
    · have hnx : ∀ ty, (Instr.next (.pointer (some ⟨w.heap.size, 0, none⟩)) true ty).run Tryd.prog wr = _ := fun ty => Lib.run_next_any_at wr w.heap.size s pos ty hit hps
      obtain ⟨hK1, hK2⟩ := decode_fits s pos hps
      have hit2 := Lib.iterAt_heap wr w.heap.size s pos (pos + (Utf8.decode s pos).2) hit
      have hbw2 := Lib.below_iterAt hbw (k := w.heap.size) (Nat.le_refl _) s (pos + (Utf8.decode s pos).2)
      obtain ⟨W, hWd⟩ : ∃ W, wr.iterAt w.heap.size s (pos + (Utf8.decode s pos).2) = W := ⟨_, rfl⟩
      rw [hWd] at hnx hit2 hbw2
      have hltW : w.heap.size < W.heap.size := (Array.getElem?_eq_some_iff.1 hit2).1
      have cw := width_any s pos W hps (hT.below hbw2)
      obtain ⟨R, hR⟩ : ∃ R, (Utf8.decode s pos).1 = R := ⟨_, rfl⟩
      obtain ⟨K, hK⟩ : ∃ K, (Utf8.decode s pos).2 = K := ⟨_, rfl⟩
      rw [hR] at hnx cw
      rw [hK] at hK1 hK2 hit2 cw
      clear hWd hR hK
      go_wp2_with fail
      refine cw.mono ?_
      rintro e w2 ⟨rfl, hb2⟩
      have hit3 := (hb2.block _ hltW).trans hit2
      have hbw3 := hbw2.trans (hb2.mono hbw2.size)
      have hi0 : wr.iterPos w.heap.size = pos := by simp [World.iterPos, hit]
      clear cw hit2 hbw2 hb2 hnx hit hbw
      go_wp2_with fail
      go_loop [0, 21] (fun u i => ∃ k c : Nat, k ≤ K ∧ i = .int .i64 (k : Int) ∧ u = .int .u32 (c : Int) ∧ c ≤ 4294967295 ∧ Hid (c = reg x (s.data.toList.take (pos + k)))) (fun _ i => K - (intOf i).toNat)
      case atStart => exact ⟨0, acc, by omega, rfl, rfl, ha, hI⟩
      case round =>
        obtain ⟨k, c, hk, rfl, rfl, hc, hJ⟩ := hrel
        by_cases hlt : k < K
        · obtain ⟨j, hj⟩ : ∃ j, pos + k = j := ⟨_, rfl⟩
          have l0 : IntKind.i64.wrap ((pos : Int) + (k : Int)) = (j : Int) := by rw [show (pos : Int) + (k : Int) = (j : Int) by omega]; exact IntWalk.i64_in _ (by omega)
          have l00 : (pos : Int) + (k : Int) = (j : Int) := by omega
          have hjs : j < s.size := by omega
          have hsn := take_snoc s j hjs
          obtain ⟨b, hb⟩ : ∃ b, (s[j]'hjs).toNat = b := ⟨_, rfl⟩
          have hb3 : b ≤ 255 := by rw [← hb]; have := (s[j]'hjs).toNat_lt; omega
          have cm := fun W => shifted_any c b W hc hb3
          obtain ⟨d, hd⟩ : ∃ d, sh c b = d := ⟨_, rfl⟩
          have hd2 : d ≤ 4294967295 := by have := sh_lt (x := c) (b := b) (by omega) (by omega); omega
          have hE := Lib.hid (show d = reg x (s.data.toList.take (pos + (k + 1))) by rw [show pos + (k + 1) = j + 1 by omega, hsn, reg_snoc, hb, ← hj, ← hJ.out, hd])
          rw [hd] at cm
          clear hJ hsn hd hI
          go_wp2_with fail
          refine (cm _).mono ?_
          rintro e w3 ⟨rfl, rfl⟩
          go_wp2_with fail
          go_round
          case rel => exact ⟨k + 1, d, by omega, rfl, rfl, hd2, hE⟩
          case measure => simp [intOf]; omega
        · obtain rfl : k = K := by omega
          go_wp2_with fail
          go_roundw
          case rel => exact ⟨pos + k, c, rfl, hc, hK2, hit3, hbw3, hJ⟩
          case measure =>
            have hi3 : w2.iterPos w.heap.size = pos + k := by simp [World.iterPos, hit3]
            rw [hi0, hi3]; omega
    · have hnx : ∀ ty, (Instr.next (.pointer (some ⟨w.heap.size, 0, none⟩)) true ty).run Tryd.prog wr = _ := fun ty => Lib.run_next_end_at wr w.heap.size s pos ty hit hps
      obtain rfl : pos = s.size := by omega
      have hE : acc = reg x s.data.toList := by rw [hI.out, ← size_list, List.take_length]
      have hH := Lib.hid hE
      clear hE hI
      go_wp2_with fail
      go_ret
      exact ⟨by rw [hH.out]; rfl, hbw⟩
set_option maxRecDepth 100000 in
theorem crc_any (l : List UInt8) (w : World) (hs : l.length ≤ 9223372036854775807) (hT : Tabs w) :
    Calls Tryd.prog 72 #[.string (bs l)] w (Ib (.int .u32 (crc l : Int)) w) := by
  have c1 := fold32_any (bs l) 4294967295 w hs (by decide) hT
  rw [bs_list] at c1
  obtain ⟨h, hh⟩ : ∃ h, crc l = h := ⟨_, rfl⟩
  obtain ⟨r, hr⟩ : ∃ r, reg 4294967295 l = r := ⟨_, rfl⟩
  have hr2 : r < 4294967296 := by rw [← hr]; exact reg_lt (by decide) l
  have k1 : bits BinOp.xor IntKind.u32 IntKind.u32.max (r : Int) = (h : Int) := by
    have := u32_xor_nat 4294967295 r (by omega) hr2
    rw [← hh, crc, hr, Nat.xor_comm r]
    exact this
  rw [hr] at c1
  rw [hh]
  clear hh hr
  go_enter Tryd.func72, Tryd.ntmps72
  go_wp2_with fail
  refine c1.mono ?_
  rintro e w' ⟨rfl, hb⟩
  go_wp2_with fail
  go_ret
  exact ⟨rfl, hb⟩
end Go.Proofs.YtcjaaijohapeaaaDoor

/-
  Contracts of the byte steps, and of a character's width. No conditions but Go's own bounds of a number.
-/
import Derived.Test.YtcjaaijohapeaaaDoorK02
import Derived.Test.YtcjaaijohapeaaaDoorK01
import Derived.Test.YtcjaaijohapeaaaDoorShelf
import Derived.Lib.OthersKept
namespace Go.Proofs.YtcjaaijohapeaaaDoor
open Go.RowKit
theorem and_one (y : Nat) (h : y < 4294967296) : bits BinOp.and IntKind.u32 (y : Int) 1 = ((y % 2 : Nat) : Int) := by
  have := u32_and_nat y 1 (by omega) (by omega)
  rw [show ((1 : Int)) = ((1 : Nat) : Int) by rfl, this, Nat.and_one_is_mod]
set_option maxRecDepth 100000 in
theorem shifted_any (x b : Nat) (w : World) (hx : x ≤ 4294967295) (hb : b ≤ 255) :
    Calls Tryd.prog 92 #[.int .u32 (x : Int), .int .u8 (b : Int)] w (Is (.int .u32 (sh x b : Int)) w) := by
  obtain ⟨y, hy⟩ : ∃ y, x ^^^ b = y := ⟨_, rfl⟩
  have hy2 : y < 4294967296 := by rw [← hy]; exact xor_lt32 (by omega) (by omega)
  have k1 : bits BinOp.xor IntKind.u32 (x : Int) (b : Int) = (y : Int) := by rw [u32_xor_nat _ _ (by omega) (by omega), hy]
  obtain ⟨z, hz⟩ : ∃ z, sh x b = z := ⟨_, rfl⟩
  rw [hz]
  have hI : Hid (sts 8 y = z) := Lib.hid (by rw [← hz, ← hy]; rfl)
  clear hz hy
  go_enter Tryd.func92, Tryd.ntmps92
  go_wp2_with fail
  go_loop [0, 10] (fun r i => ∃ k u : Nat, k ≤ 8 ∧ i = .int .i64 (k : Int) ∧ r = .int .u32 (u : Int) ∧ u ≤ 4294967295 ∧ Hid (sts (8 - k) u = z)) (fun _ i => 8 - (intOf i).toNat)
  case atStart => exact ⟨0, y, by omega, rfl, rfl, by omega, hI⟩
  case round =>
    obtain ⟨k, u, hk, rfl, rfl, hu, hJ⟩ := hrel
    clear hI k1 hy2 hx hb
    have a1 := and_one u (by omega)
    by_cases hlt : k < 8
    · obtain ⟨q, hq⟩ : ∃ q, u / 2 = q := ⟨_, rfl⟩
      have d2 : (u : Int) / 2 = (q : Int) := by omega
      have hE : sts (8 - (k + 1)) (st u) = z := by
        have := hJ.out
        rw [show 8 - k = (8 - (k + 1)) + 1 by omega] at this
        exact this
      clear hJ
      by_cases ho : u % 2 = 1
      · have d1 : ((u : Int) % 2 == 1) = true := by simp; omega
        obtain ⟨v, hv⟩ : ∃ v, q ^^^ 2197175160 = v := ⟨_, rfl⟩
        have k2 : bits BinOp.xor IntKind.u32 (q : Int) 2197175160 = (v : Int) := by
          have := u32_xor_nat q 2197175160 (by omega) (by omega)
          rw [hv] at this
          exact this
        have hv2 : v ≤ 4294967295 := by
          have : v < 4294967296 := by rw [← hv]; exact xor_lt32 (by omega) (by decide)
          omega
        have hE2 := Lib.hid (show sts (8 - (k + 1)) v = z by rw [← hE, st, if_pos ho, hq, hv])
        clear hE hv ho hq
        go_wp2_with fail
        go_round
        case rel => exact ⟨k + 1, v, by omega, rfl, rfl, hv2, hE2⟩
        case measure => simp [intOf]; omega
      · have d1 : ((u : Int) % 2 == 1) = false := by simp; omega
        have hE2 := Lib.hid (show sts (8 - (k + 1)) q = z by rw [← hE, st, if_neg ho, hq])
        clear hE ho
        go_wp2_with fail
        go_round
        case rel => exact ⟨k + 1, q, by omega, rfl, rfl, by omega, hE2⟩
        case measure => simp [intOf]; omega
    · obtain rfl : k = 8 := by omega
      obtain rfl : u = z := hJ.out
      clear hJ a1
      go_wp2_with fail
      go_ret
      exact ret_is rfl
/-- The two tables of utf8 lie where the program laid them. -/
def Tabs (w : World) : Prop := Lib.Utf8Tabs 0 1 w
theorem Tabs.below {w w' : World} (h : Tabs w) (hb : Below w.heap.size w w') : Tabs w' := Utf8Tabs_below h hb
theorem runeLen_decode (s : ByteArray) (pos : Nat) (hr : (Utf8.decode s pos).1 ≠ 65533) : Lib.runeLen ((Utf8.decode s pos).1 : Int) = ((Utf8.decode s pos).2 : Int) := by
  rw [Lib.decode_at] at *
  revert hr
  generalize s.size - pos = n
  have b0 := (s.get! pos).toNat_lt; have b1 := (s.get! (pos + 1)).toNat_lt; have b2 := (s.get! (pos + 2)).toNat_lt; have b3 := (s.get! (pos + 3)).toNat_lt
  revert b0 b1 b2 b3
  generalize (s.get! pos).toNat = c0
  generalize (s.get! (pos + 1)).toNat = c1
  generalize (s.get! (pos + 2)).toNat = c2
  generalize (s.get! (pos + 3)).toNat = c3
  intro b0 b1 b2 b3
  unfold Lib.decodeN
  split
  · intro _; unfold Lib.runeLen; simp only; split <;> first | omega | (split <;> omega)
  split
  · split
    · intro _; unfold Lib.runeLen; simp only; repeat' split
      all_goals omega
    · intro h; exact absurd rfl h
  split
  · split
    · intro _; unfold Lib.runeLen; simp only; repeat' split
      all_goals omega
    · intro h; exact absurd rfl h
  split
  · split
    · intro _; unfold Lib.runeLen; simp only; repeat' split
      all_goals omega
    · intro h; exact absurd rfl h
  · intro h; exact absurd rfl h
theorem decode_fits (s : ByteArray) (pos : Nat) (h : pos < s.size) : 1 ≤ (Utf8.decode s pos).2 ∧ pos + (Utf8.decode s pos).2 ≤ s.size := by
  rw [Lib.decode_at]
  have hn : 1 ≤ s.size - pos := by omega
  suffices H : 1 ≤ (Lib.decodeN (s.size - pos) (s.get! pos).toNat (s.get! (pos + 1)).toNat (s.get! (pos + 2)).toNat (s.get! (pos + 3)).toNat).2 ∧ (Lib.decodeN (s.size - pos) (s.get! pos).toNat (s.get! (pos + 1)).toNat (s.get! (pos + 2)).toNat (s.get! (pos + 3)).toNat).2 ≤ s.size - pos from ⟨H.1, by omega⟩
  generalize s.size - pos = n at *
  unfold Lib.decodeN
  repeat' split
  all_goals simp only
  all_goals omega
theorem decode_drop (s : ByteArray) (pos : Nat) (h : pos < s.size) : Utf8.decode (s.extract pos s.size) 0 = Utf8.decode s pos := by
  have hz : (s.extract pos s.size).size = s.size - pos := by simp
  have hg : ∀ k, k < s.size - pos → (s.extract pos s.size).get! k = s.get! (pos + k) := by
    intro k hk
    rw [Utf8W.get!_of_lt _ _ (by omega), Utf8W.get!_of_lt _ _ (by omega), ByteArray.getElem_extract]
  have hg2 : ∀ (t : ByteArray) k, ¬ k < t.size → t.get! k = 0 := by
    intro t k hk
    cases t with
    | mk d =>
      show d[k]! = 0
      exact getElem!_neg d k hk
  have hq : ∀ k, (s.extract pos s.size).get! k = s.get! (pos + k) := by
    intro k
    by_cases hk : k < s.size - pos
    · exact hg k hk
    · rw [hg2 _ _ (by omega), hg2 _ _ (by omega)]
  rw [Lib.decode_at, Lib.decode_at, hz, hq, hq, hq, hq]
  rfl
set_option maxRecDepth 100000 in
theorem width_any (s : ByteArray) (pos : Nat) (w : World) (h : pos < s.size) (hT : Tabs w) :
    Calls Tryd.prog 102 #[.int .i32 ((Utf8.decode s pos).1 : Int), .string (s.extract pos s.size)] w (Ib (.int .i64 ((Utf8.decode s pos).2 : Int)) w) := by
  by_cases hr : (Utf8.decode s pos).1 = 65533
  · have c1 := Tryd.utf8_DecodeRuneInString (s.extract pos s.size) w hT
    have e1 : Lib.decodeGo (s.extract pos s.size) = Utf8.decode s pos := by
      unfold Lib.decodeGo
      rw [if_neg (by simp; omega), decode_drop s pos h]
    rw [e1] at c1
    rw [hr] at c1 ⊢
    obtain ⟨K, hK⟩ : ∃ K, (Utf8.decode s pos).2 = K := ⟨_, rfl⟩
    rw [hK] at c1 ⊢
    clear e1 hr hK
    go_enter Tryd.func102, Tryd.ntmps102
    go_wp2_with fail
    refine c1.mono ?_
    rintro e w' ⟨rfl, hb⟩
    go_wp2_with fail
    go_ret
    exact ⟨rfl, hb⟩
  · have c1 := Tryd.utf8_RuneLen ((Utf8.decode s pos).1 : Int) w
    rw [runeLen_decode s pos hr] at c1
    obtain ⟨K, hK⟩ : ∃ K, (Utf8.decode s pos).2 = K := ⟨_, rfl⟩
    obtain ⟨R, hR⟩ : ∃ R, (Utf8.decode s pos).1 = R := ⟨_, rfl⟩
    rw [hK] at c1 ⊢
    rw [hR] at c1 hr ⊢
    have d1 : ((R : Int) == 65533) = false := by simp; omega
    clear hr hK hR
    go_enter Tryd.func102, Tryd.ntmps102
    go_wp2_with fail
    refine c1.mono ?_
    rintro e w' ⟨rfl, rfl⟩
    go_wp2_with fail
    go_ret
    exact ⟨rfl, Below.refl _ _⟩
end Go.Proofs.YtcjaaijohapeaaaDoor
/-
  A range over a string's characters, byte by byte. The tables of utf8 as the program laid them.
-/
namespace Go.Proofs.YtcjaaijohapeaaaDoor
open Go.RowKit
theorem take_snoc (s : ByteArray) (k : Nat) (h : k < s.size) : s.data.toList.take (k + 1) = s.data.toList.take k ++ [s[k]] := by
  rw [List.take_succ_eq_append_getElem (by simpa using h)]; rfl
theorem size_list (s : ByteArray) : s.data.toList.length = s.size := by simp
set_option maxHeartbeats 1000000 in
set_option maxRecDepth 100000 in
theorem fold32_any (s : ByteArray) (x : Nat) (w : World) (hs : s.size ≤ 9223372036854775807) (hx : x ≤ 4294967295) (hT : Tabs w) :
    Calls Tryd.prog 91 #[.int .u32 (x : Int), .string s, .func (.func 92) #[] #[]] w (Ib (.int .u32 (reg x s.data.toList : Int)) w) := by
  go_enter Tryd.func91, Tryd.ntmps91
  go_wp2_with fail
  go_loopw [0] (fun u wx => ∃ pos acc : Nat, u = .int .u32 (acc : Int) ∧ acc ≤ 4294967295 ∧ pos ≤ s.size ∧ wx.heap[w.heap.size]? = some (.stringIter s pos) ∧ Below w.heap.size w wx ∧ Hid (acc = reg x (s.data.toList.take pos))) (fun _ wx => s.size - wx.iterPos w.heap.size)
  case atStart => exact ⟨0, x, rfl, hx, by omega, World.iter_heap w s 0, (Below.refl _ w).alloc (Nat.le_refl _) _, Lib.hid rfl⟩
  case round =>
    obtain ⟨pos, acc, rfl, ha, hp, hit, hbw, hI⟩ := hrel
    by_cases hps : pos < s.size
    · have hnx : ∀ ty, (Instr.next (.pointer (some ⟨w.heap.size, 0, none⟩)) true ty).run Tryd.prog wr = _ := fun ty => Lib.run_next_any_at wr w.heap.size s pos ty hit hps
      obtain ⟨hK1, hK2⟩ := decode_fits s pos hps
      have hit2 := Lib.iterAt_heap wr w.heap.size s pos (pos + (Utf8.decode s pos).2) hit
      have hbw2 := Lib.below_iterAt hbw (k := w.heap.size) (Nat.le_refl _) s (pos + (Utf8.decode s pos).2)
      obtain ⟨W, hWd⟩ : ∃ W, wr.iterAt w.heap.size s (pos + (Utf8.decode s pos).2) = W := ⟨_, rfl⟩
      rw [hWd] at hnx hit2 hbw2
      have hltW : w.heap.size < W.heap.size := (Array.getElem?_eq_some_iff.1 hit2).1
      have cw := width_any s pos W hps (hT.below hbw2)
      obtain ⟨R, hR⟩ : ∃ R, (Utf8.decode s pos).1 = R := ⟨_, rfl⟩
      obtain ⟨K, hK⟩ : ∃ K, (Utf8.decode s pos).2 = K := ⟨_, rfl⟩
      rw [hR] at hnx cw
      rw [hK] at hK1 hK2 hit2 cw
      clear hWd hR hK
      go_wp2_with fail
      refine cw.mono ?_
      rintro e w2 ⟨rfl, hb2⟩
      have hit3 := (hb2.block _ hltW).trans hit2
      have hbw3 := hbw2.trans (hb2.mono hbw2.size)
      have hi0 : wr.iterPos w.heap.size = pos := by simp [World.iterPos, hit]
      clear cw hit2 hbw2 hb2 hnx hit hbw
      go_wp2_with fail
      go_loop [0, 21] (fun u i => ∃ k c : Nat, k ≤ K ∧ i = .int .i64 (k : Int) ∧ u = .int .u32 (c : Int) ∧ c ≤ 4294967295 ∧ Hid (c = reg x (s.data.toList.take (pos + k)))) (fun _ i => K - (intOf i).toNat)
      case atStart => exact ⟨0, acc, by omega, rfl, rfl, ha, hI⟩
      case round =>
        obtain ⟨k, c, hk, rfl, rfl, hc, hJ⟩ := hrel
        by_cases hlt : k < K
        · obtain ⟨j, hj⟩ : ∃ j, pos + k = j := ⟨_, rfl⟩
          have l0 : IntKind.i64.wrap ((pos : Int) + (k : Int)) = (j : Int) := by rw [show (pos : Int) + (k : Int) = (j : Int) by omega]; exact IntWalk.i64_in _ (by omega)
          have l00 : (pos : Int) + (k : Int) = (j : Int) := by omega
          have hjs : j < s.size := by omega
          have hsn := take_snoc s j hjs
          obtain ⟨b, hb⟩ : ∃ b, (s[j]'hjs).toNat = b := ⟨_, rfl⟩
          have hb3 : b ≤ 255 := by rw [← hb]; have := (s[j]'hjs).toNat_lt; omega
          have cm := fun W => shifted_any c b W hc hb3
          obtain ⟨d, hd⟩ : ∃ d, sh c b = d := ⟨_, rfl⟩
          have hd2 : d ≤ 4294967295 := by have := sh_lt (x := c) (b := b) (by omega) (by omega); omega
          have hE := Lib.hid (show d = reg x (s.data.toList.take (pos + (k + 1))) by rw [show pos + (k + 1) = j + 1 by omega, hsn, reg_snoc, hb, ← hj, ← hJ.out, hd])
          rw [hd] at cm
          clear hJ hsn hd hI
          go_wp2_with fail
          refine (cm _).mono ?_
          rintro e w3 ⟨rfl, rfl⟩
          go_wp2_with fail
          go_round
          case rel => exact ⟨k + 1, d, by omega, rfl, rfl, hd2, hE⟩
          case measure => simp [intOf]; omega
        · obtain rfl : k = K := by omega
          go_wp2_with fail
          go_roundw
          case rel => exact ⟨pos + k, c, rfl, hc, hK2, hit3, hbw3, hJ⟩
          case measure =>
            have hi3 : w2.iterPos w.heap.size = pos + k := by simp [World.iterPos, hit3]
            rw [hi0, hi3]; omega
    · have hnx : ∀ ty, (Instr.next (.pointer (some ⟨w.heap.size, 0, none⟩)) true ty).run Tryd.prog wr = _ := fun ty => Lib.run_next_end_at wr w.heap.size s pos ty hit hps
      obtain rfl : pos = s.size := by omega
      have hE : acc = reg x s.data.toList := by rw [hI.out, ← size_list, List.take_length]
      have hH := Lib.hid hE
      clear hE hI
      go_wp2_with fail
      go_ret
      exact ⟨by rw [hH.out]; rfl, hbw⟩
set_option maxRecDepth 100000 in
theorem crc_any (l : List UInt8) (w : World) (hs : l.length ≤ 9223372036854775807) (hT : Tabs w) :
    Calls Tryd.prog 72 #[.string (bs l)] w (Ib (.int .u32 (crc l : Int)) w) := by
  have c1 := fold32_any (bs l) 4294967295 w hs (by decide) hT
  rw [bs_list] at c1
  obtain ⟨h, hh⟩ : ∃ h, crc l = h := ⟨_, rfl⟩
  obtain ⟨r, hr⟩ : ∃ r, reg 4294967295 l = r := ⟨_, rfl⟩
  have hr2 : r < 4294967296 := by rw [← hr]; exact reg_lt (by decide) l
  have k1 : bits BinOp.xor IntKind.u32 IntKind.u32.max (r : Int) = (h : Int) := by
    have := u32_xor_nat 4294967295 r (by omega) hr2
    rw [← hh, crc, hr, Nat.xor_comm r]
    exact this
  rw [hr] at c1
  rw [hh]
  clear hh hr
  go_enter Tryd.func72, Tryd.ntmps72
  go_wp2_with fail
  refine c1.mono ?_
  rintro e w' ⟨rfl, hb⟩
  go_wp2_with fail
  go_ret
  exact ⟨rfl, hb⟩
end Go.Proofs.YtcjaaijohapeaaaDoor
/-
  The reference's checksum, hash and bytes of a number. No conditions but Go's own bounds of a string's length.
-/
namespace Go.Proofs.YtcjaaijohapeaaaDoor
open Go.RowKit
set_option maxHeartbeats 1000000 in
set_option maxRecDepth 100000 in
theorem refCrc_any (l : List UInt8) (w : World) (hs : l.length ≤ 9223372036854775807) :
    Calls Tryd.prog 74 #[.string (bs l)] w (Is (.int .u32 (crc l : Int)) w) := by
  have hsz : (bs l).size = l.length := rfl
  obtain ⟨h, hh⟩ : ∃ h, crc l = h := ⟨_, rfl⟩
  rw [hh]
  have H := Lib.hid hh
  clear hh
  go_enter Tryd.func74, Tryd.ntmps74
  go_wp2_with fail
  go_loop [3, 4] (fun u i => ∃ k c : Nat, k ≤ l.length ∧ i = .int .i64 (k : Int) ∧ u = .int .u32 (c : Int) ∧ c ≤ 4294967295 ∧ Hid (c = reg 4294967295 (l.take k))) (fun _ i => l.length - (intOf i).toNat)
  case atStart => exact ⟨0, 4294967295, by omega, rfl, rfl, by decide, Lib.hid rfl⟩
  case round =>
    obtain ⟨k, c, hk, rfl, rfl, hc, hJ⟩ := hrel
    by_cases hlt : k < l.length
    · have hlt2 : k < (bs l).size := hlt
      obtain ⟨b, hb⟩ : ∃ b, (l[k]'hlt).toNat = b := ⟨_, rfl⟩
      have hb2 : ((bs l)[k]'hlt2).toNat = b := hb
      have hb3 : b ≤ 255 := by rw [← hb]; have := (l[k]'hlt).toNat_lt; omega
      obtain ⟨y, hy⟩ : ∃ y, c ^^^ b = y := ⟨_, rfl⟩
      have hy2 : y ≤ 4294967295 := by have := xor_lt32 (a := c) (b := b) (by omega) (by omega); omega
      have k1 : bits BinOp.xor IntKind.u32 (c : Int) (b : Int) = (y : Int) := by rw [u32_xor_nat _ _ (by omega) (by omega), hy]
      obtain ⟨d, hd⟩ : ∃ d, sh c b = d := ⟨_, rfl⟩
      have hd2 : d ≤ 4294967295 := by have := sh_lt (x := c) (b := b) (by omega) (by omega); omega
      have hI : Hid (sts 8 y = d) := Lib.hid (by rw [← hd, ← hy]; rfl)
      have hE := Lib.hid (show d = reg 4294967295 (l.take (k + 1)) by rw [List.take_succ_eq_append_getElem hlt, reg_snoc, hb, ← hJ.out, hd])
      clear hJ hb hd hy
      go_wp2_with fail
      go_loop [3, 5] (fun r i => ∃ n u : Nat, n ≤ 8 ∧ i = .int .i64 (n : Int) ∧ r = .int .u32 (u : Int) ∧ u ≤ 4294967295 ∧ Hid (sts (8 - n) u = d)) (fun _ i => 8 - (intOf i).toNat)
      case atStart => exact ⟨0, y, by omega, rfl, rfl, by omega, hI⟩
      case round =>
        obtain ⟨n, u, hn, rfl, rfl, hu, hJ⟩ := hrel
        clear hI k1 hb3
        by_cases hn8 : n < 8
        · obtain ⟨q, hq⟩ : ∃ q, u / 2 = q := ⟨_, rfl⟩
          have d2 : (u : Int) / 2 = (q : Int) := by omega
          have hF : sts (8 - (n + 1)) (st u) = d := by
            have := hJ.out
            rw [show 8 - n = (8 - (n + 1)) + 1 by omega] at this
            exact this
          clear hJ
          by_cases ho : u % 2 = 1
          · have d1 : ((u : Int) % 2 == 1) = true := by simp; omega
            obtain ⟨v, hv⟩ : ∃ v, q ^^^ 2197175160 = v := ⟨_, rfl⟩
            have k2 : bits BinOp.xor IntKind.u32 (q : Int) 2197175160 = (v : Int) := by
              have := u32_xor_nat q 2197175160 (by omega) (by omega)
              rw [hv] at this
              exact this
            have hv2 : v ≤ 4294967295 := by
              have : v < 4294967296 := by rw [← hv]; exact xor_lt32 (by omega) (by decide)
              omega
            have hE2 := Lib.hid (show sts (8 - (n + 1)) v = d by rw [← hF, st, if_pos ho, hq, hv])
            clear hF hv ho hq
            go_wp2_with fail
            go_round
            case rel => exact ⟨n + 1, v, by omega, by go_num, rfl, hv2, hE2⟩
            case measure => simp [intOf]; omega
          · have d1 : ((u : Int) % 2 == 1) = false := by simp; omega
            have hE2 := Lib.hid (show sts (8 - (n + 1)) q = d by rw [← hF, st, if_neg ho, hq])
            clear hF ho
            go_wp2_with fail
            go_round
            case rel => exact ⟨n + 1, q, by omega, by go_num, rfl, by omega, hE2⟩
            case measure => simp [intOf]; omega
        · obtain rfl : n = 8 := by omega
          obtain rfl : u = d := hJ.out
          clear hJ
          go_wp2_with fail
          go_round
          case rel => exact ⟨k + 1, u, by omega, by go_num, rfl, hu, hE⟩
          case measure => simp [intOf]; omega
    · obtain rfl : k = l.length := by omega
      have hX : bits BinOp.xor IntKind.u32 (c : Int) 4294967295 = (h : Int) := by
        have := u32_xor_nat c 4294967295 (by omega) (by omega)
        rw [← H.out, crc, ← List.take_length (l := l), ← hJ.out]
        exact this
      clear hJ
      go_wp2_with fail
      go_ret
      exact ret_is rfl
set_option maxRecDepth 100000 in
theorem refBytes_any (n k : Nat) (w : World) (hn : n ≤ 18446744073709551615) (hk : 1 ≤ k) (hk2 : k ≤ 8) :
    Calls Tryd.prog 73 #[.int .u64 (n : Int), .int .i64 (k : Int)] w (Ib (.string (bs (le k n))) w) := by
  go_enter Tryd.func73, Tryd.ntmps73
  go_wp2_with fail
  go_loopw [0, 5, 6] (fun u v i wr => ∃ (m j : Nat) (l : List UInt8), m ≤ 18446744073709551615 ∧ u = .int .u64 (m : Int) ∧ i = .int .i64 (j : Int) ∧ j ≤ k ∧ l.length = j ∧ Ow w.heap.size wr v l ∧ Below w.heap.size w wr ∧ Hid (le k n = l ++ le (k - j) m)) (fun _ _ i _ => k - (intOf i).toNat)
  case atStart => exact ⟨n, 0, [], hn, rfl, rfl, by omega, rfl, Ow.nil _ _, Below.refl _ _, Lib.hid rfl⟩
  case round =>
    obtain ⟨m, j, l, hm, rfl, rfl, hj, hl, ho, hb, hI⟩ := hrel
    have hbs := hb.size
    clear hn
    by_cases h : j < k
    · have E := Lib.hid (show le k n = (l ++ [UInt8.ofNat (m % 256)]) ++ le (k - (j + 1)) (m / 256) by rw [hI.out, show k - j = (k - (j + 1)) + 1 by omega, le]; simp)
      have e : (UInt8.ofNat (m % 256)).toNat = m % 256 := of_toNat (by omega)
      obtain ⟨d, hd⟩ : ∃ d, m % 256 = d := ⟨_, rfl⟩
      obtain ⟨q, hq⟩ : ∃ q, m / 256 = q := ⟨_, rfl⟩
      rw [hd] at E e
      rw [hq] at E
      have k1 : (m : Int) % 256 = (d : Int) := by omega
      have k2 : (m : Int) / 256 = (q : Int) := by omega
      have hd2 : d < 256 := by omega
      have k4 : IntKind.u8.wrap (d : Int) = (d : Int) := by rw [IntKind.wrap_u8']; omega
      have hql : q ≤ 18446744073709551615 := by omega
      clear hd hq hI
      go_wp2_with (at_builtin; refine wpList_push rfl (.tmp 12) (.tmp 16) rfl w.heap.size u5 l (UInt8.ofNat d) _ 1 rfl rfl (ho.other (one _ _)) (by rw [e]; simp) (by omega) (by simp; omega) ?_; intro v' w' ho' hg')
      go_roundw
      case rel => exact ⟨q, j + 1, _, hql, rfl, by go_num, by omega, by simp [hl], ho', (hb.alloc hbs _).grown hg' (by simp; omega) (fun k hk => (ho.lt k hk).1), E⟩
      case measure => simp [intOf]; omega
    · obtain rfl : j = k := by omega
      have E : le j n = l := by rw [hI.out, Nat.sub_self]; simp [le]
      have hs' := ho.str (show l ≠ [] by intro h0; rw [h0] at hl; simp at hl; omega)
      have HE := Lib.hid E
      clear E hI
      go_wp2_with fail
      go_ret
      exact ⟨by rw [HE.out]; rfl, hb⟩
end Go.Proofs.YtcjaaijohapeaaaDoor
/-
  The eight bytes of a number in an array.
-/
namespace Go.Proofs.YtcjaaijohapeaaaDoor
open Go.RowKit
/-- The array of eight bytes, the first k of them written. -/
def arr (l : List UInt8) (k : Nat) : Array Value := ((l.take k ++ List.replicate (8 - k) (0 : UInt8)).map fun (b : UInt8) => Value.int .u8 (b.toNat : Int)).toArray
theorem arr_zero (l : List UInt8) : arr l 0 = #[.int .u8 0, .int .u8 0, .int .u8 0, .int .u8 0, .int .u8 0, .int .u8 0, .int .u8 0, .int .u8 0] := rfl
theorem arr_at (l : List UInt8) (k : Nat) (hl : l.length = 8) (hk : k < 8) : (arr l k)[k]? = some (.int .u8 0) := by
  unfold arr
  simp only [List.getElem?_toArray, List.getElem?_map]
  rw [List.getElem?_append_right (by simp; omega)]
  simp [List.length_take, hl, Nat.min_eq_left (show k ≤ 8 by omega), show 0 < 8 - k by omega]
theorem arr_set (l : List UInt8) (k : Nat) (hl : l.length = 8) (hk : k < 8) : (arr l k).setIfInBounds k (.int .u8 ((l[k]'(by omega)).toNat : Int)) = arr l (k + 1) := by
  unfold arr
  apply Array.ext'
  simp only [Array.toList_setIfInBounds]
  apply List.ext_getElem?
  intro i
  rw [List.getElem?_set]
  simp only [List.getElem?_map, List.length_map]
  by_cases hi : k = i
  · subst hi
    rw [if_pos rfl, if_pos (by simp [hl]; omega), List.getElem?_append_left (by simp [hl]; omega)]
    simp [show k < k + 1 by omega, show k < l.length by omega]
  · rw [if_neg hi]
    congr 1
    by_cases h1 : i < k
    · rw [List.getElem?_append_left (by simp [hl]; omega), List.getElem?_append_left (by simp [hl]; omega)]
      simp [h1, show i < k + 1 by omega]
    · rw [List.getElem?_append_right (by simp; omega), List.getElem?_append_right (by simp; omega)]
      simp only [List.length_take, List.getElem?_replicate, hl]
      rw [Nat.min_eq_left (by omega), Nat.min_eq_left (by omega)]
      by_cases h2 : i < 8
      · rw [if_pos (by omega), if_pos (by omega)]
      · rw [if_neg (by omega), if_neg (by omega)]
theorem le_at (k : Nat) : ∀ (n j : Nat) (h : j < (le k n).length), ((le k n)[j]).toNat = n / 256 ^ j % 256 := by
  induction k with
  | zero => intro n j h; simp [le] at h
  | succ k ih =>
    intro n j h
    cases j with
    | zero => simp [le]
    | succ j =>
      simp only [le, List.getElem_cons_succ]
      rw [ih, Nat.div_div_eq_div_mul, Nat.pow_succ, Nat.mul_comm]
theorem le8 (n : Nat) : ∃ b0 b1 b2 b3 b4 b5 b6 b7, le 8 n = [b0, b1, b2, b3, b4, b5, b6, b7] := ⟨_, _, _, _, _, _, _, _, rfl⟩
/-- Eight bytes as an array's value. -/
def arr8 (l : List UInt8) : Value := .agg (bcells l).toArray
set_option maxRecDepth 100000 in
theorem bytesOf_any (n : Nat) (w : World) :
    Calls Tryd.prog 71 #[.int .u64 (n : Int)] w (Ib (arr8 (le 8 n)) w) := by
  have hl : (le 8 n).length = 8 := le_length 8 n
  go_enter Tryd.func71, Tryd.ntmps71
  go_wp2_with fail
  go_loopw [5] (fun i wr => ∃ k : Nat, k ≤ 8 ∧ i = .int .i64 (k : Int) ∧ wr = (w.alloc (Obj.cells (arr (le 8 n) 0) 136)).alloc (Obj.cells (arr (le 8 n) k) 136)) (fun i _ => 8 - (intOf i).toNat)
  case atStart => exact ⟨0, by omega, rfl, rfl⟩
  case round =>
    obtain ⟨k, hk, rfl, rfl⟩ := hrel
    by_cases hlt : k < 8
    · have hc := arr_at (le 8 n) k hl hlt
      have hs := arr_set (le 8 n) k hl hlt
      rw [le_at, show 256 ^ k = 2 ^ (8 * k) by rw [Nat.pow_mul]] at hs
      simp only [Int.natCast_emod, Int.natCast_ediv, Int.natCast_pow] at hs
      go_wp2_with fail
      go_roundw
      case rel => exact ⟨k + 1, by omega, by go_num, by rw [← hs]; rfl⟩
      case measure => simp [intOf]; omega
    · obtain rfl : k = 8 := by omega
      obtain ⟨b0, b1, b2, b3, b4, b5, b6, b7, hb⟩ := le8 n
      rw [hb, arr_zero, show arr [b0, b1, b2, b3, b4, b5, b6, b7] 8 = #[.int .u8 (b0.toNat : Int), .int .u8 (b1.toNat : Int), .int .u8 (b2.toNat : Int), .int .u8 (b3.toNat : Int), .int .u8 (b4.toNat : Int), .int .u8 (b5.toNat : Int), .int .u8 (b6.toNat : Int), .int .u8 (b7.toNat : Int)] from rfl]
      have HB := Lib.hid hb
      clear hb hl
      go_wp2_with fail
      refine bodyPost_ret (results_cell_row rfl _ _ w.heap.size _ _ _ _ rfl (heap_alloc2_old w _ _) Tryd.underlying136 rfl (by kernel_rfl)) rfl ?_
      exact ⟨by rw [HB.out]; rfl, ((Below.refl _ w).alloc (Nat.le_refl _) _).alloc (by simp) _⟩
end Go.Proofs.YtcjaaijohapeaaaDoor

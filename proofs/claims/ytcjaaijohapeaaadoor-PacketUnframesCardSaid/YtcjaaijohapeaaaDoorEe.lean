/-
  The reference's checksum, hash and bytes of a number. No conditions but Go's own bounds of a string's length.
-/
import Derived.Test.YtcjaaijohapeaaaDoorEc
import Derived.Lib.OthersKept
namespace Go.Proofs.YtcjaaijohapeaaaDoor
open Go.RowKit
set_option maxHeartbeats 1000000 in
set_option maxRecDepth 100000 in
theorem refCrc_any (l : List UInt8) (w : World) (hs : l.length ≤ 9223372036854775807) :
    Calls Tryd.prog 74 #[.string (bs l)] w (Is (.int .u32 (crc l : Int)) w) := by
  have hsz : (bs l).size = l.length := rfl
  obtain ⟨h, hh⟩ : ∃ h, crc l = h := ⟨_, rfl⟩
  rw [hh]
  have H := Lib.hid hh
  clear hh
  go_enter Tryd.func74, Tryd.ntmps74
  go_wp2_with fail
  go_loop [3, 4] (fun u i => ∃ k c : Nat, k ≤ l.length ∧ i = .int .i64 (k : Int) ∧ u = .int .u32 (c : Int) ∧ c ≤ 4294967295 ∧ Hid (c = reg 4294967295 (l.take k))) (fun _ i => l.length - (intOf i).toNat)
  case atStart => exact ⟨0, 4294967295, by omega, rfl, rfl, by decide, Lib.hid rfl⟩
  case round =>
    obtain ⟨k, c, hk, rfl, rfl, hc, hJ⟩ := hrel
    by_cases hlt : k < l.length
    · have hlt2 : k < (bs l).size := hlt
      obtain ⟨b, hb⟩ : ∃ b, (l[k]'hlt).toNat = b := ⟨_, rfl⟩
      have hb2 : ((bs l)[k]'hlt2).toNat = b := hb
      have hb3 : b ≤ 255 := by rw [← hb]; have := (l[k]'hlt).toNat_lt; omega
      obtain ⟨y, hy⟩ : ∃ y, c ^^^ b = y := ⟨_, rfl⟩
      have hy2 : y ≤ 4294967295 := by have := xor_lt32 (a := c) (b := b) (by omega) (by omega); omega
      have k1 : bits BinOp.xor IntKind.u32 (c : Int) (b : Int) = (y : Int) := by rw [u32_xor_nat _ _ (by omega) (by omega), hy]
      obtain ⟨d, hd⟩ : ∃ d, sh c b = d := ⟨_, rfl⟩
      have hd2 : d ≤ 4294967295 := by have := sh_lt (x := c) (b := b) (by omega) (by omega); omega
      have hI : Hid (sts 8 y = d) := Lib.hid (by rw [← hd, ← hy]; rfl)
      have hE := Lib.hid (show d = reg 4294967295 (l.take (k + 1)) by rw [List.take_succ_eq_append_getElem hlt, reg_snoc, hb, ← hJ.out, hd])
      clear hJ hb hd hy
      go_wp2_with fail
      go_loop [3, 5] (fun r i => ∃ n u : Nat, n ≤ 8 ∧ i = .int .i64 (n : Int) ∧ r = .int .u32 (u : Int) ∧ u ≤ 4294967295 ∧ Hid (sts (8 - n) u = d)) (fun _ i => 8 - (intOf i).toNat)
      case atStart => exact ⟨0, y, by omega, rfl, rfl, by omega, hI⟩
      case round =>
        obtain ⟨n, u, hn, rfl, rfl, hu, hJ⟩ := hrel
        clear hI k1 hb3
        by_cases hn8 : n < 8
        · obtain ⟨q, hq⟩ : ∃ q, u / 2 = q := ⟨_, rfl⟩
          have d2 : (u : Int) / 2 = (q : Int) := by omega
          have hF : sts (8 - (n + 1)) (st u) = d := by
            have := hJ.out
            rw [show 8 - n = (8 - (n + 1)) + 1 by omega] at this
            exact this
          clear hJ
          by_cases ho : u % 2 = 1
          · have d1 : ((u : Int) % 2 == 1) = true := by simp; omega
            obtain ⟨v, hv⟩ : ∃ v, q ^^^ 2197175160 = v := ⟨_, rfl⟩
            have k2 : bits BinOp.xor IntKind.u32 (q : Int) 2197175160 = (v : Int) := by
              have := u32_xor_nat q 2197175160 (by omega) (by omega)
              rw [hv] at this
              exact this
            have hv2 : v ≤ 4294967295 := by
              have : v < 4294967296 := by rw [← hv]; exact xor_lt32 (by omega) (by decide)
              omega
            have hE2 := Lib.hid (show sts (8 - (n + 1)) v = d by rw [← hF, st, if_pos ho, hq, hv])
            clear hF hv ho hq
            go_wp2_with fail
            go_round
            case rel => exact ⟨n + 1, v, by omega, by go_num, rfl, hv2, hE2⟩
            case measure => simp [intOf]; omega
          · have d1 : ((u : Int) % 2 == 1) = false := by simp; omega
            have hE2 := Lib.hid (show sts (8 - (n + 1)) q = d by rw [← hF, st, if_neg ho, hq])
            clear hF ho
            go_wp2_with fail
            go_round
            case rel => exact ⟨n + 1, q, by omega, by go_num, rfl, by omega, hE2⟩
            case measure => simp [intOf]; omega
        · obtain rfl : n = 8 := by omega
          obtain rfl : u = d := hJ.out
          clear hJ
          go_wp2_with fail
          go_round
          case rel => exact ⟨k + 1, u, by omega, by go_num, rfl, hu, hE⟩
          case measure => simp [intOf]; omega
    · obtain rfl : k = l.length := by omega
      have hX : bits BinOp.xor IntKind.u32 (c : Int) 4294967295 = (h : Int) := by
        have := u32_xor_nat c 4294967295 (by omega) (by omega)
        rw [← H.out, crc, ← List.take_length (l := l), ← hJ.out]
        exact this
      clear hJ
      go_wp2_with fail
      go_ret
      exact ret_is rfl
set_option maxRecDepth 100000 in
theorem refBytes_any (n k : Nat) (w : World) (hn : n ≤ 18446744073709551615) (hk : 1 ≤ k) (hk2 : k ≤ 8) :
    Calls Tryd.prog 73 #[.int .u64 (n : Int), .int .i64 (k : Int)] w (Ib (.string (bs (le k n))) w) := by
  go_enter Tryd.func73, Tryd.ntmps73
  go_wp2_with fail
  go_loopw [0, 5, 6] (fun u v i wr => ∃ (m j : Nat) (l : List UInt8), m ≤ 18446744073709551615 ∧ u = .int .u64 (m : Int) ∧ i = .int .i64 (j : Int) ∧ j ≤ k ∧ l.length = j ∧ Ow w.heap.size wr v l ∧ Below w.heap.size w wr ∧ Hid (le k n = l ++ le (k - j) m)) (fun _ _ i _ => k - (intOf i).toNat)
  case atStart => exact ⟨n, 0, [], hn, rfl, rfl, by omega, rfl, Ow.nil _ _, Below.refl _ _, Lib.hid rfl⟩
  case round =>
    obtain ⟨m, j, l, hm, rfl, rfl, hj, hl, ho, hb, hI⟩ := hrel
    have hbs := hb.size
    clear hn
    by_cases h : j < k
    · have E := Lib.hid (show le k n = (l ++ [UInt8.ofNat (m % 256)]) ++ le (k - (j + 1)) (m / 256) by rw [hI.out, show k - j = (k - (j + 1)) + 1 by omega, le]; simp)
      have e : (UInt8.ofNat (m % 256)).toNat = m % 256 := of_toNat (by omega)
      obtain ⟨d, hd⟩ : ∃ d, m % 256 = d := ⟨_, rfl⟩
      obtain ⟨q, hq⟩ : ∃ q, m / 256 = q := ⟨_, rfl⟩
      rw [hd] at E e
      rw [hq] at E
      have k1 : (m : Int) % 256 = (d : Int) := by omega
      have k2 : (m : Int) / 256 = (q : Int) := by omega
      have hd2 : d < 256 := by omega
      have k4 : IntKind.u8.wrap (d : Int) = (d : Int) := by rw [IntKind.wrap_u8']; omega
      have hql : q ≤ 18446744073709551615 := by omega
      clear hd hq hI
      go_wp2_with (at_builtin; refine wpList_push rfl (.tmp 12) (.tmp 16) rfl w.heap.size u5 l (UInt8.ofNat d) _ 1 rfl rfl (ho.other (one _ _)) (by rw [e]; simp) (by omega) (by simp; omega) ?_; intro v' w' ho' hg')
      go_roundw
      case rel => exact ⟨q, j + 1, _, hql, rfl, by go_num, by omega, by simp [hl], ho', (hb.alloc hbs _).grown hg' (by simp; omega) (fun k hk => (ho.lt k hk).1), E⟩
      case measure => simp [intOf]; omega
    · obtain rfl : j = k := by omega
      have E : le j n = l := by rw [hI.out, Nat.sub_self]; simp [le]
      have hs' := ho.str (show l ≠ [] by intro h0; rw [h0] at hl; simp at hl; omega)
      have HE := Lib.hid E
      clear E hI
      go_wp2_with fail
      go_ret
      exact ⟨by rw [HE.out]; rfl, hb⟩
end Go.Proofs.YtcjaaijohapeaaaDoor

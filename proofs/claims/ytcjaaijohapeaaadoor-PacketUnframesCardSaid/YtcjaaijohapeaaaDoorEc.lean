/-
  Contracts of the byte steps, and of a character's width. No conditions but Go's own bounds of a number.
-/
import Derived.Test.YtcjaaijohapeaaaDoorLb
import Derived.Test.YtcjaaijohapeaaaDoorEm
import Derived.Test.YtcjaaijohapeaaaDoorShelf
namespace Go.Proofs.YtcjaaijohapeaaaDoor
open Go.RowKit
theorem and_one (y : Nat) (h : y < 4294967296) : bits BinOp.and IntKind.u32 (y : Int) 1 = ((y % 2 : Nat) : Int) := by
  have := u32_and_nat y 1 (by omega) (by omega)
  rw [show ((1 : Int)) = ((1 : Nat) : Int) by rfl, this, Nat.and_one_is_mod]
set_option maxRecDepth 100000 in
theorem shifted_any (x b : Nat) (w : World) (hx : x ≤ 4294967295) (hb : b ≤ 255) :
    Calls Tryd.prog 92 #[.int .u32 (x : Int), .int .u8 (b : Int)] w (Is (.int .u32 (sh x b : Int)) w) := by
  obtain ⟨y, hy⟩ : ∃ y, x ^^^ b = y := ⟨_, rfl⟩
  have hy2 : y < 4294967296 := by rw [← hy]; exact xor_lt32 (by omega) (by omega)
  have k1 : bits BinOp.xor IntKind.u32 (x : Int) (b : Int) = (y : Int) := by rw [u32_xor_nat _ _ (by omega) (by omega), hy]
  obtain ⟨z, hz⟩ : ∃ z, sh x b = z := ⟨_, rfl⟩
  rw [hz]
  have hI : Hid (sts 8 y = z) := Lib.hid (by rw [← hz, ← hy]; rfl)
  clear hz hy
  go_enter Tryd.func92, Tryd.ntmps92
  go_wp2_with fail
  go_loop [0, 10] (fun r i => ∃ k u : Nat, k ≤ 8 ∧ i = .int .i64 (k : Int) ∧ r = .int .u32 (u : Int) ∧ u ≤ 4294967295 ∧ Hid (sts (8 - k) u = z)) (fun _ i => 8 - (intOf i).toNat)
  case atStart => exact ⟨0, y, by omega, rfl, rfl, by omega, hI⟩
  case round =>
    obtain ⟨k, u, hk, rfl, rfl, hu, hJ⟩ := hrel
    clear hI k1 hy2 hx hb
    have a1 := and_one u (by omega)
    by_cases hlt : k < 8
    · obtain ⟨q, hq⟩ : ∃ q, u / 2 = q := ⟨_, rfl⟩
      have d2 : (u : Int) / 2 = (q : Int) := by omega
      have hE : sts (8 - (k + 1)) (st u) = z := by
        have := hJ.out
        rw [show 8 - k = (8 - (k + 1)) + 1 by omega] at this
        exact this
      clear hJ
      by_cases ho : u % 2 = 1
      · have d1 : ((u : Int) % 2 == 1) = true := by simp; omega
        obtain ⟨v, hv⟩ : ∃ v, q ^^^ 2197175160 = v := ⟨_, rfl⟩
        have k2 : bits BinOp.xor IntKind.u32 (q : Int) 2197175160 = (v : Int) := by
          have := u32_xor_nat q 2197175160 (by omega) (by omega)
          rw [hv] at this
          exact this
        have hv2 : v ≤ 4294967295 := by
          have : v < 4294967296 := by rw [← hv]; exact xor_lt32 (by omega) (by decide)
          omega
        have hE2 := Lib.hid (show sts (8 - (k + 1)) v = z by rw [← hE, st, if_pos ho, hq, hv])
        clear hE hv ho hq
        go_wp2_with fail
        go_round
        case rel => exact ⟨k + 1, v, by omega, rfl, rfl, hv2, hE2⟩
        case measure => simp [intOf]; omega
      · have d1 : ((u : Int) % 2 == 1) = false := by simp; omega
        have hE2 := Lib.hid (show sts (8 - (k + 1)) q = z by rw [← hE, st, if_neg ho, hq])
        clear hE ho
        go_wp2_with fail
        go_round
        case rel => exact ⟨k + 1, q, by omega, rfl, rfl, by omega, hE2⟩
        case measure => simp [intOf]; omega
    · obtain rfl : k = 8 := by omega
      obtain rfl : u = z := hJ.out
      clear hJ a1
      go_wp2_with fail
      go_ret
      exact ret_is rfl
/-- The two tables of utf8 lie where the program laid them. -/
def Tabs (w : World) : Prop := Lib.Utf8Tabs 0 1 w
theorem Tabs.below {w w' : World} (h : Tabs w) (hb : Below w.heap.size w w') : Tabs w' := Utf8Tabs_below h hb
theorem runeLen_decode (s : ByteArray) (pos : Nat) (hr : (Utf8.decode s pos).1 ≠ 65533) : Lib.runeLen ((Utf8.decode s pos).1 : Int) = ((Utf8.decode s pos).2 : Int) := by
  rw [Lib.decode_at] at *
  revert hr
  generalize s.size - pos = n
  have b0 := (s.get! pos).toNat_lt; have b1 := (s.get! (pos + 1)).toNat_lt; have b2 := (s.get! (pos + 2)).toNat_lt; have b3 := (s.get! (pos + 3)).toNat_lt
  revert b0 b1 b2 b3
  generalize (s.get! pos).toNat = c0
  generalize (s.get! (pos + 1)).toNat = c1
  generalize (s.get! (pos + 2)).toNat = c2
  generalize (s.get! (pos + 3)).toNat = c3
  intro b0 b1 b2 b3
  unfold Lib.decodeN
  split
  · intro _; unfold Lib.runeLen; simp only; split <;> first | omega | (split <;> omega)
  split
  · split
    · intro _; unfold Lib.runeLen; simp only; repeat' split
      all_goals omega
    · intro h; exact absurd rfl h
  split
  · split
    · intro _; unfold Lib.runeLen; simp only; repeat' split
      all_goals omega
    · intro h; exact absurd rfl h
  split
  · split
    · intro _; unfold Lib.runeLen; simp only; repeat' split
      all_goals omega
    · intro h; exact absurd rfl h
  · intro h; exact absurd rfl h
theorem decode_fits (s : ByteArray) (pos : Nat) (h : pos < s.size) : 1 ≤ (Utf8.decode s pos).2 ∧ pos + (Utf8.decode s pos).2 ≤ s.size := by
  rw [Lib.decode_at]
  have hn : 1 ≤ s.size - pos := by omega
  suffices H : 1 ≤ (Lib.decodeN (s.size - pos) (s.get! pos).toNat (s.get! (pos + 1)).toNat (s.get! (pos + 2)).toNat (s.get! (pos + 3)).toNat).2 ∧ (Lib.decodeN (s.size - pos) (s.get! pos).toNat (s.get! (pos + 1)).toNat (s.get! (pos + 2)).toNat (s.get! (pos + 3)).toNat).2 ≤ s.size - pos from ⟨H.1, by omega⟩
  generalize s.size - pos = n at *
  unfold Lib.decodeN
  repeat' split
  all_goals simp only
  all_goals omega
theorem decode_drop (s : ByteArray) (pos : Nat) (h : pos < s.size) : Utf8.decode (s.extract pos s.size) 0 = Utf8.decode s pos := by
  have hz : (s.extract pos s.size).size = s.size - pos := by simp
  have hg : ∀ k, k < s.size - pos → (s.extract pos s.size).get! k = s.get! (pos + k) := by
    intro k hk
    rw [Utf8W.get!_of_lt _ _ (by omega), Utf8W.get!_of_lt _ _ (by omega), ByteArray.getElem_extract]
  have hg2 : ∀ (t : ByteArray) k, ¬ k < t.size → t.get! k = 0 := by
    intro t k hk
    cases t with
    | mk d =>
      show d[k]! = 0
      exact getElem!_neg d k hk
  have hq : ∀ k, (s.extract pos s.size).get! k = s.get! (pos + k) := by
    intro k
    by_cases hk : k < s.size - pos
    · exact hg k hk
    · rw [hg2 _ _ (by omega), hg2 _ _ (by omega)]
  rw [Lib.decode_at, Lib.decode_at, hz, hq, hq, hq, hq]
  rfl
set_option maxRecDepth 100000 in
theorem width_any (s : ByteArray) (pos : Nat) (w : World) (h : pos < s.size) (hT : Tabs w) :
    Calls Tryd.prog 102 #[.int .i32 ((Utf8.decode s pos).1 : Int), .string (s.extract pos s.size)] w (Ib (.int .i64 ((Utf8.decode s pos).2 : Int)) w) := by
  by_cases hr : (Utf8.decode s pos).1 = 65533
  · have c1 := Tryd.utf8_DecodeRuneInString (s.extract pos s.size) w hT
    have e1 : Lib.decodeGo (s.extract pos s.size) = Utf8.decode s pos := by
      unfold Lib.decodeGo
      rw [if_neg (by simp; omega), decode_drop s pos h]
    rw [e1] at c1
    rw [hr] at c1 ⊢
    obtain ⟨K, hK⟩ : ∃ K, (Utf8.decode s pos).2 = K := ⟨_, rfl⟩
    rw [hK] at c1 ⊢
    clear e1 hr hK
    go_enter Tryd.func102, Tryd.ntmps102
    go_wp2_with fail
    refine c1.mono ?_
    rintro e w' ⟨rfl, hb⟩
    go_wp2_with fail
    go_ret
    exact ⟨rfl, hb⟩
  · have c1 := Tryd.utf8_RuneLen ((Utf8.decode s pos).1 : Int) w
    rw [runeLen_decode s pos hr] at c1
    obtain ⟨K, hK⟩ : ∃ K, (Utf8.decode s pos).2 = K := ⟨_, rfl⟩
    obtain ⟨R, hR⟩ : ∃ R, (Utf8.decode s pos).1 = R := ⟨_, rfl⟩
    rw [hK] at c1 ⊢
    rw [hR] at c1 hr ⊢
    have d1 : ((R : Int) == 65533) = false := by simp; omega
    clear hr hK hR
    go_enter Tryd.func102, Tryd.ntmps102
    go_wp2_with fail
    refine c1.mono ?_
    rintro e w' ⟨rfl, rfl⟩
    go_wp2_with fail
    go_ret
    exact ⟨rfl, Below.refl _ _⟩
end Go.Proofs.YtcjaaijohapeaaaDoor

/-
  Contracts of bytes.TrimRight (at the cutset "0") and slices.Reverse on bytes. Conditions: at most 100000 bytes.
-/
import Derived.Test.YtaiceebhifecbaaDoorT17
namespace Go.Proofs.YtaiceebhifecbaaDoor
open Go.RowKit
/-- The cells of block g from off on hold the bytes bs. -/
def Row8 (w : World) (g off : Nat) (bs : List Nat) : Prop := ∀ i (h : i < bs.length), w.cell? ⟨g, off + i, none⟩ = some (.int .u8 (bs[i] : Int))
/-- They hold the bytes bs, and can be written. -/
def Own8 (w : World) (g off : Nat) (bs : List Nat) : Prop := Row8 w g off bs ∧ ∀ i, i < bs.length → w.frozen? ⟨g, off + i, none⟩ = false
theorem u62 : Tryd.prog.underlying 62 = some (.slice 5) := by kernel_rfl
theorem info5 : (Tryd.prog.info? 5).map (fun i => (i.zero, i.size, i.bytes)) = some (some (.int .u8 0), 1, 1) := by kernel_rfl
theorem info5_parts : ∃ i, Tryd.prog.info? 5 = some i ∧ i.zero = some (.int .u8 0) ∧ i.size = 1 ∧ i.bytes = 1 := by
  have h := info5
  cases hi : Tryd.prog.info? 5 with
  | none => rw [hi] at h; cases h
  | some i =>
    rw [hi] at h
    simp at h
    exact ⟨i, rfl, h⟩
theorem index8 (W : World) (g off n c i : Nat) (z : Int) (hz : z = (i : Int)) (hi : i < n) : (Instr.indexAt 62 (.slice (some ⟨g, off, none⟩) n c) (.int .i64 z)).run Tryd.prog W = .ok (.pointer (some ⟨g, off + i, none⟩)) W := by
  obtain ⟨j, hj, _, hs, _⟩ := info5_parts
  subst hz
  simp [Instr.indexAt, run_underlying u62, asIntOf, sizeOf, typeInfo, hj, hs, hi, Addr.add_lit]
theorem slice_to8 (g off N C j : Nat) (b : Int) (hb : b = (j : Int)) (h2 : j ≤ C) (h3 : 0 < C) (W : World) :
    (Instr.sliceAt 62 (.slice (some ⟨g, off, none⟩) N C) none (some (.int .i64 b)) none).run Tryd.prog W = .ok (.slice (some ⟨g, off, none⟩) j C) W := by
  obtain ⟨t, ht, _, hs, _⟩ := info5_parts
  subst hb
  have hu : Tryd.prog.underlying 62 = some (.slice (Tryd.prog.elem 62)) := by kernel_rfl
  have he : Tryd.prog.elem 62 = 5 := by kernel_rfl
  rw [run_sliceAt_slice (h := hu), run_slice_h (ht := hu) (h0 := by omega) (h2 := by omega), he]
  simp [sliced, sizeOf, typeInfo, ht, hs, Addr.add_lit, show C ≠ 0 from by omega]
set_option maxHeartbeats 400000 in
theorem trimRightByte_any (g off n c k : Nat) (bs : List Nat) (w : World) (hr : Row8 w g off bs) (hn : bs.length = n) (hnc : n ≤ c) (hc : 0 < c) (hm : n ≤ 100000) (hkn : k ≤ n) (hz : ∀ i, k ≤ i → i < n → bs[i]? = some 48) (hk : ∀ i, k = i + 1 → bs[i]? ≠ some 48) :
    Calls Tryd.prog 65 #[.slice (some ⟨g, off, none⟩) n c, .int .u8 48] w fun e w' => e = .returned (.slice (some ⟨g, off, none⟩) k c) ∧ w = w' := by
  have HN := Lib.hid hn
  have HZ := Lib.hid hz
  have HK := Lib.hid hk
  clear hn hz hk
  go_enter Tryd.func65, Tryd.ntmps65
  go_wp2_with fail
  go_loop [0] (fun s => ∃ j : Nat, k ≤ j ∧ j ≤ n ∧ s = .slice (some ⟨g, off, none⟩) j c) (fun s => match s with | .slice _ j _ => j | _ => 0)
  case atStart => exact ⟨n, hkn, Nat.le_refl _, rfl⟩
  case round =>
    obtain ⟨j, hj1, hj2, rfl⟩ := hrel
    rcases Nat.eq_zero_or_pos j with h0 | h0
    · subst h0
      have hk0 : k = 0 := by omega
      have HK0 := Lib.hid hk0
      clear hk0
      go_wp2_with fail
      go_ret
      exact ⟨by rw [HK0.out]; rfl, rfl⟩
    · obtain ⟨i, rfl⟩ : ∃ i, j = i + 1 := ⟨j - 1, by omega⟩
      have hi : i < bs.length := by rw [HN.out]; omega
      have c1 := hr i hi
      obtain ⟨x, hx⟩ : ∃ x, bs[i] = x := ⟨_, rfl⟩
      rw [hx] at c1
      have hat : bs[i]? = some x := by rw [List.getElem?_eq_getElem hi, hx]
      have Hat := Lib.hid hat
      have ix := fun V => index8 V g off (i + 1) c i (((i + 1 : Nat) : Int) - 1) (by omega) (by omega)
      have sl := fun V => slice_to8 g off (i + 1) c i (((i + 1 : Nat) : Int) - 1) (by omega) (by omega) hc V
      clear hx hat
      by_cases hx48 : x = 48
      · have hb : ((x : Int) == 48) = true := by rw [beq_iff_eq]; omega
        have hki : k ≤ i := by
          rcases Nat.lt_or_ge i k with h5 | h5
          · exfalso
            obtain rfl : k = i + 1 := by omega
            exact HK.out i rfl (by rw [Hat.out, hx48])
          · exact h5
        clear hx48
        go_wp2_with fail
        exact ⟨⟨i, hki, by omega, rfl⟩, Nat.lt_succ_self i⟩
      · have hb : ((x : Int) == 48) = false := by rw [beq_eq_false_iff_ne]; omega
        have hki : k = i + 1 := by
          rcases Nat.lt_or_ge i k with h5 | h5
          · omega
          · exfalso
            have := HZ.out i h5 (by omega)
            rw [Hat.out] at this
            injection this with this
            exact hx48 this
        have HKI := Lib.hid hki
        clear hx48 hki
        go_wp2_with fail
        go_ret
        exact ⟨by rw [HKI.out]; rfl, rfl⟩
set_option maxRecDepth 100000 in
set_option maxHeartbeats 400000 in
theorem trimRight_any (g off n c k : Nat) (bs : List Nat) (w : World) (hr : Row8 w g off bs) (hn : bs.length = n) (hn0 : 0 < n) (hnc : n ≤ c) (hm : n ≤ 100000) (hkn : k ≤ n) (hz : ∀ i, k ≤ i → i < n → bs[i]? = some 48) (hk : ∀ i, k = i + 1 → bs[i]? ≠ some 48) :
    Calls Tryd.prog 55 #[.slice (some ⟨g, off, none⟩) n c, .string ⟨#[48]⟩] w fun e w' => e = .returned (.slice (some ⟨g, off, none⟩) k c) ∧ w = w' := by
  have hcall := Lib.hid (trimRightByte_any g off n c k bs w hr hn hnc (by omega) hm hkn hz hk)
  have hb0 : ((n : Int) == 0) = false := digit_ne (by omega)
  clear hz hk hn hr
  go_enter Tryd.func55, Tryd.ntmps55
  go_wp2_with fail
  refine hcall.out.mono ?_
  rintro e w1 ⟨rfl, rfl⟩
  go_wp2_with fail
  go_ret
  exact ⟨rfl, rfl⟩
theorem Own8.set {w : World} {g off : Nat} {bs : List Nat} (h : Own8 w g off bs) (k x : Nat) : Own8 (w.setCell ⟨g, off + k, none⟩ (.int .u8 (x : Int))) g off (bs.set k x) := by
  refine ⟨fun i hi => ?_, fun i hi => by rw [World.frozen?_setCell]; exact h.2 i (by simpa using hi)⟩
  have hi' : i < bs.length := by simpa using hi
  by_cases hk : k = i
  · subst hk
    rw [World.cell?_setCell_same (u := _) _ _ _ (h.1 k hi')]
    simp
  · rw [World.cell?_setCell_other _ _ _ _ (by intro e; injection e; omega), h.1 i hi']
    simp [hk]
theorem grown_set {a w : World} {g : Nat} (h : a.grownBy w (some g)) (o : Nat) (u : Value) : a.grownBy (w.setCell ⟨g, o, none⟩ u) (some g) :=
  ⟨h.os, h.tape, h.output, by simpa using h.size, fun i hi hne => by
    rw [Below.heap_setCell _ _ _ _ (by rintro rfl; exact hne rfl)]
    exact h.block i hi hne⟩
set_option maxHeartbeats 400000 in
theorem reverse_any (g off n c : Nat) (bs : List Nat) (w : World) (ho : Own8 w g off bs) (hn : bs.length = n) (hm : n ≤ 100000) :
    Calls Tryd.prog 56 #[.slice (some ⟨g, off, none⟩) n c] w fun e w' => e = .returned (.tuple #[]) ∧ Own8 w' g off bs.reverse ∧ w.grownBy w' (some g) := by
  have HN := Lib.hid hn
  clear hn
  go_enter Tryd.func56, Tryd.ntmps56
  go_wp2_with fail
  go_loopw [2, 3] (fun iv jv wr => ∃ (k : Nat) (z : Int) (cs : List Nat), iv = .int .i64 k ∧ jv = .int .i64 z ∧ Hid (z = (n : Int) - 1 - (k : Int)) ∧ k ≤ n ∧ 2 * k ≤ n + 1 ∧ Hid (cs.length = n) ∧ Hid (∀ i, i < n → cs[i]? = if i < k ∨ n - k ≤ i then bs[n - 1 - i]? else bs[i]?) ∧ Own8 wr g off cs ∧ w.grownBy wr (some g)) (fun iv _ _ => n + 1 - (intOf iv).toNat)
  case atStart => exact ⟨0, (n : Int) - 1, bs, rfl, rfl, by show _ = _; simp, Nat.zero_le _, by omega, HN.out, fun i hi => by rw [if_neg (by omega)], ho, World.grownBy.refl w _⟩
  case round =>
    obtain ⟨k, z, cs, rfl, rfl, hz, hk, hk2, hl, hcs, hown, hgr⟩ := hrel
    by_cases hlt : (k : Int) < z
    · obtain ⟨j, rfl⟩ : ∃ j : Nat, z = (j : Int) := ⟨z.toNat, by omega⟩
      have hj : j + k + 1 = n := by have := hz.out; omega
      have hkj : k < j := by omega
      have hjn : (j : Int) ≤ 100000 := by omega
      have hkc : k < cs.length := by rw [hl.out]; omega
      have hjc : j < cs.length := by rw [hl.out]; omega
      have c1 := hown.1 k hkc
      have c2 := hown.1 j hjc
      have f1 := hown.2 k hkc
      have f2 := hown.2 j hjc
      obtain ⟨x, hx⟩ : ∃ x, cs[k] = x := ⟨_, rfl⟩
      obtain ⟨y, hy⟩ : ∃ y, cs[j] = y := ⟨_, rfl⟩
      rw [hx] at c1
      rw [hy] at c2
      have Hx := Lib.hid hx
      have Hy := Lib.hid hy
      have Hj := Lib.hid hj
      have ix1 := fun V => index8 V g off n c k (k : Int) rfl (by omega)
      have ix2 := fun V => index8 V g off n c j (j : Int) rfl (by omega)
      clear hx hy hj
      go_wp2_with fail
      go_region
      go_wp2_with fail
      have hown2 := (hown.set k y).set j x
      have hgr2 := grown_set (grown_set hgr (off + k) (.int .u8 (y : Int))) (off + j) (.int .u8 (x : Int))
      go_roundw
      case rel =>
        refine ⟨k + 1, (j : Int) - 1, (cs.set k y).set j x, by go_num, rfl, ?_, by have := Hj.out; omega, by have := Hj.out; omega, ?_, ?_, ?_, ?_⟩
        · show _ = _; have := hz.out; omega
        · show _ = _; rw [List.length_set, List.length_set]; exact hl.out
        · intro i hi
          have h0 := hcs.out i hi
          have hJ := Hj.out
          by_cases e1 : i = j
          · subst e1
            rw [List.getElem?_set_self (by rw [List.length_set]; exact hjc), if_pos (by omega)]
            have h2 := hcs.out k (by omega)
            rw [if_neg (by omega), List.getElem?_eq_getElem hkc, Hx.out] at h2
            rw [show n - 1 - i = k from by omega, ← h2]
          · rw [List.getElem?_set_ne (Ne.symm e1)]
            by_cases e2 : i = k
            · subst e2
              rw [List.getElem?_set_self hkc, if_pos (by omega)]
              have h2 := hcs.out j (by omega)
              rw [if_neg (by omega), List.getElem?_eq_getElem hjc, Hy.out] at h2
              rw [show n - 1 - i = j from by omega, ← h2]
            · rw [List.getElem?_set_ne (Ne.symm e2), h0]
              by_cases e3 : i < k ∨ n - k ≤ i
              · rw [if_pos e3, if_pos (by omega)]
              · rw [if_neg e3, if_neg (by omega)]
        · exact hown2
        · exact ⟨hgr2.os, hgr2.tape, hgr2.output, hgr2.size, hgr2.block⟩
      case measure => have := Hj.out; simp [intOf]; omega
    · go_wp2_with fail
      go_end0
      refine ⟨rfl, ?_, hgr⟩
      have hrev : cs = bs.reverse := by
        refine List.ext_getElem? fun i => ?_
        rcases Nat.lt_or_ge i n with h5 | h5
        · rw [hcs.out i h5, List.getElem?_reverse (by rw [HN.out]; exact h5), HN.out]
          have := hz.out
          split
          · rfl
          · rw [show n - 1 - i = i from by omega]
        · rw [List.getElem?_eq_none (by rw [hl.out]; exact h5), List.getElem?_eq_none (by rw [List.length_reverse, HN.out]; exact h5)]
      rw [← hrev]
      exact hown
end Go.Proofs.YtaiceebhifecbaaDoor

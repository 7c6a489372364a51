/-
  The reference's names. No conditions but Go's own bounds of a string's length.
-/
import Derived.Test.YtgifienjfaclmaaGreatDoorLc
namespace Go.Proofs.YtgifienjfaclmaaGreatDoor
open Go.RowKit
theorem not_isN_len {l : List UInt8} (h : 16 < l.length) : isN l = false := by
  unfold isN
  rw [show decide (l.length ≤ 16) = false by simp; omega]
  simp
theorem isN_cons (c : UInt8) (r : List UInt8) (h : r.length + 1 ≤ 16) : isN (c :: r) = (isL c && (c :: r).all isW) := by
  unfold isN
  rw [show decide (1 ≤ (c :: r).length) = true by simp, show decide ((c :: r).length ≤ 16) = true by simpa using h]
  simp
theorem tw_at (p : UInt8 → Bool) (l : List UInt8) (j : Nat) (h : j < l.length) : ((l.drop j).takeWhile p).length = if p (l[j]'h) then ((l.drop (j + 1)).takeWhile p).length + 1 else 0 := by
  rw [List.drop_eq_getElem_cons h, List.takeWhile_cons]
  split <;> simp_all
theorem tw_le (p : UInt8 → Bool) (l : List UInt8) (j : Nat) : ((l.drop j).takeWhile p).length ≤ l.length - j := by
  have := (List.takeWhile_sublist p (l := l.drop j)).length_le
  rwa [List.length_drop] at this
/-- What the reference says of a name that begins at a. -/
def nameR (l : List UInt8) (a : Nat) : Nat × Nat × Nat :=
  if 16 < ((l.drop a).takeWhile isW).length then (a + ((l.drop a).takeWhile isW).length, 3, a)
  else if l[a + ((l.drop a).takeWhile isW).length]? = some 45 then (a + ((l.drop a).takeWhile isW).length, 2, a + ((l.drop a).takeWhile isW).length)
  else (a + ((l.drop a).takeWhile isW).length, 0, 0)
def t3 (x : Nat × Nat × Nat) : Value := .tuple #[.int .i64 (x.1 : Int), .int .i64 (x.2.1 : Int), .int .i64 (x.2.2 : Int)]
set_option maxRecDepth 100000 in
set_option maxHeartbeats 1000000 in
theorem name_any (l : List UInt8) (a : Nat) (w : World) (hl : l.length ≤ 9223372036854775000) (ha : a ≤ l.length) :
    Calls Tryz.prog 24 #[.string (bs l), .int .i64 (a : Int)] w (Is (t3 (nameR l a)) w) := by
  have hsz : (bs l).size = l.length := rfl
  obtain ⟨k, hk⟩ : ∃ k, ((l.drop a).takeWhile isW).length = k := ⟨_, rfl⟩
  have hkl := tw_le isW l a
  unfold nameR
  rw [hk] at hkl ⊢
  have HK := Lib.hid hk
  clear hk
  obtain ⟨R, hR⟩ : ∃ R, (if 16 < k then (a + k, 3, a) else if l[a + k]? = some 45 then (a + k, 2, a + k) else (a + k, 0, 0)) = R := ⟨_, rfl⟩
  rw [hR]
  have HR := Lib.hid hR
  clear hR
  go_enter Tryz.func24, Tryz.ntmps24
  go_wp2_with fail
  go_loop [7] (fun i => ∃ j : Nat, a ≤ j ∧ j ≤ a + k ∧ i = .int .i64 (j : Int) ∧ Hid (k = (j - a) + ((l.drop j).takeWhile isW).length)) (fun i => l.length - (intOf i).toNat)
  case atStart => exact ⟨a, by omega, by omega, rfl, Lib.hid (by rw [HK.out]; omega)⟩
  case round =>
    obtain ⟨j, hj1, hj2, rfl, hI⟩ := hrel
    by_cases hlt : j < l.length
    · have hlt2 : j < (bs l).size := hlt
      obtain ⟨d, hd⟩ : ∃ d, l[j]'hlt = d := ⟨_, rfl⟩
      have hb : ((bs l)[j]'hlt2).toNat = d.toNat := by rw [← hd]; rfl
      have c2 := fun W => word_any d W
      have hw := tw_at isW l j hlt
      rw [hd] at hw
      have hg : l[j]? = some d := by rw [List.getElem?_eq_getElem hlt, hd]
      have g45 : ((d.toNat : Int) == 45) = (d == 45) := (beq_nat d 45).symm
      obtain ⟨y, hy⟩ : ∃ y, isW d = y := ⟨_, rfl⟩
      rw [hy] at c2 hw
      cases y
      · rw [if_neg (by simp)] at hw
        have hs : a + k = j := by have := hI.out; omega
        have HR2 := HR.out
        rw [hs, hg] at HR2
        obtain ⟨n, hn⟩ : ∃ n, d.toNat = n := ⟨_, rfl⟩
        rw [hn] at hb g45 c2
        have hsub : (j : Int) - (a : Int) = (k : Int) := by omega
        by_cases h16 : 16 < k
        · rw [if_pos h16] at HR2
          have H := Lib.hid HR2
          have d16 : decide ((16 : Int) < (k : Int)) = true := by simp; omega
          clear HR2 hI hw g45 hg hy hd hs h16
          go_wp2_with fail
          refine (c2 _).mono ?_
          rintro e w' ⟨rfl, rfl⟩
          go_wp2_with fail
          go_ret3
          exact ⟨by rw [← H.out]; rfl, rfl⟩
        · rw [if_neg h16] at HR2
          have d16 : decide ((16 : Int) < (k : Int)) = false := by simp; omega
          by_cases h45 : d = 45
          · subst h45
            rw [if_pos rfl] at HR2
            have H := Lib.hid HR2
            have hn : n = 45 := by rw [← hn]; rfl
            subst hn
            clear HR2 hI hw g45 hg hy hd hs h16
            go_wp2_with fail
            refine (c2 _).mono ?_
            rintro e w' ⟨rfl, rfl⟩
            go_wp2_with fail
            go_ret3
            exact ⟨by rw [← H.out]; rfl, rfl⟩
          · rw [if_neg (by intro e; exact h45 (Option.some.inj e))] at HR2
            have H := Lib.hid HR2
            rw [show (d == 45) = false by simpa using h45] at g45
            have f45 : ((n : Int) = 45) = False := by simp at g45 ⊢; omega
            clear HR2 hI hw hg hy hd hs h16 h45
            go_wp2_with fail
            refine (c2 _).mono ?_
            rintro e w' ⟨rfl, rfl⟩
            go_wp2_with fail
            go_ret3
            exact ⟨by rw [← H.out]; rfl, rfl⟩
      · rw [if_pos rfl] at hw
        have hle := tw_le isW l (j + 1)
        have E := Lib.hid (show k = (j + 1 - a) + ((l.drop (j + 1)).takeWhile isW).length by have := hI.out; omega)
        have hjk : j + 1 ≤ a + k := by have := hI.out; omega
        generalize d.toNat = n at *
        clear hI hw hle hg hy hd g45
        go_wp2_with fail
        refine (c2 _).mono ?_
        rintro e w' ⟨rfl, rfl⟩
        go_wp2_with fail
        go_round
        case rel => exact ⟨j + 1, by omega, hjk, by go_num, E⟩
        case measure => simp [intOf]; omega
    · obtain rfl : j = l.length := by omega
      have hI2 := hI.out
      rw [List.drop_length] at hI2
      have hk2 : k = l.length - a := by simpa using hI2
      have HR2 := HR.out
      rw [show a + k = l.length by omega, List.getElem?_eq_none (Nat.le_refl _)] at HR2
      rw [if_neg (show ¬ (none : Option UInt8) = some 45 by simp)] at HR2
      have hsub : (l.length : Int) - (a : Int) = (k : Int) := by omega
      by_cases h16 : 16 < k
      · rw [if_pos h16] at HR2
        have H := Lib.hid HR2
        have d16 : decide ((16 : Int) < (k : Int)) = true := by simp; omega
        clear HR2 hI hI2 hk2 h16
        go_wp2_with fail
        go_ret3
        exact ⟨by rw [← H.out]; rfl, rfl⟩
      · rw [if_neg h16] at HR2
        have H := Lib.hid HR2
        have d16 : decide ((16 : Int) < (k : Int)) = false := by simp; omega
        clear HR2 hI hI2 hk2 h16
        go_wp2_with fail
        go_ret3
        exact ⟨by rw [← H.out]; rfl, rfl⟩
end Go.Proofs.YtgifienjfaclmaaGreatDoor

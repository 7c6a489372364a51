/-
  Contracts of the reference's byte classes, of names and of white space. No conditions but Go's own bounds of a string's length.
-/
import Derived.Test.YtgifienjfaclmaaGreatDoorLb
import Derived.Test.YtgifienjfaclmaaGreatDoorLp
namespace Go.Proofs.YtgifienjfaclmaaGreatDoor
open Go.RowKit
theorem ret_bool2 {a b : Bool} {w : World} (h : a = true ↔ b = true) : Is (.bool b) w (.returned (.bool a)) w := ⟨by rw [Bool.eq_iff_iff.2 h], rfl⟩
set_option maxRecDepth 100000 in
theorem letter_any (c : UInt8) (w : World) : Calls Tryz.prog 23 #[.int .u8 (c.toNat : Int)] w (Is (.bool (isL c)) w) := by
  obtain ⟨n, hn⟩ : ∃ n, c.toNat = n := ⟨_, rfl⟩
  unfold isL
  rw [hn]
  clear hn
  go_enter Tryz.func23, Tryz.ntmps23
  go_wp2_with fail
  all_goals
    go_ret
    refine ret_bool2 ?_
    simp
    try omega
set_option maxRecDepth 100000 in
theorem digit_any (c : UInt8) (w : World) : Calls Tryz.prog 25 #[.int .u8 (c.toNat : Int)] w (Is (.bool (isD c)) w) := by
  obtain ⟨n, hn⟩ : ∃ n, c.toNat = n := ⟨_, rfl⟩
  unfold isD
  rw [hn]
  clear hn
  go_enter Tryz.func25, Tryz.ntmps25
  go_wp2_with fail
  all_goals
    go_ret
    refine ret_bool2 ?_
    simp
    try omega
theorem beq_nat (c d : UInt8) : (c == d) = ((c.toNat : Int) == (d.toNat : Int)) := by
  rw [Bool.eq_iff_iff]
  simp only [beq_iff_eq]
  exact ⟨fun h => by rw [h], fun h => UInt8.toNat_inj.1 (by omega)⟩
set_option maxRecDepth 100000 in
theorem word_any (c : UInt8) (w : World) : Calls Tryz.prog 36 #[.int .u8 (c.toNat : Int)] w (Is (.bool (isW c)) w) := by
  have c1 := fun W => letter_any c W
  have c2 := fun W => digit_any c W
  unfold isW
  rw [beq_nat c 95]
  generalize isL c = x at *
  generalize isD c = y at *
  cases x <;> cases y
  all_goals
    go_enter Tryz.func36, Tryz.ntmps36
    go_wp2_with fail
    refine (c1 _).mono ?_
    rintro e w' ⟨rfl, rfl⟩
    go_wp2_with fail
    try
      refine (c2 _).mono ?_
      rintro e w' ⟨rfl, rfl⟩
      go_wp2_with fail
    go_ret
    exact ret_bool rfl
set_option maxRecDepth 100000 in
theorem mark_any (c : UInt8) (w : World) : Calls Tryz.prog 28 #[.int .u8 (c.toNat : Int)] w (Is (.bool (isM c)) w) := by
  have n0 : (⟨#[123, 125, 40, 41, 91, 93, 58, 59, 44, 61, 46, 63, 33, 38, 124, 64]⟩ : ByteArray) = bs marks := rfl
  have hsz : (bs marks).size = 16 := rfl
  go_enter Tryz.func28, Tryz.ntmps28
  go_wp2_with fail
  go_loop [4] (fun i => ∃ k : Nat, k ≤ 16 ∧ i = .int .i64 (k : Int) ∧ Hid ((marks.take k).contains c = false)) (fun i => 16 - (intOf i).toNat)
  case atStart => exact ⟨0, by omega, rfl, Lib.hid rfl⟩
  case round =>
    obtain ⟨k, hk, rfl, hI⟩ := hrel
    by_cases hlt : k < 16
    · have hm : k < marks.length := hlt
      have hlt2 : k < (bs marks).size := hlt
      obtain ⟨x, hx⟩ : ∃ x, marks[k]'hm = x := ⟨_, rfl⟩
      have hb : ((bs marks)[k]'hlt2).toNat = x.toNat := by rw [← hx]; rfl
      have ht : marks.take (k + 1) = marks.take k ++ [x] := by rw [List.take_succ_eq_append_getElem hm, hx]
      by_cases e : x = c
      · have E := Lib.hid (show isM c = true by
          unfold isM
          rw [List.contains_iff_mem, ← e, ← hx]
          exact List.getElem_mem hm)
        subst e
        clear hI hx ht
        go_wp2_with fail
        go_ret
        exact ret_bool E.out.symm
      · have E := Lib.hid (show (marks.take (k + 1)).contains c = false by
          rw [ht]
          have := hI.out
          simp only [List.contains_eq_mem, List.mem_append, List.mem_singleton, decide_eq_false_iff_not] at this ⊢
          intro h
          exact h.elim this (fun h => e h.symm))
        have d1 : ((x.toNat : Int) == (c.toNat : Int)) = false := by
          rw [← beq_nat]
          simpa using e
        generalize x.toNat = xn at *
        generalize hcn : c.toNat = cn at *
        clear hI hx ht e
        go_wp2_with fail
        go_round
        case rel => exact ⟨k + 1, by omega, by go_num, E⟩
        case measure => simp [intOf]; omega
    · obtain rfl : k = 16 := by omega
      have E := Lib.hid (show isM c = false from hI.out)
      clear hI
      go_wp2_with fail
      go_ret
      exact ret_bool E.out.symm
theorem sk_at (rm : Bool) (l : List UInt8) (j : Nat) (h : j < l.length) : sk rm (l.drop j) = if (((rm && l[j] != 10) || l[j] == 35) || isS l[j]) then sk ((rm && l[j] != 10) || l[j] == 35) (l.drop (j + 1)) else l.drop j := by
  rw [List.drop_eq_getElem_cons h, sk]
set_option maxRecDepth 100000 in
set_option maxHeartbeats 1000000 in
theorem skip_any (l : List UInt8) (a : Nat) (w : World) (hl : l.length ≤ 9223372036854775000) (ha : a ≤ l.length) :
    Calls Tryz.prog 22 #[.string (bs l), .int .i64 (a : Int)] w (Is (.int .i64 ((l.length - (sk false (l.drop a)).length : Nat) : Int)) w) := by
  have hsz : (bs l).size = l.length := rfl
  obtain ⟨R, hR⟩ : ∃ R, sk false (l.drop a) = R := ⟨_, rfl⟩
  obtain ⟨m, hm⟩ : ∃ m, l.length - R.length = m := ⟨_, rfl⟩
  rw [hR, hm]
  have HI := Lib.hid hR
  have HM := Lib.hid hm
  clear hR hm
  go_enter Tryz.func22, Tryz.ntmps22
  go_wp2_with fail
  go_loop [1, 5] (fun i u => ∃ (j : Nat) (rm : Bool), j ≤ l.length ∧ i = .int .i64 (j : Int) ∧ u = .bool rm ∧ Hid (sk rm (l.drop j) = R)) (fun i _ => l.length - (intOf i).toNat)
  case atStart => exact ⟨a, false, ha, rfl, rfl, HI⟩
  case round =>
    obtain ⟨j, rm, hj, rfl, rfl, hI⟩ := hrel
    by_cases hlt : j < l.length
    · have hlt2 : j < (bs l).size := hlt
      have e0 := sk_at rm l j hlt
      rw [hI.out] at e0
      obtain ⟨c, hc⟩ : ∃ c, l[j]'hlt = c := ⟨_, rfl⟩
      rw [hc] at e0
      have hcb : ((bs l)[j]'hlt2).toNat = c.toNat := by rw [← hc]; rfl
      have hj1 : j + 1 ≤ l.length := hlt
      have hdl : (l.drop j).length = l.length - j := List.length_drop
      clear hI hc HI
      by_cases h10 : c = 10
      · subst h10
        have hcb : ((bs l)[j]'hlt2).toNat = 10 := hcb
        have E := Lib.hid (show sk false (l.drop (j + 1)) = R by rw [e0]; simp [isS])
        clear e0
        go_wp2_with fail
        go_round
        case rel => exact ⟨j + 1, false, hj1, by go_num, rfl, E⟩
        case measure => simp [intOf]; omega
      · by_cases h35 : c = 35
        · subst h35
          have hcb : ((bs l)[j]'hlt2).toNat = 35 := hcb
          have E := Lib.hid (show sk true (l.drop (j + 1)) = R by rw [e0]; simp)
          clear e0
          go_wp2_with fail
          go_round
          case rel => exact ⟨j + 1, true, hj1, by go_num, rfl, E⟩
          case measure => simp [intOf]; omega
        · obtain ⟨n, hn⟩ : ∃ n, c.toNat = n := ⟨_, rfl⟩
          have g : ∀ d : UInt8, ((n : Int) == (d.toNat : Int)) = (c == d) := fun d => by rw [beq_nat, hn]
          have d10 : ((n : Int) == 10) = false := by have := g 10; rw [show ((c == 10) = false) by simpa using h10] at this; exact this
          have d35 : ((n : Int) == 35) = false := by have := g 35; rw [show ((c == 35) = false) by simpa using h35] at this; exact this
          have d32 : ((n : Int) == 32) = (c == 32) := g 32
          have d9 : ((n : Int) == 9) = (c == 9) := g 9
          rw [hn] at hcb
          have p10 : (c != 10) = true := by simpa using h10
          have p35 : (c == 35) = false := by simpa using h35
          have q10 : (c == 10) = false := by simpa using h10
          simp only [isS, p10, p35, q10, Bool.and_true, Bool.or_false] at e0
          cases rm
          · by_cases hs : (c == 32 || c == 9) = true
            · rw [if_pos (by simpa using hs)] at e0
              have E := Lib.hid e0.symm
              have hs2 : n = 32 ∨ n = 9 := by
                simp only [Bool.or_eq_true, beq_iff_eq] at hs
                rcases hs with h | h
                · left; rw [← hn, h]; rfl
                · right; rw [← hn, h]; rfl
              clear e0 d32 d9 d10 d35 g hn p10 p35 q10 hs
              rcases hs2 with rfl | rfl
              all_goals
                go_wp2_with fail
                go_round
                case rel => exact ⟨j + 1, false, hj1, by go_num, rfl, E⟩
                case measure => simp [intOf]; omega
            · rw [if_neg (by simpa using hs)] at e0
              have hr : l.length - (l.drop j).length = j := by omega
              have E := Lib.hid (show j = m by rw [← HM.out, e0]; omega)
              simp only [Bool.or_eq_true, not_or, Bool.not_eq_true] at hs
              rw [hs.1] at d32
              rw [hs.2] at d9
              have b32 : ((n : Int) != 32) = true := by simp at d32 ⊢; omega
              have b9 : ((n : Int) != 9) = true := by simp at d9 ⊢; omega
              have b10 : ((n : Int) != 10) = true := by simp at d10 ⊢; omega
              have f32 : ((n : Int) = 32) = False := by simp at d32 ⊢; omega
              have f9 : ((n : Int) = 9) = False := by simp at d9 ⊢; omega
              have f10 : ((n : Int) = 10) = False := by simp at d10 ⊢; omega
              clear e0 g hn p10 p35 q10 hs hr
              go_wp2_with fail
              go_ret
              exact ret_is (by rw [E.out])
          · simp only [Bool.true_or, if_true] at e0
            have E := Lib.hid e0.symm
            clear e0 d32 d9 g hn p10 p35 q10
            go_wp2_with fail
            go_round
            case rel => exact ⟨j + 1, true, hj1, by go_num, rfl, E⟩
            case measure => simp [intOf]; omega
    · obtain rfl : j = l.length := by omega
      have E := Lib.hid (show l.length = m by
        have h := hI.out
        rw [List.drop_length] at h
        rw [← HM.out, ← h]
        rfl)
      clear hI
      go_wp2_with fail
      go_ret
      exact ret_is (by rw [E.out])
end Go.Proofs.YtgifienjfaclmaaGreatDoor

/-
  The reference's strings. No conditions but Go's own bounds of a string's length.
-/
import Derived.Test.YtgifienjfaclmaaGreatDoorLd
namespace Go.Proofs.YtgifienjfaclmaaGreatDoor
open Go.RowKit
/-- What quoted returns, for a string that begins at a. -/
def quoV (a : Nat) : Except Nat (List UInt8 × Nat) → Value
  | .error i => .tuple #[.int .i64 ((a + i : Nat) : Int), .string (bs []), .int .i64 2, .int .i64 ((a + i : Nat) : Int)]
  | .ok (t, k) => if 200 < t.length then .tuple #[.int .i64 ((a + k - 1 : Nat) : Int), .string (bs []), .int .i64 3, .int .i64 (a : Int)] else .tuple #[.int .i64 ((a + k : Nat) : Int), .string (bs t), .int .i64 0, .int .i64 0]
theorem results_tmp4 {fn : Func} {t u v x : Tmp} (h : fn.results = #[.tmp t, .tmp u, .tmp v, .tmp x]) (tmps : Array Value) (P : Program) (w : World) :
    (results fn tmps).run P w = .ok (.tuple #[tmps.getD t undef, tmps.getD u undef, tmps.getD v undef, tmps.getD x undef]) w := by
  simp [results, h]
theorem one_byte (l : List UInt8) (j : Nat) (h : j < l.length) : (bs l).extract j (j + 1) = bs [l[j]'h] := by
  rw [bs_slice, List.take_succ_eq_append_getElem h, List.drop_append_of_le_length (by rw [List.length_take]; omega), List.drop_of_length_le (by rw [List.length_take]; omega)]
  rfl
theorem qs_nil (i : Nat) (out : List UInt8) : qs [] i out = .error i := by rw [qs]
set_option maxRecDepth 100000 in
set_option maxHeartbeats 2000000 in
theorem quoted_any (l : List UInt8) (a : Nat) (w : World) (hl : l.length ≤ 9223372036854770000) (ha : a < l.length) :
    Calls Tryz.prog 27 #[.string (bs l), .int .i64 (a : Int)] w (Is (quoV a (qs (l.drop (a + 1)) 1 [])) w) := by
  have hsz : (bs l).size = l.length := rfl
  have hn0 : (⟨#[]⟩ : ByteArray) = bs [] := rfl
  obtain ⟨R, hR⟩ : ∃ R, qs (l.drop (a + 1)) 1 [] = R := ⟨_, rfl⟩
  rw [hR]
  have HR := Lib.hid hR
  clear hR
  go_enter Tryz.func27, Tryz.ntmps27
  go_wp2_with fail
  go_loop [8, 9] (fun u i => ∃ (j : Nat) (o : List UInt8), a < j ∧ j ≤ l.length ∧ o.length ≤ j ∧ i = .int .i64 (j : Int) ∧ u = .string (bs o) ∧ Hid (qs (l.drop j) (j - a) o = R)) (fun _ i => l.length + 1 - (intOf i).toNat)
  case atStart => exact ⟨a + 1, [], by omega, by omega, by simp, by simp, rfl, Lib.hid (by rw [show a + 1 - a = 1 by omega]; exact HR.out)⟩
  case round =>
    obtain ⟨j, o, hj1, hj2, ho, rfl, rfl, hI⟩ := hrel
    have hI2 := hI.out
    have hos : (bs o).size = o.length := rfl
    clear HR hI
    by_cases hlt : j < l.length
    · have hlt2 : j < (bs l).size := hlt
      obtain ⟨c, hc⟩ : ∃ c, l[j]'hlt = c := ⟨_, rfl⟩
      rw [List.drop_eq_getElem_cons hlt, qs_cons, hc] at hI2
      have hb : ((bs l)[j]'hlt2).toNat = c.toNat := by rw [← hc]; rfl
      have h1b := one_byte l j hlt
      rw [hc] at h1b
      have hb1 : (bs [c]).size = 1 := rfl
      have hap := bs_append o [c]
      obtain ⟨n, hn⟩ : ∃ n, c.toNat = n := ⟨_, rfl⟩
      rw [hn] at hb hI2
      have g : ∀ d : UInt8, c ≠ d → ((n : Int) == (d.toNat : Int)) = false := fun d h => by rw [← hn, ← beq_nat]; simpa using h
      by_cases h34 : c = 34
      · rw [if_pos h34] at hI2
        have hn2 : n = 34 := by rw [← hn, h34]; rfl
        subst hn2
        subst hI2
        clear h1b hap hb1 g hn hc h34
        unfold quoV
        simp only
        by_cases h200 : 200 < o.length
        · rw [if_pos h200]
          have d1 : decide ((200 : Int) < (o.length : Int)) = true := by simp; omega
          rw [show a + (j - a + 1) - 1 = j by omega]
          clear h200
          go_wp2_with fail
          (try simp only [Exit.inBlock, Exit.then]); refine bodyPost_ret (results_tmp4 rfl _ _ _) rfl ?_
          exact ⟨rfl, rfl⟩
        · rw [if_neg h200]
          have d1 : decide ((200 : Int) < (o.length : Int)) = false := by simp; omega
          obtain ⟨f, hf⟩ : ∃ f, j + 1 = f := ⟨_, rfl⟩
          have l11 : (j : Int) + 1 = (f : Int) := by omega
          rw [show a + (j - a + 1) = f by omega]
          clear h200
          go_wp2_with fail
          (try simp only [Exit.inBlock, Exit.then]); refine bodyPost_ret (results_tmp4 rfl _ _ _) rfl ?_
          exact ⟨rfl, rfl⟩
      · rw [if_neg h34] at hI2
        have g34 : ((n : Int) == 34) = false := g 34 h34
        have f34 : ((n : Int) = 34) = False := by simp at g34 ⊢; omega
        by_cases hr : n < 32 ∨ 126 < n
        · rw [if_pos hr] at hI2
          subst hI2
          unfold quoV
          simp only
          rw [show a + (j - a) = j by omega]
          have hr2 : decide ((n : Int) < 32) = true ∨ (decide ((n : Int) < 32) = false ∧ decide ((126 : Int) < (n : Int)) = true) := by
            by_cases h : n < 32
            · left; simp; omega
            · right; exact ⟨by simp; omega, by simp; omega⟩
          clear h1b hap hb1 g hn hc h34 hr
          rcases hr2 with d1 | ⟨d1, d2⟩
          all_goals
            go_wp2_with fail
            (try simp only [Exit.inBlock, Exit.then]); refine bodyPost_ret (results_tmp4 rfl _ _ _) rfl ?_
            exact ⟨rfl, rfl⟩
        · rw [if_neg hr] at hI2
          have d1 : decide ((n : Int) < 32) = false := by simp; omega
          have d2 : decide ((126 : Int) < (n : Int)) = false := by simp; omega
          obtain ⟨f, hf⟩ : ∃ f, j + 1 = f := ⟨_, rfl⟩
          have l11 : (j : Int) + 1 = (f : Int) := by omega
          rw [hf] at hI2 h1b
          by_cases h92 : c = 92
          · rw [if_pos h92] at hI2
            have hn2 : n = 92 := by rw [← hn, h92]; rfl
            subst hn2
            clear d1 d2 g34 f34 hr g hn hc h34 hap h1b hb1 h92
            by_cases hf2 : f < l.length
            · have hf3 : f < (bs l).size := hf2
              obtain ⟨d, hd⟩ : ∃ d, l[f]'hf2 = d := ⟨_, rfl⟩
              rw [List.drop_eq_getElem_cons hf2, hd] at hI2
              simp only at hI2
              have hb2 : ((bs l)[f]'hf3).toNat = d.toNat := by rw [← hd]; rfl
              have h1b := one_byte l f hf2
              rw [hd] at h1b
              have hb1 : (bs [d]).size = 1 := rfl
              have hap := bs_append o [d]
              obtain ⟨m, hm⟩ : ∃ m, d.toNat = m := ⟨_, rfl⟩
              rw [hm] at hb2
              obtain ⟨e, he⟩ : ∃ e, f + 1 = e := ⟨_, rfl⟩
              have l12 : (f : Int) + 1 = (e : Int) := by omega
              rw [he] at hI2 h1b
              by_cases hdd : d = 34 ∨ d = 92
              · rw [if_pos hdd] at hI2
                have E := Lib.hid (show qs (l.drop e) (e - a) (o ++ [d]) = R by rw [← hI2, show j - a + 2 = e - a by omega])
                have hm2 : m = 34 ∨ m = 92 := by
                  rcases hdd with h | h
                  · left; rw [← hm, h]; rfl
                  · right; rw [← hm, h]; rfl
                clear hI2 hd hm hdd he hf
                rcases hm2 with rfl | rfl
                all_goals
                  go_wp2_with fail
                  go_round
                  case rel => exact ⟨e, o ++ [d], by omega, by omega, by simp; omega, by go_num, rfl, E⟩
                  case measure => simp [intOf]; omega
              · rw [if_neg hdd] at hI2
                subst hI2
                unfold quoV
                simp only
                rw [show a + (j - a) = j by omega]
                have k34 : ((m : Int) == 34) = false := by rw [← hm]; exact ((beq_nat d 34).symm.trans (by simpa using fun h => hdd (.inl h)))
                have k92 : ((m : Int) == 92) = false := by rw [← hm]; exact ((beq_nat d 92).symm.trans (by simpa using fun h => hdd (.inr h)))
                have m34 : ((m : Int) = 34) = False := by simp at k34 ⊢; omega
                have m92 : ((m : Int) = 92) = False := by simp at k92 ⊢; omega
                have b34 : ((m : Int) != 34) = true := by simp at k34 ⊢; omega
                have b92 : ((m : Int) != 92) = true := by simp at k92 ⊢; omega
                clear hd hm hdd he hf hap h1b hb1
                go_wp2_with fail
                (try simp only [Exit.inBlock, Exit.then]); refine bodyPost_ret (results_tmp4 rfl _ _ _) rfl ?_
                exact ⟨rfl, rfl⟩
            · obtain rfl : f = l.length := by omega
              rw [List.drop_length] at hI2
              simp only at hI2
              subst hI2
              unfold quoV
              simp only
              rw [show a + (j - a) = j by omega]
              clear hf
              go_wp2_with fail
              (try simp only [Exit.inBlock, Exit.then]); refine bodyPost_ret (results_tmp4 rfl _ _ _) rfl ?_
              exact ⟨rfl, rfl⟩
          · rw [if_neg h92] at hI2
            have g92 : ((n : Int) == 92) = false := g 92 h92
            have f92 : ((n : Int) = 92) = False := by simp at g92 ⊢; omega
            have E := Lib.hid (show qs (l.drop f) (f - a) (o ++ [c]) = R by rw [← hI2, show j - a + 1 = f - a by omega])
            clear hI2 g hn hc h34 hr h92
            go_wp2_with fail
            go_round
            case rel => exact ⟨f, o ++ [c], by omega, by omega, by simp; omega, by go_num, rfl, E⟩
            case measure => simp [intOf]; omega
    · obtain rfl : j = l.length := by omega
      rw [List.drop_length, qs_nil] at hI2
      subst hI2
      unfold quoV
      simp only
      rw [show a + (l.length - a) = l.length by omega]
      go_wp2_with fail
      (try simp only [Exit.inBlock, Exit.then]); refine bodyPost_ret (results_tmp4 rfl _ _ _) rfl ?_
      exact ⟨rfl, rfl⟩
end Go.Proofs.YtgifienjfaclmaaGreatDoor

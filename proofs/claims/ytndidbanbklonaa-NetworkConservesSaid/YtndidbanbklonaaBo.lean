import Derived.Test.YtndidbanbklonaaBn
/-
  A network: sending. No conditions beyond those that each names.
-/
namespace Go.Proofs.Ytndidbanbklonaa
open Go.RowKit Go.Sort Go.Lib Go.Shelf
/-- The error of a sending. -/
def sndE (S : Ns) (at_ fr to_ : Int) (len : Nat) : Int :=
  if prB S.nodes fr to_ = true then (if tmB at_ = true then (if 4000 < len then 3 else if at_ < S.rch then 17 else if 65536 ≤ S.q.n then 15 else 0) else 4) else 4
set_option maxRecDepth 100000 in
set_option maxHeartbeats 4000000 in
theorem checkSend_any (c : Nat) (w : World) (m : Nat) (V : Int → Value) (tv fv : Value) (S : Ns) (at_ fr to_ : Int) (s : ByteArray) (hs : s.size ≤ maxLen) (h : Nw c w m V tv fv S) :
    Calls Try.prog 33 #[(.pointer (some ⟨c, 0, none⟩)), .int .i64 at_, .int .i64 fr, .int .i64 to_, .string s] w (Ib (.int .i64 (sndE S at_ fr to_ s.size)) w) := by
  have k0 := h.c0
  have k4 := h.c4
  have k7 := h.sb.c2
  have pl := h.lt
  have hs9 : s.size ≤ 9223372036854775807 := by unfold maxLen at hs; omega
  clear h hs
  cases h1 : prB S.nodes fr to_ with
  | true =>
    cases h2 : tmB at_ with
    | true =>
      by_cases h3 : 4000 < s.size
      · have d3 : decide ((4000 : Int) < (s.size : Int)) = true := decide_eq_true (by omega)
        have d3n : decide (4000 < s.size) = true := decide_eq_true h3
        have HR : Hid (sndE S at_ fr to_ s.size = 3) := Lib.hid (by unfold sndE; rw [if_pos h1, if_pos h2, if_pos h3])
        clear h3
        go_enter Try.func33, Try.ntmps33
        go_wp2_with (first | (go_at_call 26; refine (peers_any _ _ _ _).mono ?_; rintro e w9 ⟨rfl, rfl⟩) | (go_at_call 20; refine (time_any _ _).mono ?_; rintro e w9 ⟨rfl, rfl⟩) | go_in)
        go_ret
        rw [HR.out]
        exact ⟨rfl, Below.refl _ _⟩
      · have d3 : decide ((4000 : Int) < (s.size : Int)) = false := decide_eq_false (by omega)
        have d3n : decide (4000 < s.size) = false := decide_eq_false h3
        by_cases h4 : at_ < S.rch
        · have d4 : decide (at_ < S.rch) = true := decide_eq_true h4
          have HR : Hid (sndE S at_ fr to_ s.size = 17) := Lib.hid (by unfold sndE; rw [if_pos h1, if_pos h2, if_neg h3, if_pos h4])
          clear h3 h4
          go_enter Try.func33, Try.ntmps33
          go_wp2_with (first | (go_at_call 26; refine (peers_any _ _ _ _).mono ?_; rintro e w9 ⟨rfl, rfl⟩) | (go_at_call 20; refine (time_any _ _).mono ?_; rintro e w9 ⟨rfl, rfl⟩) | go_in)
          go_ret
          rw [HR.out]
          exact ⟨rfl, Below.refl _ _⟩
        · have d4 : decide (at_ < S.rch) = false := decide_eq_false h4
          by_cases h5 : 65536 ≤ S.q.n
          · have d5 : decide ((65536 : Int) ≤ (S.q.n : Int)) = true := decide_eq_true (by omega)
            have d5n : decide (65536 ≤ S.q.n) = true := decide_eq_true h5
            have HR : Hid (sndE S at_ fr to_ s.size = 15) := Lib.hid (by unfold sndE; rw [if_pos h1, if_pos h2, if_neg h3, if_neg h4, if_pos h5])
            clear h3 h4 h5
            go_enter Try.func33, Try.ntmps33
            go_wp2_with (first | (go_at_call 26; refine (peers_any _ _ _ _).mono ?_; rintro e w9 ⟨rfl, rfl⟩) | (go_at_call 20; refine (time_any _ _).mono ?_; rintro e w9 ⟨rfl, rfl⟩) | go_in)
            go_ret
            rw [HR.out]
            exact ⟨rfl, Below.refl _ _⟩
          · have d5 : decide ((65536 : Int) ≤ (S.q.n : Int)) = false := decide_eq_false (by omega)
            have d5n : decide (65536 ≤ S.q.n) = false := decide_eq_false h5
            have HR : Hid (sndE S at_ fr to_ s.size = 0) := Lib.hid (by unfold sndE; rw [if_pos h1, if_pos h2, if_neg h3, if_neg h4, if_neg h5])
            clear h3 h4 h5
            go_enter Try.func33, Try.ntmps33
            go_wp2_with (first | (go_at_call 26; refine (peers_any _ _ _ _).mono ?_; rintro e w9 ⟨rfl, rfl⟩) | (go_at_call 20; refine (time_any _ _).mono ?_; rintro e w9 ⟨rfl, rfl⟩) | go_in)
            go_ret
            rw [HR.out]
            exact ⟨rfl, Below.refl _ _⟩
    | false =>
      have HR : Hid (sndE S at_ fr to_ s.size = 4) := Lib.hid (by unfold sndE; rw [if_pos h1, if_neg (show ¬ (tmB at_ = true) by rw [h2]; decide)])
      skip
      go_enter Try.func33, Try.ntmps33
      go_wp2_with (first | (go_at_call 26; refine (peers_any _ _ _ _).mono ?_; rintro e w9 ⟨rfl, rfl⟩) | (go_at_call 20; refine (time_any _ _).mono ?_; rintro e w9 ⟨rfl, rfl⟩) | go_in)
      go_ret
      rw [HR.out]
      exact ⟨rfl, Below.refl _ _⟩
  | false =>
    have HR : Hid (sndE S at_ fr to_ s.size = 4) := Lib.hid (by unfold sndE; rw [if_neg (show ¬ (prB S.nodes fr to_ = true) by rw [h1]; decide)])
    skip
    go_enter Try.func33, Try.ntmps33
    go_wp2_with (first | (go_at_call 26; refine (peers_any _ _ _ _).mono ?_; rintro e w9 ⟨rfl, rfl⟩) | (go_at_call 20; refine (time_any _ _).mono ?_; rintro e w9 ⟨rfl, rfl⟩) | go_in)
    go_ret
    rw [HR.out]
    exact ⟨rfl, Below.refl _ _⟩
end Go.Proofs.Ytndidbanbklonaa

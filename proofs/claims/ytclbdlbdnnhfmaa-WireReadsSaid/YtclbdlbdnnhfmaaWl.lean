/-
  The laws of writing, of lengths and of a nil reader: they return true. No conditions.
-/
import Derived.Test.YtclbdlbdnnhfmaaWk
namespace Go.Proofs.Ytclbdlbdnnhfmaa
open Go.RowKit
set_option maxRecDepth 100000 in
set_option maxHeartbeats 1000000 in
theorem law_writes (a m : Int) (s : ByteArray) (w : World) (a1 : 0 ≤ a) (a2 : a ≤ 18446744073709551615) (m1 : -9223372036854775808 ≤ m) (m2 : m ≤ 9223372036854775807) (hs : s.size ≤ 9223372036854775807) :
    Calls Try.prog 3 #[.int .u64 a, .int .i64 m, .string s] w (Ib (.bool true) w) := by
  obtain ⟨n, rfl⟩ : ∃ n : Nat, a = (n : Int) := ⟨a.toNat, by omega⟩
  obtain ⟨l, rfl⟩ : ∃ l, s = bs l := ⟨_, bs_of s⟩
  have hsz : (bs l).size = l.length := rfl
  by_cases h : 300 < l.length
  · clear a1 a2 m1 m2 hs
    go_enter Try.func3, Try.ntmps3
    go_wp2_with (go_at_call 10; refine (awake_any _).mono ?_; rintro e w5 ⟨rfl, h5⟩)
    go_ret
    exact ⟨by rfl, h5⟩
  · have c1 := fun w => uint_any n w (by omega)
    have c2 := fun w => refUint_any n w (by omega)
    have c3 := fun w => int_any m w m1 m2
    have c4 := fun w => refInt_any m w m1 m2
    have c5 := fun w => text_any l w (by omega)
    have c6 := fun w => refText_any l w (by omega)
    generalize bs (uv n) = x1 at *
    generalize bs (uv (zz m)) = x2 at *
    generalize bs (tv l) = x3 at *
    clear a1 a2 m1 m2 hs
    go_enter Try.func3, Try.ntmps3
    go_wp2_with fail
    refine (c1 _).mono ?_
    rintro e w1 ⟨rfl, h1⟩
    go_wp2_with fail
    refine (c2 _).mono ?_
    rintro e w2 ⟨rfl, h2⟩
    have h2 := Below.next h1 h2
    go_wp2_with fail
    refine (c3 _).mono ?_
    rintro e w3 ⟨rfl, h3⟩
    have h3 := Below.next h2 h3
    go_wp2_with fail
    refine (c4 _).mono ?_
    rintro e w4 ⟨rfl, h4⟩
    have h4 := Below.next h3 h4
    go_wp2_with fail
    refine (c5 _).mono ?_
    rintro e w5 ⟨rfl, h5⟩
    have h5 := Below.next h4 h5
    go_wp2_with fail
    refine (c6 _).mono ?_
    rintro e w6 ⟨rfl, h6⟩
    have h6 := Below.next h5 h6
    go_wp2_with (go_at_call 10; refine (awake_any _).mono ?_; rintro e w7 ⟨rfl, h7⟩)
    go_ret
    exact ⟨by rfl, Below.next h6 h7⟩
/-- How many groups of seven bits are left. -/
def gl (x : Nat) : Nat := if x = 0 then 0 else (uv x).length
theorem gl_step {x : Nat} (h : 0 < x) : gl x = 1 + gl (x / 128) := by
  unfold gl
  rw [if_neg (by omega)]
  by_cases h1 : x < 128
  · rw [uv_small h1, if_pos (by omega)]; rfl
  · rw [uv_big h1, if_neg (by omega), List.length_cons]; omega
theorem uv_gl (n : Nat) : (uv n).length = 1 + gl (n / 128) := by
  by_cases h1 : n < 128
  · rw [uv_small h1]; unfold gl; rw [if_pos (by omega)]; rfl
  · have := gl_step (x := n) (by omega)
    rw [← this]; unfold gl; rw [if_neg (by omega)]
theorem uv_hi (n : Nat) : ∀ (i : Nat) (h : i < (uv n).length), (128 ≤ ((uv n)[i]).toNat ↔ i < (uv n).length - 1) := by
  induction n using Nat.strongRecOn with
  | _ n ih =>
    by_cases h1 : n < 128
    · intro i h
      simp only [uv_small h1] at h ⊢
      obtain rfl : i = 0 := by simpa using h
      simp only [List.getElem_cons_zero, List.length_cons, List.length_nil, of_toNat (show n < 256 by omega)]
      omega
    · intro i h
      have e := uv_big h1
      have hne := List.length_pos_iff.2 (uv_ne (n / 128))
      cases i with
      | zero =>
        simp only [e, List.getElem_cons_zero, List.length_cons, of_toNat (show 128 + n % 128 < 256 by omega)]
        omega
      | succ i =>
        have h2 : i < (uv (n / 128)).length := by rw [e, List.length_cons] at h; omega
        have := ih (n / 128) (by omega) i h2
        simp only [e, List.getElem_cons_succ, List.length_cons]
        rw [this]; omega
set_option maxRecDepth 100000 in
set_option maxHeartbeats 1000000 in
theorem law_lengths (a : Int) (w : World) (a1 : 0 ≤ a) (a2 : a ≤ 18446744073709551615) :
    Calls Try.prog 8 #[.int .u64 a] w (Ib (.bool true) w) := by
  obtain ⟨n, rfl⟩ : ∃ n : Nat, a = (n : Int) := ⟨a.toNat, by omega⟩
  have c1 := fun w => uint_any n w (by omega)
  have hsz : (bs (uv n)).size = (uv n).length := rfl
  have h10 : (uv n).length ≤ 10 := uv_len10 (by omega)
  have HI := Lib.hid (uv_hi n)
  have H1 := Lib.hid (uv_gl n)
  have h0 := List.length_pos_iff.2 (uv_ne n)
  obtain ⟨q, hq⟩ : ∃ q, n / 128 = q := ⟨_, rfl⟩
  have kq : (n : Int) / 128 = (q : Int) := by omega
  have hq2 : q ≤ 18446744073709551615 := by omega
  rw [hq] at H1
  clear a1 a2 hq
  generalize uv n = u at *
  go_enter Try.func8, Try.ntmps8
  go_wp2_with fail
  refine (c1 _).mono ?_
  rintro e w1 ⟨rfl, hb⟩
  go_wp2_with fail
  go_loop [4, 5] (fun g v => ∃ c x : Nat, c ≤ 10 ∧ x ≤ 18446744073709551615 ∧ g = .int .i64 (c : Int) ∧ v = .int .u64 (x : Int) ∧ Hid (u.length = c + gl x)) (fun _ v => (intOf v).toNat)
  case atStart => exact ⟨1, q, by omega, hq2, rfl, rfl, H1⟩
  case round =>
    obtain ⟨c, x, hc, hx, rfl, rfl, hI⟩ := hrel
    by_cases h : x = 0
    · subst h
      have e : u.length = c := by have := hI.out; unfold gl at this; rw [if_pos rfl] at this; exact this
      have e2 : ((u.length : Int) != (c : Int)) = false := by rw [e]; simp
      clear e hI
      go_wp2_with fail
      go_loop [6] (fun v => ∃ i : Nat, i ≤ u.length ∧ v = .int .i64 (i : Int)) (fun v => u.length - (intOf v).toNat)
      case atStart => exact ⟨0, by omega, rfl⟩
      case round =>
        obtain ⟨i, hi, rfl⟩ := hrel
        by_cases hlt : i < u.length
        · have hlt2 : i < (bs u).size := hlt
          have hk := HI.out i hlt
          obtain ⟨b, hb2⟩ : ∃ b, ((bs u)[i]'hlt2).toNat = b := ⟨_, rfl⟩
          have hk2 : (128 ≤ b ↔ i < u.length - 1) := by rw [← hb2]; exact hk
          have hd : (decide ((128 : Int) ≤ (b : Int)) = true ∧ decide ((i : Int) < (u.length : Int) - 1) = true) ∨ (decide ((128 : Int) ≤ (b : Int)) = false ∧ decide ((i : Int) < (u.length : Int) - 1) = false) := by
            by_cases h : i < u.length - 1
            · exact .inl ⟨by simp; omega, by simp; omega⟩
            · exact .inr ⟨by simp; omega, by simp; omega⟩
          clear hk hk2
          rcases hd with ⟨d1, d2⟩ | ⟨d1, d2⟩
          all_goals
            go_wp2_with fail
            go_round
            case rel => exact ⟨i + 1, by omega, by go_num⟩
            case measure => simp [intOf]; omega
        · obtain rfl : i = u.length := by omega
          go_wp2_with (go_at_call 10; refine (awake_any _).mono ?_; rintro e w7 ⟨rfl, h7⟩)
          go_ret
          exact ⟨by rfl, Below.next hb h7⟩
    · have hx0 : 0 < x := by omega
      have N := gl_step hx0
      obtain ⟨y, hy⟩ : ∃ y, x / 128 = y := ⟨_, rfl⟩
      have ky : (x : Int) / 128 = (y : Int) := by omega
      rw [hy] at N
      have E := Lib.hid (show u.length = (c + 1) + gl y by rw [hI.out, N]; omega)
      have hc2 : c + 1 ≤ 10 := by have := E.out; omega
      have hyx : y < x := by omega
      clear hy N hI
      go_wp2_with fail
      go_round
      case rel => exact ⟨c + 1, y, hc2, by omega, by go_num, rfl, E⟩
      case measure => simp [intOf]; omega
set_option maxRecDepth 100000 in
theorem nobErr (w : World) : Calls Try.prog 28 #[.pointer none] w (Is (.int .i64 6) w) := by
  go_enter Try.func28, Try.ntmps28
  go_wp2_with fail
  go_ret
  exact ⟨rfl, rfl⟩
set_option maxRecDepth 100000 in
theorem nobLeft (w : World) : Calls Try.prog 26 #[.pointer none] w (Ib (.int .i64 0) w) := by
  go_enter Try.func26, Try.ntmps26
  go_wp2_with fail
  go_ret
  exact ⟨rfl, Below.refl _ _⟩
set_option maxRecDepth 100000 in
theorem nobEnd (w : World) : Calls Try.prog 29 #[.pointer none] w (Ib (.int .i64 6) w) := by
  go_enter Try.func29, Try.ntmps29
  go_wp2_with fail
  refine (nobErr _).mono ?_
  rintro e w' ⟨rfl, rfl⟩
  go_wp2_with fail
  go_ret
  exact ⟨rfl, Below.refl _ _⟩
set_option maxRecDepth 100000 in
theorem nobUint (w : World) : Calls Try.prog 19 #[.pointer none] w (Ib (.int .u64 0) w) := by
  go_enter Try.func19, Try.ntmps19
  go_wp2_with fail
  go_enter Try.func36, Try.ntmps36
  go_wp2_with fail
  refine (nobErr _).mono ?_
  rintro e w' ⟨rfl, rfl⟩
  go_wp2_with fail
  go_ret
  exact ⟨rfl, Below.refl _ _⟩
set_option maxRecDepth 100000 in
theorem nobInt (w : World) : Calls Try.prog 21 #[.pointer none] w (Ib (.int .i64 0) w) := by
  go_enter Try.func21, Try.ntmps21
  go_wp2_with fail
  go_enter Try.func38, Try.ntmps38
  go_wp2_with fail
  refine (nobErr _).mono ?_
  rintro e w' ⟨rfl, rfl⟩
  go_wp2_with fail
  go_ret
  exact ⟨rfl, Below.refl _ _⟩
set_option maxRecDepth 100000 in
theorem nobSmall (M : Int) (w : World) : Calls Try.prog 23 #[.pointer none, .int .i64 M] w (Ib (.int .i64 0) w) := by
  go_enter Try.func23, Try.ntmps23
  go_wp2_with fail
  go_enter Try.func41, Try.ntmps41
  go_wp2_with fail
  refine (nobErr _).mono ?_
  rintro e w' ⟨rfl, rfl⟩
  go_wp2_with fail
  go_ret
  exact ⟨rfl, one _ _⟩
set_option maxRecDepth 100000 in
theorem nobText (M : Int) (w : World) : Calls Try.prog 25 #[.pointer none, .int .i64 M] w (Ib (.string ⟨#[]⟩) w) := by
  go_enter Try.func25, Try.ntmps25
  go_wp2_with fail
  go_enter Try.func44, Try.ntmps44
  go_wp2_with fail
  refine (nobErr _).mono ?_
  rintro e w' ⟨rfl, rfl⟩
  go_wp2_with fail
  go_ret
  exact ⟨rfl, one _ _⟩
set_option maxRecDepth 100000 in
set_option maxHeartbeats 1000000 in
theorem law_nobody (M : Int) (w : World) :
    Calls Try.prog 9 #[.int .i64 M] w (Ib (.bool true) w) := by
  go_enter Try.func9, Try.ntmps9
  go_wp2_with fail
  refine (nobUint _).mono ?_
  rintro e w1 ⟨rfl, h1⟩
  go_wp2_with fail
  refine (nobInt _).mono ?_
  rintro e w2 ⟨rfl, h2⟩
  have h2 := Below.next h1 h2
  go_wp2_with fail
  refine (nobSmall M _).mono ?_
  rintro e w3 ⟨rfl, h3⟩
  have h3 := Below.next h2 h3
  go_wp2_with fail
  refine (nobText M _).mono ?_
  rintro e w4 ⟨rfl, h4⟩
  have h4 := Below.next h3 h4
  go_wp2_with fail
  refine (nobLeft _).mono ?_
  rintro e w5 ⟨rfl, h5⟩
  have h5 := Below.next h4 h5
  go_wp2_with fail
  refine (nobEnd _).mono ?_
  rintro e w6 ⟨rfl, h6⟩
  have h6 := Below.next h5 h6
  go_wp2_with fail
  refine (nobErr _).mono ?_
  rintro e w' ⟨rfl, rfl⟩
  go_wp2_with (go_at_call 10; refine (awake_any _).mono ?_; rintro e w7 ⟨rfl, h7⟩)
  go_ret
  exact ⟨by rfl, Below.next h6 h7⟩
end Go.Proofs.Ytclbdlbdnnhfmaa

/-
  The reference's Valid. No conditions but Go's own bounds.
-/
import Derived.Test.YtgifienjfaclmaaDoorLk
namespace Go.Proofs.YtgifienjfaclmaaDoor
open Go.RowKit
/-- A token as it comes in: its kind and its place are any numbers. -/
structure Tv where
  kind : Int
  text : List UInt8
  num : Int
  at_ : Int
/-- The token that it is; a kind below 0 is no token's kind, as 0 is none that can be printed. -/
def Tv.tk (t : Tv) : Tk := ⟨t.kind.toNat, t.text, t.num, t.at_.toNat⟩
theorem str_beq (q l : List UInt8) : ((bs q).toList == (bs l).toList) = (q == l) := by rw [toList_bs, toList_bs]
theorem grown1 {w : World} (o : Obj) : Below w.heap.size w (w.alloc o) := (Below.refl _ w).alloc (Nat.le_refl _) o
/-- One mark. -/
def oneM (t : List UInt8) : Bool := match t with | [c] => isM c | _ => false
theorem okT1 (t : List UInt8) (n a : Int) : okT (Tv.tk ⟨1, t, n, a⟩) = (isN t && n == 0) := rfl
theorem okT2 (t : List UInt8) (n a : Int) : okT (Tv.tk ⟨2, t, n, a⟩) = (t == []) := rfl
theorem okT3 (t : List UInt8) (n a : Int) : okT (Tv.tk ⟨3, t, n, a⟩) = ((t.all fun c => decide (32 ≤ c.toNat) && decide (c.toNat ≤ 126)) && decide (t.length ≤ 200) && n == 0) := rfl
theorem okT4 (t : List UInt8) (n a : Int) : okT (Tv.tk ⟨4, t, n, a⟩) = (oneM t && n == 0) := rfl
theorem okT0 (k : Int) (t : List UInt8) (n a : Int) (h1 : k ≠ 1) (h2 : k ≠ 2) (h3 : k ≠ 3) (h4 : k ≠ 4) : okT (Tv.tk ⟨k, t, n, a⟩) = false := by
  unfold okT Tv.tk
  rw [if_neg (show ¬ k.toNat = 1 by omega), if_neg (show ¬ k.toNat = 2 by omega), if_neg (show ¬ k.toNat = 3 by omega), if_neg (show ¬ k.toNat = 4 by omega)]
set_option maxRecDepth 100000 in
set_option maxHeartbeats 1000000 in
theorem valid_one (t : List UInt8) (n a : Int) (w : World) (hl : t.length ≤ 9223372036854775807) :
    Calls Tryd.prog 13 #[.agg #[.int .i64 1, .string (bs t), .int .i64 n, .int .i64 a]] w (Ib (.bool (isN t && n == 0)) w) := by
  have c1 := fun W => isName_any t W hl
  cases hN : isN t
  all_goals
    rw [hN] at c1
    go_enter Tryd.func13, Tryd.ntmps13
    go_wp2_with fail
    refine (c1 _).mono ?_
    rintro e w' ⟨rfl, rfl⟩
    go_wp2_with fail
    go_ret
    exact ⟨by simp, grown1 _⟩
set_option maxRecDepth 100000 in
set_option maxHeartbeats 1000000 in
theorem valid_two (t : List UInt8) (n a : Int) (w : World) :
    Calls Tryd.prog 13 #[.agg #[.int .i64 2, .string (bs t), .int .i64 n, .int .i64 a]] w (Ib (.bool (t == [])) w) := by
  have hn0 : (⟨#[]⟩ : ByteArray) = bs [] := rfl
  go_enter Tryd.func13, Tryd.ntmps13
  go_wp2_with fail
  go_ret
  exact ⟨by first | rfl | (rw [str_beq]; rfl), grown1 _⟩
set_option maxRecDepth 100000 in
set_option maxHeartbeats 1000000 in
theorem valid_three (t : List UInt8) (n a : Int) (w : World) (hl : t.length ≤ 9223372036854775807) :
    Calls Tryd.prog 13 #[.agg #[.int .i64 3, .string (bs t), .int .i64 n, .int .i64 a]] w (Ib (.bool ((t.all fun c => decide (32 ≤ c.toNat) && decide (c.toNat ≤ 126)) && decide (t.length ≤ 200) && n == 0)) w) := by
  have hsz : (bs t).size = t.length := rfl
  obtain ⟨p, hp⟩ : ∃ p : UInt8 → Bool, (fun c => decide (32 ≤ c.toNat) && decide (c.toNat ≤ 126)) = p := ⟨_, rfl⟩
  rw [hp]
  have Hp := Lib.hid hp
  clear hp
  obtain ⟨q, hq⟩ : ∃ q, t.all p = q := ⟨_, rfl⟩
  obtain ⟨r, hr0⟩ : ∃ r, decide (t.length ≤ 200) = r := ⟨_, rfl⟩
  rw [hq, hr0]
  have Hq := Lib.hid hq
  have Hr := Lib.hid hr0
  clear hq hr0
  go_enter Tryd.func13, Tryd.ntmps13
  go_wp2_with fail
  go_loop [3] (fun i => ∃ (j : Nat), j ≤ t.length ∧ i = .int .i64 (j : Int) ∧ Hid ((t.take j).all p = true)) (fun i => t.length - (intOf i).toNat)
  case atStart => exact ⟨0, by omega, rfl, Lib.hid (by simp)⟩
  case round =>
    obtain ⟨j, hj, rfl, hI⟩ := hrel
    by_cases hlt : j < t.length
    · have hlt2 : j < (bs t).size := hlt
      obtain ⟨c, hc⟩ : ∃ c, t[j]'hlt = c := ⟨_, rfl⟩
      have hb : ((bs t)[j]'hlt2).toNat = c.toNat := by rw [← hc]; rfl
      have hcm : c ∈ t := by rw [← hc]; exact List.getElem_mem hlt
      obtain ⟨n2, hn⟩ : ∃ n, c.toNat = n := ⟨_, rfl⟩
      rw [hn] at hb
      by_cases hr : n2 < 32 ∨ 126 < n2
      · have H : q = false := by
          rw [← Hq.out]
          rw [← Bool.not_eq_true, List.all_eq_true]
          intro h
          have := h c hcm
          rw [← Hp.out] at this
          simp [hn] at this
          omega
        have hr2 : decide ((n2 : Int) < 32) = true ∨ (decide ((n2 : Int) < 32) = false ∧ decide ((126 : Int) < (n2 : Int)) = true) := by
          by_cases h : n2 < 32
          · left; simp; omega
          · right; exact ⟨by simp; omega, by simp; omega⟩
        have H := Lib.hid H
        clear Hp hI hc hn hcm hr Hq Hr
        rcases hr2 with d1 | ⟨d1, d2⟩
        all_goals
          go_wp2_with fail
          go_ret
          exact ⟨by first | rfl | (rw [H.out]; simp), grown1 _⟩
      · have d1 : decide ((n2 : Int) < 32) = false := by simp; omega
        have d2 : decide ((126 : Int) < (n2 : Int)) = false := by simp; omega
        obtain ⟨f, hf⟩ : ∃ f, j + 1 = f := ⟨_, rfl⟩
        have l11 : (j : Int) + 1 = (f : Int) := by omega
        have H := Lib.hid (show (t.take f).all p = true by rw [← hf, List.take_succ_eq_append_getElem hlt, List.all_append, hI.out, hc, ← Hp.out]; simp [hn]; omega)
        clear Hp hI hc hn hcm hr Hq Hr
        go_wp2_with fail
        go_round
        case rel => exact ⟨f, by omega, rfl, H⟩
        case measure => simp [intOf]; omega
    · have hj2 : j = t.length := by omega
      have H : q = true := by rw [← Hq.out]; have := hI.out; rw [hj2, List.take_length] at this; exact this
      have H := Lib.hid H
      clear Hp hI Hq
      subst hj2
      by_cases h2 : t.length ≤ 200
      · have d1 : decide ((t.length : Int) ≤ 200) = true := by simp; omega
        have H2 := Lib.hid (show r = true by rw [← Hr.out]; simpa using h2)
        clear Hr
        go_wp2_with fail
        go_ret
        exact ⟨by first | rfl | (rw [H.out, H2.out]; simp) | (rw [H2.out]; simp), grown1 _⟩
      · have d1 : decide ((t.length : Int) ≤ 200) = false := by simp; omega
        have H2 := Lib.hid (show r = false by rw [← Hr.out]; simpa using h2)
        clear Hr
        go_wp2_with fail
        go_ret
        exact ⟨by first | rfl | (rw [H.out, H2.out]; simp) | (rw [H2.out]; simp), grown1 _⟩
set_option maxRecDepth 100000 in
set_option maxHeartbeats 1000000 in
theorem valid_four (t : List UInt8) (n a : Int) (w : World) (hl : t.length ≤ 9223372036854775807) :
    Calls Tryd.prog 13 #[.agg #[.int .i64 4, .string (bs t), .int .i64 n, .int .i64 a]] w (Ib (.bool (oneM t && n == 0)) w) := by
  by_cases h1 : t.length = 1
  · obtain ⟨c, rfl⟩ : ∃ c, t = [c] := by
      match t, h1 with
      | [c], _ => exact ⟨c, rfl⟩
    have hsz : (bs [c]).size = 1 := rfl
    have hlt2 : 0 < (bs [c]).size := by omega
    have hb : ((bs [c])[0]'hlt2).toNat = c.toNat := rfl
    have c1 := fun W => mark_any c W
    rw [show oneM [c] = isM c from rfl]
    cases hM : isM c
    all_goals
      rw [hM] at c1
      clear hl h1
      go_enter Tryd.func13, Tryd.ntmps13
      go_wp2_with fail
      refine (c1 _).mono ?_
      rintro e w' ⟨rfl, rfl⟩
      go_wp2_with fail
      go_ret
      exact ⟨by simp, grown1 _⟩
  · have hsz : (bs t).size = t.length := rfl
    have hx : ((t.length : Int) == 1) = false := by simp; omega
    have hx2 : ((t.length : Int) = 1) = False := by simp; omega
    rw [show oneM t = false by
      match t, h1 with
      | [], _ => rfl
      | [c], h => exact absurd rfl h
      | _ :: _ :: _, _ => rfl]
    go_enter Tryd.func13, Tryd.ntmps13
    go_wp2_with fail
    go_ret
    exact ⟨by simp, grown1 _⟩
set_option maxRecDepth 100000 in
set_option maxHeartbeats 1000000 in
theorem valid_none (k : Int) (t : List UInt8) (n a : Int) (w : World) (h1 : (k == 1) = false) (h2 : (k == 2) = false) (h3 : (k == 3) = false) (h4 : (k == 4) = false) :
    Calls Tryd.prog 13 #[.agg #[.int .i64 k, .string (bs t), .int .i64 n, .int .i64 a]] w (Ib (.bool false) w) := by
  go_enter Tryd.func13, Tryd.ntmps13
  go_wp2_with fail
  go_ret
  exact ⟨rfl, grown1 _⟩
theorem valid_any (k : Int) (t : List UInt8) (n a : Int) (w : World) (hl : t.length ≤ 9223372036854775807) :
    Calls Tryd.prog 13 #[.agg #[.int .i64 k, .string (bs t), .int .i64 n, .int .i64 a]] w (Ib (.bool (okT (Tv.tk ⟨k, t, n, a⟩))) w) := by
  by_cases h1 : k = 1
  · subst h1; rw [okT1]; exact valid_one t n a w hl
  by_cases h2 : k = 2
  · subst h2; rw [okT2]; exact valid_two t n a w
  by_cases h3 : k = 3
  · subst h3; rw [okT3]; exact valid_three t n a w hl
  by_cases h4 : k = 4
  · subst h4; rw [okT4]; exact valid_four t n a w hl
  rw [okT0 k t n a h1 h2 h3 h4]
  exact valid_none k t n a w (by simpa using h1) (by simpa using h2) (by simpa using h3) (by simpa using h4)
end Go.Proofs.YtgifienjfaclmaaDoor

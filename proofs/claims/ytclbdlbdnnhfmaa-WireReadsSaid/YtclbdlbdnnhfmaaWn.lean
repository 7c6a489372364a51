/-
  The law of a reader that stops: it returns true. Condition: the slice's elements are pairs of integers.
-/
import Derived.Test.YtclbdlbdnnhfmaaWm
import Derived.Deep.Slices
namespace Go.Proofs.Ytclbdlbdnnhfmaa
open Go.RowKit
theorem rT_len (M : Int) (l : List UInt8) : (rT M l).length ≤ l.length := by
  unfold rT
  split
  · have := rU_len l; rw [List.length_drop]; omega
  · simp
theorem eS_le (M : Int) (c : Nat) (l : List UInt8) (h : c ≤ 4) : eS M c l ≤ 4 := by
  have := eU_le l
  unfold eS
  split
  · omega
  · split <;> omega
theorem eT_le (M : Int) (l : List UInt8) : eT M l ≤ 4 := by
  have := eS_le M 3 l (by decide)
  unfold eT
  split
  · omega
  · split <;> omega
theorem kU_pos {l : List UInt8} (h : eU l = 0) : 0 < kU l := by
  have := ((dv_le l 0 0 _ _ _ (dv_all l) (by decide) (by decide)).2.1 h).1
  exact this
theorem rT_lt {M : Int} {l : List UInt8} (h : eT M l = 0) : (rT M l).length + 1 ≤ l.length := by
  obtain ⟨_, h2, h3⟩ := front_tv h
  have hU : eU l = 0 := by
    by_cases hU : eU l = 0
    · exact hU
    · have e1 : eT M l = eU l := by unfold eT eS; rw [if_pos hU, if_pos hU]
      omega
  have := kU_pos hU
  unfold kT at h2 h3
  omega
/-- The elements of the slice at A are pairs of integers. -/
def Prs (w : World) (A : Option Addr) (n : Nat) : Prop := n = 0 ∨ ∃ a : Addr, A = some a ∧ a.block < w.heap.size ∧ ∀ i, i < n → ∃ K m : Int, -9223372036854775808 ≤ m ∧ m ≤ 9223372036854775807 ∧ w.cell? (a.add (i * 2)) = some (.int .i64 K) ∧ w.cell? (a.add (i * 2 + 1)) = some (.int .i64 m)
theorem add_block (a : Addr) (i : Nat) : (a.add i).block = a.block := by unfold Addr.add; split <;> rfl
set_option maxRecDepth 100000 in
set_option maxHeartbeats 2000000 in
theorem law_stops (s : ByteArray) (M : Int) (A : Option Addr) (n c : Nat) (w : World) (hs : s.size ≤ 9223372036854775807) (h1 : -9223372036854775808 ≤ M) (h2 : M ≤ 9223372036854775807) (hn2 : n ≤ 9223372036854775807) (hA : Prs w A n) :
    Calls Try.prog 7 #[.string s, .int .i64 M, .slice A n c] w (Ib (.bool true) w) := by
  obtain ⟨l, rfl⟩ : ∃ l, s = bs l := ⟨_, bs_of s⟩
  have hsz : (bs l).size = l.length := rfl
  by_cases hl : 300 < l.length
  · clear hs h1 h2 hA
    go_enter Try.func7, Try.ntmps7
    go_wp2_with (go_at_call 10; refine (awake_any _).mono ?_; rintro e w5 ⟨rfl, h5⟩)
    go_ret
    exact ⟨by rfl, h5⟩
  have hl : l.length ≤ 300 := by omega
  by_cases hn : 40 < n
  · clear hs h1 h2 hA
    go_enter Try.func7, Try.ntmps7
    go_wp2_with (go_at_call 10; refine (awake_any _).mono ?_; rintro e w5 ⟨rfl, h5⟩)
    go_ret
    exact ⟨by rfl, h5⟩
  have hn : n ≤ 40 := by omega
  clear hs hn2
  have cN := fun w => new_any l w
  have HA := Lib.hid hA
  clear hA
  go_enter Try.func7, Try.ntmps7
  go_wp2_with fail
  refine (cN _).mono ?_
  rintro e w1 ⟨g, rfl, hg, hb1, A1⟩
  go_wp2_with fail
  go_loopw [8] (fun v wr => ∃ (i : Nat) (r : List UInt8) (e : Nat), i ≤ l.length + 1 ∧ v = .int .i64 (i : Int) ∧ Rdr wr g r e ∧ Below w.heap.size w wr ∧ Hid (e ≤ 4 ∧ r.length ≤ l.length ∧ (e = 0 → r.length + i ≤ l.length))) (fun v _ => l.length + 1 - (intOf v).toNat)
  case atStart => exact ⟨0, l, 0, by omega, rfl, A1, hb1, Lib.hid ⟨by omega, by omega, fun _ => by omega⟩⟩
  case round =>
    obtain ⟨i, r, e, hi, rfl, R, hb, hI⟩ := hrel
    clear cN A1 hb1
    by_cases he : e = 0
    · subst he
      have hri := hI.out.2.2 rfl
      have hil : i ≤ l.length := by omega
      have hi1 : i + 1 ≤ l.length + 1 := by omega
      have cT := fun w h => rText_any g r 0 M w (by omega) h1 h2 h
      have HN := Lib.hid (show aE 0 (eT M r) ≤ 4 ∧ (aL 0 (eT M r) r (rT M r)).length ≤ l.length ∧ (aE 0 (eT M r) = 0 → (aL 0 (eT M r) r (rT M r)).length + (i + 1) ≤ l.length) from by
        have := eT_le M r
        have := rT_len M r
        refine ⟨by show eT M r ≤ 4; omega, ?_, fun h => ?_⟩
        · unfold aL; split <;> omega
        · have h0 : eT M r = 0 := h
          rw [h0]
          show (rT M r).length + (i + 1) ≤ l.length
          have := rT_lt h0
          omega)
      generalize aL 0 (eT M r) r (rT M r) = r2 at *
      generalize aE 0 (eT M r) = e2 at *
      have dil : decide (i ≤ l.length) = true := by simpa using hil
      clear h1 h2 hI hri
      go_wp2_with (first | (go_at_call 26; refine (left_any _ _ _ _ (by assumption)).mono ?_; rintro e w' ⟨rfl, rfl⟩) | (go_at_call 28; refine (err_any _ _ _ _ (by assumption)).mono ?_; rintro e w' ⟨rfl, rfl⟩))
      refine (cT _ R).mono ?_
      rintro e w2 ⟨rfl, hg2, R2⟩
      have hb2 := Below.read hb hg2 hg
      go_wp2_with fail
      go_roundw
      case rel => exact ⟨i + 1, r2, e2, hi1, by go_num, R2, hb2, HN⟩
      case measure => simp [intOf]; omega
    · have hd : ((e : Int) == 0) = false := by simpa using he
      have hd2 : ((e : Int) != 0) = true := by simpa using he
      have hrl := hI.out.2.1
      have hrl2 : decide (l.length < r.length) = false := by simp; omega
      have U := fun w h => rUint_any g r e w (by omega) h
      have I := fun w h => rInt_any g r e w (by omega) h
      have S := fun (m : Int) w h1 h2 h => rSmall_any g r e m w (by omega) h1 h2 h
      have T := fun (m : Int) w h1 h2 h => rText_any g r e m w (by omega) h1 h2 h
      simp only [if_neg he, aL1 _ _ _ he, aE1 _ he] at U I S T
      have qN := fun w h => end_any g r e w h
      rw [show eN r e = e by unfold eN; rw [if_pos he]] at qN
      clear he hI h1 h2
      by_cases hil : i ≤ l.length
      all_goals
        have dil : decide (i ≤ l.length) = decide (i ≤ l.length) := rfl
        go_wp2_with (first | (go_at_call 26; refine (left_any _ _ _ _ (by assumption)).mono ?_; rintro e w' ⟨rfl, rfl⟩) | (go_at_call 28; refine (err_any _ _ _ _ (by assumption)).mono ?_; rintro e w' ⟨rfl, rfl⟩))
        go_loopw [11] (fun v wr => ∃ (i : Nat), i ≤ n ∧ v = .int .i64 (i : Int) ∧ Rdr wr g r e ∧ Below w.heap.size w wr) (fun v _ => n - (intOf v).toNat)
        case atStart => exact ⟨0, by omega, rfl, R, hb⟩
        case round =>
          clear R hb
          obtain ⟨j, hj, rfl, R, hb⟩ := hrel
          by_cases hjn : j < n
          · rcases HA.out with h0 | ⟨a, rfl, hab, hc⟩
            · omega
            obtain ⟨K, m, m1, m2, c0, c1⟩ := hc j hjn
            have c0 := (hb.cell (p := a.add (j * 2)) (by rw [add_block]; exact hab)).trans c0
            have c1 := (hb.cell (p := a.add (j * 2 + 1)) (by rw [add_block]; exact hab)).trans c1
            have c1b : wr.cell? ⟨(a.add (j * 2)).block, (a.add (j * 2)).off + 1, none⟩ = some (.int .i64 m) := by
              show wr.cell? ((a.add (j * 2)).add 1) = _
              rw [Go.Deep.add_add]; exact c1
            clear HA hc
            have hk : K = 0 ∨ K = 1 ∨ K = 2 ∨ ((K == 0) = false ∧ (K == 1) = false ∧ (K == 2) = false) := by
              by_cases k0 : K = 0
              · exact .inl k0
              by_cases k1 : K = 1
              · exact .inr (.inl k1)
              by_cases k2 : K = 2
              · exact .inr (.inr (.inl k2))
              · exact .inr (.inr (.inr ⟨by simpa using k0, by simpa using k1, by simpa using k2⟩))
            rcases hk with rfl | rfl | rfl | ⟨k0, k1, k2⟩
            · go_wp2_with fail
              refine (U _ R).mono ?_
              rintro e w2 ⟨rfl, hg2, R2⟩
              have hb2 := Below.read hb hg2 hg
              go_wp2_with (first | (go_at_call 26; refine (left_any _ _ _ _ (by assumption)).mono ?_; rintro e w' ⟨rfl, rfl⟩) | (go_at_call 28; refine (err_any _ _ _ _ (by assumption)).mono ?_; rintro e w' ⟨rfl, rfl⟩))
              refine (qN _ R2).mono ?_
              rintro e w' ⟨rfl, rfl⟩
              go_wp2_with fail
              go_roundw
              case rel => exact ⟨j + 1, by omega, by go_num, R2, hb2⟩
              case measure => simp [intOf]; omega
            · go_wp2_with fail
              refine (I _ R).mono ?_
              rintro e w2 ⟨rfl, hg2, R2⟩
              have hb2 := Below.read hb hg2 hg
              go_wp2_with (first | (go_at_call 26; refine (left_any _ _ _ _ (by assumption)).mono ?_; rintro e w' ⟨rfl, rfl⟩) | (go_at_call 28; refine (err_any _ _ _ _ (by assumption)).mono ?_; rintro e w' ⟨rfl, rfl⟩))
              refine (qN _ R2).mono ?_
              rintro e w' ⟨rfl, rfl⟩
              go_wp2_with fail
              go_roundw
              case rel => exact ⟨j + 1, by omega, by go_num, R2, hb2⟩
              case measure => simp [intOf]; omega
            · go_wp2_with fail
              refine (S m _ m1 m2 R).mono ?_
              rintro e w2 ⟨rfl, hg2, R2⟩
              have hb2 := Below.read hb hg2 hg
              go_wp2_with (first | (go_at_call 26; refine (left_any _ _ _ _ (by assumption)).mono ?_; rintro e w' ⟨rfl, rfl⟩) | (go_at_call 28; refine (err_any _ _ _ _ (by assumption)).mono ?_; rintro e w' ⟨rfl, rfl⟩))
              refine (qN _ R2).mono ?_
              rintro e w' ⟨rfl, rfl⟩
              go_wp2_with fail
              go_roundw
              case rel => exact ⟨j + 1, by omega, by go_num, R2, hb2⟩
              case measure => simp [intOf]; omega
            · go_wp2_with fail
              refine (T m _ m1 m2 R).mono ?_
              rintro e w2 ⟨rfl, hg2, R2⟩
              have hb2 := Below.read hb hg2 hg
              go_wp2_with (first | (go_at_call 26; refine (left_any _ _ _ _ (by assumption)).mono ?_; rintro e w' ⟨rfl, rfl⟩) | (go_at_call 28; refine (err_any _ _ _ _ (by assumption)).mono ?_; rintro e w' ⟨rfl, rfl⟩))
              refine (qN _ R2).mono ?_
              rintro e w' ⟨rfl, rfl⟩
              go_wp2_with fail
              go_roundw
              case rel => exact ⟨j + 1, by omega, by go_num, R2, hb2⟩
              case measure => simp [intOf]; omega
          · go_wp2_with (go_at_call 10; refine (awake_any _).mono ?_; rintro e w9 ⟨rfl, h9⟩)
            go_ret
            exact ⟨by rfl, Below.next hb h9⟩
end Go.Proofs.Ytclbdlbdnnhfmaa

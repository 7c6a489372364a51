import Derived.Test.YtcjaaijohapeaaaDoorTc
/-
  Which packets are valid: the program's checks. No conditions beyond those that each names.
-/
namespace Go.Proofs.YtcjaaijohapeaaaDoor
open Go.RowKit Go.Sort Go.Lib Go.Shelf
def inB (n lo hi : Int) : Bool := decide (lo ≤ n ∧ n ≤ hi)
set_option maxRecDepth 100000 in
theorem isIn_any (n lo hi : Int) (w : World) : Calls Tryd.prog 39 #[.int .i64 n, .int .i64 lo, .int .i64 hi] w (Is (.bool (inB n lo hi)) w) := by
  by_cases h1 : lo ≤ n
  · have d1 : decide (lo ≤ n) = true := decide_eq_true h1
    have hr : inB n lo hi = decide (n ≤ hi) := by unfold inB; simp [h1]
    rw [hr]
    clear h1 hr
    go_enter Tryd.func39, Tryd.ntmps39
    go_wp2_with fail
    go_ret
    exact ⟨rfl, rfl⟩
  · have d1 : decide (lo ≤ n) = false := decide_eq_false h1
    have hr : inB n lo hi = false := by unfold inB; simp [h1]
    rw [hr]
    clear h1 hr
    go_enter Tryd.func39, Tryd.ntmps39
    go_wp2_with fail
    go_ret
    exact ⟨rfl, rfl⟩
set_option maxRecDepth 100000 in
theorem usesMis_any (k : Int) (w : World) : Calls Tryd.prog 29 #[.int .i64 k] w (Is (.bool (k == 3)) w) := by
  go_enter Tryd.func29, Tryd.ntmps29
  go_wp2_with fail
  go_ret
  exact ⟨rfl, rfl⟩
set_option maxRecDepth 100000 in
theorem usesPay_any (k : Int) (w : World) : Calls Tryd.prog 30 #[.int .i64 k] w (Is (.bool (k == 1 || k == 5)) w) := by
  cases h1 : k == 1
  · go_enter Tryd.func30, Tryd.ntmps30
    go_wp2_with fail
    go_ret
    exact ⟨by simp, rfl⟩
  · go_enter Tryd.func30, Tryd.ntmps30
    go_wp2_with fail
    go_ret
    exact ⟨by simp, rfl⟩
/-- The list ascends, from lo to hi. -/
def ascB (lo hi : Int) : List Int → Bool
  | [] => true
  | x :: l => inB x lo hi && ascB (x + 1) hi l
/-- The slice v holds the numbers l. -/
def Mis (w : World) (v : Value) (l : List Int) : Prop := ∃ A c, v = .slice A l.length c ∧ (l = [] ∨ ∃ ab ao, A = some ⟨ab, ao, none⟩ ∧ ab < w.heap.size ∧ ∀ i (h : i < l.length), w.cell? ⟨ab, ao + i, none⟩ = some (.int .i64 (l[i]'h)))
theorem Mis.next {w w' : World} {v : Value} {l : List Int} (h : Mis w v l) (hb : Below w.heap.size w w') : Mis w' v l := by
  obtain ⟨A, c, rfl, h⟩ := h
  refine ⟨A, c, rfl, h.imp id ?_⟩
  rintro ⟨ab, ao, rfl, h1, h2⟩
  exact ⟨ab, ao, rfl, Nat.lt_of_lt_of_le h1 hb.size, fun i hi => cell_next hb (h2 i hi)⟩
theorem ascB_cons (lo hi x : Int) (l : List Int) : ascB lo hi (x :: l) = (inB x lo hi && ascB (x + 1) hi l) := rfl
set_option maxRecDepth 100000 in
set_option maxHeartbeats 4000000 in
theorem ascends_any (v : Value) (l : List Int) (lo up : Int) (w : World) (h : Mis w v l) (hlen : l.length ≤ 1000000) (hhi : up ≤ 1099511627776) (hlo : -9223372036854775808 ≤ lo) :
    Calls Tryd.prog 64 #[v, .int .i64 lo, .int .i64 up] w (Ib (.bool (ascB lo up l)) w) := by
  obtain ⟨A, c, rfl, hA⟩ := h
  obtain ⟨n, hn⟩ : ∃ n, l.length = n := ⟨_, rfl⟩
  obtain ⟨R, hR⟩ : ∃ R, ascB lo up l = R := ⟨_, rfl⟩
  have HN := Lib.hid hn
  have HR0 := Lib.hid hR
  have HA := Lib.hid hA
  have HLO := Lib.hid hlo
  have HHI := Lib.hid hhi
  rw [hn] at hlen
  rw [hn, hR]
  clear hA hn hR hlo hhi
  go_enter Tryd.func64, Tryd.ntmps64
  go_wp2_with fail
  go_loopg [11, 1] n (fun kx s11 s1 wr => ∃ i : Nat, s11 = .int .i64 (i : Int) ∧ i ≤ n ∧ n - i ≤ kx ∧ ∃ q : Int, s1 = .int .i64 q ∧ Hid (-9223372036854775808 ≤ q ∧ ascB q up (l.drop i) = R) ∧ Hid (Below w.heap.size w wr))
  case atStart => exact ⟨0, rfl, Nat.zero_le _, Nat.le_refl _, lo, rfl, Lib.hid ⟨HLO.out, HR0.out⟩, Lib.hid (Below.refl _ _)⟩
  case round =>
    obtain ⟨i, rfl, hin, hkx, q, rfl, HQ, HB⟩ := hrel
    by_cases hi : i < n
    · have di : decide (i < n) = true := decide_eq_true hi
      have hil : i < l.length := by rw [HN.out]; exact hi
      obtain ⟨ab, ao, rfl, hab, hc⟩ : ∃ ab ao, A = some ⟨ab, ao, none⟩ ∧ ab < w.heap.size ∧ ∀ i (h : i < l.length), w.cell? ⟨ab, ao + i, none⟩ = some (.int .i64 (l[i]'h)) := by
        rcases HA.out with h | h
        · rw [h] at hil; cases hil
        · exact h
      have ci := cell_next HB.out (hc i hil)
      have hq := HQ.out.2
      rw [List.drop_eq_getElem_cons hil, ascB_cons] at hq
      generalize l[i]'hil = x at *
      cases hx : inB x q up
      · rw [hx] at hq
        have HR : Hid (R = false) := Lib.hid (by rw [← hq]; rfl)
        clear hq hc hil
        go_wp2_with (go_at_call 39; refine (isIn_any _ _ _ _).mono ?_; rintro e w9 ⟨rfl, rfl⟩)
        go_ret
        rw [HR.out]
        exact ⟨rfl, HB.out⟩
      · rw [hx] at hq
        have hx2 : q ≤ x ∧ x ≤ up := of_decide_eq_true hx
        have hw : IntKind.i64.wrap (x + 1) = x + 1 := by
          have := HHI.out
          have := HQ.out.1
          exact IntWalk.i64_in _ (by omega)
        have HQ2 : Hid (-9223372036854775808 ≤ x + 1 ∧ ascB (x + 1) up (l.drop (i + 1)) = R) := Lib.hid ⟨by have := HQ.out.1; omega, hq⟩
        have hi1 : i + 1 ≤ n := by omega
        clear hq hc hil hx2
        go_wp2_with (go_at_call 39; refine (isIn_any _ _ _ _).mono ?_; rintro e w9 ⟨rfl, rfl⟩)
        go_roundg (n - (i + 1))
        case measure => omega
        case rel => exact ⟨i + 1, rfl, hi1, Nat.le_refl _, x + 1, rfl, HQ2, HB⟩
    · obtain rfl : i = n := by omega
      have di : decide (i < i) = false := decide_eq_false hi
      have HR : Hid (R = true) := Lib.hid (by have := HQ.out.2; rw [List.drop_eq_nil_of_le (by rw [HN.out]; exact Nat.le_refl _)] at this; exact this.symm)
      clear hi
      go_wp2_with fail
      go_ret
      rw [HR.out]
      exact ⟨rfl, HB.out⟩
end Go.Proofs.YtcjaaijohapeaaaDoor

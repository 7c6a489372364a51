import Derived.Test.YtndidbanbklonaaBc
import Derived.Lib.QuietBelow
import Derived.Deep.DeepCutAuto
/-
  slices.BinarySearch of a number in a row of numbers. No conditions beyond those that each names.
-/
namespace Go.Proofs.Ytndidbanbklonaa
open Go.RowKit Go.Sort Go.Lib Go.Shelf
set_option maxRecDepth 100000 in
theorem lessI_any (a b : Int) (w : World) : Calls Try.prog 50 #[.int .i64 a, .int .i64 b] w (Is (.bool (decide (a < b))) w) := by
  have d0 : (a != a) = false := by simp
  have e0 : (b != b) = false := by simp
  generalize hd : decide (a < b) = d
  go_enter Try.func50, Try.ntmps50
  go_wp2_with (go_in)
  go_ret
  exact ⟨rfl, rfl⟩
set_option maxRecDepth 100000 in
theorem isNaN_any (a : Int) (w : World) : Calls Try.prog 51 #[.int .i64 a] w (Is (.bool false) w) := by
  have d0 : (a != a) = false := by simp
  go_enter Try.func51, Try.ntmps51
  go_wp2_with (go_in)
  go_ret
  exact ⟨rfl, rfl⟩
/-- How many numbers at the front are below t. -/
def psI (t : Int) : List Int → Nat
  | [] => 0
  | x :: l => if x < t then psI t l + 1 else 0
def fI (t : Int) : List Int → Bool
  | [] => false
  | x :: _ => x == t
theorem psI_le (t : Int) : ∀ l : List Int, psI t l ≤ l.length
  | [] => Nat.le_refl _
  | x :: l => by
    unfold psI
    split
    · exact Nat.succ_le_succ (psI_le t l)
    · exact Nat.zero_le _
theorem psI_at (t : Int) : ∀ (l : List Int) (i : Nat), i ≤ l.length → (∀ j (h : j < l.length), j < i → l[j]'h < t) → (∀ j (h : j < l.length), i ≤ j → t ≤ l[j]'h) → i = psI t l
  | [], i, hi, _, _ => by simp at hi; subst hi; rfl
  | x :: l, 0, _, _, h => by
    have := h 0 (Nat.succ_pos _) (Nat.le_refl _)
    simp only [List.getElem_cons_zero] at this
    unfold psI
    rw [if_neg (by omega)]
  | x :: l, i + 1, hi, h1, h2 => by
    have h0 := h1 0 (Nat.succ_pos _) (Nat.succ_pos _)
    simp only [List.getElem_cons_zero] at h0
    unfold psI
    rw [if_pos h0, ← psI_at t l i (by simpa using hi) (fun j h hj => by have := h1 (j + 1) (by simpa using h) (by omega); simpa using this) (fun j h hj => by have := h2 (j + 1) (by simpa using h) (by omega); simpa using this)]
set_option maxRecDepth 100000 in
set_option maxHeartbeats 4000000 in
theorem searchI_any (l : List Int) (t : Int) (A : Option Addr) (n c : Nat) (w : World) (hn : n ≤ 1000000) (hln : l.length = n) (ho : Ro w (.slice A n c) l) (hmono : ∀ a b (ha : a < l.length) (hb : b < l.length), a ≤ b → l[a]'ha ≤ l[b]'hb) :
    Calls Try.prog 45 #[.slice A n c, .int .i64 t] w (Is (.tuple #[.int .i64 (psI t l : Int), .bool (fI t (l.drop (psI t l)))]) w) := by
  have HN := Lib.hid hln
  have CL : ∀ m (hm : m < l.length), ∃ g o, A = some ⟨g, o, none⟩ ∧ g < w.heap.size ∧ w.cell? ⟨g, o + m, none⟩ = some (.int .i64 (l[m]'hm)) := by
    intro m hm
    obtain ⟨-, -, g, o, rfl, hg⟩ := ho.pos (fun e => by subst e; simp at hm)
    exact ⟨g, o, rfl, hg, ho.cell m hm⟩
  have HM := Lib.hid hmono
  have HCL := Lib.hid CL
  have cL := lessI_any
  have cN := isNaN_any
  clear hln hmono CL ho
  go_enter Try.func45, Try.ntmps45
  go_wp2_with fail
  go_loopg [7, 8] n (fun kx s9 s10 wr => ∃ lo hi : Nat, s9 = .int .i64 (lo : Int) ∧ s10 = .int .i64 (hi : Int) ∧ lo ≤ hi ∧ hi ≤ n ∧ hi - lo ≤ kx ∧ wr = w ∧ Hid ((∀ j (h : j < l.length), j < lo → l[j]'h < t) ∧ (∀ j (h : j < l.length), hi ≤ j → t ≤ l[j]'h)))
  case atStart => exact ⟨0, n, rfl, rfl, Nat.zero_le _, Nat.le_refl _, by omega, rfl, Lib.hid ⟨fun j _ h => absurd h (Nat.not_lt_zero _), fun j h h2 => by rw [HN.out] at h; omega⟩⟩
  case round =>
    obtain ⟨lo, hi, rfl, rfl, hlh, hin, hg, rfl, I⟩ := hrel
    by_cases hlt : lo < hi
    · have hm : (lo + hi) / 2 < l.length := by rw [HN.out]; omega
      obtain ⟨gA, oA, rfl, hgl, k0⟩ := HCL.out _ hm
      by_cases hc : l[(lo + hi) / 2]'hm < t
      · have dc : decide (l[(lo + hi) / 2]'hm < t) = true := decide_eq_true hc
        have I2 : Hid ((∀ j (h : j < l.length), j < (lo + hi) / 2 + 1 → l[j]'h < t) ∧ (∀ j (h : j < l.length), hi ≤ j → t ≤ l[j]'h)) := Lib.hid ⟨fun j h hj => by have := HM.out j _ h hm (by omega); omega, I.out.2⟩
        have cL2 := cL (l[(lo + hi) / 2]'hm) t wr
        rw [dc] at cL2
        clear hc cL dc
        generalize l[(lo + hi) / 2]'hm = y at *
        go_wp2_with (refine cL2.mono ?_; rintro e w1 ⟨rfl, rfl⟩)
        go_roundg (hi - ((lo + hi) / 2 + 1))
        case measure => omega
        case rel => exact ⟨(lo + hi) / 2 + 1, hi, by rw [show ((lo : Int) + (hi : Int)) / 2 + 1 = (((lo + hi) / 2 + 1 : Nat) : Int) by omega], rfl, by omega, hin, Nat.le_refl _, rfl, I2⟩
      · have dc : decide (l[(lo + hi) / 2]'hm < t) = false := decide_eq_false hc
        have I2 : Hid ((∀ j (h : j < l.length), j < lo → l[j]'h < t) ∧ (∀ j (h : j < l.length), (lo + hi) / 2 ≤ j → t ≤ l[j]'h)) := Lib.hid ⟨I.out.1, fun j h hj => by have := HM.out _ j hm h hj; omega⟩
        have cL2 := cL (l[(lo + hi) / 2]'hm) t wr
        rw [dc] at cL2
        clear hc cL dc
        generalize l[(lo + hi) / 2]'hm = y at *
        go_wp2_with (refine cL2.mono ?_; rintro e w1 ⟨rfl, rfl⟩)
        go_roundg ((lo + hi) / 2 - lo)
        case measure => omega
        case rel => exact ⟨lo, (lo + hi) / 2, rfl, by rw [show ((lo : Int) + (hi : Int)) / 2 = (((lo + hi) / 2 : Nat) : Int) by omega], by omega, by omega, Nat.le_refl _, rfl, I2⟩
    · obtain rfl : hi = lo := by omega
      by_cases hn2 : hi < n
      · have hm : hi < l.length := by rw [HN.out]; exact hn2
        obtain ⟨gA, oA, rfl, hgl, k0⟩ := HCL.out _ hm
        have dn : decide ((hi : Int) < (n : Int)) = true := decide_eq_true (by omega)
        have dn2 : decide (hi < n) = true := decide_eq_true hn2
        have HP : Hid (hi = psI t l) := Lib.hid (psI_at t l hi (by rw [HN.out]; exact hin) I.out.1 I.out.2)
        have HF : Hid (fI t (l.drop (psI t l)) = (l[hi]'hm == t)) := Lib.hid (by rw [← HP.out, List.drop_eq_getElem_cons hm]; rfl)
        clear cL
        generalize l[hi]'hm = y at *
        by_cases hq : y = t
        · subst hq
          have hq2 : (y == y) = true := by simp
          go_wp2_with (first | (refine (cN _ _).mono ?_; rintro e w1 ⟨rfl, rfl⟩) | go_in)
          go_ret2
          rw [HF.out, ← HP.out, hq2]
          exact ⟨rfl, rfl⟩
        · have hq2 : (y == t) = false := by simpa using hq
          go_wp2_with (first | (refine (cN _ _).mono ?_; rintro e w1 ⟨rfl, rfl⟩) | go_in)
          go_ret2
          rw [HF.out, ← HP.out, hq2]
          exact ⟨rfl, rfl⟩
      · have dn : decide ((hi : Int) < (n : Int)) = false := decide_eq_false (by omega)
        have dn2 : decide (hi < n) = false := decide_eq_false hn2
        have HP : Hid (hi = psI t l) := Lib.hid (psI_at t l hi (by rw [HN.out]; exact hin) I.out.1 I.out.2)
        have HF : Hid (fI t (l.drop (psI t l)) = false) := Lib.hid (by rw [List.drop_eq_nil_of_le (by rw [← HP.out, HN.out]; omega)]; rfl)
        clear cL
        go_wp2_with fail
        go_ret2
        rw [HF.out, ← HP.out]
        exact ⟨rfl, rfl⟩
end Go.Proofs.Ytndidbanbklonaa

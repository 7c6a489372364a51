/-
  A token is valid just where it is the first one of what it is written as. No conditions but Go's own bounds of a number.
-/
import Derived.Test.YtgifienjfaclmaaGreatDoorNj
import Derived.Test.YtgifienjfaclmaaGreatDoorLl
namespace Go.Proofs.YtgifienjfaclmaaGreatDoor
theorem wrt_pr (K : Int) (T : List UInt8) (N A : Int) (h : 0 ≤ K) : wrt K T N = pr (Tv.tk ⟨K, T, N, A⟩) := by
  unfold wrt pr Tv.tk
  have e2 : (K.toNat = 2) = (K = 2) := propext ⟨fun h => by omega, fun h => by omega⟩
  have e3 : (K.toNat = 3) = (K = 3) := propext ⟨fun h => by omega, fun h => by omega⟩
  simp only [e2, e3]
theorem okT_nonneg {K : Int} {T : List UInt8} {N A : Int} (h : okT (Tv.tk ⟨K, T, N, A⟩) = true) : 0 ≤ K := by
  by_cases h1 : K = 1
  · omega
  by_cases h2 : K = 2
  · omega
  by_cases h3 : K = 3
  · omega
  by_cases h4 : K = 4
  · omega
  rw [okT0 K T N A h1 h2 h3 h4] at h
  cases h
theorem back_eq (K : Int) (T : List UInt8) (N A : Int) (h1 : -9223372036854775808 ≤ N) (h2 : N ≤ 9223372036854775807) : back K T N = okT (Tv.tk ⟨K, T, N, A⟩) := by
  rw [Bool.eq_iff_iff]
  constructor
  · intro h
    unfold back at h
    cases hT : tokAt (wrt K T N) 0 with
    | error x => rw [hT] at h; cases h
    | ok x =>
      obtain ⟨kd, t, n, k⟩ := x
      rw [hT] at h
      simp only [Bool.and_eq_true, decide_eq_true_eq, beq_iff_eq] at h
      obtain ⟨⟨rfl, rfl⟩, rfl⟩ := h
      unfold tokAt at hT
      rw [List.drop_zero] at hT
      cases hw : wrt kd t n with
      | nil => rw [hw] at hT; cases hT
      | cons c r =>
        rw [hw] at hT
        simp only at hT
        obtain ⟨a1, a2, -, -, a5⟩ := tok_ok hT
        obtain ⟨b1, b2, b3, b4⟩ := tok_more hT
        rcases a1 with rfl | rfl | rfl | rfl
        · obtain ⟨c1, c2, -⟩ := a5 rfl
          have hL := a2.2 rfl
          have ht : t = c :: r := hw
          have hn := b1 rfl
          subst hn
          show okT (Tv.tk ⟨1, t, 0, A⟩) = true
          rw [okT1]
          have hall : t.all isW = true := by rw [c1]; exact List.all_takeWhile
          unfold isN
          rw [hall, ht]
          rw [ht] at c2
          simp only [List.length_cons] at c2
          simp [hL]
          omega
        · show okT (Tv.tk ⟨2, t, n, A⟩) = true
          rw [okT2, b2 rfl]
          rfl
        · obtain ⟨c1, c2, c3⟩ := b3 rfl
          subst c1
          show okT (Tv.tk ⟨3, t, 0, A⟩) = true
          rw [okT3]
          simp only [Bool.and_eq_true, List.all_eq_true, decide_eq_true_eq]
          exact ⟨⟨fun x hx => c3 x hx, c2⟩, rfl⟩
        · obtain ⟨c1, c', rfl, c3⟩ := b4 rfl
          subst c1
          show okT (Tv.tk ⟨4, [c'], 0, A⟩) = true
          rw [okT4]
          simp [oneM, c3]
  · intro h
    have hK := okT_nonneg h
    obtain ⟨c, r, e1, -, -, e2⟩ := tok_pr (z := []) h (fun _ => ⟨h1, h2⟩) (.inl rfl)
    unfold back tokAt
    rw [wrt_pr K T N A hK, List.drop_zero, e1]
    rw [List.append_nil] at e2
    simp only
    rw [e2]
    show (decide (((Tv.tk ⟨K, T, N, A⟩).kind : Int) = K) && (T == T) && (N == N)) = true
    have : ((Tv.tk ⟨K, T, N, A⟩).kind : Int) = K := by
      show ((K.toNat : Nat) : Int) = K
      omega
    simp [this]
end Go.Proofs.YtgifienjfaclmaaGreatDoor

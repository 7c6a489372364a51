/-
  Contracts of the developers' kinds of characters: kindAt, slices.Contains over kinds, past. No conditions but Go's own bounds of a string's length.
-/
import Derived.Test.YtgifienjfaclmaaGreatDoorNo
namespace Go.Proofs.YtgifienjfaclmaaGreatDoor
open Go.RowKit
set_option maxRecDepth 100000 in
set_option maxHeartbeats 2000000 in
theorem kindAt_any (l : List UInt8) (a : Nat) (w : World) :
    Calls Tryz.prog 30 #[.string (bs l), .int .i64 (a : Int)] w (Is (.int .i64 (kat l a : Int)) w) := by
  have hsz : (bs l).size = l.length := rfl
  by_cases h : a < l.length
  · have h2 : a < (bs l).size := h
    have cK := fun W => kindOf_any (l[a]'h).toNat (UInt8.toNat_lt _) W
    rw [kat_lt h]
    have hb : ((bs l)[a]'h2).toNat = (l[a]'h).toNat := rfl
    generalize kd (l[a]'h).toNat = k at *
    have hn := UInt8.toNat_lt (l[a]'h)
    generalize (l[a]'h).toNat = n at *
    have hw : wrap32 (n : Int) = (n : Int) := by unfold wrap32; omega
    go_enter Tryz.func30, Tryz.ntmps30
    go_wp2_with fail
    refine (cK _).mono ?_
    rintro e w' ⟨rfl, rfl⟩
    go_wp2_with fail
    go_ret
    exact ret_is rfl
  · rw [kat_end (by omega)]
    have d1 : l.length ≤ a := by omega
    clear h
    go_enter Tryz.func30, Tryz.ntmps30
    go_wp2_with fail
    go_ret
    exact ret_is rfl
/-- The cells of a list of kinds. -/
def Ks (w : World) (g : Nat) (ks : List Nat) : Prop := ∀ j (h : j < ks.length), w.cell? ⟨g, j, none⟩ = some (.int .i64 ((ks[j]'h : Nat) : Int))
set_option maxRecDepth 100000 in
set_option maxHeartbeats 2000000 in
theorem index_any (g c k : Nat) (ks : List Nat) (w : World) (hn : ks.length ≤ 10) (hK : Ks w g ks) :
    Calls Tryz.prog 47 #[.slice (some ⟨g, 0, none⟩) ks.length c, .int .i64 (k : Int)] w (fun e w' => ∃ (r : Int) (n : Nat), e = .returned (.int .i64 r) ∧ w' = w.drewN n ∧ decide (0 ≤ r) = ks.contains k) := by
  have HK := Lib.hid hK
  clear hK
  obtain ⟨n, hn2⟩ : ∃ n, ks.length = n := ⟨_, rfl⟩
  rw [hn2] at hn ⊢
  go_enter Tryz.func47, Tryz.ntmps47
  go_wp2_with fail
  go_loopw [8] (fun v wr => ∃ (i m : Nat), i ≤ n ∧ v = .int .i64 (i : Int) ∧ wr = w.drewN m ∧ Hid ((ks.take i).contains k = false)) (fun v _ => n - (intOf v).toNat)
  case atStart => exact ⟨0, 0, by omega, rfl, rfl, Lib.hid rfl⟩
  case round =>
    obtain ⟨i, m, hi, rfl, rfl, hI⟩ := hrel
    by_cases hin : i < n
    · have c0 := HK.out i (by omega)
      have ht : ks.take (i + 1) = ks.take i ++ [ks[i]'(by omega)] := by rw [List.take_succ_eq_append_getElem (by omega)]
      obtain ⟨x, hx⟩ : ∃ x, ks[i]'(by omega) = x := ⟨_, rfl⟩
      rw [hx] at c0 ht
      replace c0 : (w.drewN m).cell? ⟨g, i, none⟩ = some (.int .i64 (x : Int)) := c0
      have ee := List.contains_eq_mem k (ks.take (i + 1))
      have hks : k = x → ks.contains k = true := fun e => by
        rw [List.contains_iff_mem, e, ← hx]
        exact List.getElem_mem _
      have hno : k ≠ x → (ks.take (i + 1)).contains k = false := fun e => by
        rw [ht, List.contains_eq_mem]
        have := hI.out
        rw [List.contains_eq_mem] at this
        simp only [decide_eq_false_iff_not, List.mem_append, List.mem_singleton] at this ⊢
        exact fun h => h.elim this e
      obtain ⟨f, hf⟩ : ∃ f, i + 1 = f := ⟨_, rfl⟩
      have l11 : (i : Int) + 1 = (f : Int) := by omega
      clear hI ht hx HK hn2 ee
      by_cases e : k = x
      · have E := Lib.hid (hks e)
        subst e
        clear hks hno
        go_wp2_with fail
        go_ret
        exact ⟨(i : Int), m, rfl, rfl, by rw [E.out]; simp⟩
      · rw [hf] at hno
        have E := Lib.hid (hno e)
        have d0 : ((k : Int) == (x : Int)) = false := by simp; omega
        clear hks hno
        go_wp2_with fail
        go_roundw
        case rel => exact ⟨f, m, by omega, rfl, rfl, E⟩
        case measure => simp [intOf]; omega
    · obtain rfl : i = n := by omega
      have E := Lib.hid (show ks.contains k = false by
        have := hI.out
        rwa [← hn2, List.take_length] at this)
      clear hI HK hn2
      go_wp2_with fail
      go_ret
      exact ⟨-1, m, rfl, rfl, by rw [E.out]; rfl⟩
set_option maxRecDepth 100000 in
theorem contains_any (g c k : Nat) (ks : List Nat) (w : World) (hn : ks.length ≤ 10) (hK : Ks w g ks) :
    Calls Tryz.prog 38 #[.slice (some ⟨g, 0, none⟩) ks.length c, .int .i64 (k : Int)] w (Iq (.bool (ks.contains k)) w) := by
  have cI := fun m => index_any g c k ks (w.drewN m) hn hK
  generalize ks.contains k = b at *
  clear hK hn
  go_enter Tryz.func38, Tryz.ntmps38
  go_wp2_with fail
  refine (cI 0).mono ?_
  rintro e w' ⟨r, n, rfl, rfl, hb⟩
  cases b
  all_goals
    go_wp2_with fail
    go_ret
    exact ⟨n, rfl, rfl⟩
theorem drewN_drewN (w : World) (a b : Nat) : (w.drewN a).drewN b = w.drewN (a + b) := by simp [World.drewN, Nat.add_assoc]
set_option maxRecDepth 100000 in
set_option maxHeartbeats 2000000 in
theorem past_any (g c : Nat) (ks : List Nat) (l : List UInt8) (a : Nat) (w : World) (hl : l.length ≤ 9223372036854775000) (ha : a ≤ l.length) (hn : ks.length ≤ 10) (hK : Ks w g ks) (h0 : ks.contains 0 = false) :
    Calls Tryz.prog 29 #[.string (bs l), .int .i64 (a : Int), .slice (some ⟨g, 0, none⟩) ks.length c] w (Iq (.int .i64 ((a + ((l.drop a).takeWhile (inK ks)).length : Nat) : Int)) w) := by
  have HK := Lib.hid hK
  obtain ⟨R, hR⟩ : ∃ R, a + ((l.drop a).takeWhile (inK ks)).length = R := ⟨_, rfl⟩
  rw [hR]
  have HR := Lib.hid hR
  clear hK hR
  obtain ⟨n, hn2⟩ : ∃ n, ks.length = n := ⟨_, rfl⟩
  have hn2 := Lib.hid hn2
  rw [hn2.out]
  go_enter Tryz.func29, Tryz.ntmps29
  go_wp2_with fail
  go_loopw [1] (fun v wr => ∃ (j m : Nat), j ≤ l.length ∧ v = .int .i64 (j : Int) ∧ wr = w.drewN m ∧ Hid (j + ((l.drop j).takeWhile (inK ks)).length = R)) (fun v _ => l.length - (intOf v).toNat)
  case atStart => exact ⟨a, 0, ha, rfl, rfl, HR⟩
  case round =>
    obtain ⟨j, m, hj, rfl, rfl, hI⟩ := hrel
    have c1 := fun W => kindAt_any l j W
    have c2 := fun q => contains_any g c (kat l j) ks (w.drewN q) hn HK.out
    have hx : Hid ((ks.contains (kat l j) = true ∧ j < l.length ∧ j + 1 + ((l.drop (j + 1)).takeWhile (inK ks)).length = R) ∨ (ks.contains (kat l j) = false ∧ j = R)) := by
      refine Lib.hid ?_
      have h := hI.out
      by_cases hlt : j < l.length
      · have t := tw_at (inK ks) l j hlt
        unfold inK at t
        rw [← kat_lt hlt] at t
        cases e : ks.contains (kat l j)
        · rw [e] at t
          exact .inr ⟨rfl, by rw [← h]; unfold inK; rw [if_neg (by simp)] at t; rw [t]; rfl⟩
        · rw [e, if_pos rfl] at t
          refine .inl ⟨rfl, hlt, ?_⟩
          rw [← h]
          unfold inK
          rw [t]
          omega
      · rw [kat_end (by omega), h0]
        refine .inr ⟨rfl, ?_⟩
        rw [← h, List.drop_eq_nil_of_le (by omega)]
        rfl
    rw [hn2.out] at c2
    generalize kat l j = k at *
    generalize ks.contains k = b at *
    have hb1 : Hid (b = true → j < l.length ∧ j + 1 + ((l.drop (j + 1)).takeWhile (inK ks)).length = R) := Lib.hid (fun e => by
      rcases hx.out with h | h
      · exact h.2
      · rw [e] at h; cases h.1)
    have hb2 : Hid (b = false → j = R) := Lib.hid (fun e => by
      rcases hx.out with h | h
      · rw [e] at h; cases h.1
      · exact h.2)
    clear hx hI HR
    go_wp2_with fail
    refine (c1 _).mono ?_
    rintro e w' ⟨rfl, rfl⟩
    go_wp2_with fail
    refine (c2 _).mono ?_
    rintro e w' ⟨q, rfl, rfl⟩
    rw [drewN_drewN]
    cases b
    · obtain rfl := hb2.out rfl
      go_wp2_with fail
      go_ret
      exact ⟨_, rfl, rfl⟩
    · have E := Lib.hid (hb1.out rfl).2
      have hj2 : j < l.length := (hb1.out rfl).1
      obtain ⟨f, hf⟩ : ∃ f, j + 1 = f := ⟨_, rfl⟩
      have l11 : (j : Int) + 1 = (f : Int) := by omega
      rw [hf] at E
      clear hb1 hb2
      go_wp2_with fail
      go_roundw
      case rel => exact ⟨f, m + q, by omega, rfl, rfl, E⟩
      case measure => simp [intOf]; omega
end Go.Proofs.YtgifienjfaclmaaGreatDoor

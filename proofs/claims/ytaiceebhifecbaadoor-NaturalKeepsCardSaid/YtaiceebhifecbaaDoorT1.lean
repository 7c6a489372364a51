/-
  Contracts of trim, fromDigits, Same, nat, Few and Valid (the reference's). Conditions: slices of at most 1000 digits.
-/
import Derived.Test.YtaiceebhifecbaaDoorBase
namespace Go.Proofs.YtaiceebhifecbaaDoor
open Go.RowKit
set_option maxHeartbeats 400000 in
theorem trim_any (A : Option Addr) (c : Nat) (zs : List Nat) (w : World) (h : Rd w A zs) (hc : zs.length ≤ c) (hm : zs.length ≤ 1000) :
    Calls Tryd.prog 38 #[.slice A zs.length c] w fun e w' => e = .returned (.slice A (Nm.tlen zs) (Nm.tlen zs)) ∧ w = w' := by
  have ht := Nm.tlen_le zs
  go_enter Tryd.func38, Tryd.ntmps38
  go_wp2
  go_loop [3] (fun n => ∃ k : Nat, Nm.tlen zs ≤ k ∧ k ≤ zs.length ∧ n = .int .i64 k) (fun n => (intOf n).toNat)
  case atStart => exact ⟨_, ht, Nat.le_refl _, rfl⟩
  case round =>
    obtain ⟨k, hk1, hk2, rfl⟩ := hrel
    rcases Nat.eq_zero_or_pos k with hk | hk
    · subst hk
      go_wp2
      all_goals (go_ret; exact ⟨ret_slice (by omega), rfl⟩)
    · obtain ⟨k, rfl⟩ : ∃ j, k = j + 1 := ⟨k - 1, by omega⟩
      obtain ⟨g, off, hA, hcell⟩ := h.at_ (i := k) (by omega)
      subst hA
      have hck := hcell k (by omega)
      clear hcell
      by_cases hz : zs[k]'(by omega) = 0
      · have hlt : Nm.tlen zs ≤ k := by
          rcases Nat.lt_or_ge k (Nm.tlen zs) with h1 | h1
          · exact absurd hz (Nm.tlen_last zs k (by omega) (by omega))
          · exact h1
        rw [hz] at hck
        clear hz
        go_wp2
        exact ⟨⟨k, hlt, by omega, rfl⟩, by simp [intOf]⟩
      · have hb := digit_ne hz
        have heq : Nm.tlen zs = k + 1 := by
          rcases Nat.lt_or_ge k (Nm.tlen zs) with h1 | h1
          · omega
          · exact absurd (Nm.tlen_zero zs k h1 (by omega)) hz
        have H := Lib.hid heq
        clear hz heq
        go_wp2
        go_ret
        exact ⟨ret_slice H.out.symm, rfl⟩

set_option maxHeartbeats 400000 in
theorem fromDigits_any (A : Option Addr) (c : Nat) (zs : List Nat) (w : World) (h : Rd w A zs) (hc : zs.length ≤ c) (hm : zs.length ≤ 1000) :
    Calls Tryd.prog 40 #[.slice A zs.length c] w fun e w' => e = .returned (nt A (Nm.tlen zs) (Nm.tlen zs)) ∧ Below w.heap.size w w' := by
  go_enter Tryd.func40, Tryd.ntmps40
  go_wp2_with fail
  refine (trim_any A c zs _ (h.alloc _) hc hm).mono ?_
  rintro e w' ⟨rfl, rfl⟩
  go_wp2_with fail
  exact bodyPost_ret (v := nt A (Nm.tlen zs) (Nm.tlen zs)) (by simp [results, Tryd.results40, go_sem]) rfl ⟨rfl, (Below.refl _ _).alloc (Nat.le_refl _) _⟩

theorem getI {zs : List Nat} {i : Nat} (h : i < zs.length) : ∃ x, zs[i]? = some x ∧ x = zs[i] := ⟨_, List.getElem?_eq_getElem h, rfl⟩
set_option maxHeartbeats 400000 in
theorem same_any (A B : Option Addr) (c d : Nat) (xs ys : List Nat) (w : World) (hx : Rd w A xs) (hy : Rd w B ys) (hm : xs.length ≤ 1000) (hn : ys.length ≤ 1000) :
    Calls Tryd.prog 18 #[nt A xs.length c, nt B ys.length d] w fun e w' => e = .returned (.bool (decide (xs = ys))) ∧ Below w.heap.size w w' := by
  by_cases hlen : xs.length = ys.length
  · have hl1 : ((xs.length : Int) != (ys.length : Int)) = false := by simp [hlen]
    have Hl := Lib.hid hlen
    clear hlen
    go_enter Tryd.func18, Tryd.ntmps18
    go_wp2
    go_loopw [5] (fun i wr => ∃ k q : Nat, k ≤ xs.length ∧ i = .int .i64 k ∧ (∀ j, j < k → xs[j]? = ys[j]?) ∧ wr = ((w.alloc (Obj.cells #[Value.slice A xs.length c] 24)).alloc (Obj.cells #[Value.slice B ys.length d] 24)).drewN q) (fun i _ => xs.length - (intOf i).toNat)
    case atStart => exact ⟨0, 0, Nat.zero_le _, rfl, fun _ h => absurd h (by omega), rfl⟩
    case round =>
      obtain ⟨k, q, hk, rfl, heq, rfl⟩ := hrel
      have Heq := Lib.hid heq
      clear heq
      by_cases hlt : k < xs.length
      · obtain ⟨g, off, hA, hcell⟩ := (hx.alloc (Obj.cells #[Value.slice A xs.length c] 24)).alloc (Obj.cells #[Value.slice B ys.length d] 24) |>.at_ hlt
        obtain ⟨g', off', hB, hcell'⟩ := (hy.alloc (Obj.cells #[Value.slice A xs.length c] 24)).alloc (Obj.cells #[Value.slice B ys.length d] 24) |>.at_ (i := k) (by have := Hl.out; omega)
        have c1 := hcell k hlt
        have c2 := hcell' k (by have := Hl.out; omega)
        clear hcell hcell'
        subst hA hB
        obtain ⟨x, hx1⟩ : ∃ x, xs[k] = x := ⟨_, rfl⟩
        obtain ⟨y, hy1⟩ : ∃ y, ys[k]'(by have := Hl.out; omega) = y := ⟨_, rfl⟩
        rw [hx1] at c1
        rw [hy1] at c2
        have hkl : (k : Int) < (xs.length : Int) := by omega
        have hkl' : (k : Int) < (ys.length : Int) := by have := Hl.out; omega
        by_cases hxy : x = y
        · have hb : ((x : Int) != (y : Int)) = false := by rw [hxy]; simp
          clear hx hy
          have Hx := Lib.hid hx1
          have Hy := Lib.hid hy1
          have Hxy := Lib.hid hxy
          clear hx1 hy1 hxy
          go_wp2_with fail
          go_quiet (fail)
          go_wp2
          go_roundw
          case rel =>
            refine ⟨k + 1, _, by omega, by go_num, ?_, rfl⟩
            intro j hj
            rcases Nat.lt_or_ge j k with h1 | h1
            · exact Heq.out j h1
            · obtain rfl : j = k := by omega
              rw [List.getElem?_eq_getElem hlt, List.getElem?_eq_getElem (by have := Hl.out; omega), Hx.out, Hy.out, Hxy.out]
          case measure => simp [intOf]; omega
        · have hb : ((x : Int) != (y : Int)) = true := by rw [bne_iff_ne]; omega
          have hfin : decide (xs = ys) = false := decide_eq_false (fun e => hxy (by subst e; rw [← hx1, ← hy1]))
          have Hfin := Lib.hid hfin
          clear hx hy hx1 hy1 hxy hfin
          go_wp2_with fail
          go_quiet (fail)
          go_wp2
          go_ret
          exact ⟨ret_bool Hfin.out.symm, below_drewN (below_drewN (((Below.refl _ _).alloc (Nat.le_refl _) _).alloc (by simp) _) _) _⟩
      · have hfin : decide (xs = ys) = true := by
          refine decide_eq_true (List.ext_getElem? fun j => ?_)
          rcases Nat.lt_or_ge j k with h1 | h1
          · exact Heq.out j h1
          · rw [List.getElem?_eq_none (by omega), List.getElem?_eq_none (by have := Hl.out; omega)]
        have Hfin := Lib.hid hfin
        clear hfin
        go_wp2
        go_ret
        exact ⟨ret_bool Hfin.out.symm, below_drewN (((Below.refl _ _).alloc (Nat.le_refl _) _).alloc (by simp) _) _⟩
  · have hl1 : ((xs.length : Int) != (ys.length : Int)) = true := by rw [bne_iff_ne]; omega
    have hfin : decide (xs = ys) = false := decide_eq_false (fun e => hlen (by rw [e]))
    have H := Lib.hid hfin
    clear hlen hfin
    go_enter Tryd.func18, Tryd.ntmps18
    go_wp2
    go_ret
    exact ⟨ret_bool H.out.symm, (((Below.refl _ _).alloc (Nat.le_refl _) _).alloc (by simp) _)⟩
end Go.Proofs.YtaiceebhifecbaaDoor

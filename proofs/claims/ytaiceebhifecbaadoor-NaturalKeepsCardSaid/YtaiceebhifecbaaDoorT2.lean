/-
  Contracts of nat, Few, Valid, Of, Clone, Copy, Compare and Cmp. Conditions: slices of at most 1000 digits.
-/
import Derived.Test.YtaiceebhifecbaaDoorAp
import Derived.Test.YtaiceebhifecbaaDoorT1
namespace Go.Proofs.YtaiceebhifecbaaDoor
open Go.RowKit
set_option maxHeartbeats 400000 in
theorem nat_any (A : Option Addr) (c : Nat) (zs : List Nat) (w : World) (h : Rd w A zs) (hm : zs.length ≤ 1000) :
    Calls Tryd.prog 36 #[.slice A zs.length c] w fun e w' => ∃ A' c', e = .returned (nt A' zs.length c') ∧ zs.length ≤ c' ∧ Fr w.heap.size w' A' zs ∧ Below w.heap.size w w' := by
  go_enter Tryd.func36, Tryd.ntmps36
  go_wp2_with (at_builtin
               refine wpList_tight rfl (.tmp 4) (.tmp 5) rfl none A [] zs 0 c rfl rfl (Rd.nil _ _) rfl (h.alloc _) (by simp) (by omega) (.inr rfl) ?_
               intro A' c' w' hc hf hb
               obtain ⟨k1, k2⟩ := seen hb)
  have hcell : w'.cell? ⟨w.heap.size, 0, none⟩ = some (.slice none 0 0) := by rw [k1 _ _ (by simp)]; simp
  refine bodyPost_ret (v := nt A' zs.length c') (by simp [results, Tryd.results36, go_sem, k1]) rfl ⟨A', c', rfl, by omega, ?_, ?_⟩
  · exact ((by simpa using hf : Fr _ _ _ zs).mono (by simp)).setCell hcell (by simp)
  · exact (up (one _ _) hb).setCell (Nat.le_refl _) _

set_option maxHeartbeats 400000 in
theorem refValid_any (A : Option Addr) (c : Nat) (zs : List Nat) (w : World) (h : Rd w A zs) (hm : zs.length ≤ 1000) :
    Calls Tryd.prog 27 #[nt A zs.length c] w fun e w' => e = .returned (.bool (decide (Nm.tlen zs = zs.length))) ∧ Below w.heap.size w w' := by
  rcases Nat.eq_zero_or_pos zs.length with h0 | h0
  · have hz := List.eq_nil_of_length_eq_zero h0
    subst hz
    go_enter Tryd.func27, Tryd.ntmps27
    go_wp2
    go_ret
    exact ⟨by simp [Nm.tlen], one _ _⟩
  · obtain ⟨g, off, hA, hr⟩ := (h.alloc (Obj.cells #[Value.slice A zs.length c] 24)).at_ (i := zs.length - 1) (by omega)
    subst hA
    have hck := hr (zs.length - 1) (by omega)
    clear hr
    have hb0 : ((zs.length : Int) == 0) = false := digit_ne (by omega)
    obtain ⟨x, hx⟩ : ∃ x, zs[zs.length - 1]'(by omega) = x := ⟨_, rfl⟩
    rw [hx] at hck
    obtain ⟨m, hm1⟩ : ∃ m, zs.length = m + 1 := ⟨zs.length - 1, by omega⟩
    have Hm := Lib.hid hm1
    have hle := Nm.tlen_le zs
    by_cases hz : x = 0
    · have hfin : decide (Nm.tlen zs = zs.length) = false := decide_eq_false (fun e => Nm.tlen_last zs (zs.length - 1) (by omega) (by omega) (by rw [hx]; exact hz))
      have Hf := Lib.hid hfin
      clear hx h hfin hm1
      subst hz
      have hck' : (w.alloc (Obj.cells #[Value.slice (some { block := g, off := off }) zs.length c] 24)).cell? { block := g, off := off + ((zs.length : Int) - 1).toNat, spot := none } = some (Value.int .u32 ((0 : Nat) : Int)) := by
        rw [show ((zs.length : Int) - 1).toNat = zs.length - 1 from by omega]; exact hck
      go_enter Tryd.func27, Tryd.ntmps27
      go_wp2
      go_outline
      go_ret
      exact ⟨ret_bool Hf.out.symm, one _ _⟩
    · have hfin : decide (Nm.tlen zs = zs.length) = true := by
        refine decide_eq_true ?_
        rcases Nat.lt_or_ge (zs.length - 1) (Nm.tlen zs) with h1 | h1
        · omega
        · exact absurd ((hx.symm.trans (Nm.tlen_zero zs _ h1 (by omega)))) hz
      have Hf := Lib.hid hfin
      have hnz : ((x : Int) != 0) = true := by rw [bne_iff_ne]; omega
      clear hx h hfin hm1 hz
      have hck' : (w.alloc (Obj.cells #[Value.slice (some { block := g, off := off }) zs.length c] 24)).cell? { block := g, off := off + ((zs.length : Int) - 1).toNat, spot := none } = some (Value.int .u32 (x : Int)) := by
        rw [show ((zs.length : Int) - 1).toNat = zs.length - 1 from by omega]; exact hck
      go_enter Tryd.func27, Tryd.ntmps27
      go_wp2
      go_outline
      go_ret
      exact ⟨ret_bool Hf.out.symm, one _ _⟩

set_option maxHeartbeats 400000 in
theorem few_any (A : Option Addr) (c : Nat) (zs : List Nat) (w : World) (h : Rd w A zs) (hm : zs.length ≤ 12) :
    Calls Tryd.prog 12 #[nt A zs.length c] w fun e w' => e = .returned (.bool (decide (Nm.tlen zs = zs.length))) ∧ Below w.heap.size w w' := by
  go_enter Tryd.func12, Tryd.ntmps12
  go_wp2_with fail
  refine (refValid_any A c zs _ (h.alloc _) (by omega)).mono ?_
  rintro e w' ⟨rfl, hb⟩
  go_wp2_with fail
  go_ret
  exact ⟨rfl, up (one _ _) hb⟩
set_option maxHeartbeats 400000 in
theorem few_long (A : Option Addr) (n c : Nat) (w : World) (hm : 12 < n) :
    Calls Tryd.prog 12 #[nt A n c] w fun e w' => e = .returned (.bool false) ∧ Below w.heap.size w w' := by
  go_enter Tryd.func12, Tryd.ntmps12
  go_wp2
  go_ret
  exact ⟨rfl, one _ _⟩
set_option maxHeartbeats 400000 in
theorem isNaN_any (a : Int) (w : World) : Calls Tryd.prog 58 #[.int .i64 a] w fun e w' => e = .returned (.bool false) ∧ w = w' := by
  go_enter Tryd.func58, Tryd.ntmps58
  go_wp2
  go_ret
  exact ⟨by simp, rfl⟩
set_option maxHeartbeats 400000 in
theorem isNaN32_any (a : Int) (w : World) : Calls Tryd.prog 59 #[.int .u32 a] w fun e w' => e = .returned (.bool false) ∧ w = w' := by
  go_enter Tryd.func59, Tryd.ntmps59
  go_wp2
  go_ret
  exact ⟨by simp, rfl⟩
def cmpI (a b : Int) : Int := if a < b then -1 else if b < a then 1 else 0
set_option maxHeartbeats 400000 in
theorem compare_any (a b : Int) (w : World) :
    Calls Tryd.prog 43 #[.int .i64 a, .int .i64 b] w fun e w' => e = .returned (.int .i64 (cmpI a b)) ∧ w = w' := by
  go_enter Tryd.func43, Tryd.ntmps43
  go_wp2_with (go_at_call 58; refine (isNaN_any _ _).mono ?_; rintro e w' ⟨rfl, rfl⟩)
  all_goals (go_ret; exact ⟨by unfold cmpI; simp [*]; try omega, rfl⟩)
set_option maxHeartbeats 400000 in
theorem compare32_any (a b : Int) (w : World) :
    Calls Tryd.prog 44 #[.int .u32 a, .int .u32 b] w fun e w' => e = .returned (.int .i64 (cmpI a b)) ∧ w = w' := by
  go_enter Tryd.func44, Tryd.ntmps44
  go_wp2_with (go_at_call 59; refine (isNaN32_any _ _).mono ?_; rintro e w' ⟨rfl, rfl⟩)
  all_goals (go_ret; exact ⟨by unfold cmpI; simp [*]; try omega, rfl⟩)
end Go.Proofs.YtaiceebhifecbaaDoor

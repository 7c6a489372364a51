/-
  Contracts of Valid, Of, Clone, Copy and Cmp. Conditions: slices of at most 1000 digits.
-/
import Derived.Test.YtaiceebhifecbaaDoorT2
namespace Go.Proofs.YtaiceebhifecbaaDoor
open Go.RowKit
set_option maxHeartbeats 400000 in
theorem valid_any (A : Option Addr) (c : Nat) (zs : List Nat) (w : World) (h : Rd w A zs) (hc : zs.length ≤ c) (hm : zs.length ≤ 1000) :
    Calls Tryd.prog 26 #[nt A zs.length c] w fun e w' => e = .returned (.bool (decide (Nm.tlen zs = zs.length))) ∧ Below w.heap.size w w' := by
  have ht := Nm.tlen_le zs
  go_enter Tryd.func26, Tryd.ntmps26
  go_wp2_with fail
  go_quiet ((go_at_call 38; exact Calls.quiet_of_same (((trim_any A c zs _ ((h.alloc _).drewN _) hc hm).mono (fun _ _ ⟨a, b⟩ => ⟨a, b.symm⟩)))))
  go_wp2
  go_ret
  exact ⟨ret_bool (by simp [Bool.beq_eq_decide_eq, Int.natCast_inj]), below_drewN (one _ _) _⟩

set_option maxHeartbeats 400000 in
theorem fromDigits_fr (B : Nat) (A : Option Addr) (c : Nat) (zs : List Nat) (w : World) (h : Fr B w A zs) (hd : Nm.Dig zs) (hc : zs.length ≤ c) (hm : zs.length ≤ 1000) :
    Calls Tryd.prog 40 #[.slice A zs.length c] w fun e w' => e = .returned (nt A (Nm.nat (Nm.val zs)).length (Nm.nat (Nm.val zs)).length) ∧ Fr B w' A (Nm.nat (Nm.val zs)) ∧ Below w.heap.size w w' := by
  refine (fromDigits_any A c zs w h.rd hc hm).mono ?_
  rintro e w' ⟨rfl, hb⟩
  refine ⟨by rw [Nm.tlen_eq hd], ?_, hb⟩
  rw [← Nm.trim_eq hd]
  exact (h.below hb).take _

set_option maxHeartbeats 400000 in
theorem of_any (n : Nat) (w : World) (hn : n < 18446744073709551616) :
    Calls Tryd.prog 25 #[.int .u64 n] w fun e w' => ∃ A c, e = .returned (nt A (Nm.nat n).length c) ∧ (Nm.nat n).length ≤ c ∧ Fr w.heap.size w' A (Nm.nat n) ∧ Below w.heap.size w w' := by
  have hv : Nm.val [n % 4294967296, n / 4294967296] = n := by simp only [Nm.val]; omega
  have hd : Nm.Dig [n % 4294967296, n / 4294967296] := Nm.Dig.mk (by omega) (Nm.Dig.mk (by omega) Nm.Dig.nil)
  have Hv := Lib.hid hv
  clear hv
  go_enter Tryd.func25, Tryd.ntmps25
  go_wp2_with fail
  have ho := Row.new (w.alloc (Obj.cells #[Value.slice none 0 0] 24)) 35 #[Value.int IntKind.u32 (↑n % 4294967296), Value.int IntKind.u32 (↑n / 4294967296)] [n % 4294967296, n / 4294967296] (by
    intro i hi
    match i, hi with
    | 0, _ => simp
    | 1, _ => simp)
  refine (fromDigits_fr (w.heap.size + 1) (some ⟨w.heap.size + 1, 0, none⟩) 2 [n % 4294967296, n / 4294967296] _ (.inr ⟨_, _, rfl, Nat.le_refl _, by simpa using ho⟩) hd (by simp) (by simp)).mono ?_
  rintro e w' ⟨rfl, hf, hb⟩
  rw [Hv.out] at hf
  rw [Hv.out]
  obtain ⟨k1, k2⟩ := seen hb
  have hcell : w'.cell? ⟨w.heap.size, 0, none⟩ = some (.slice none 0 0) := by
    rw [k1 _ _ (by simp; omega)]
    simp [World.cell?_alloc_lt]
  clear hn
  go_wp2
  refine bodyPost_ret (v := nt (some ⟨w.heap.size + 1, 0, none⟩) (Nm.nat n).length (Nm.nat n).length) (by simp [results, Tryd.results25, go_sem, hcell]) rfl ⟨_, _, rfl, Nat.le_refl _, ?_, ?_⟩
  · exact (hf.mono (by omega)).setCell hcell (by simp)
  · exact (up (two _ _ _) hb).setCell (Nat.le_refl _) _

set_option maxHeartbeats 400000 in
theorem clone_any (A : Option Addr) (n : Nat) (zs : List Nat) (w : World) (h : Rd w A zs) (hc : zs.length = n) (hm : zs.length ≤ 1000) :
    Calls Tryd.prog 37 #[.slice A n n] w fun e w' => ∃ A' c', e = .returned (.slice A' n c') ∧ n ≤ c' ∧ Fr w.heap.size w' A' zs ∧ Below w.heap.size w w' := by
  subst hc
  cases A with
  | none =>
    have hz : zs = [] := by
      rcases h with h | ⟨g, off, h, _⟩
      · exact h
      · cases h
    subst hz
    have hnil := Lib.run_eql_slice_nil (P := Tryd.prog) w 22 35 none 0 0 0 0 Tryd.underlying22
    go_enter Tryd.func37, Tryd.ntmps37
    go_wp2
    go_ret
    exact ⟨none, 0, rfl, Nat.le_refl _, Fr.nil _ _ _, Below.refl _ _⟩
  | some a =>
    have hnil := Lib.run_eql_slice_nil (P := Tryd.prog) w 22 35 (some a) zs.length zs.length 0 0 Tryd.underlying22
    go_enter Tryd.func37, Tryd.ntmps37
    go_wp2_with (at_builtin
                 refine wpList_tight rfl (.tmp 5) (.tmp 6) rfl _ (some a) [] zs 0 zs.length rfl rfl (Rd.nil _ _) rfl (h.alloc _) (by simp) (by omega) (.inr rfl) ?_
                 intro A' c' w' hc hf hb)
    go_ret
    exact ⟨A', c', by simp, by omega, (by simpa using hf : Fr _ _ _ zs).mono (by simp), up (one _ _) hb⟩
set_option maxHeartbeats 400000 in
theorem copy_any (A : Option Addr) (c : Nat) (zs : List Nat) (w : World) (h : Rd w A zs) (hm : zs.length ≤ 1000) :
    Calls Tryd.prog 35 #[nt A zs.length c] w fun e w' => ∃ A' c', e = .returned (nt A' zs.length c') ∧ zs.length ≤ c' ∧ Fr w.heap.size w' A' zs ∧ Below w.heap.size w w' := by
  go_enter Tryd.func35, Tryd.ntmps35
  go_wp2_with (at_builtin
               refine wpList_tight rfl (.tmp 4) (.tmp 6) rfl none A [] zs 0 c rfl rfl (Rd.nil _ _) rfl ((h.alloc _).alloc _) (by simp) (by omega) (.inr rfl) ?_
               intro A' c' w' hc hf hb
               obtain ⟨k1, k2⟩ := seen hb)
  have hcell : w'.cell? ⟨w.heap.size + 1, 0, none⟩ = some (.slice none 0 0) := by rw [k1 _ _ (by simp)]; simp
  refine bodyPost_ret (v := nt A' zs.length c') (by simp [results, Tryd.results35, go_sem, k1]) rfl ⟨A', c', rfl, by omega, ?_, ?_⟩
  · exact ((by simpa using hf : Fr _ _ _ zs).mono (by omega)).setCell hcell (by simp)
  · exact (up (two _ _ _) hb).setCell (by show w.heap.size ≤ w.heap.size + 1; omega) _
end Go.Proofs.YtaiceebhifecbaaDoor

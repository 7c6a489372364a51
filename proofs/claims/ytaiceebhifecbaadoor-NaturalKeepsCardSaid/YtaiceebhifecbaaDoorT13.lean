/-
  Contract of DivMod, out of that of divide. Conditions: slices of at most 900 digits.
-/
import Derived.Test.YtaiceebhifecbaaDoorT12
namespace Go.Proofs.YtaiceebhifecbaaDoor
open Go.RowKit
theorem four_cells (w : World) (a b c d : Value) (t : TypeId) : ∃ W, (((w.alloc (Obj.cells #[a] t)).alloc (Obj.cells #[b] t)).alloc (Obj.cells #[c] t)).alloc (Obj.cells #[d] t) = W ∧ W.heap.size = w.heap.size + 1 + 1 + 1 + 1 ∧
    W.cell? ⟨w.heap.size, 0, none⟩ = some a ∧ W.cell? ⟨w.heap.size + 1, 0, none⟩ = some b ∧ W.cell? ⟨w.heap.size + 1 + 1, 0, none⟩ = some c ∧ W.frozen? ⟨w.heap.size + 1 + 1, 0, none⟩ = false ∧
    W.cell? ⟨w.heap.size + 1 + 1 + 1, 0, none⟩ = some d ∧ W.frozen? ⟨w.heap.size + 1 + 1 + 1, 0, none⟩ = false ∧ Below w.heap.size w W := by
  obtain ⟨V, hV, hs, h0, h1, h2, hf, hb⟩ := three_cells w a b c t
  rw [hV]
  have hk : Below V.heap.size V (V.alloc (Obj.cells #[d] t)) := one _ _
  obtain ⟨k1, k2⟩ := seen hk
  refine ⟨_, rfl, by simp [hs], (k1 _ _ (by omega)).trans h0, (k1 _ _ (by omega)).trans h1, (k1 _ _ (by omega)).trans h2, (k2 _ _ (by omega)).trans hf, ?_, ?_, up hb hk⟩
  · rw [← hs]; simp
  · rw [← hs]; simp
set_option maxHeartbeats 400000 in
theorem divMod_zero (A B : Option Addr) (c d : Nat) (xs ys : List Nat) (w : World) (hx : Rd w A xs) (hy : Rd w B ys) (hc : xs.length ≤ c) (hd : ys.length ≤ d) (hm : xs.length ≤ 900) (hn : ys.length ≤ 900) (h0 : Nm.tlen ys = 0) :
    Calls Tryd.prog 28 #[nt A xs.length c, nt B ys.length d] w fun e w' => e = .returned (.tuple #[nt none 0 0, nt none 0 0, .int .i64 8]) ∧ Below w.heap.size w w' := by
  obtain ⟨W, hW, hWs, hW0, hW1, hW2, hWf2, hW3, hWf3, hWb⟩ := four_cells w (Value.slice A xs.length c) (Value.slice B ys.length d) (Value.slice none 0 0) (Value.slice none 0 0) 24
  have hx' := hx.below hWb
  have hy' := hy.below hWb
  have htx := Nm.tlen_le xs
  obtain ⟨m, hmx⟩ : ∃ m, Nm.tlen xs = m := ⟨_, rfl⟩
  have QX := trim_q hx' hc (by omega) hmx
  have QY := trim_q hy' hd (by omega) h0
  have HWs := Lib.hid hWs
  clear hWs h0 hmx htx hx hy hx' hy'
  go_enter Tryd.func28, Tryd.ntmps28
  go_wp2_with fail
  go_quiet ((first | (go_at_call 38; with_reducible exact QX.out _) | (go_at_call 38; with_reducible exact QY.out _)))
  go_wp2_with fail
  clear hW
  refine bodyPost_ret (v := .tuple #[nt none 0 0, nt none 0 0, .int .i64 8]) (by simp [results, Tryd.results28, go_sem, hW2, hW3]) rfl ⟨rfl, ?_⟩
  exact ((below_drewN hWb _).setCell (by show w.heap.size ≤ w.heap.size + 1 + 1; omega) _).setCell (by show w.heap.size ≤ w.heap.size + 1 + 1 + 1; omega) _
set_option maxHeartbeats 400000 in
theorem divMod_any (L : Nat) (hL : DivOk L) (A B : Option Addr) (c d : Nat) (xs ys : List Nat) (w : World) (hx : Rd w A xs) (hy : Rd w B ys) (hxd : Nm.Dig xs) (hyd : Nm.Dig ys) (hc : xs.length ≤ c) (hd : ys.length ≤ d) (hm : xs.length ≤ 900) (hn : ys.length ≤ 900)
    (h0 : 0 < Nm.tlen ys) (h1 : Nm.tlen ys ≤ L) :
    Calls Tryd.prog 28 #[nt A xs.length c, nt B ys.length d] w fun e w' => ∃ A1 c1 A2 c2, e = .returned (.tuple #[nt A1 (Nm.nat (Nm.val xs / Nm.val ys)).length c1, nt A2 (Nm.nat (Nm.val xs % Nm.val ys)).length c2, .int .i64 0]) ∧
      (Nm.nat (Nm.val xs / Nm.val ys)).length ≤ c1 ∧ (Nm.nat (Nm.val xs % Nm.val ys)).length ≤ c2 ∧ Fr w.heap.size w' A1 (Nm.nat (Nm.val xs / Nm.val ys)) ∧ Fr w.heap.size w' A2 (Nm.nat (Nm.val xs % Nm.val ys)) ∧ Below w.heap.size w w' := by
  obtain ⟨W, hW, hWs, hW0, hW1, hW2, hWf2, hW3, hWf3, hWb⟩ := four_cells w (Value.slice A xs.length c) (Value.slice B ys.length d) (Value.slice none 0 0) (Value.slice none 0 0) 24
  have hx' := hx.below hWb
  have hy' := hy.below hWb
  have htx := Nm.tlen_le xs
  have hty := Nm.tlen_le ys
  obtain ⟨m, hmx⟩ : ∃ m, Nm.tlen xs = m := ⟨_, rfl⟩
  obtain ⟨n, hny⟩ : ∃ n, Nm.tlen ys = n := ⟨_, rfl⟩
  have QX := trim_q hx' hc (by omega) hmx
  have QY := trim_q hy' hd (by omega) hny
  obtain ⟨X, hX⟩ : ∃ X, xs.take m = X := ⟨_, rfl⟩
  obtain ⟨Y, hY⟩ : ∃ Y, ys.take n = Y := ⟨_, rfl⟩
  have hXl : X.length = m := by rw [← hX, List.length_take]; omega
  have hYl : Y.length = n := by rw [← hY, List.length_take]; omega
  have rX : Rd W A X := by rw [← hX]; exact hx'.take m
  have rY : Rd W B Y := by rw [← hY]; exact hy'.take n
  have dX : Nm.Dig X := by rw [← hX]; exact hxd.take m
  have dY : Nm.Dig Y := by rw [← hY]; exact hyd.take n
  have vX : Nm.val X = Nm.val xs := by rw [← hX, ← hmx]; exact Nm.val_tlen xs
  have vY : Nm.val Y = Nm.val ys := by rw [← hY, ← hny]; exact Nm.val_tlen ys
  have tY : Nm.tlen Y = n := by rw [Nm.tlen_eq dY, vY, ← Nm.tlen_eq hyd, hny]
  rw [hmx] at htx
  rw [hny] at hty h0 h1
  have hdiv : Hid (∀ V, Below W.heap.size W V → Calls Tryd.prog 48 #[.slice A m m, .slice B n n] V (DivPost V X Y)) := fun V hV => hL A B X Y m n V (rX.below hV) (rY.below hV) dX dY hXl hYl (by omega) h0 h1 tY
  have hb0 : ((n : Int) == 0) = false := digit_ne (by omega)
  have HWs := Lib.hid hWs
  have HXl := Lib.hid hXl
  have HYl := Lib.hid hYl
  have VX := Lib.hid vX
  have VY := Lib.hid vY
  clear hXl hYl vX vY hX hY hmx hny hx hy hx' hy' hxd hyd hWs tY
  go_enter Tryd.func28, Tryd.ntmps28
  go_wp2_with fail
  go_quiet ((first | (go_at_call 38; with_reducible exact QX.out _) | (go_at_call 38; with_reducible exact QY.out _)))
  go_wp2_with fail
  refine (hdiv.out _ (below_drewN (Below.refl _ _) _)).mono ?_
  rintro e w1 ⟨A1, A2, c1, c2, qs, rs, rfl, hc1, hc2, hq9, hr9, hqd, hrd, hf1, hf2, hv, hb⟩
  go_wp2_with fail
  have hval : Nm.val qs = Nm.val xs / Nm.val ys ∧ Nm.val rs = Nm.val xs % Nm.val ys := by
    have h2 := hv.out
    rw [VX.out, VY.out] at h2
    obtain ⟨h2, h3⟩ := h2
    constructor
    · rw [h2, Nat.mul_comm, Nat.mul_add_div (by omega), Nat.div_eq_of_lt h3, Nat.add_zero]
    · rw [h2, Nat.mul_comm, Nat.mul_add_mod, Nat.mod_eq_of_lt h3]
  have Hv := Lib.hid hval
  have hql : qs.length ≤ 1000 := by have := HXl.out; omega
  have hrl : rs.length ≤ 1000 := by have := HXl.out; have := HYl.out; omega
  clear hval hq9 hr9
  have hb1 : Below W.heap.size W w1 := up (below_drewN (Below.refl _ _) _) hb
  refine (fromDigits_n W.heap.size A1 qs.length c1 qs _ hf1 hqd rfl hc1 hql).mono ?_
  rintro e w2 ⟨rfl, hf3, hb3⟩
  have hf2' := hf2.below hb3
  have hb2 := up hb1 hb3
  go_wp2_with fail
  refine (fromDigits_n W.heap.size A2 rs.length c2 rs _ hf2' hrd rfl hc2 hrl).mono ?_
  rintro e w3 ⟨rfl, hf4, hb4⟩
  have hf3' := hf3.below hb4
  have hb5 := up hb2 hb4
  rw [Hv.out.1] at hf3' ⊢
  rw [Hv.out.2] at hf4 ⊢
  obtain ⟨k1, k2⟩ := seen hb5
  have e2 : w3.cell? ⟨w.heap.size + 1 + 1, 0, none⟩ = some (.slice none 0 0) := (k1 _ _ (by rw [HWs.out]; omega)).trans hW2
  have e3 : w3.cell? ⟨w.heap.size + 1 + 1 + 1, 0, none⟩ = some (.slice none 0 0) := (k1 _ _ (by rw [HWs.out]; omega)).trans hW3
  have f2 : w3.frozen? ⟨w.heap.size + 1 + 1, 0, none⟩ = false := (k2 _ _ (by rw [HWs.out]; omega)).trans hWf2
  have f3 : w3.frozen? ⟨w.heap.size + 1 + 1 + 1, 0, none⟩ = false := (k2 _ _ (by rw [HWs.out]; omega)).trans hWf3
  clear k1 k2 hW hW0 hW1 hW2 hWf2 hW3 hWf3
  go_wp2_with fail
  refine bodyPost_ret (v := .tuple #[nt A1 (Nm.nat (Nm.val xs / Nm.val ys)).length (Nm.nat (Nm.val xs / Nm.val ys)).length, nt A2 (Nm.nat (Nm.val xs % Nm.val ys)).length (Nm.nat (Nm.val xs % Nm.val ys)).length, .int .i64 0]) (by simp [results, Tryd.results28, go_sem, e2, e3]) rfl
    ⟨_, _, _, _, rfl, Nat.le_refl _, Nat.le_refl _, ?_, ?_, ?_⟩
  · have e3' : (w3.setCell ⟨w.heap.size + 1 + 1, 0, none⟩ (.slice A1 (Nm.nat (Nm.val xs / Nm.val ys)).length (Nm.nat (Nm.val xs / Nm.val ys)).length)).cell? ⟨w.heap.size + 1 + 1 + 1, 0, none⟩ = some (.slice none 0 0) := by
      rw [World.cell?_setCell_other _ _ _ _ (by intro e; injection e; omega)]; exact e3
    exact ((hf3'.mono hWb.size).setCell e2 (by simp)).setCell e3' (by simp)
  · have e3' : (w3.setCell ⟨w.heap.size + 1 + 1, 0, none⟩ (.slice A1 (Nm.nat (Nm.val xs / Nm.val ys)).length (Nm.nat (Nm.val xs / Nm.val ys)).length)).cell? ⟨w.heap.size + 1 + 1 + 1, 0, none⟩ = some (.slice none 0 0) := by
      rw [World.cell?_setCell_other _ _ _ _ (by intro e; injection e; omega)]; exact e3
    exact ((hf4.mono hWb.size).setCell e2 (by simp)).setCell e3' (by simp)
  · exact ((up hWb hb5).setCell (by show w.heap.size ≤ w.heap.size + 1 + 1; omega) _).setCell (by show w.heap.size ≤ w.heap.size + 1 + 1 + 1; omega) _
end Go.Proofs.YtaiceebhifecbaaDoor

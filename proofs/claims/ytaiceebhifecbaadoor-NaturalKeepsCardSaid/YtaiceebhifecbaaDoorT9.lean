/-
  Contract of Mul. Conditions: slices of at most 400 digits.
-/
import Derived.Test.YtaiceebhifecbaaDoorMul
namespace Go.Proofs.YtaiceebhifecbaaDoor
open Go.RowKit
theorem addTimes_n (g off n c : Nat) (B : Option Addr) (m d f : Nat) (zs ys : List Nat) (w : World) (ho : Own w g off zs) (hy : Rd w B ys) (hfar : Off g B ys) (hzd : Nm.Dig zs) (hyd : Nm.Dig ys) (hl0 : zs.length = n) (hyl : ys.length = n) (hmn : m = n) (hm : n ≤ 1000) (hf : f < 4294967296) :
    Calls Tryd.prog 46 #[.slice (some ⟨g, off, none⟩) n c, .slice B m d, .int .u32 f] w fun e w' => ∃ (rs : List Nat) (o : Nat), e = .returned (.int .u32 o) ∧ Hid (rs.length = n) ∧ Nm.Dig rs ∧ o < 4294967296 ∧ Hid (Nm.val rs + 4294967296 ^ n * o = Nm.val zs + Nm.val ys * f) ∧ Wr w w' g off rs := by
  subst hmn hyl
  exact addTimes_any g off c B d f zs ys w ho hy hfar hzd hyd hl0 hm hf
set_option maxHeartbeats 400000 in
theorem mul_any (A B : Option Addr) (c d : Nat) (xs ys : List Nat) (w : World) (hx : Rd w A xs) (hy : Rd w B ys) (hxd : Nm.Dig xs) (hyd : Nm.Dig ys) (hc : xs.length ≤ c) (hd : ys.length ≤ d) (hm : xs.length ≤ 400) (hn : ys.length ≤ 400) :
    Calls Tryd.prog 21 #[nt A xs.length c, nt B ys.length d] w fun e w' => ∃ A' c', e = .returned (nt A' (Nm.nat (Nm.val xs * Nm.val ys)).length c') ∧ (Nm.nat (Nm.val xs * Nm.val ys)).length ≤ c' ∧ Fr w.heap.size w' A' (Nm.nat (Nm.val xs * Nm.val ys)) ∧ Below w.heap.size w w' := by
  obtain ⟨W, hW, hWs, hW0, hW1, hW2, hWf, hWb⟩ := three_cells w (Value.slice A xs.length c) (Value.slice B ys.length d) (Value.slice none 0 0) 24
  have hx' := hx.below hWb
  have hy' := hy.below hWb
  have htx := Nm.tlen_le xs
  have hty := Nm.tlen_le ys
  obtain ⟨m, hmx⟩ : ∃ m, Nm.tlen xs = m := ⟨_, rfl⟩
  obtain ⟨n, hny⟩ : ∃ n, Nm.tlen ys = n := ⟨_, rfl⟩
  have QX := trim_q hx' hc (by omega) hmx
  have QY := trim_q hy' hd (by omega) hny
  obtain ⟨X, hX⟩ : ∃ X, xs.take m = X := ⟨_, rfl⟩
  obtain ⟨Y, hY⟩ : ∃ Y, ys.take n = Y := ⟨_, rfl⟩
  have hXl : X.length = m := by rw [← hX, List.length_take]; omega
  have hYl : Y.length = n := by rw [← hY, List.length_take]; omega
  have rX : Rd W A X := by rw [← hX]; exact hx'.take m
  have rY : Rd W B Y := by rw [← hY]; exact hy'.take n
  have dX : Nm.Dig X := by rw [← hX]; exact hxd.take m
  have dY : Nm.Dig Y := by rw [← hY]; exact hyd.take n
  have vX : Nm.val X = Nm.val xs := by rw [← hX, ← hmx]; exact Nm.val_tlen xs
  have vY : Nm.val Y = Nm.val ys := by rw [← hY, ← hny]; exact Nm.val_tlen ys
  rw [hmx] at htx
  rw [hny] at hty
  have HWs := Lib.hid hWs
  have HXl := Lib.hid hXl
  have HYl := Lib.hid hYl
  have VX := Lib.hid vX
  have VY := Lib.hid vY
  have hmk := fun W => make32 (m + n) (m + n) (Nat.le_refl _) (by omega) ((m : Int) + (n : Int)) ((m : Int) + (n : Int)) (by omega) (by omega) W
  clear hXl hYl vX vY hX hY hmx hny hx hy hx' hy' hxd hyd hWs
  go_enter Tryd.func21, Tryd.ntmps21
  go_wp2_with fail
  go_quiet ((first | (go_at_call 38; with_reducible exact QX.out _) | (go_at_call 38; with_reducible exact QY.out _)))
  go_wp2_with fail
  have hbase : Below W.heap.size W ((W.drewN nq).alloc (Obj.cells (madeCells #[Value.int IntKind.u32 0] (m + n)) 35)) := (below_drewN (Below.refl _ _) _).alloc (Nat.le_refl _) _
  go_loopw [24] (fun i wr => ∃ (k : Nat) (ps : List Nat), k ≤ m ∧ i = .int .i64 k ∧ Hid (ps.length = m + n) ∧ Nm.Dig ps ∧ Hid (∀ j, k + n ≤ j → j < m + n → ps[j]? = some 0) ∧ Hid (Nm.val ps = Nm.val (X.take k) * Nm.val Y) ∧ Own wr W.heap.size 0 ps ∧ Below W.heap.size W wr) (fun i _ => m - (intOf i).toNat)
  case atStart => exact ⟨0, List.replicate (m + n) 0, Nat.zero_le _, rfl, by show _ = _; simp, Nm.dig_replicate _, fun j _ hj => by rw [List.getElem?_replicate, if_pos hj], by show _ = _; rw [Nm.val_replicate]; simp [Nm.val], own_made (W.drewN nq) (m + n), hbase⟩
  case round =>
    obtain ⟨k, ps, hk, rfl, hl, hpd, hz, hv, hown, hb⟩ := hrel
    by_cases hlt : k < m
    · obtain ⟨g', off', hA, hr⟩ := (rX.below hb).at_ (i := k) (by rw [HXl.out]; exact hlt)
      have hkX : k < X.length := by rw [HXl.out]; exact hlt
      have c2 := hr k hkX
      obtain ⟨x, hx⟩ : ∃ x, X[k] = x := ⟨_, rfl⟩
      rw [hx] at c2
      have hxlt : x < 4294967296 := by rw [← hx]; exact dX.at_ hkX
      have Hx := Lib.hid hx
      have hsl := fun V => slice32 W.heap.size 0 (m + n) (m + n) k (k + n) (k : Int) ((k : Int) + (n : Int)) rfl (by omega) (by omega) (by omega) (by omega) V
      have hix := fun V => index32 V W.heap.size 0 (m + n) (m + n) (k + n) ((k : Int) + (n : Int)) (by omega) (by omega)
      subst hA
      clear hr hx
      go_wp2_with fail
      refine (addTimes_n W.heap.size k n (m + n - k) B n n x ((ps.drop k).take n) Y wr (by have := hown.part k n; rwa [Nat.zero_add] at this) (rY.below hb) (rY.offOf (Nat.le_refl _)) ((hpd.drop k).take n) dY (by have := hl.out; simp; omega) HYl.out rfl (by omega) hxlt).mono ?_
      rintro e w2 ⟨rs, o, rfl, hrl, hrd, ho1, hv2, hwr⟩
      have hown2 := hown.splice (k := k) (by rw [Nat.zero_add]; exact hwr) (by rw [hrl.out, hl.out]; omega)
      rw [hrl.out] at hown2
      have hlen2 : (ps.take k ++ rs ++ ps.drop (k + n)).length = m + n := by have := hl.out; have := hrl.out; simp; omega
      have hb2 : Below W.heap.size W w2 := hwr.below hb (Nat.le_refl _) hb.size
      obtain ⟨v3, c3⟩ : ∃ v3 : Nat, w2.cell? ⟨W.heap.size, 0 + (k + n), none⟩ = some (.int .u32 (v3 : Int)) := ⟨_, hown2.1 (k + n) (by rw [hlen2]; omega)⟩
      have f3 := hown2.2 (k + n) (by rw [hlen2]; omega)
      rw [Nat.zero_add] at c3 f3
      have hval := Nm.mul_step hl.out (by omega) hrl.out hz.out hv2.out
      have Hval := Lib.hid hval
      have Hlen2 := Lib.hid hlen2
      clear hval hlen2
      go_wp2_with fail
      go_roundw
      case rel =>
        refine ⟨k + 1, (ps.take k ++ rs ++ ps.drop (k + n)).set (k + n) o, by omega, by go_num, ?_, ?_, ?_, ?_, ?_, ?_⟩
        · show _ = _; rw [List.length_set]; exact Hlen2.out
        · exact (((hpd.take k).append hrd).append (hpd.drop _)).set _ ho1
        · intro j hj1 hj2
          rw [List.getElem?_set_ne (by omega), List.getElem?_append_right (by have := hl.out; have := hrl.out; simp; omega), List.getElem?_drop]
          have := hz.out j (by omega) hj2
          rw [← this]
          congr 1
          have := hl.out; have := hrl.out
          simp; omega
        · show _ = _
          rw [Hval.out, hv.out, Nm.val_take_succ X k hkX, Hx.out, Nat.add_mul, Nat.mul_assoc]
        · have := hown2.set (k + n) o
          rwa [Nat.zero_add] at this
        · exact hb2.setCell (Nat.le_refl _) _
      case measure => simp [intOf]; omega
    · have hkk : k = m := by omega
      have hval : Nm.val ps = Nm.val xs * Nm.val ys := by
        have h1 := hv.out
        rw [hkk, List.take_of_length_le (Nat.le_of_eq HXl.out), VX.out, VY.out] at h1
        exact h1
      have Hval := Lib.hid hval
      clear hkk hval
      go_wp2_with fail
      refine (fromDigits_n W.heap.size (some ⟨W.heap.size, 0, none⟩) (m + n) (m + n) ps _ (.inr ⟨_, _, rfl, Nat.le_refl _, hown⟩) hpd hl.out (Nat.le_refl _) (by omega)).mono ?_
      rintro e w5 ⟨rfl, hf5, hb5⟩
      rw [Hval.out] at hf5 ⊢
      have hb5' : Below W.heap.size W w5 := up hb hb5
      obtain ⟨k1, k2⟩ := seen hb5'
      have hc5 : w5.cell? ⟨w.heap.size + 1 + 1, 0, none⟩ = some (.slice none 0 0) := (k1 _ _ (by rw [HWs.out]; omega)).trans hW2
      have hf6 : w5.frozen? ⟨w.heap.size + 1 + 1, 0, none⟩ = false := (k2 _ _ (by rw [HWs.out]; omega)).trans hWf
      clear k1 k2 hW hW0 hW1 hW2 hWf
      go_wp2_with fail
      refine bodyPost_ret (v := nt (some ⟨W.heap.size, 0, none⟩) (Nm.nat (Nm.val xs * Nm.val ys)).length (Nm.nat (Nm.val xs * Nm.val ys)).length) (by simp [results, Tryd.results21, go_sem, hc5]) rfl ⟨_, _, rfl, Nat.le_refl _, ?_, ?_⟩
      · exact (hf5.mono hWb.size).setCell hc5 (by simp)
      · exact (up hWb hb5').setCell (by show w.heap.size ≤ w.heap.size + 1 + 1; omega) _
end Go.Proofs.YtaiceebhifecbaaDoor

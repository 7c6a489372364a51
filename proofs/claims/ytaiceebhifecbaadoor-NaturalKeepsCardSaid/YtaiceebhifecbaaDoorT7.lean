/-
  Contract of Sub. Conditions: slices of at most 900 digits.
-/
import Derived.Test.YtaiceebhifecbaaDoorT6
namespace Go.Proofs.YtaiceebhifecbaaDoor
open Go.RowKit
theorem sub_fits {xs ys rs : List Nat} {m n o : Nat} (hxd : Nm.Dig xs) (hyd : Nm.Dig ys) (hrd : Nm.Dig rs) (hm : Nm.tlen xs = m) (hn : Nm.tlen ys = n) (hl : rs.length = m) (ho : o ≤ 1) (hle : Nm.val ys ≤ Nm.val xs)
    (h : Nm.val rs + Nm.val ((ys.take n).take m) = Nm.val (xs.take m) + 4294967296 ^ m * o) : Nm.val rs = Nm.val xs - Nm.val ys := by
  have hnm : n ≤ m := by
    rcases Nat.lt_or_ge m n with h1 | h1
    · have e1 := Nm.tlen_eq hxd
      have e2 := Nm.tlen_eq hyd
      have := Nm.lt_of_len (a := Nm.val xs) (b := Nm.val ys) (by omega)
      omega
    · exact h1
  rw [List.take_of_length_le (l := ys.take n) (by rw [List.length_take]; omega)] at h
  rw [← hm, ← hn, Nm.val_tlen, Nm.val_tlen, hm] at h
  have h1 := Nm.val_lt hrd
  rw [hl] at h1
  generalize 4294967296 ^ m = P at h h1
  generalize Nm.val xs = x at *
  generalize Nm.val ys = y at *
  generalize Nm.val rs = r at *
  rcases Nat.eq_zero_or_pos o with h5 | h5
  · rw [h5, Nat.mul_zero] at h
    omega
  · obtain rfl : o = 1 := by omega
    rw [Nat.mul_one] at h
    omega
set_option maxHeartbeats 400000 in
theorem subtractFrom_nil (A B : Option Addr) (c m d : Nat) (w : World) :
    Calls Tryd.prog 39 #[.slice A 0 c, .slice B m d] w fun e w' => e = .returned (.tuple #[]) ∧ w = w' := by
  go_enter Tryd.func39, Tryd.ntmps39
  go_wp2_with fail
  go_loop [9] (fun i => i = .int .i64 0) (fun _ => 0)
  case atStart => rfl
  case round =>
    subst hrel
    go_wp2_with fail
    go_end0
    exact ⟨rfl, rfl⟩
/-- The slice lies in old memory: in no block from Bs on. -/
def Old (Bs : Nat) (A : Option Addr) (zs : List Nat) : Prop := ∀ g, Bs ≤ g → Off g A zs
theorem Rd.old {w : World} {A : Option Addr} {zs : List Nat} (h : Rd w A zs) : Old w.heap.size A zs := fun _ hg => h.offOf hg
theorem subtractFrom_fr (Bs : Nat) (A B : Option Addr) (n c m d : Nat) (zs ys : List Nat) (w : World) (h : Fr Bs w A zs) (hy : Rd w B ys) (hf : Old Bs B ys) (hzd : Nm.Dig zs) (hyd : Nm.Dig ys) (hzn : zs.length = n) (hym : ys.length = m) (hm : n ≤ 1000) (hn : m ≤ 1000) (hB : Bs ≤ w.heap.size) :
    Calls Tryd.prog 39 #[.slice A n c, .slice B m d] w fun e w' => ∃ (rs : List Nat) (o : Nat), e = .returned (.tuple #[]) ∧ Hid (rs.length = n) ∧ Nm.Dig rs ∧ o ≤ 1 ∧ Hid (Nm.val rs + Nm.val (ys.take n) = Nm.val zs + 4294967296 ^ n * o) ∧ Fr Bs w' A rs ∧ Below Bs w w' := by
  subst hzn hym
  rcases h with rfl | ⟨g, off, rfl, hg, ho⟩
  · refine (subtractFrom_nil A B c ys.length d w).mono ?_
    rintro e w' ⟨rfl, rfl⟩
    exact ⟨[], 0, rfl, rfl, Nm.Dig.nil, Nat.zero_le _, by show _ = _; simp [Nm.val], Fr.nil _ _ _, Below.refl _ _⟩
  · refine (subtractFrom_any g off c B d zs ys w ho hy (hf g hg) hzd hyd hm hn).mono ?_
    rintro e w' ⟨rs, o, rfl, h1, h2, h3, h4, h5⟩
    exact ⟨rs, o, rfl, h1, h2, h3, h4, .inr ⟨g, off, rfl, hg, h5.own⟩, h5.below (Below.refl _ _) hg hB⟩
theorem trim_n {A : Option Addr} {c m : Nat} {zs : List Nat} {w : World} (h : Rd w A zs) (hc : zs.length ≤ c) (hm : zs.length ≤ 1000) (ht : Hid (Nm.tlen zs = m)) :
    Calls Tryd.prog 38 #[.slice A zs.length c] w fun e w' => e = .returned (.slice A m m) ∧ w = w' := by
  have := trim_any A c zs w h hc hm; rwa [ht.out] at this
set_option maxHeartbeats 400000 in
theorem sub_any (A B : Option Addr) (c d : Nat) (xs ys : List Nat) (w : World) (hx : Rd w A xs) (hy : Rd w B ys) (hxd : Nm.Dig xs) (hyd : Nm.Dig ys) (hc : xs.length ≤ c) (hd : ys.length ≤ d) (hm : xs.length ≤ 900) (hn : ys.length ≤ 900) :
    Calls Tryd.prog 14 #[nt A xs.length c, nt B ys.length d] w fun e w' => ∃ A' c', e = .returned (.tuple #[nt A' (Nm.nat (Nm.val xs - Nm.val ys)).length c', .bool (decide (Nm.val ys ≤ Nm.val xs))]) ∧ (Nm.nat (Nm.val xs - Nm.val ys)).length ≤ c' ∧ Fr w.heap.size w' A' (Nm.nat (Nm.val xs - Nm.val ys)) ∧ Below w.heap.size w w' := by
  obtain ⟨W, hW, hWs, hW0, hW1, hW2, hWf, hWb⟩ := three_cells w (Value.slice A xs.length c) (Value.slice B ys.length d) (Value.slice none 0 0) 24
  have hx' := hx.below hWb
  have hy' := hy.below hWb
  have hcmp := Lib.hid (cmp_any A B c d xs ys W hx' hy' hxd hyd hc hd (by omega) (by omega))
  have HWs := Lib.hid hWs
  clear hWs
  by_cases hlt : Nm.val xs < Nm.val ys
  · have hci : cmpI (Nm.val xs) (Nm.val ys) = -1 := by unfold cmpI; rw [if_pos (by omega)]
    have h0 : Nm.val xs - Nm.val ys = 0 := by omega
    have h1 : decide (Nm.val ys ≤ Nm.val xs) = false := decide_eq_false (by omega)
    rw [hci] at hcmp
    rw [h0, h1, Nm.nat_zero]
    clear hci h0 h1
    go_enter Tryd.func14, Tryd.ntmps14
    go_wp2_with fail
    refine hcmp.out.mono ?_
    rintro e w1 ⟨rfl, hb⟩
    obtain ⟨k1, k2⟩ := seen hb
    have hc5 : w1.cell? ⟨w.heap.size + 1 + 1, 0, none⟩ = some (.slice none 0 0) := (k1 _ _ (by rw [HWs.out]; omega)).trans hW2
    have hf6 : w1.frozen? ⟨w.heap.size + 1 + 1, 0, none⟩ = false := (k2 _ _ (by rw [HWs.out]; omega)).trans hWf
    clear k1 k2 hW hW0 hW1 hW2 hWf
    go_wp2_with fail
    refine bodyPost_ret (v := .tuple #[nt none 0 0, .bool false]) (by simp [results, Tryd.results14, go_sem, hc5]) rfl ⟨none, 0, rfl, Nat.le_refl _, Fr.nil _ _ _, ?_⟩
    exact (up hWb hb).setCell (by show w.heap.size ≤ w.heap.size + 1 + 1; omega) _
  · have hci : ∃ z : Int, cmpI (Nm.val xs) (Nm.val ys) = z ∧ 0 ≤ z := ⟨_, rfl, by unfold cmpI; rw [if_neg (by omega)]; split <;> omega⟩
    obtain ⟨z, hz, hz0⟩ := hci
    have h1 : decide (Nm.val ys ≤ Nm.val xs) = true := decide_eq_true (by omega)
    rw [hz] at hcmp
    rw [h1]
    clear hz h1
    go_enter Tryd.func14, Tryd.ntmps14
    go_wp2_with fail
    refine hcmp.out.mono ?_
    rintro e w1 ⟨rfl, hb⟩
    obtain ⟨k1, k2⟩ := seen hb
    have e0 : w1.cell? ⟨w.heap.size, 0, none⟩ = some (Value.slice A xs.length c) := (k1 _ _ (by rw [HWs.out]; omega)).trans hW0
    have hx1 := hx'.below hb
    obtain ⟨m, hmx⟩ : ∃ m, Nm.tlen xs = m := ⟨_, rfl⟩
    obtain ⟨n, hny⟩ : ∃ n, Nm.tlen ys = n := ⟨_, rfl⟩
    have htx := Nm.tlen_le xs
    have hty := Nm.tlen_le ys
    have hXl : (xs.take m).length = m := by rw [List.length_take]; omega
    have hYl : (ys.take n).length = n := by rw [List.length_take]; omega
    rw [hmx] at htx
    rw [hny] at hty
    have Hmx := Lib.hid hmx
    have Hny := Lib.hid hny
    have HXl := Lib.hid hXl
    have HYl := Lib.hid hYl
    clear hmx hny hXl hYl
    have K := Lib.hid (And.intro k1 k2)
    clear k1 k2
    go_wp2_with fail
    refine (trim_n hx1 hc (by omega) Hmx).mono ?_
    rintro e w2 ⟨rfl, rfl⟩
    go_wp2_with fail
    refine (clone_any A m (xs.take m) _ (hx1.take m) HXl.out (by rw [HXl.out]; omega)).mono ?_
    rintro e w2 ⟨A2, c2, rfl, hc2, hf2, hb2⟩
    have hb2' := up hb hb2
    have e1 : w2.cell? ⟨w.heap.size + 1, 0, none⟩ = some (Value.slice B ys.length d) := ((seen hb2').1 _ _ (by rw [HWs.out]; omega)).trans hW1
    have hy2 := hy'.below hb2'
    clear e0
    go_wp2_with fail
    refine (trim_n hy2 hd (by omega) Hny).mono ?_
    rintro e w3 ⟨rfl, rfl⟩
    go_wp2_with fail
    refine (subtractFrom_fr W.heap.size A2 B m c2 n n (xs.take m) (ys.take n) _ (hf2.mono hb.size) (hy2.take n) (hy'.take n).old (hxd.take m) (hyd.take n) HXl.out HYl.out (by omega) (by omega) hb2'.size).mono ?_
    rintro e w4 ⟨rs, o, rfl, hrl, hrd, ho1, hv, hf4, hb4⟩
    have hb4' := hb2'.trans hb4
    have hval := sub_fits hxd hyd hrd Hmx.out Hny.out hrl.out ho1 (by omega) hv.out
    have Hval := Lib.hid hval
    clear hval
    go_wp2_with fail
    refine (fromDigits_n W.heap.size A2 m c2 rs _ hf4 hrd hrl.out hc2 (by omega)).mono ?_
    rintro e w5 ⟨rfl, hf5, hb5⟩
    rw [Hval.out] at hf5 ⊢
    have hb5' : Below W.heap.size W w5 := up hb4' hb5
    obtain ⟨k1, k2⟩ := seen hb5'
    have hc5 : w5.cell? ⟨w.heap.size + 1 + 1, 0, none⟩ = some (.slice none 0 0) := (k1 _ _ (by rw [HWs.out]; omega)).trans hW2
    have hf6 : w5.frozen? ⟨w.heap.size + 1 + 1, 0, none⟩ = false := (k2 _ _ (by rw [HWs.out]; omega)).trans hWf
    clear k1 k2 hW hW0 hW1 hW2 hWf
    go_wp2_with fail
    refine bodyPost_ret (v := .tuple #[nt A2 (Nm.nat (Nm.val xs - Nm.val ys)).length (Nm.nat (Nm.val xs - Nm.val ys)).length, .bool true]) (by simp [results, Tryd.results14, go_sem, hc5]) rfl ⟨_, _, rfl, Nat.le_refl _, ?_, ?_⟩
    · exact (hf5.mono hWb.size).setCell hc5 (by simp)
    · exact (up hWb hb5').setCell (by show w.heap.size ≤ w.heap.size + 1 + 1; omega) _
end Go.Proofs.YtaiceebhifecbaaDoor

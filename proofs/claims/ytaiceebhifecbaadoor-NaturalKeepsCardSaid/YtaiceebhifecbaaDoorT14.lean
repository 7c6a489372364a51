/-
  Contract of Gcd, out of that of divide. Conditions: slices of at most 900 digits.
-/
import Derived.Test.YtaiceebhifecbaaDoorT13
namespace Go.Proofs.YtaiceebhifecbaaDoor
open Go.RowKit
/-- The state of Euclid's loop: two slices without leading zeros whose greatest common divisor is G. -/
def GcdRel (W : World) (L G : Nat) (gk : Nat) (u v : Value) (wr : World) : Prop :=
  ∃ (A B : Option Addr) (U V : List Nat) (n m : Nat), u = .slice A n n ∧ v = .slice B m m ∧ Hid (U.length = n) ∧ Hid (V.length = m) ∧ n ≤ 900 ∧ m ≤ 900 ∧ m ≤ L ∧ Rd wr A U ∧ Rd wr B V ∧ Nm.Dig U ∧ Nm.Dig V ∧ Hid (Nm.tlen U = n) ∧ Hid (Nm.tlen V = m) ∧ Hid (Nat.gcd (Nm.val U) (Nm.val V) = G) ∧
    Hid (gk = Nm.val V) ∧ Below W.heap.size W wr
set_option maxHeartbeats 400000 in
theorem gcd_any (L : Nat) (hL : DivOk L) (A B : Option Addr) (c d : Nat) (xs ys : List Nat) (w : World) (hx : Rd w A xs) (hy : Rd w B ys) (hxd : Nm.Dig xs) (hyd : Nm.Dig ys) (hc : xs.length ≤ c) (hd : ys.length ≤ d) (hm : xs.length ≤ 900) (hn : ys.length ≤ 900)
    (h1 : Nm.tlen ys ≤ L) :
    Calls Tryd.prog 29 #[nt A xs.length c, nt B ys.length d] w fun e w' => ∃ A' c', e = .returned (nt A' (Nm.nat (Nat.gcd (Nm.val xs) (Nm.val ys))).length c') ∧ (Nm.nat (Nat.gcd (Nm.val xs) (Nm.val ys))).length ≤ c' ∧ Fr w.heap.size w' A' (Nm.nat (Nat.gcd (Nm.val xs) (Nm.val ys))) ∧ Below w.heap.size w w' := by
  obtain ⟨W, hW, hWs, hW0, hW1, hW2, hWf, hWb⟩ := three_cells w (Value.slice A xs.length c) (Value.slice B ys.length d) (Value.slice none 0 0) 24
  have hx' := hx.below hWb
  have hy' := hy.below hWb
  have htx := Nm.tlen_le xs
  have hty := Nm.tlen_le ys
  obtain ⟨m, hmx⟩ : ∃ m, Nm.tlen xs = m := ⟨_, rfl⟩
  obtain ⟨n, hny⟩ : ∃ n, Nm.tlen ys = n := ⟨_, rfl⟩
  have QX := trim_q hx' hc (by omega) hmx
  have QY := trim_q hy' hd (by omega) hny
  obtain ⟨X, hX⟩ : ∃ X, xs.take m = X := ⟨_, rfl⟩
  obtain ⟨Y, hY⟩ : ∃ Y, ys.take n = Y := ⟨_, rfl⟩
  have hXl : X.length = m := by rw [← hX, List.length_take]; omega
  have hYl : Y.length = n := by rw [← hY, List.length_take]; omega
  have rX : Rd W A X := by rw [← hX]; exact hx'.take m
  have rY : Rd W B Y := by rw [← hY]; exact hy'.take n
  have dX : Nm.Dig X := by rw [← hX]; exact hxd.take m
  have dY : Nm.Dig Y := by rw [← hY]; exact hyd.take n
  have vX : Nm.val X = Nm.val xs := by rw [← hX, ← hmx]; exact Nm.val_tlen xs
  have vY : Nm.val Y = Nm.val ys := by rw [← hY, ← hny]; exact Nm.val_tlen ys
  have tX : Nm.tlen X = m := by rw [Nm.tlen_eq dX, vX, ← Nm.tlen_eq hxd, hmx]
  have tY : Nm.tlen Y = n := by rw [Nm.tlen_eq dY, vY, ← Nm.tlen_eq hyd, hny]
  have hstart : ∀ q, GcdRel W L (Nat.gcd (Nm.val xs) (Nm.val ys)) (Nm.val Y) (.slice A m m) (.slice B n n) (W.drewN q) := fun q =>
    ⟨A, B, X, Y, m, n, rfl, rfl, hXl, hYl, by omega, by omega, by omega, rX, rY, dX, dY, tX, tY, by show _ = _; rw [vX, vY], rfl, below_drewN (Below.refl _ _) q⟩
  obtain ⟨G, hG⟩ : ∃ G, Nat.gcd (Nm.val xs) (Nm.val ys) = G := ⟨_, rfl⟩
  rw [hG] at hstart ⊢
  have HS := Lib.hid hstart
  have HWs := Lib.hid hWs
  clear hXl hYl vX vY hX hY hmx hny hx hy hx' hy' hxd hyd hWs tX tY hG hstart rX rY dX dY htx hty h1
  go_enter Tryd.func29, Tryd.ntmps29
  go_wp2_with fail
  go_quiet ((first | (go_at_call 38; with_reducible exact QX.out _) | (go_at_call 38; with_reducible exact QY.out _)))
  go_wp2_with fail
  go_loopg [5, 6] (Nm.val Y) (fun gk u v wr => GcdRel W L G gk u v wr)
  case atStart => exact HS.out _
  case round =>
    obtain ⟨A2, B2, U, V, n2, m2, rfl, rfl, hUl, hVl, hn2, hm2, hmL, rU, rV, dU, dV, tU, tV, hg, hgk, hb⟩ := hrel
    rcases Nat.eq_zero_or_pos m2 with h0 | h0
    · subst h0
      have hval : Nm.val U = G := by
        have h2 := hg.out
        have h3 := Nm.val_tlen V
        rw [tV.out] at h3
        rw [← h3] at h2
        simpa [Nm.val] using h2
      have Hval := Lib.hid hval
      clear hval
      go_wp2_with fail
      refine (clone_any A2 n2 U _ rU hUl.out (by rw [hUl.out]; omega)).mono ?_
      rintro e w1 ⟨A3, c3, rfl, hc3, hf3, hb3⟩
      have hb4 := up hb hb3
      go_wp2_with fail
      refine (fromDigits_n W.heap.size A3 n2 c3 U _ (hf3.mono hb.size) dU hUl.out hc3 (by omega)).mono ?_
      rintro e w5 ⟨rfl, hf5, hb5⟩
      rw [Hval.out] at hf5 ⊢
      have hb5' : Below W.heap.size W w5 := up hb4 hb5
      obtain ⟨k1, k2⟩ := seen hb5'
      have hc5 : w5.cell? ⟨w.heap.size + 1 + 1, 0, none⟩ = some (.slice none 0 0) := (k1 _ _ (by rw [HWs.out]; omega)).trans hW2
      have hf6 : w5.frozen? ⟨w.heap.size + 1 + 1, 0, none⟩ = false := (k2 _ _ (by rw [HWs.out]; omega)).trans hWf
      clear k1 k2 hW hW0 hW1 hW2 hWf
      go_wp2_with fail
      refine bodyPost_ret (v := nt A3 (Nm.nat G).length (Nm.nat G).length) (by simp [results, Tryd.results29, go_sem, hc5]) rfl ⟨_, _, rfl, Nat.le_refl _, ?_, ?_⟩
      · exact (hf5.mono hWb.size).setCell hc5 (by simp)
      · exact (up hWb hb5').setCell (by show w.heap.size ≤ w.heap.size + 1 + 1; omega) _
    · go_wp2_with fail
      refine (hL A2 B2 U V n2 m2 _ rU rV dU dV hUl.out hVl.out hn2 h0 hmL tV.out).mono ?_
      rintro e w1 ⟨A3, A4, c3, c4, qs, rs, rfl, hc3, hc4, hq9, hr9, hqd, hrd, hf3, hf4, hv, hb3⟩
      have hrl : rs.length ≤ 900 := by have := hUl.out; have := hVl.out; omega
      have htr := Nm.tlen_le rs
      obtain ⟨r, hr⟩ : ∃ r, Nm.tlen rs = r := ⟨_, rfl⟩
      rw [hr] at htr
      have Hr := Lib.hid hr
      have hb4 := up hb hb3
      have hlt : Nm.val rs < Nm.val V := hv.out.2
      have hrm : r ≤ m2 := by
        have e1 := Nm.tlen_eq hrd
        have e2 := Nm.tlen_eq dV
        rw [hr] at e1
        rw [tV.out] at e2
        rcases Nat.lt_or_ge m2 r with h5 | h5
        · have := Nm.lt_of_len (a := Nm.val V) (b := Nm.val rs) (by omega)
          omega
        · exact h5
      clear hr hq9 hr9
      go_wp2_with fail
      refine (trim_n hf4.rd hc4 (by omega) Hr).mono ?_
      rintro e w2 ⟨rfl, rfl⟩
      go_wp2_with fail
      go_roundg (Nm.val rs)
      case measure => have := hgk.out; omega
      case rel =>
        refine ⟨B2, A4, V, rs.take r, m2, r, rfl, rfl, hVl, ?_, hm2, by omega, by omega, rV.below hb3, hf4.rd.take r, dV, hrd.take r, tV, ?_, ?_, ?_, hb4⟩
        · show _ = _; rw [List.length_take]; omega
        · show _ = _
          rw [Nm.tlen_eq (hrd.take r), ← Hr.out, Nm.val_tlen, ← Nm.tlen_eq hrd]
        · show _ = _
          have h2 := hv.out.1
          rw [← Hr.out, Nm.val_tlen, ← hg.out, h2, Nat.gcd_comm (Nm.val V), Nat.mul_comm, Nat.gcd_comm (_ + _)]
          rw [Nat.gcd_comm (Nm.val rs), Nat.gcd_mul_left_add_right]
        · show _ = _
          rw [← Hr.out, Nm.val_tlen]
end Go.Proofs.YtaiceebhifecbaaDoor

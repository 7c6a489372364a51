/-
  Contracts of Add32, Sub32, addTo and subtractFrom. Conditions: slices of at most 1000 digits; the row that is written lies outside the other.
-/
import Derived.Test.YtaiceebhifecbaaDoorT4
import Derived.Laws.BitsAllLaws
namespace Go.Proofs.YtaiceebhifecbaaDoor
open Go.RowKit
theorem top_bit (e : Nat) (he : e < 4294967296) : e / 2147483648 = (e.testBit 31).toNat := by
  rw [Nat.testBit_eq_decide_div_mod_eq]
  have : e / 2 ^ 31 = e / 2147483648 := rfl
  rw [this]
  have : e / 2147483648 < 2 := by omega
  rcases Nat.lt_or_ge (e / 2147483648) 1 with h | h
  · rw [show e / 2147483648 = 0 from by omega]; rfl
  · rw [show e / 2147483648 = 1 from by omega]; rfl
theorem bit31 (e : Nat) : e.testBit 31 = decide (e / 2147483648 % 2 = 1) := Nat.testBit_eq_decide_div_mod_eq
theorem borrow_nat (x y c d : Nat) (hx : x < 4294967296) (hy : y < 4294967296) (hc : c ≤ 1) (hd : d < 4294967296) (o : Nat) (ho : o ≤ 1) (h : d + y + c = x + 4294967296 * o) :
    (((4294967295 ^^^ x) &&& y) ||| ((4294967295 ^^^ (x ^^^ y)) &&& d)) / 2147483648 = o := by
  have h1 : 4294967295 ^^^ x < 2 ^ 32 := Nat.xor_lt_two_pow (by omega) (by omega)
  have h2 : x ^^^ y < 2 ^ 32 := Nat.xor_lt_two_pow (by omega) (by omega)
  have h3 : 4294967295 ^^^ (x ^^^ y) < 2 ^ 32 := Nat.xor_lt_two_pow (by omega) h2
  have h4 : (4294967295 ^^^ x) &&& y < 2 ^ 32 := Nat.and_lt_two_pow _ (by omega)
  have h5 : (4294967295 ^^^ (x ^^^ y)) &&& d < 2 ^ 32 := Nat.and_lt_two_pow _ (by omega)
  have h6 : ((4294967295 ^^^ x) &&& y) ||| ((4294967295 ^^^ (x ^^^ y)) &&& d) < 2 ^ 32 := Nat.or_lt_two_pow h4 h5
  rw [top_bit _ (by omega), Nat.testBit_or, Nat.testBit_and, Nat.testBit_and, Nat.testBit_xor, Nat.testBit_xor, Nat.testBit_xor, bit31 x, bit31 y, bit31 d, show Nat.testBit 4294967295 31 = true from by decide]
  have ax : x / 2147483648 % 2 = x / 2147483648 := by omega
  have ay : y / 2147483648 % 2 = y / 2147483648 := by omega
  have ad : d / 2147483648 % 2 = d / 2147483648 := by omega
  rw [ax, ay, ad]
  by_cases bx : x / 2147483648 = 1 <;> by_cases by_ : y / 2147483648 = 1 <;> by_cases bd : d / 2147483648 = 1 <;> simp [bx, by_, bd] <;> omega
set_option maxHeartbeats 400000 in
theorem add32_any (x y c : Nat) (w : World) (hx : x < 4294967296) (hy : y < 4294967296) (hc : c < 4294967296) :
    Calls Tryd.prog 60 #[.int .u32 x, .int .u32 y, .int .u32 c] w fun e w' => ∃ s o : Nat, e = .returned (.tuple #[.int .u32 s, .int .u32 o]) ∧ Hid (s + 4294967296 * o = x + y + c ∧ s < 4294967296) ∧ w = w' := by
  go_enter Tryd.func60, Tryd.ntmps60
  go_wp2
  go_ret2
  refine ⟨(x + y + c) % 4294967296, (x + y + c) / 4294967296, ?_, ?_, rfl⟩
  · have h1 : ((x : Int) + y + c) % 4294967296 = (((x + y + c) % 4294967296 : Nat) : Int) := by omega
    have h2 : ((x : Int) + y + c) / 4294967296 = (((x + y + c) / 4294967296 : Nat) : Int) := by omega
    rw [← h1, ← h2]
    rfl
  · show _ ∧ _
    omega
set_option maxHeartbeats 400000 in
theorem sub32_any (x y c : Nat) (w : World) (hx : x < 4294967296) (hy : y < 4294967296) (hc : c ≤ 1) :
    Calls Tryd.prog 57 #[.int .u32 x, .int .u32 y, .int .u32 c] w fun e w' => ∃ s o : Nat, e = .returned (.tuple #[.int .u32 s, .int .u32 o]) ∧ Hid (s + y + c = x + 4294967296 * o ∧ s < 4294967296 ∧ o ≤ 1) ∧ w = w' := by
  obtain ⟨o, ho, d, hd, hs⟩ : ∃ o, o ≤ 1 ∧ ∃ d, d < 4294967296 ∧ d + y + c = x + 4294967296 * o := by
    rcases Nat.lt_or_ge x (y + c) with h | h
    · exact ⟨1, by omega, x + 4294967296 - y - c, by omega, by omega⟩
    · exact ⟨0, by omega, x - y - c, by omega, by omega⟩
  have hdi : ((x : Int) - y - c) % 4294967296 = (d : Int) := by omega
  have hb : bits .or .u32 (bits .and .u32 (bits .xor .u32 IntKind.u32.max x) y) (bits .and .u32 (bits .xor .u32 IntKind.u32.max (bits .xor .u32 x y)) (((x : Int) - y - c) % 4294967296)) / 2147483648 = (o : Int) := by
    have h1 : 4294967295 ^^^ x < 2 ^ 32 := Nat.xor_lt_two_pow (by omega) (by omega)
    have h2 : x ^^^ y < 2 ^ 32 := Nat.xor_lt_two_pow (by omega) (by omega)
    have h3 : 4294967295 ^^^ (x ^^^ y) < 2 ^ 32 := Nat.xor_lt_two_pow (by omega) h2
    have h4 : (4294967295 ^^^ x) &&& y < 2 ^ 32 := Nat.and_lt_two_pow _ (by omega)
    have h5 : (4294967295 ^^^ (x ^^^ y)) &&& d < 2 ^ 32 := Nat.and_lt_two_pow _ (by omega)
    rw [hdi, show IntKind.u32.max = ((4294967295 : Nat) : Int) from by decide, u32_xor_nat x y hx hy, u32_xor_nat _ x (by omega) hx, u32_xor_nat _ _ (by omega) (by omega), u32_and_nat _ y (by omega) hy, u32_and_nat _ d (by omega) hd, u32_or_nat _ _ (by omega) (by omega)]
    rw [← borrow_nat x y c d hx hy hc hd o ho hs]
    rfl
  have Hb := Lib.hid hb
  have Hd := Lib.hid hdi
  have Hs := Lib.hid hs
  clear hb hdi hs
  go_enter Tryd.func57, Tryd.ntmps57
  go_wp2
  all_goals try (exfalso; revert ‹IntKind.u32.signed = true›; decide)
  go_ret2
  refine ⟨d, o, ?_, ⟨Hs.out, hd, ho⟩, rfl⟩
  rw [Hb.out, Hd.out]
  rfl

theorem take_set_other (zs : List Nat) (k : Nat) (x : Nat) : (zs.set k x).take k = zs.take k := by
  refine List.ext_getElem? fun j => ?_
  rw [List.getElem?_take, List.getElem?_take]
  split
  · rw [List.getElem?_set_ne (by omega)]
  · rfl
set_option maxHeartbeats 400000 in
theorem addTo_any (g off c : Nat) (B : Option Addr) (d : Nat) (zs ys : List Nat) (w : World) (ho : Own w g off zs) (hy : Rd w B ys) (hf : Off g B ys) (hzd : Nm.Dig zs) (hyd : Nm.Dig ys) (hm : zs.length ≤ 1000) (_hn : ys.length ≤ 1000) :
    Calls Tryd.prog 45 #[.slice (some ⟨g, off, none⟩) zs.length c, .slice B ys.length d] w fun e w' => ∃ (rs : List Nat) (o : Nat), e = .returned (.tuple #[]) ∧ rs.length = zs.length ∧ Nm.Dig rs ∧ o ≤ 1 ∧ Hid (Nm.val rs + 4294967296 ^ zs.length * o = Nm.val zs + Nm.val (ys.take zs.length)) ∧ Wr w w' g off rs := by
  go_enter Tryd.func45, Tryd.ntmps45
  go_wp2_with fail
  go_loopw [4, 9] (fun cy i wr => ∃ (k o : Nat) (rs : List Nat), k ≤ zs.length ∧ i = .int .i64 k ∧ cy = .int .u32 o ∧ o ≤ 1 ∧ Hid (rs.length = zs.length) ∧ Nm.Dig rs ∧ Hid (∀ j, k ≤ j → rs[j]? = zs[j]?) ∧ Hid (Nm.val (rs.take k) + 4294967296 ^ k * o = Nm.val (zs.take k) + Nm.val (ys.take k)) ∧ Wr w wr g off rs) (fun _ i _ => zs.length - (intOf i).toNat)
  case atStart => exact ⟨0, 0, zs, Nat.zero_le _, rfl, rfl, Nat.zero_le _, rfl, hzd, fun _ _ => rfl, by show _ = _; simp [Nm.val], Wr.refl ho⟩
  case round =>
    obtain ⟨k, o, rs, hk, rfl, rfl, hco, hl, hrd, hrest, hv, hw⟩ := hrel
    by_cases hlt : k < zs.length
    · have hkr : k < rs.length := by rw [hl.out]; exact hlt
      have c1 := hw.own.1 k hkr
      have f1 := hw.own.2 k hkr
      obtain ⟨x, hx⟩ : ∃ x, rs[k] = x := ⟨_, rfl⟩
      rw [hx] at c1
      have hxlt : x < 4294967296 := by rw [← hx]; exact hrd.at_ hkr
      have hzk : zs[k] = x := by
        have := hrest.out k (Nat.le_refl _)
        rw [List.getElem?_eq_getElem hkr, List.getElem?_eq_getElem hlt] at this
        injection this with this
        rw [← this, hx]
      have Hzk := Lib.hid hzk
      clear hx hzk
      have hyw := hy.wr hw hf
      have hsum : ∀ (D s o' : Nat), Hid (Nm.val (ys.take (k + 1)) = Nm.val (ys.take k) + 4294967296 ^ k * D) → Hid (s + 4294967296 * o' = x + D + o ∧ s < 4294967296) →
          Hid (Nm.val ((rs.set k s).take (k + 1)) + 4294967296 ^ (k + 1) * o' = Nm.val (zs.take (k + 1)) + Nm.val (ys.take (k + 1))) := by
        intro D s o' h1 h2
        show _ = _
        have e1 := Nm.val_take_succ (rs.set k s) k (by simpa using hkr)
        rw [take_set_other] at e1
        have e2 := Nm.val_take_succ zs k hlt
        rw [Hzk.out] at e2
        have e3 := h1.out
        have e4 := hv.out
        have e5 := congrArg (fun t => 4294967296 ^ k * t) h2.out.1
        simp only [Nat.mul_add] at e5
        rw [e1, e2, e3, Nat.pow_succ, Nat.mul_assoc]
        simp only [List.getElem_set_self]
        omega
      have hy1 : k < ys.length → ∃ D, D < 4294967296 ∧ Hid (Nm.val (ys.take (k + 1)) = Nm.val (ys.take k) + 4294967296 ^ k * D) ∧ ∃ g' off', B = some ⟨g', off', none⟩ ∧ wr.cell? ⟨g', off' + k, none⟩ = some (.int .u32 (D : Int)) := by
        intro h
        obtain ⟨g', off', hB, hr⟩ := hyw.at_ h
        exact ⟨ys[k], hyd.at_ h, Nm.val_take_succ ys k h, g', off', hB, hr k h⟩
      have hy2 : ¬ k < ys.length → Hid (Nm.val (ys.take (k + 1)) = Nm.val (ys.take k) + 4294967296 ^ k * 0) := by
        intro h
        show _ = _
        rw [List.take_of_length_le (by omega), List.take_of_length_le (by omega)]
        simp
      have hset : ∀ (s : Nat), Hid ((rs.set k s).length = zs.length) := fun s => by show _ = _; rw [List.length_set]; exact hl.out
      have hoth : ∀ (s : Nat), Hid (∀ j, k + 1 ≤ j → (rs.set k s)[j]? = zs[j]?) := fun s => by
        intro j hj
        rw [List.getElem?_set_ne (by omega)]
        exact hrest.out j (by omega)
      have hwset := fun s => hw.set k hkr s
      have Hsum := Lib.hid hsum
      have Hset := Lib.hid hset
      have Hoth := Lib.hid hoth
      have Hws := Lib.hid hwset
      clear hsum hset hoth hwset hyw
      by_cases hky : k < ys.length
      · obtain ⟨D, hD, hDv, g', off', hB, c2⟩ := hy1 hky
        subst hB
        clear hy1 hy2
        go_wp2_with fail
        refine (add32_any x D o _ hxlt hD (by omega)).mono ?_
        rintro e w' ⟨s, o', rfl, hs, rfl⟩
        have ho' : o' ≤ 1 := by have := hs.out; omega
        go_wp2_with fail
        go_roundw
        case rel => exact ⟨k + 1, o', rs.set k s, by omega, by go_num, rfl, ho', Hset.out s, hrd.set k hs.out.2, Hoth.out s, Hsum.out D s o' hDv hs, Hws.out s⟩
        case measure => simp [intOf]; omega
      · have hDv := hy2 hky
        clear hy1 hy2
        go_wp2_with fail
        refine (add32_any x 0 o _ hxlt (by omega) (by omega)).mono ?_
        rintro e w' ⟨s, o', rfl, hs, rfl⟩
        have ho' : o' ≤ 1 := by have := hs.out; omega
        go_wp2_with fail
        go_roundw
        case rel => exact ⟨k + 1, o', rs.set k s, by omega, by go_num, rfl, ho', Hset.out s, hrd.set k hs.out.2, Hoth.out s, Hsum.out 0 s o' hDv hs, Hws.out s⟩
        case measure => simp [intOf]; omega
    · go_wp2_with fail
      go_end0
      refine ⟨rs, o, rfl, hl.out, hrd, hco, ?_, hw⟩
      have hkk : k = zs.length := by omega
      have h1 := hv.out
      rw [hkk, List.take_of_length_le (Nat.le_of_eq hl.out), List.take_of_length_le (Nat.le_refl _)] at h1
      exact h1
set_option maxHeartbeats 400000 in
theorem subtractFrom_any (g off c : Nat) (B : Option Addr) (d : Nat) (zs ys : List Nat) (w : World) (ho : Own w g off zs) (hy : Rd w B ys) (hf : Off g B ys) (hzd : Nm.Dig zs) (hyd : Nm.Dig ys) (hm : zs.length ≤ 1000) (_hn : ys.length ≤ 1000) :
    Calls Tryd.prog 39 #[.slice (some ⟨g, off, none⟩) zs.length c, .slice B ys.length d] w fun e w' => ∃ (rs : List Nat) (o : Nat), e = .returned (.tuple #[]) ∧ rs.length = zs.length ∧ Nm.Dig rs ∧ o ≤ 1 ∧ Hid (Nm.val rs + Nm.val (ys.take zs.length) = Nm.val zs + 4294967296 ^ zs.length * o) ∧ Wr w w' g off rs := by
  go_enter Tryd.func39, Tryd.ntmps39
  go_wp2_with fail
  go_loopw [4, 9] (fun cy i wr => ∃ (k o : Nat) (rs : List Nat), k ≤ zs.length ∧ i = .int .i64 k ∧ cy = .int .u32 o ∧ o ≤ 1 ∧ Hid (rs.length = zs.length) ∧ Nm.Dig rs ∧ Hid (∀ j, k ≤ j → rs[j]? = zs[j]?) ∧ Hid (Nm.val (rs.take k) + Nm.val (ys.take k) = Nm.val (zs.take k) + 4294967296 ^ k * o) ∧ Wr w wr g off rs) (fun _ i _ => zs.length - (intOf i).toNat)
  case atStart => exact ⟨0, 0, zs, Nat.zero_le _, rfl, rfl, Nat.zero_le _, rfl, hzd, fun _ _ => rfl, by show _ = _; simp [Nm.val], Wr.refl ho⟩
  case round =>
    obtain ⟨k, o, rs, hk, rfl, rfl, hco, hl, hrd, hrest, hv, hw⟩ := hrel
    by_cases hlt : k < zs.length
    · have hkr : k < rs.length := by rw [hl.out]; exact hlt
      have c1 := hw.own.1 k hkr
      have f1 := hw.own.2 k hkr
      obtain ⟨x, hx⟩ : ∃ x, rs[k] = x := ⟨_, rfl⟩
      rw [hx] at c1
      have hxlt : x < 4294967296 := by rw [← hx]; exact hrd.at_ hkr
      have hzk : zs[k] = x := by
        have := hrest.out k (Nat.le_refl _)
        rw [List.getElem?_eq_getElem hkr, List.getElem?_eq_getElem hlt] at this
        injection this with this
        rw [← this, hx]
      have Hzk := Lib.hid hzk
      clear hx hzk
      have hyw := hy.wr hw hf
      have hsum : ∀ (D s o' : Nat), Hid (Nm.val (ys.take (k + 1)) = Nm.val (ys.take k) + 4294967296 ^ k * D) → Hid (s + D + o = x + 4294967296 * o' ∧ s < 4294967296 ∧ o' ≤ 1) →
          Hid (Nm.val ((rs.set k s).take (k + 1)) + Nm.val (ys.take (k + 1)) = Nm.val (zs.take (k + 1)) + 4294967296 ^ (k + 1) * o') := by
        intro D s o' h1 h2
        show _ = _
        have e1 := Nm.val_take_succ (rs.set k s) k (by simpa using hkr)
        rw [take_set_other] at e1
        have e2 := Nm.val_take_succ zs k hlt
        rw [Hzk.out] at e2
        have e3 := h1.out
        have e4 := hv.out
        have e5 := congrArg (fun t => 4294967296 ^ k * t) h2.out.1
        simp only [Nat.mul_add] at e5
        rw [e1, e2, e3, Nat.pow_succ, Nat.mul_assoc]
        simp only [List.getElem_set_self]
        omega
      have hy1 : k < ys.length → ∃ D, D < 4294967296 ∧ Hid (Nm.val (ys.take (k + 1)) = Nm.val (ys.take k) + 4294967296 ^ k * D) ∧ ∃ g' off', B = some ⟨g', off', none⟩ ∧ wr.cell? ⟨g', off' + k, none⟩ = some (.int .u32 (D : Int)) := by
        intro h
        obtain ⟨g', off', hB, hr⟩ := hyw.at_ h
        exact ⟨ys[k], hyd.at_ h, Nm.val_take_succ ys k h, g', off', hB, hr k h⟩
      have hy2 : ¬ k < ys.length → Hid (Nm.val (ys.take (k + 1)) = Nm.val (ys.take k) + 4294967296 ^ k * 0) := by
        intro h
        show _ = _
        rw [List.take_of_length_le (by omega), List.take_of_length_le (by omega)]
        simp
      have hset : ∀ (s : Nat), Hid ((rs.set k s).length = zs.length) := fun s => by show _ = _; rw [List.length_set]; exact hl.out
      have hoth : ∀ (s : Nat), Hid (∀ j, k + 1 ≤ j → (rs.set k s)[j]? = zs[j]?) := fun s => by
        intro j hj
        rw [List.getElem?_set_ne (by omega)]
        exact hrest.out j (by omega)
      have hwset := fun s => hw.set k hkr s
      have Hsum := Lib.hid hsum
      have Hset := Lib.hid hset
      have Hoth := Lib.hid hoth
      have Hws := Lib.hid hwset
      clear hsum hset hoth hwset hyw
      by_cases hky : k < ys.length
      · obtain ⟨D, hD, hDv, g', off', hB, c2⟩ := hy1 hky
        subst hB
        clear hy1 hy2
        go_wp2_with fail
        refine (sub32_any x D o _ hxlt hD (by omega)).mono ?_
        rintro e w' ⟨s, o', rfl, hs, rfl⟩
        have ho' : o' ≤ 1 := by have := hs.out; omega
        go_wp2_with fail
        go_roundw
        case rel => exact ⟨k + 1, o', rs.set k s, by omega, by go_num, rfl, ho', Hset.out s, hrd.set k hs.out.2.1, Hoth.out s, Hsum.out D s o' hDv hs, Hws.out s⟩
        case measure => simp [intOf]; omega
      · have hDv := hy2 hky
        clear hy1 hy2
        go_wp2_with fail
        refine (sub32_any x 0 o _ hxlt (by omega) (by omega)).mono ?_
        rintro e w' ⟨s, o', rfl, hs, rfl⟩
        have ho' : o' ≤ 1 := by have := hs.out; omega
        go_wp2_with fail
        go_roundw
        case rel => exact ⟨k + 1, o', rs.set k s, by omega, by go_num, rfl, ho', Hset.out s, hrd.set k hs.out.2.1, Hoth.out s, Hsum.out 0 s o' hDv hs, Hws.out s⟩
        case measure => simp [intOf]; omega
    · go_wp2_with fail
      go_end0
      refine ⟨rs, o, rfl, hl.out, hrd, hco, ?_, hw⟩
      have hkk : k = zs.length := by omega
      have h1 := hv.out
      rw [hkk, List.take_of_length_le (Nat.le_of_eq hl.out), List.take_of_length_le (Nat.le_refl _)] at h1
      exact h1
end Go.Proofs.YtaiceebhifecbaaDoor

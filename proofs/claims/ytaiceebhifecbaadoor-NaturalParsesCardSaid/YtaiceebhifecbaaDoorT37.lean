/-
  Contract of the reference's Format. Conditions: numbers without leading zeros, of at most 400 digits.
-/
import Derived.Test.YtaiceebhifecbaaDoorT36
import Derived.Test.YtaiceebhifecbaaDoorDec2
import Derived.Laws.BytesArg
namespace Go.Proofs.YtaiceebhifecbaaDoor
open Go.RowKit
/-- The outer loop of Format: j decimal digits are written, the rest is in the parameter's cell. -/
def RFmtRel (V b : Nat) (w : World) (gk : Nat) (sv : Value) (wr : World) : Prop :=
  ∃ (j : Nat) (A : Option Addr) (n c : Nat) (zs : List Nat) (s : ByteArray), sv = .string s ∧ Hid (Bt s = (Nm.digs j V).reverse) ∧ Var wr b A n c zs ∧ wr.frozen? ⟨b, 0, none⟩ = false ∧ Hid (Nm.val zs = V / 10 ^ j) ∧ Hid (Nm.nat (Nm.val zs) = zs) ∧ Hid (gk = Nm.val zs) ∧ Below w.heap.size w wr ∧ Hid (j = 0 ∨ V / 10 ^ (j - 1) ≠ 0) ∧ s.size ≤ 100000
/-- The inner loop: the digits from k on are divided by ten. -/
def RTenRel (G n : Nat) (zs : List Nat) (w : World) (cv iv : Value) (wr : World) : Prop :=
  ∃ (k r : Nat) (qs : List Nat), k ≤ n ∧ iv = .int .i64 ((k : Int) - 1) ∧ cv = .int .u64 (r : Int) ∧ r < 10 ∧ Hid (qs.length = n) ∧ Nm.Dig qs ∧ Hid (Nm.val (qs.drop k) * 10 + r = Nm.val (zs.drop k)) ∧ Own wr G 0 qs ∧ Below w.heap.size w wr
theorem Nm.drop_set (qs : List Nat) (j d : Nat) (h : j < qs.length) : Nm.val ((qs.set j d).drop j) = d + 4294967296 * Nm.val (qs.drop (j + 1)) := by
  rw [List.drop_eq_getElem_cons (by simpa using h), List.getElem_set_self, List.drop_set_of_lt (by omega)]
  rfl
theorem Bt_append (s t : ByteArray) : Bt (s ++ t) = Bt s ++ Bt t := by
  simp [Bt]
set_option maxRecDepth 100000 in
set_option maxHeartbeats 2000000 in
theorem refFormat_n {w : World} {A : Option Addr} {n c : Nat} {xs : List Nat} (hx : Num w A n c xs) (he : Nm.nat (Nm.val xs) = xs) :
    Calls Tryd.prog 34 #[nt A n c] w fun e w' => ∃ s : ByteArray, e = .returned (.string s) ∧ Bt s = Nm.dec (Nm.val xs) ∧ Below w.heap.size w w' := by
  obtain rfl := hx.len
  obtain ⟨V, hV⟩ : ∃ V, Nm.val xs = V := ⟨_, rfl⟩
  have He := Lib.hid he
  have HV := Lib.hid hV
  rw [hV]
  have hsm := hx.small
  rcases Nat.eq_zero_or_pos xs.length with h0 | h0
  · have hV0 : V = 0 := by rw [← hV, List.eq_nil_of_length_eq_zero h0]; rfl
    subst hV0
    clear he hV
    go_enter Tryd.func34, Tryd.ntmps34
    go_wp2_with fail
    go_ret
    exact ⟨⟨#[48]⟩, rfl, rfl, one _ _⟩
  · have hVn : V ≠ 0 := by
      intro e
      rw [hV, e, Nm.nat_zero] at he
      rw [← he] at h0
      simp at h0
    have HVn := Lib.hid hVn
    obtain ⟨L, hL, HVL⟩ : ∃ L, L ≤ 12800 ∧ Hid (V < 2 ^ L) := ⟨32 * xs.length, by omega, by
      show _ < _
      rw [← Nm.pow_two, ← hV]; exact Nm.val_lt hx.dig⟩
    have va := Var.new hx
    have hb1 := one w (Obj.cells #[Value.slice A xs.length c] 24)
    have fa : (w.alloc (Obj.cells #[Value.slice A xs.length c] 24)).frozen? ⟨w.heap.size, 0, none⟩ = false := new_soft _ _ _ _ rfl
    have hb0 : ((xs.length : Int) == 0) = false := digit_ne (by omega)
    clear he hV hVn hx h0
    go_enter Tryd.func34, Tryd.ntmps34
    go_wp2_with fail
    go_loopg [3] V (fun gk sv wr => RFmtRel V w.heap.size w gk sv wr)
    case atStart => exact ⟨0, A, xs.length, c, xs, ⟨#[]⟩, rfl, rfl, va, fa, by show _ = _; rw [HV.out]; simp, He.out, HV.out.symm, hb1, .inl rfl, by decide⟩
    case round =>
      obtain ⟨j, A1, n1, c1, zs, s, rfl, hs, va, fa, hzv, hzc, hgk, hbj, hjV, hsz⟩ := hrel
      obtain rfl := va.num.len
      have kva := va.cell
      have hzs := va.num.small
      rcases Nat.eq_zero_or_pos zs.length with h0 | h0
      · have hfin : Bt s = Nm.dec V := by
          have h1 := hzv.out
          rw [List.eq_nil_of_length_eq_zero h0] at h1
          have h2 : V / 10 ^ j = 0 := h1.symm
          have hV0 := HVn.out
          have hj0 : j ≠ 0 := by
            rintro rfl
            simp at h2
            exact hV0 h2
          have h3 : V < 10 ^ j := by
            rcases Nat.lt_or_ge V (10 ^ j) with h4 | h4
            · exact h4
            · have := Nat.div_pos h4 (Nat.pow_pos (by omega))
              omega
          have h5 : 10 ^ (j - 1) ≤ V := by
            rcases Nat.lt_or_ge V (10 ^ (j - 1)) with h4 | h4
            · rcases hjV.out with h6 | h6
              · exact absurd h6 hj0
              · exact absurd (Nat.div_eq_of_lt h4) h6
            · exact h4
          have h6 : Nm.nd V = j := by
            have := nd_eq (k := j - 1) h5 (by rwa [show j - 1 + 1 = j from by omega])
            omega
          unfold Nm.dec
          rw [if_neg hV0, h6]
          exact hs.out
        have Hf := Lib.hid hfin
        clear hfin
        go_wp2_with fail
        go_ret
        exact ⟨s, rfl, Hf.out, hbj⟩
      · have hmk := fun W => make32 zs.length zs.length (Nat.le_refl _) (by omega) (zs.length : Int) (zs.length : Int) rfl rfl W
        have h0i : (0 : Int) < (zs.length : Int) := by omega
        rename World => w0
        have va2 := va.below (one _ (Obj.cells (madeCells #[Value.int IntKind.u32 0] zs.length) 35))
        have kva2 := va2.cell
        have ho := own_made w0 zs.length
        have hb2 := one w0 (Obj.cells (madeCells #[Value.int IntKind.u32 0] zs.length) 35)
        go_wp2_with fail
        clear va2 kva2 kva
        go_loopw [4, 6] (fun cv iv wr2 => RTenRel w0.heap.size zs.length zs w0 cv iv wr2) (fun _ i _ => (intOf i + 1).toNat)
        case atStart => exact ⟨zs.length, 0, List.replicate zs.length 0, Nat.le_refl _, rfl, rfl, by decide, by show _ = _; simp, Nm.dig_replicate _, by show _ = _; rw [List.drop_of_length_le (by simp), List.drop_of_length_le (Nat.le_refl _)]; rfl, ho, hb2⟩
        case round =>
          obtain ⟨k, r, qs, hk, rfl, rfl, hr, hql, hqd, hqv, hown, hb3⟩ := hrel
          have va3 := va.below hb3
          have kva3 := va3.cell
          rcases Nat.eq_zero_or_pos k with hk0 | hk0
          · subst hk0
            have fa3 : wr.frozen? ⟨w.heap.size, 0, none⟩ = false := by rw [(seen hb3).2 _ _ va.lt]; exact fa
            have hval : Nm.val qs * 10 + r = V / 10 ^ j := by
              have h1 := hqv.out
              rw [List.drop_zero, List.drop_zero, hzv.out] at h1
              exact h1
            have hdiv : Nm.val qs = V / 10 ^ (j + 1) := by
              rw [Nat.pow_succ, ← Nat.div_div_eq_div_mul, ← hval]
              omega
            have hmod : V / 10 ^ j % 10 = r := by rw [← hval]; omega
            have hlt2 : Nm.val qs < Nm.val zs := by
              rw [hzv.out, ← hval]
              have h3 : Nm.val zs ≠ 0 := by
                intro e
                have h2 := hzc.out
                rw [e, Nm.nat_zero] at h2
                rw [← h2] at h0
                simp at h0
              rw [hzv.out, ← hval] at h3
              omega
            have Hdiv := Lib.hid hdiv
            have Hmod := Lib.hid hmod
            have Hlt2 := Lib.hid hlt2
            have Hval := Lib.hid hval
            have hu5 : Tryd.prog.underlying 5 = some (.int .u8) := by kernel_rfl
            have hu9 : Tryd.prog.underlying 9 = some .string := by kernel_rfl
            have hconv := run_convert_bytes_arg (P := Tryd.prog) (wr.alloc (Obj.cells #[Value.int IntKind.u8 (48 + (r : Int))] 5)) 62 5 u62 hu5 wr.heap.size 0 1 1 [48 + (r : Int)] rfl (fun i hi => by
              obtain rfl : i = 0 := by omega
              exact new_cell _ _ _ _ rfl) 9 hu9
            obtain ⟨st, hst⟩ : ∃ st, strOfNums [48 + (r : Int)] = st := ⟨_, rfl⟩
            rw [hst] at hconv
            have hBt : Bt st = [48 + r] := by
              rw [← hst]
              unfold Bt
              rw [strOfNums_data]
              simp
              omega
            have hst1 : st.size = 1 := by rw [← Bt_length, hBt]; rfl
            have HBt := Lib.hid hBt
            clear hval hdiv hmod hlt2 hst hBt
            go_wp2_with fail
            refine (refTrim_n (Rd.alloc (.inr ⟨_, _, rfl, hown.1⟩) _) hql.out (by omega) hqd rfl).mono ?_
            rintro e w5 ⟨A5, c5, rfl, hc5, hf5, hb5⟩
            have hb6 := up (up hb3 (one _ _)) hb5
            have va5 := va.below hb6
            have kva5 := va5.cell
            have fa5 : w5.frozen? ⟨w.heap.size, 0, none⟩ = false := by rw [(seen hb6).2 _ _ va.lt]; exact fa
            go_wp2_with fail
            go_roundg (Nm.val qs)
            case measure => have := hgk.out; have := Hlt2.out; omega
            case rel =>
              have hne : V / 10 ^ j ≠ 0 := by have h1 := hzv.out; have h2 := Hlt2.out; omega
              have hj : j < L := pow_bound (V := V) (by
                rcases Nat.lt_or_ge V (10 ^ j) with h3 | h3
                · exact absurd (Nat.div_eq_of_lt h3) hne
                · exact h3) HVL.out
              have hBs : Bt (st ++ s) = (Nm.digs (j + 1) V).reverse := by
                rw [Bt_append, HBt.out, hs.out, Nm.digs_succ, List.reverse_append, Hmod.out]
                rfl
              refine ⟨j + 1, A5, (Nm.nat (Nm.val qs)).length, c5, Nm.nat (Nm.val qs), st ++ s, rfl, hBs, ⟨by simpa using va5.lt, World.cell?_setCell_same (u := _) _ _ _ kva5, ⟨hf5.rd.setCell kva5 (by simp), rfl, hc5, Nm.dig_nat _, ?_⟩⟩, by rw [World.frozen?_setCell]; exact fa5, ?_, ?_, ?_, (up hbj hb6).setCell (Nat.le_refl _) _, .inr hne, ?_⟩
              · rw [← Nm.tlen_eq hqd]
                exact Nat.le_trans (Nm.tlen_le _) (by rw [hql.out]; exact hzs)
              · show _ = _; rw [Nm.val_nat, Hdiv.out]
              · show _ = _; rw [Nm.val_nat]
              · show _ = _; rw [Nm.val_nat]
              · rw [← Bt_length, hBs, List.length_reverse, Nm.digs_length]; omega
          · obtain ⟨t, rfl⟩ : ∃ t, k = t + 1 := ⟨k - 1, by omega⟩
            have hji : ((t + 1 : Nat) : Int) - 1 = (t : Int) := by omega
            rw [hji]
            have htz : t < zs.length := by omega
            have htq : t < qs.length := by rw [hql.out]; omega
            obtain ⟨g, off, hA, hcell⟩ := va3.num.rd.at_ htz
            have c1' := hcell t htz
            obtain ⟨z, hz⟩ : ∃ z, zs[t] = z := ⟨_, rfl⟩
            rw [hz] at c1'
            have hzlt : z < 4294967296 := by rw [← hz]; exact va.num.dig.at_ htz
            have c2' := hown.1 t htq
            have f2' := hown.2 t htq
            rw [Nat.zero_add] at c2' f2'
            have hdz : Nm.val (zs.drop t) = z + 4294967296 * Nm.val (zs.drop (t + 1)) := by rw [List.drop_eq_getElem_cons htz, hz]; rfl
            obtain ⟨p, hp⟩ : ∃ p, r * 4294967296 = p := ⟨_, rfl⟩
            obtain ⟨X, hX⟩ : ∃ X, p + z = X := ⟨_, rfl⟩
            have hpi : (r : Int) * 4294967296 = (p : Int) := by rw [← hp]; simp
            have hXi : (p : Int) + (z : Int) = (X : Int) := by rw [← hX]; simp
            have hp9 : p ≤ 38654705664 := by omega
            have hX9 : X ≤ 42949672959 := by omega
            have hstep : Nm.val ((qs.set t (X / 10)).drop t) * 10 + X % 10 = Nm.val (zs.drop t) := by
              rw [Nm.drop_set qs t _ htq, hdz]
              have h1 := hqv.out
              omega
            have Hstep := Lib.hid hstep
            have HX9 := Lib.hid hX9
            subst hA
            clear hcell hz hdz hp hX hstep
            go_wp2_with fail
            have hm : (X : Int) % 10 = ((X % 10 : Nat) : Int) := by simp
            have hq : (X : Int) / 10 = ((X / 10 : Nat) : Int) := by simp
            rw [hm, hq]
            refine ⟨⟨t, X % 10, qs.set t (X / 10), by omega, rfl, rfl, by omega, ?_, hqd.set _ (by have := HX9.out; omega), Hstep, ?_, hb3.setCell (Nat.le_refl _) _⟩, by simp [intOf]⟩
            · show _ = _
              rw [List.length_set]; exact hql.out
            · have := hown.set t (X / 10)
              rwa [Nat.zero_add] at this
end Go.Proofs.YtaiceebhifecbaaDoor

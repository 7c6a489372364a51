/-
  Contract of Cmp. Conditions: slices of at most 1000 digits.
-/
import Derived.Test.YtaiceebhifecbaaDoorT3
namespace Go.Proofs.YtaiceebhifecbaaDoor
open Go.RowKit
theorem index32 (W : World) (g off n c i : Nat) (z : Int) (hz : z = (i : Int)) (hi : i < n) : (Instr.indexAt 22 (.slice (some ⟨g, off, none⟩) n c) (.int .i64 z)).run Tryd.prog W = .ok (.pointer (some ⟨g, off + i, none⟩)) W := by
  obtain ⟨j, hj, _, hs, _⟩ := info35_parts
  subst hz
  simp [Instr.indexAt, run_underlying Tryd.underlying22, asIntOf, sizeOf, typeInfo, hj, hs, hi, Addr.add_lit]
theorem quiet_more {f : FuncId} {args : Array Value} {w : World} {a n : Nat} {v : Value} (h : ∀ W, Calls Tryd.prog f args W fun e w' => e = .returned v ∧ W = w') :
    Calls Tryd.prog f args (w.drewN (a + n)) fun e w'' => e = .returned v ∧ ∃ m, w'' = w.drewN (a + m) := (h _).mono fun _ _ ⟨he, hm⟩ => ⟨he, n, hm.symm⟩
theorem trim_quiet (A : Option Addr) (c : Nat) (zs : List Nat) (w : World) (n : Nat) (h : Rd w A zs) (hc : zs.length ≤ c) (hm : zs.length ≤ 1000) :
    Calls Tryd.prog 38 #[.slice A zs.length c] (w.drewN n) fun e w'' => e = .returned (.slice A (Nm.tlen zs) (Nm.tlen zs)) ∧ ∃ m, w'' = w.drewN m :=
  (trim_any A c zs _ (h.drewN _) hc hm).mono fun _ _ ⟨a, b⟩ => ⟨a, n, b.symm⟩
set_option maxHeartbeats 400000 in
theorem cmp_any (A B : Option Addr) (c d : Nat) (xs ys : List Nat) (w : World) (hx : Rd w A xs) (hy : Rd w B ys) (hxd : Nm.Dig xs) (hyd : Nm.Dig ys) (hc : xs.length ≤ c) (hd : ys.length ≤ d) (hm : xs.length ≤ 1000) (hn : ys.length ≤ 1000) :
    Calls Tryd.prog 16 #[nt A xs.length c, nt B ys.length d] w fun e w' => e = .returned (.int .i64 (cmpI (Nm.val xs) (Nm.val ys))) ∧ Below w.heap.size w w' := by
  have hx' := (hx.alloc (Obj.cells #[Value.slice A xs.length c] 24)).alloc (Obj.cells #[Value.slice B ys.length d] 24)
  have hy' := (hy.alloc (Obj.cells #[Value.slice A xs.length c] 24)).alloc (Obj.cells #[Value.slice B ys.length d] 24)
  have htx := Nm.tlen_le xs
  have hty := Nm.tlen_le ys
  by_cases hlen : Nm.tlen xs = Nm.tlen ys
  · obtain ⟨m, hmx⟩ : ∃ m, Nm.tlen xs = m := ⟨_, rfl⟩
    have hmy : Nm.tlen ys = m := by rw [← hlen]; exact hmx
    have hnb : ((m : Int) != (m : Int)) = false := by simp
    obtain ⟨X, hX⟩ : ∃ X, xs.take m = X := ⟨_, rfl⟩
    obtain ⟨Y, hY⟩ : ∃ Y, ys.take m = Y := ⟨_, rfl⟩
    have hXl : X.length = m := by rw [← hX, List.length_take]; omega
    have hYl : Y.length = m := by rw [← hY, List.length_take]; omega
    have rX : Rd ((w.alloc (Obj.cells #[Value.slice A xs.length c] 24)).alloc (Obj.cells #[Value.slice B ys.length d] 24)) A X := by rw [← hX]; exact hx'.take m
    have rY : Rd ((w.alloc (Obj.cells #[Value.slice A xs.length c] 24)).alloc (Obj.cells #[Value.slice B ys.length d] 24)) B Y := by rw [← hY]; exact hy'.take m
    have dX : Nm.Dig X := by rw [← hX]; exact hxd.take m
    have dY : Nm.Dig Y := by rw [← hY]; exact hyd.take m
    have vX : Nm.val X = Nm.val xs := by rw [← hX, ← hmx]; exact Nm.val_tlen xs
    have vY : Nm.val Y = Nm.val ys := by rw [← hY, ← hmy]; exact Nm.val_tlen ys
    have qx : ∀ n, Calls Tryd.prog 38 #[.slice A xs.length c] (((w.alloc (Obj.cells #[Value.slice A xs.length c] 24)).alloc (Obj.cells #[Value.slice B ys.length d] 24)).drewN n) fun e w'' => e = .returned (.slice A m m) ∧ ∃ q, w'' = ((w.alloc (Obj.cells #[Value.slice A xs.length c] 24)).alloc (Obj.cells #[Value.slice B ys.length d] 24)).drewN q := by
      intro n; have := trim_quiet A c xs _ n hx' hc hm; rwa [hmx] at this
    have qy : ∀ n, Calls Tryd.prog 38 #[.slice B ys.length d] (((w.alloc (Obj.cells #[Value.slice A xs.length c] 24)).alloc (Obj.cells #[Value.slice B ys.length d] 24)).drewN n) fun e w'' => e = .returned (.slice B m m) ∧ ∃ q, w'' = ((w.alloc (Obj.cells #[Value.slice A xs.length c] 24)).alloc (Obj.cells #[Value.slice B ys.length d] 24)).drewN q := by
      intro n; have := trim_quiet B d ys _ n hy' hd hn; rwa [hmy] at this
    have QX := Lib.hid qx
    have QY := Lib.hid qy
    have HXl := Lib.hid hXl
    have HYl := Lib.hid hYl
    have VX := Lib.hid vX
    have VY := Lib.hid vY
    have hm1 : m ≤ 1000 := by omega
    clear qx qy hXl hYl vX vY hX hY hlen hmx hmy htx hty hx hy hx' hy' hxd hyd
    go_enter Tryd.func16, Tryd.ntmps16
    go_wp2_with fail
    go_quiet ((first | (go_at_call 38; with_reducible exact QX.out _) | (go_at_call 38; with_reducible exact QY.out _)))
    go_wp2_with fail
    go_loopw [27] (fun i wr => ∃ k q : Nat, k ≤ m ∧ i = .int .i64 k ∧ (∀ j, m - k ≤ j → X[j]? = Y[j]?) ∧ wr = ((w.alloc (Obj.cells #[Value.slice A xs.length c] 24)).alloc (Obj.cells #[Value.slice B ys.length d] 24)).drewN q) (fun i _ => m - (intOf i).toNat)
    case atStart => exact ⟨0, nq, Nat.zero_le _, rfl, fun j hj => by rw [List.getElem?_eq_none (by rw [HXl.out]; omega), List.getElem?_eq_none (by rw [HYl.out]; omega)], rfl⟩
    case round =>
      obtain ⟨k, q, hk, rfl, heq, rfl⟩ := hrel
      have Heq := Lib.hid heq
      clear heq
      by_cases hlt : k < m
      · obtain ⟨i, hi⟩ : ∃ i, m = i + 1 + k := ⟨m - 1 - k, by omega⟩
        have hiX : i < X.length := by rw [HXl.out]; omega
        have hiY : i < Y.length := by rw [HYl.out]; omega
        obtain ⟨g, off, hA, hcell⟩ := rX.at_ hiX
        obtain ⟨g', off', hB, hcell'⟩ := rY.at_ hiY
        have c1 := hcell i hiX
        have c2 := hcell' i hiY
        clear hcell hcell'
        subst hA hB
        obtain ⟨x, hx1⟩ : ∃ x, X[i] = x := ⟨_, rfl⟩
        obtain ⟨y, hy1⟩ : ∃ y, Y[i] = y := ⟨_, rfl⟩
        rw [hx1] at c1
        rw [hy1] at c2
        have hT : ((m : Int) - 1 - (k : Int)).toNat = i := by omega
        have ix1 := fun W => index32 W g off m m i ((m : Int) - 1 - (k : Int)) (by omega) (by omega)
        have ix2 := fun W => index32 W g' off' m m i ((m : Int) - 1 - (k : Int)) (by omega) (by omega)
        have Hi := Lib.hid hi
        have Hx := Lib.hid hx1
        have Hy := Lib.hid hy1
        have HT := Lib.hid hT
        have hdrop : X.drop (i + 1) = Y.drop (i + 1) := by
          refine List.ext_getElem? fun j => ?_
          rw [List.getElem?_drop, List.getElem?_drop]
          exact Heq.out _ (by omega)
        have Hdrop := Lib.hid hdrop
        clear rX rY hi hx1 hy1 hT hdrop
        by_cases hxy : x = y
        · have hb : ((x : Int) != (y : Int)) = false := by rw [hxy]; simp
          have Hxy := Lib.hid hxy
          clear hxy
          go_wp2_with fail
          go_quiet (fail)
          go_wp2_with fail
          go_roundw
          case rel =>
            refine ⟨k + 1, _, by omega, by go_num, ?_, rfl⟩
            intro j hj
            rcases Nat.lt_or_ge j (i + 1) with h1 | h1
            · obtain rfl : j = i := by have := Hi.out; omega
              rw [List.getElem?_eq_getElem hiX, List.getElem?_eq_getElem hiY, Hx.out, Hy.out, Hxy.out]
            · exact Heq.out j (by have := Hi.out; omega)
          case measure => simp [intOf]; omega
        · have hb : ((x : Int) != (y : Int)) = true := by rw [bne_iff_ne]; omega
          have hfin : cmpI x y = cmpI (Nm.val xs) (Nm.val ys) := by
            rw [← VX.out, ← VY.out]
            unfold cmpI
            rcases Nat.lt_or_ge x y with h1 | h1
            · have := Nm.lt_of_digit dX hiX hiY Hdrop.out (by rw [Hx.out, Hy.out]; exact h1)
              rw [if_pos (by omega), if_pos (by omega)]
            · have := Nm.lt_of_digit dY hiY hiX Hdrop.out.symm (by rw [Hx.out, Hy.out]; omega)
              rw [if_neg (by omega), if_pos (by omega), if_neg (by omega), if_pos (by omega)]
          have Hfin := Lib.hid hfin
          clear hfin hxy
          go_wp2_with fail
          go_quiet (fail)
          go_wp2_with fail
          go_quiet ((go_at_call 44; exact quiet_more (compare32_any _ _)))
          go_wp2_with fail
          go_ret
          exact ⟨ret_int Hfin.out, below_drewN (below_drewN (below_drewN (two _ _ _) _) _) _⟩
      · have hfin : cmpI (Nm.val xs) (Nm.val ys) = 0 := by
          rw [← VX.out, ← VY.out]
          have : X = Y := List.ext_getElem? fun j => Heq.out j (by omega)
          rw [this]
          simp [cmpI]
        have Hfin := Lib.hid hfin
        clear hfin
        go_wp2_with fail
        go_ret
        exact ⟨ret_int Hfin.out.symm, below_drewN (two _ _ _) _⟩
  · have hne : ((Nm.tlen xs : Int) != (Nm.tlen ys : Int)) = true := by rw [bne_iff_ne]; omega
    have hfin : cmpI (Nm.tlen xs) (Nm.tlen ys) = cmpI (Nm.val xs) (Nm.val ys) := by
      have e1 := Nm.tlen_eq hxd
      have e2 := Nm.tlen_eq hyd
      unfold cmpI
      rcases Nat.lt_or_ge (Nm.tlen xs) (Nm.tlen ys) with h1 | h1
      · have := Nm.lt_of_len (a := Nm.val xs) (b := Nm.val ys) (by omega)
        rw [if_pos (by omega), if_pos (by omega)]
      · have := Nm.lt_of_len (a := Nm.val ys) (b := Nm.val xs) (by omega)
        rw [if_neg (by omega), if_pos (by omega), if_neg (by omega), if_pos (by omega)]
    have Hf := Lib.hid hfin
    clear hfin hlen
    go_enter Tryd.func16, Tryd.ntmps16
    go_wp2_with fail
    go_quiet ((first | (go_at_call 38; with_reducible exact trim_quiet A c xs _ _ hx' hc hm) | (go_at_call 38; with_reducible exact trim_quiet B d ys _ _ hy' hd hn)))
    go_wp2_with fail
    refine (compare_any _ _ _).mono ?_
    rintro e w' ⟨rfl, rfl⟩
    go_wp2_with fail
    go_ret
    exact ⟨ret_int Hf.out, below_drewN (two _ _ _) _⟩
end Go.Proofs.YtaiceebhifecbaaDoor

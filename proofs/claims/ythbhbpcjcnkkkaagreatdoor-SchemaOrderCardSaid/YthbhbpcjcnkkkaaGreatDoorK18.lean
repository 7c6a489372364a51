/-
  The reference's test of an enumeration. No conditions beyond those that each names.
-/
import Derived.Test.YthbhbpcjcnkkkaaGreatDoorK17
import Derived.Test.YthbhbpcjcnkkkaaGreatDoorK15
import Derived.Test.YthbhbpcjcnkkkaaGreatDoorK12
namespace Go.Proofs.YthbhbpcjcnkkkaaGreatDoor
open Go.RowKit
theorem ens_take {S : Sch} {i j : Nat} (hj : j < i) (hi : i < S.enums.length) {x : List UInt8} (h : (S.enums[j]'(Nat.lt_trans hj hi)).name = x) : ((ens S).take i).contains x = true :=
  in_of (l := ens S) (k := j) (by unfold ens; rw [List.length_map]; omega) hj (by unfold ens; rw [List.getElem_map]; exact h)
theorem ens_not {S : Sch} {i : Nat} (hi : i ≤ S.enums.length) {x : List UInt8} (h : ∀ j (hj : j < S.enums.length), j < i → (S.enums[j]'hj).name ≠ x) : ((ens S).take i).contains x = false := by
  rw [Bool.eq_false_iff, List.contains_eq_mem]
  intro hc
  obtain ⟨j, hj, e⟩ := List.mem_iff_getElem.1 (of_decide_eq_true hc)
  have hj2 : j < i ∧ j < S.enums.length := by unfold ens at hj; simp at hj; omega
  rw [List.getElem_take] at e
  unfold ens at e
  rw [List.getElem_map] at e
  exact h j hj2.2 hj2.1 e
set_option maxRecDepth 100000 in
set_option maxHeartbeats 4000000 in
theorem refEnumC_any (S : Sch) (i : Nat) (hi : i < S.enums.length) (hn : S.enums.length ≤ 1000) (v : Value) (w : World) (hv : ScV w S v)
    (h40 : (S.enums[i]'hi).name.length ≤ 40) (hq : (S.enums[i]'hi).names.length ≤ 18) (hu : (S.enums[i]'hi).nums.length ≤ 18) (hs : ∀ y ∈ (S.enums[i]'hi).names, y.length ≤ 40) :
    Calls Tryz.prog 40 #[v, .int .i64 (i : Int)] w (Ib (.int .i64 (enE S i : Int)) w) := by
  obtain ⟨A, c, A2, c2, rfl, hS⟩ := hv
  have hSe := hS.en
  clear hS
  obtain ⟨n, hnn⟩ : ∃ n, S.enums.length = n := ⟨_, rfl⟩
  obtain ⟨m, hmm⟩ : ∃ m, S.structs.length = m := ⟨_, rfl⟩
  have HN := Lib.hid hnn
  obtain ⟨r, hr⟩ : ∃ r, enE S i = r := ⟨_, rfl⟩
  rw [hr]
  rw [enE_at hi] at hr
  have HC1 := Lib.hid (fun (j : Nat) (hj : j < i) (x : List UInt8) (h : (S.enums[j]'(Nat.lt_trans hj hi)).name = x) => ens_take hj hi h)
  have HC0 := Lib.hid (fun (x : List UInt8) (h : ∀ j (hj : j < S.enums.length), j < i → (S.enums[j]'hj).name ≠ x) => ens_not (Nat.le_of_lt hi) h)
  obtain ⟨a, rfl, hA⟩ := hSe.get hi
  obtain ⟨A3, c3, A4, c4, e0, e1, e2, hV⟩ := hA.val
  have hblk : (a.add (i * 3)).block < w.heap.size := blk_lt e0
  generalize S.enums[i]'hi = x at *
  obtain ⟨A3', c3', A4', c4', hve, hVn, hVi⟩ := hV
  obtain ⟨rfl, rfl⟩ : A3 = A3' ∧ A4 = A4' := by simp at hve; exact ⟨hve.1.1, hve.2.1⟩
  clear hve hA
  have hin : i < n := by omega
  have hn9 : n ≤ 1000 := by omega
  rw [hnn, hmm]
  obtain ⟨q, hqq⟩ : ∃ q, x.names.length = q := ⟨_, rfl⟩
  obtain ⟨u, huu⟩ : ∃ u, x.nums.length = u := ⟨_, rfl⟩
  have HQ := Lib.hid hqq
  have HU := Lib.hid huu
  rw [hqq] at e1 hq
  rw [huu] at e2 hu
  unfold enErr at hr
  rw [hqq, huu] at hr
  have hz : (w.alloc (Obj.cells #[.int .i64 S.ver, .slice (some a) n c, .slice A2 m c2] 25)).heap.size = w.heap.size + 1 := by simp
  have hab := ab2 w (Obj.cells #[.int .i64 S.ver, .slice (some a) n c, .slice A2 m c2] 25) (Obj.cells #[.string (bs x.name), .slice A3 q c3, .slice A4 u c4] 38)
  have D1 := (Bx.new3 w 25 (.int .i64 S.ver) (.slice (some a) n c) (.slice A2 m c2)).next (ab1 _ (Obj.cells #[.string (bs x.name), .slice A3 q c3, .slice A4 u c4] 38))
  have D2 := Bx.new3 (w.alloc (Obj.cells #[.int .i64 S.ver, .slice (some a) n c, .slice A2 m c2] 25)) 38 (.string (bs x.name)) (.slice A3 q c3) (.slice A4 u c4)
  rw [hz] at D2
  have cT := refIsType_any x.name ((w.alloc (Obj.cells #[.int .i64 S.ver, .slice (some a) n c, .slice A2 m c2] 25)).alloc (Obj.cells #[.string (bs x.name), .slice A3 q c3, .slice A4 u c4] 38)) (by omega)
  clear hnn hmm hqq huu hz hn h40
  cases g1 : isTn x.name
  · rw [g1] at cT hr
    rw [if_pos rfl] at hr
    subst hr
    clear g1
    go_enter Tryz.func40, Tryz.ntmps40
    go_wp2_with fail
    refine cT.mono ?_
    rintro e w' ⟨rfl, rfl⟩
    go_wp2_with fail
    go_ret
    exact ⟨rfl, hab⟩
  rw [g1] at cT hr
  rw [if_neg (by decide)] at hr
  have HR := Lib.hid hr
  have HZ0 : Hid (∀ j (hj : j < S.enums.length), j < 0 → (S.enums[j]'hj).name ≠ x.name) := Lib.hid fun _ _ h => by omega
  clear g1 hr
  go_enter Tryz.func40, Tryz.ntmps40
  go_wp2_with fail
  refine cT.mono ?_
  rintro e w' ⟨rfl, rfl⟩
  go_wp2_with fail
  clear e0 e1 e2 hblk
  go_loopw [6] (fun i_ wr => ∃ k : Nat, k ≤ i ∧ i_ = .int .i64 (k : Int) ∧ Hid (∀ j (hj : j < S.enums.length), j < k → (S.enums[j]'hj).name ≠ x.name) ∧ Bx wr w.heap.size [.int .i64 S.ver, .slice (some a) n c, .slice A2 m c2] ∧ Bx wr (w.heap.size + 1) [.string (bs x.name), .slice A3 q c3, .slice A4 u c4] ∧ Below w.heap.size w wr) (fun i_ _ => i - (intOf i_).toNat)
  case atStart => exact ⟨0, by omega, rfl, HZ0, D1, D2, hab⟩
  case round =>
    obtain ⟨k, hk, rfl, hI, R1, R2, hb⟩ := hrel
    clear D1 D2 hab HZ0 cT
    have r1 := R1.c 1 rfl
    have l1 := R1.lt
    have x0 := R2.c 0 rfl
    have x1 := R2.c 1 rfl
    have x2 := R2.c 2 rfl
    have l2 := R2.lt
    by_cases hlt : k < i
    · have hkm : k < S.enums.length := by rw [HN.out]; omega
      have hkn : k < n := by omega
      obtain ⟨a', ha', hA⟩ := hSe.get (i := k) hkm
      cases ha'
      have e0 := cell_next hb hA.1
      have hblk : (a.add (k * 3)).block < wr.heap.size := blk_lt e0
      have hx := HC1.out k hlt x.name
      have hy := fun h => before_succ (p := fun j => ∀ hj : j < S.enums.length, (S.enums[j]'hj).name ≠ x.name) (k := k) (fun j hj hj2 => hI.out j hj2 hj) h
      generalize hyk : (S.enums[k]'hkm).name = y at *
      clear hA
      by_cases e : y = x.name
      · have E := Lib.hid (show r = 7 by rw [← HR.out, if_pos (hx e)])
        subst e
        have q1 := sq_t x.name
        clear hx hy hI
        go_wp2_with fail
        go_quiet (fail)
        go_wp2_with fail
        go_ret
        exact ⟨by rw [E.out]; rfl, below_drewN hb _⟩
      · have E := Lib.hid (show ∀ j (hj : j < S.enums.length), j < k + 1 → (S.enums[j]'hj).name ≠ x.name from fun j hj hjk => hy (fun hj => by rw [hyk]; exact e) j hjk hj)
        have q1 := sq_f e
        clear hx hy hI hyk
        go_wp2_with fail
        go_quiet (fail)
        go_wp2_with fail
        go_roundw
        case rel => exact ⟨k + 1, by omega, by go_num, E, R1.next (below_drewN (Below.refl _ _) _), R2.next (below_drewN (Below.refl _ _) _), below_drewN hb _⟩
        case measure => simp [intOf]; omega
    · obtain rfl : k = i := by omega
      have hr : (if q = 0 ∨ u ≠ q then 2 else fe (nmErr x) q) = r := by rw [← HR.out, HC0.out x.name hI.out, if_neg Bool.false_ne_true]
      clear hI HR HC0 HC1 hlt
      by_cases g3 : q = 0
      · subst g3
        rw [if_pos (.inl rfl)] at hr
        subst hr
        go_wp2_with fail
        go_ret
        exact ⟨rfl, hb⟩
      have d3 : ((q : Int) == 0) = false := by rw [beq_eq_false_iff_ne]; omega
      by_cases g4 : u = q
      · subst g4
        have d4 : ((u : Int) != (u : Int)) = false := by simp
        rw [if_neg (by rintro (h | h); exact g3 h; exact h rfl)] at hr
        have HR := Lib.hid hr
        clear hr
        have HZ0 : Hid (∀ j, j < 0 → nmErr x j = 0) := Lib.hid fun _ h => by omega
        go_wp2_with fail
        clear x0 x1 x2 l2 r1 l1 d3 d4
        rename World => wo
        go_loopw [7] (fun i_ wr => ∃ k : Nat, k ≤ u ∧ i_ = .int .i64 (k : Int) ∧ Hid (∀ j, j < k → nmErr x j = 0) ∧ Bx wr w.heap.size [.int .i64 S.ver, .slice (some a) n c, .slice A2 m c2] ∧ Bx wr (w.heap.size + 1) [.string (bs x.name), .slice A3 u c3, .slice A4 u c4] ∧ Below w.heap.size w wr) (fun i_ _ => u - (intOf i_).toNat)
        case atStart => exact ⟨0, by omega, rfl, HZ0, R1, R2, hb⟩
        case round =>
          clear HZ0 R1 R2 hb
          obtain ⟨z, hz, rfl, hI, R1, R2, hb⟩ := hrel
          have x1 := R2.c 1 rfl
          have x2 := R2.c 2 rfl
          have l2 := R2.lt
          by_cases hlt : z < u
          · obtain ⟨b, rfl, hA⟩ := hVn.get (i := z) (by rw [HQ.out]; exact hlt)
            obtain ⟨b2, rfl, hA2⟩ := hVi.get (i := z) (by rw [HU.out]; exact hlt)
            rw [Nat.mul_one] at hA hA2
            have hkm : z < x.names.length := by rw [HQ.out]; exact hlt
            have hkq : z < x.nums.length := by rw [HU.out]; exact hlt
            have hcs := nmErr_cases x z
            rw [getD_of hkm, getD_of hkq] at hcs
            have hsk := hs _ (List.getElem_mem hkm)
            have e0 : wr.cell? (b.add z) = some (.string (bs (x.names[z]'hkm))) := cell_next hb hA
            have i0 : wr.cell? (b2.add z) = some (.int .i64 (x.nums[z]'hkq)) := cell_next hb hA2
            have hprev : ∀ f, z - 1 = f → 0 < z → wr.cell? (b2.add f) = some (.int .i64 (x.nums.getD (z - 1) 0)) := fun f hf h0 => by
              subst hf
              obtain ⟨a3, h3, hA3⟩ := hVi.get (i := z - 1) (by rw [HU.out]; omega)
              cases h3
              rw [Nat.mul_one] at hA3
              rw [getD_of (by rw [HU.out]; omega)]
              exact cell_next hb hA3
            have hN : ∀ W, Below w.heap.size w W → Nms W x.names (.slice (some b) u c3) := fun W hW => ⟨some b, c3, by rw [HQ.out], hVn.next fun x p => TyN.next hW⟩
            have cN := fun W => refIsName_any (x.names[z]'hkm) W (by omega)
            have cI := fun nq => refIn_any x.names z (x.names[z]'hkm) _ (wr.drewN nq) (by rw [HQ.out]; omega) (hN _ (below_drewN hb nq))
            generalize x.names[z]'hkm = y at *
            generalize x.nums[z]'hkq = v at *
            have hfe : ∀ e, nmErr x z = e → e ≠ 0 → r = e := fun e he h0 => by rw [← HR.out]; exact fe_at hlt hI.out he h0
            have hnxt := fun h => before_succ (p := fun j => nmErr x j = 0) hI.out (k := z) h
            clear hA hA2 hN
            rcases hcs with ⟨p1, p2⟩ | ⟨p1, p2, p3⟩ | ⟨p1, p2, p3, p4⟩ | ⟨p1, p2, p3, p4, p5, p6⟩ | ⟨p1, p2, p3, p4, p5, p6, p7⟩
            · obtain rfl := hfe _ p2 (by decide)
              rw [p1] at cN
              clear hfe hnxt hprev p1 p2 cI
              go_wp2_with fail
              refine (cN _).mono ?_
              rintro e w' ⟨rfl, rfl⟩
              go_wp2_with fail
              go_ret
              exact ⟨rfl, hb⟩
            · obtain rfl := hfe _ p3 (by decide)
              rw [p1] at cN
              rw [p2] at cI
              clear hfe hnxt hprev p1 p2 p3
              go_wp2_with fail
              refine (cN _).mono ?_
              rintro e w' ⟨rfl, rfl⟩
              go_wp2_with fail
              go_quiet (refine Calls.quiet_of_same ((cI _).mono fun e w' h => ⟨h.1, h.2.symm⟩))
              go_wp2_with fail
              go_ret
              exact ⟨rfl, below_drewN hb _⟩
            · obtain rfl := hfe _ p4 (by decide)
              rw [p1] at cN
              rw [p2] at cI
              clear hfe hnxt hprev p4 p1 p2
              by_cases g5 : v < 0
              · have d5 : decide (v < 0) = true := decide_eq_true g5
                clear p3 g5
                go_wp2_with fail
                refine (cN _).mono ?_
                rintro e w' ⟨rfl, rfl⟩
                go_wp2_with fail
                go_quiet (refine Calls.quiet_of_same ((cI _).mono fun e w' h => ⟨h.1, h.2.symm⟩))
                go_wp2_with fail
                go_ret
                exact ⟨rfl, below_drewN hb _⟩
              · have d5 : decide (v < 0) = false := decide_eq_false g5
                have d6 : decide (127 < v) = true := by rw [decide_eq_true_eq]; omega
                clear p3 g5
                go_wp2_with fail
                refine (cN _).mono ?_
                rintro e w' ⟨rfl, rfl⟩
                go_wp2_with fail
                go_quiet (refine Calls.quiet_of_same ((cI _).mono fun e w' h => ⟨h.1, h.2.symm⟩))
                go_wp2_with fail
                go_ret
                exact ⟨rfl, below_drewN hb _⟩
            · obtain rfl := hfe _ p6 (by decide)
              rw [p1] at cN
              rw [p2] at cI
              have d5 : decide (v < 0) = false := by rw [decide_eq_false_iff_not]; omega
              have d6 : decide (127 < v) = false := by rw [decide_eq_false_iff_not]; omega
              clear hfe hnxt p6 p1 p2 p3 p4
              by_cases g5 : z = 0
              · subst g5
                have i0 : wr.cell? b2 = some (.int .i64 v) := i0
                have e0 : wr.cell? b = some (.string (bs y)) := e0
                have d7 : (v == 0) = false := by rw [beq_eq_false_iff_ne]; rcases p5 with h | h; exact h.2; omega
                have d8 : (v != 0) = true := by rw [bne, d7]; rfl
                clear p5 hprev
                go_wp2_with fail
                refine (cN _).mono ?_
                rintro e w' ⟨rfl, rfl⟩
                go_wp2_with fail
                go_quiet (refine Calls.quiet_of_same ((cI _).mono fun e w' h => ⟨h.1, h.2.symm⟩))
                go_wp2_with fail
                go_quiet (fail)
                go_wp2_with fail
                go_ret
                first | exact ⟨rfl, below_drewN (below_drewN hb _) _⟩ | exact ⟨rfl, below_drewN hb _⟩
              · have d7 : ((z : Int) == 0) = false := by rw [beq_eq_false_iff_ne]; omega
                obtain ⟨f, hf⟩ : ∃ f, z - 1 = f := ⟨_, rfl⟩
                have l11 : (z : Int) - 1 = (f : Int) := by omega
                have l12 : IntKind.i64.wrap ((z : Int) - 1) = (f : Int) := by rw [l11]; exact IntWalk.i64_in _ (by omega)
                have j0 := hprev f hf (by omega)
                have hk0 : 0 < z := by omega
                have d9 : decide ((0 : Int) < (z : Int)) = true := by rw [decide_eq_true_eq]; omega
                have hfk : f < u := by omega
                obtain ⟨zp, hzp⟩ : ∃ zp, x.nums.getD (z - 1) 0 = zp := ⟨_, rfl⟩
                rw [hzp] at p5 j0
                have d8 : decide (v ≤ zp) = true := by rw [decide_eq_true_eq]; rcases p5 with h | h; exact absurd h.1 g5; exact h.2
                clear p5 hprev hzp hf g5
                go_wp2_with fail
                refine (cN _).mono ?_
                rintro e w' ⟨rfl, rfl⟩
                go_wp2_with fail
                go_quiet (refine Calls.quiet_of_same ((cI _).mono fun e w' h => ⟨h.1, h.2.symm⟩))
                go_wp2_with fail
                go_quiet (fail)
                go_wp2_with fail
                go_ret
                first | exact ⟨rfl, below_drewN (below_drewN hb _) _⟩ | exact ⟨rfl, below_drewN hb _⟩
            · have HX := Lib.hid (hnxt p7)
              rw [p1] at cN
              rw [p2] at cI
              have d5 : decide (v < 0) = false := by rw [decide_eq_false_iff_not]; omega
              have d6 : decide (127 < v) = false := by rw [decide_eq_false_iff_not]; omega
              clear hfe hnxt p7 p1 p2 p3 p4
              by_cases g5 : z = 0
              · subst g5
                have d7 : v = 0 := p5 rfl
                subst d7
                have i0 : wr.cell? b2 = some (.int .i64 0) := i0
                have e0 : wr.cell? b = some (.string (bs y)) := e0
                clear p5 p6 hprev
                go_wp2_with fail
                refine (cN _).mono ?_
                rintro e w' ⟨rfl, rfl⟩
                go_wp2_with fail
                go_quiet (refine Calls.quiet_of_same ((cI _).mono fun e w' h => ⟨h.1, h.2.symm⟩))
                go_wp2_with fail
                go_quiet (fail)
                go_wp2_with fail
                go_roundw
                case rel => first | exact ⟨1, by omega, by go_num, HX, R1.next (below_drewN (below_drewN (Below.refl _ _) _) _), R2.next (below_drewN (below_drewN (Below.refl _ _) _) _), below_drewN (below_drewN hb _) _⟩ | exact ⟨1, by omega, by go_num, HX, R1.next (below_drewN (Below.refl _ _) _), R2.next (below_drewN (Below.refl _ _) _), below_drewN hb _⟩
                case measure => simp [intOf]; omega
              · have d7 : ((z : Int) == 0) = false := by rw [beq_eq_false_iff_ne]; omega
                obtain ⟨f, hf⟩ : ∃ f, z - 1 = f := ⟨_, rfl⟩
                have l11 : (z : Int) - 1 = (f : Int) := by omega
                have l12 : IntKind.i64.wrap ((z : Int) - 1) = (f : Int) := by rw [l11]; exact IntWalk.i64_in _ (by omega)
                have j0 := hprev f hf (by omega)
                have hk0 : 0 < z := by omega
                have d9 : decide ((0 : Int) < (z : Int)) = true := by rw [decide_eq_true_eq]; omega
                have hfk : f < u := by omega
                obtain ⟨zp, hzp⟩ : ∃ zp, x.nums.getD (z - 1) 0 = zp := ⟨_, rfl⟩
                rw [hzp] at p6 j0
                have d8 : decide (v ≤ zp) = false := by rw [decide_eq_false_iff_not]; have := p6 hk0; omega
                clear p5 p6 hprev hzp hf g5
                go_wp2_with fail
                refine (cN _).mono ?_
                rintro e w' ⟨rfl, rfl⟩
                go_wp2_with fail
                go_quiet (refine Calls.quiet_of_same ((cI _).mono fun e w' h => ⟨h.1, h.2.symm⟩))
                go_wp2_with fail
                go_quiet (fail)
                go_wp2_with fail
                go_roundw
                case rel => first | exact ⟨z + 1, by omega, by go_num, HX, R1.next (below_drewN (below_drewN (Below.refl _ _) _) _), R2.next (below_drewN (below_drewN (Below.refl _ _) _) _), below_drewN (below_drewN hb _) _⟩ | exact ⟨z + 1, by omega, by go_num, HX, R1.next (below_drewN (Below.refl _ _) _), R2.next (below_drewN (Below.refl _ _) _), below_drewN hb _⟩
                case measure => simp [intOf]; omega
          · obtain rfl : z = u := by omega
            have H0 := Lib.hid (show r = 0 by rw [← HR.out]; exact fe_zero hI.out)
            clear hI
            go_wp2_with fail
            go_ret
            exact ⟨by rw [H0.out]; rfl, hb⟩
      · have d4 : ((u : Int) != (q : Int)) = true := by rw [bne_iff_ne]; omega
        rw [if_pos (.inr g4)] at hr
        subst hr
        clear g3 g4
        go_wp2_with fail
        go_ret
        exact ⟨rfl, hb⟩
end Go.Proofs.YthbhbpcjcnkkkaaGreatDoor
/-
  The reference's test of a struct. No conditions beyond those that each names.
-/
namespace Go.Proofs.YthbhbpcjcnkkkaaGreatDoor
open Go.RowKit
theorem sns_take {S : Sch} {i j : Nat} (hj : j < i) (hi : i < S.structs.length) {x : List UInt8} (h : (S.structs[j]'(Nat.lt_trans hj hi)).name = x) : ((sns S).take i).contains x = true :=
  in_of (l := sns S) (k := j) (by unfold sns; rw [List.length_map]; omega) hj (by unfold sns; rw [List.getElem_map]; exact h)
theorem sns_not {S : Sch} {i : Nat} (hi : i ≤ S.structs.length) {x : List UInt8} (h : ∀ j (hj : j < S.structs.length), j < i → (S.structs[j]'hj).name ≠ x) : ((sns S).take i).contains x = false := by
  rw [Bool.eq_false_iff, List.contains_eq_mem]
  intro hc
  obtain ⟨j, hj, e⟩ := List.mem_iff_getElem.1 (of_decide_eq_true hc)
  have hj2 : j < i ∧ j < S.structs.length := by unfold sns at hj; simp at hj; omega
  rw [List.getElem_take] at e
  unfold sns at e
  rw [List.getElem_map] at e
  exact h j hj2.2 hj2.1 e
theorem con_app (l m : List (List UInt8)) (x : List UInt8) : (l ++ m).contains x = (l.contains x || m.contains x) := by
  rw [Bool.eq_iff_iff]; simp
theorem in_of' (fs : List Fd) (z : Nat) {j : Nat} {x : List UInt8} (hj : j < fs.length) (hjz : j < z) (e : (fs[j]'hj).name = x) : ((fs.take z).map Fd.name).contains x = true := by
  rw [List.contains_eq_mem, decide_eq_true_eq]
  exact List.mem_map.2 ⟨fs[j]'hj, List.mem_take_iff_getElem.2 ⟨j, by omega, rfl⟩, e⟩
theorem not_in' {x : List UInt8} (fs : List Fd) (z : Nat) (h : ∀ j (hj : j < fs.length), j < z → (fs[j]'hj).name ≠ x) : ((fs.take z).map Fd.name).contains x = false := by
  rw [List.contains_eq_mem, decide_eq_false_iff_not]
  intro hc
  obtain ⟨f, hf, e⟩ := List.mem_map.1 hc
  obtain ⟨j, hj, rfl⟩ := List.mem_iff_getElem.1 hf
  rw [List.getElem_take] at e
  have hj2 : j < z ∧ j < fs.length := by simp at hj; omega
  exact h j hj2.2 hj2.1 e
set_option maxRecDepth 100000 in
set_option maxHeartbeats 8000000 in
theorem refStructure_any (S : Sch) (i : Nat) (hi : i < S.structs.length) (hn : S.enums.length ≤ 1000) (hm : S.structs.length ≤ 1000) (v : Value) (w : World) (hv : ScV w S v)
    (h40 : (S.structs[i]'hi).name.length ≤ 40) (hq : (S.structs[i]'hi).fields.length ≤ 18) (hs : ∀ f ∈ (S.structs[i]'hi).fields, f.name.length ≤ 40 ∧ lok f.type) :
    Calls Tryz.prog 41 #[v, .int .i64 (i : Int)] w (Ib (.int .i64 (stE S i : Int)) w) := by
  have hv0 := hv
  obtain ⟨A, c, A2, c2, rfl, hS⟩ := hv
  have hSs := hS.st
  clear hS
  obtain ⟨n, hnn⟩ : ∃ n, S.enums.length = n := ⟨_, rfl⟩
  obtain ⟨m, hmm⟩ : ∃ m, S.structs.length = m := ⟨_, rfl⟩
  have HM := Lib.hid hmm
  obtain ⟨r, hr⟩ : ∃ r, stE S i = r := ⟨_, rfl⟩
  rw [hr]
  rw [stE_at hi] at hr
  have HC1 := Lib.hid (fun (j : Nat) (hj : j < i) (x : List UInt8) (h : (S.structs[j]'(Nat.lt_trans hj hi)).name = x) => sns_take hj hi h)
  have HC0 := Lib.hid (fun (x : List UInt8) (h : ∀ j (hj : j < S.structs.length), j < i → (S.structs[j]'hj).name ≠ x) => sns_not (Nat.le_of_lt hi) h)
  obtain ⟨a, rfl, hA⟩ := hSs.get hi
  obtain ⟨A3, c3, e0, e1, hV⟩ := hA.val
  have hblk : (a.add (i * 2)).block < w.heap.size := blk_lt e0
  generalize S.structs[i]'hi = x at *
  obtain ⟨A3', c3', hve, hVf⟩ := hV
  obtain rfl : A3 = A3' := by simp at hve; exact hve.1
  clear hve hA
  have him : i < m := by omega
  have hm9 : m ≤ 1000 := by omega
  rw [hnn, hmm] at hv0 ⊢
  have cE := fun W (hW : Below w.heap.size w W) => refEnum_ex S x.name _ w hv0 (by omega)
  obtain ⟨uE, hVE, cE⟩ := refEnum_ex S x.name _ w hv0 hn
  obtain ⟨B5, d5, B6, d6, rfl, -, -⟩ := hVE
  obtain ⟨y1, hy1⟩ : ∃ y, ((fst_ En.name S.enums x.name).getD en0).names.length = y := ⟨_, rfl⟩
  obtain ⟨y2, hy2⟩ : ∃ y, ((fst_ En.name S.enums x.name).getD en0).nums.length = y := ⟨_, rfl⟩
  obtain ⟨y3, hy3⟩ : ∃ y, ((fst_ En.name S.enums x.name).getD en0).name = y := ⟨_, rfl⟩
  rw [hy1, hy2, hy3, mem_ens] at cE
  clear hy1 hy2 hy3
  have cRight0 := fun (f : Fd) (hf : lok f.type) (A5 : Option Addr) (c5 : Nat) (W : World) (hW : Below w.heap.size w W) (hT : TyV W f.type (.agg #[.int .i64 f.type.kind, .int .i64 f.type.size, .string (bs f.type.name), .slice A5 f.type.elem.length c5])) => refRight_any (SizeOf.sizeOf f.type + 1) S f.type _ _ W (Nat.lt_succ_self _) hm hn hf (hv0.next hW) hT
  obtain ⟨q, hqq⟩ : ∃ q, x.fields.length = q := ⟨_, rfl⟩
  have HQ := Lib.hid hqq
  rw [hqq] at e1 hq
  unfold stErr at hr
  rw [hqq, con_app] at hr
  have hz : (w.alloc (Obj.cells #[.int .i64 S.ver, .slice A n c, .slice (some a) m c2] 25)).heap.size = w.heap.size + 1 := by simp
  have hab := ab2 w (Obj.cells #[.int .i64 S.ver, .slice A n c, .slice (some a) m c2] 25) (Obj.cells #[.string (bs x.name), .slice A3 q c3] 32)
  have D1 := (Bx.new3 w 25 (.int .i64 S.ver) (.slice A n c) (.slice (some a) m c2)).next (ab1 _ (Obj.cells #[.string (bs x.name), .slice A3 q c3] 32))
  have D2 := Bx.new2 (w.alloc (Obj.cells #[.int .i64 S.ver, .slice A n c, .slice (some a) m c2] 25)) 32 (.string (bs x.name)) (.slice A3 q c3)
  rw [hz] at D2
  have cT := refIsType_any x.name ((w.alloc (Obj.cells #[.int .i64 S.ver, .slice A n c, .slice (some a) m c2] 25)).alloc (Obj.cells #[.string (bs x.name), .slice A3 q c3] 32)) (by omega)
  have cE1 := cE _ hab
  clear hnn hmm hqq hz hn hm h40 cE hv0
  cases g1 : isTn x.name
  · rw [g1] at cT hr
    rw [if_pos rfl] at hr
    subst hr
    clear g1
    go_enter Tryz.func41, Tryz.ntmps41
    go_wp2_with fail
    refine cT.mono ?_
    rintro e w' ⟨rfl, rfl⟩
    go_wp2_with fail
    go_ret
    exact ⟨rfl, hab⟩
  rw [g1] at cT hr
  rw [if_neg (by decide)] at hr
  clear g1
  cases g2 : (ens S).contains x.name
  case true =>
    rw [g2] at cE1 hr
    rw [Bool.true_or, if_pos rfl] at hr
    subst hr
    clear g2
    go_enter Tryz.func41, Tryz.ntmps41
    go_wp2_with fail
    refine cT.mono ?_
    rintro e w' ⟨rfl, rfl⟩
    go_wp2_with fail
    refine cE1.mono ?_
    rintro e w2 ⟨rfl, hb2⟩
    go_wp2_with fail
    go_ret
    exact ⟨rfl, Below.next hab (Below.next hb2 (ab1 _ _))⟩
  rw [g2] at cE1 hr
  rw [Bool.false_or] at hr
  have HR := Lib.hid hr
  clear g2 hr
  have HZ0 : Hid (∀ j (hj : j < S.structs.length), j < 0 → (S.structs[j]'hj).name ≠ x.name) := Lib.hid fun _ _ h => by omega
  go_enter Tryz.func41, Tryz.ntmps41
  go_wp2_with fail
  refine cT.mono ?_
  rintro e w' ⟨rfl, rfl⟩
  go_wp2_with fail
  refine cE1.mono ?_
  rintro e w2 ⟨rfl, hb2⟩
  have D1 := D1.next hb2
  have D2 := D2.next hb2
  have hab := Below.next hab hb2
  clear cE1 cT e0 e1 hblk
  obtain ⟨o9, ho9⟩ : ∃ o, Obj.cells #[Value.string (bs y3), .slice B5 y1 d5, .slice B6 y2 d6] 38 = o := ⟨_, rfl⟩
  have D1 := D1.next (ab1 w2 o9)
  have D2 := D2.next (ab1 w2 o9)
  have hab := Below.next hab (ab1 w2 o9)
  rw [← ho9] at D1 D2 hab
  clear ho9 o9
  go_wp2_with fail
  go_loopw [8] (fun i_ wr => ∃ k : Nat, k ≤ i ∧ i_ = .int .i64 (k : Int) ∧ Hid (∀ j (hj : j < S.structs.length), j < k → (S.structs[j]'hj).name ≠ x.name) ∧ Bx wr w.heap.size [.int .i64 S.ver, .slice A n c, .slice (some a) m c2] ∧ Bx wr (w.heap.size + 1) [.string (bs x.name), .slice A3 q c3] ∧ Below w.heap.size w wr) (fun i_ _ => i - (intOf i_).toNat)
  case atStart => exact ⟨0, by omega, rfl, HZ0, D1, D2, hab⟩
  case round =>
    clear D1 D2 hab HZ0 hb2
    obtain ⟨k, hk, rfl, hI, R1, R2, hb⟩ := hrel
    have r1 := R1.c 2 rfl
    have l1 := R1.lt
    have x0 := R2.c 0 rfl
    have x1 := R2.c 1 rfl
    have l2 := R2.lt
    by_cases hlt : k < i
    · have hkm : k < S.structs.length := by rw [HM.out]; omega
      have hkn : k < m := by omega
      obtain ⟨a', ha', hA⟩ := hSs.get (i := k) hkm
      cases ha'
      have e0 := cell_next hb hA.1
      have hblk : (a.add (k * 2)).block < wr.heap.size := blk_lt e0
      have hx := HC1.out k hlt x.name
      have hy := fun h => before_succ (p := fun j => ∀ hj : j < S.structs.length, (S.structs[j]'hj).name ≠ x.name) (k := k) (fun j hj hj2 => hI.out j hj2 hj) h
      generalize hyk : (S.structs[k]'hkm).name = y at *
      clear hA
      by_cases e : y = x.name
      · have E := Lib.hid (show r = 7 by rw [← HR.out, if_pos (hx e)])
        subst e
        have q1 := sq_t x.name
        clear hx hy hI
        go_wp2_with fail
        go_quiet (fail)
        go_wp2_with fail
        go_ret
        exact ⟨by rw [E.out]; rfl, below_drewN hb _⟩
      · have E := Lib.hid (show ∀ j (hj : j < S.structs.length), j < k + 1 → (S.structs[j]'hj).name ≠ x.name from fun j hj hjk => hy (fun hj => by rw [hyk]; exact e) j hjk hj)
        have q1 := sq_f e
        clear hx hy hI hyk
        go_wp2_with fail
        go_quiet (fail)
        go_wp2_with fail
        go_roundw
        case rel => exact ⟨k + 1, by omega, by go_num, E, R1.next (below_drewN (Below.refl _ _) _), R2.next (below_drewN (Below.refl _ _) _), below_drewN hb _⟩
        case measure => simp [intOf]; omega
    · obtain rfl : k = i := by omega
      have hr : fe (fdErr S x) q = r := by rw [← HR.out, HC0.out x.name hI.out, if_neg Bool.false_ne_true]
      clear hI HR HC0 HC1 hlt
      have HR := Lib.hid hr
      clear hr
      have HZ0 : Hid (∀ j, j < 0 → fdErr S x j = 0) := Lib.hid fun _ h => by omega
      go_wp2_with fail
      clear x0 x1 l2 r1 l1
      rename World => wo
      go_loopw [9] (fun i_ wr => ∃ z : Nat, z ≤ q ∧ i_ = .int .i64 (z : Int) ∧ Hid (∀ j, j < z → fdErr S x j = 0) ∧ Bx wr w.heap.size [.int .i64 S.ver, .slice A n c, .slice (some a) m c2] ∧ Bx wr (w.heap.size + 1) [.string (bs x.name), .slice A3 q c3] ∧ Below w.heap.size w wr) (fun i_ _ => q - (intOf i_).toNat)
      case atStart => exact ⟨0, by omega, rfl, HZ0, R1, R2, hb⟩
      case round =>
        clear HZ0 R1 R2 hb
        obtain ⟨z, hz, rfl, hI, R1, R2, hb⟩ := hrel
        have x1 := R2.c 1 rfl
        have l2 := R2.lt
        by_cases hlt : z < q
        · obtain ⟨b, rfl, hA⟩ := hVf.get (i := z) (by rw [HQ.out]; exact hlt)
          have hkm : z < x.fields.length := by rw [HQ.out]; exact hlt
          have hcs := fdErr_cases S x z
          rw [getD_of hkm] at hcs
          obtain ⟨hs1, hs2⟩ := hs _ (List.getElem_mem hkm)
          obtain ⟨A5, c5, f0, f1, f2, f3, f4, f5, f6, -, hT⟩ := (FdA.next hb hA).val
          have hblk : (b.add (z * 7)).block < wr.heap.size := blk_lt f0
          have hprev : ∀ f, z - 1 = f → 0 < z → wr.cell? (b.add (f * 7)) = some (.int .i64 (x.fields.getD (z - 1) fd0).num) ∧ (b.add (f * 7)).block < wr.heap.size := fun f hf h0 => by
            subst hf
            obtain ⟨a3, h3, hA3⟩ := hVf.get (i := z - 1) (by rw [HQ.out]; omega)
            cases h3
            rw [getD_of (by rw [HQ.out]; omega)]
            have := cell_next hb hA3.1
            exact ⟨this, blk_lt this⟩
          have hfe : ∀ e, fdErr S x z = e → e ≠ 0 → r = e := fun e he h0 => by rw [← HR.out]; exact fe_at hlt hI.out he h0
          have hnxt := fun h => before_succ (p := fun j => fdErr S x j = 0) hI.out (k := z) h
          have cN := fun W => refIsName_any (x.fields[z]'hkm).name W (by omega)
          have cRight := fun W (hW : Below wr.heap.size wr W) => cRight0 (x.fields[z]'hkm) hs2 A5 c5 W (Below.next hb hW) (hT.next hW)
          generalize x.fields[z]'hkm = f at *
          clear hA hs1 hs2
          rcases hcs with ⟨p1, pe⟩ | ⟨p1, p2, p3, pe⟩ | ⟨p1, p2, p3, p4, pe⟩ | ⟨p1, p2, p3, p4, p5, pe⟩ | ⟨p1, p2, p3, p4, p5, p6, pe⟩ | ⟨p1, p2, p3, p4, p5, p6, pe⟩
          · obtain rfl := hfe _ pe (by decide)
            clear hfe hnxt hprev cN cRight pe hT
            by_cases g5 : f.num < 1
            · have d1 : decide (f.num < 1) = true := decide_eq_true g5
              clear p1 g5
              go_wp2_with fail
              go_ret
              exact ⟨rfl, Below.next hb (ab1 _ _)⟩
            · have d1 : decide (f.num < 1) = false := decide_eq_false g5
              have d2 : decide (127 < f.num) = true := by rw [decide_eq_true_eq]; omega
              clear p1 g5
              go_wp2_with fail
              go_ret
              exact ⟨rfl, Below.next hb (ab1 _ _)⟩
          · obtain rfl := hfe _ pe (by decide)
            clear hfe hnxt cN cRight pe hT
            have d1 : decide (f.num < 1) = false := by rw [decide_eq_false_iff_not]; omega
            have d2 : decide (127 < f.num) = false := by rw [decide_eq_false_iff_not]; omega
            have hz0 := p3.1
            have d9 : decide ((0 : Int) < (z : Int)) = true := by rw [decide_eq_true_eq]; omega
            have d9n : decide (0 < z) = true := by rw [decide_eq_true_eq]; omega
            obtain ⟨fz, hfz⟩ : ∃ fz, z - 1 = fz := ⟨_, rfl⟩
            have l11 : (z : Int) - 1 = (fz : Int) := by omega
            have l12 : IntKind.i64.wrap ((z : Int) - 1) = (fz : Int) := by rw [l11]; exact IntWalk.i64_in _ (by omega)
            obtain ⟨j0, j1⟩ := hprev fz hfz (by omega)
            have hfq : fz < q := by omega
            obtain ⟨zp, hzp⟩ : ∃ zp, (x.fields.getD (z - 1) fd0).num = zp := ⟨_, rfl⟩
            rw [hzp] at p3 j0
            have d8 : decide (f.num ≤ zp) = true := by rw [decide_eq_true_eq]; exact p3.2
            clear hprev p3 hzp hfz p1 p2
            go_wp2_with fail
            go_quiet (fail)
            go_wp2_with fail
            go_ret
            exact ⟨rfl, below_drewN (Below.next hb (ab1 _ _)) _⟩
          · obtain rfl := hfe _ pe (by decide)
            rw [p4] at cN
            clear hfe hnxt cRight pe hT p4
            have d1 : decide (f.num < 1) = false := by rw [decide_eq_false_iff_not]; omega
            have d2 : decide (127 < f.num) = false := by rw [decide_eq_false_iff_not]; omega
            clear p1 p2
            by_cases g5 : z = 0
            · have d9 : decide ((0 : Int) < (z : Int)) = false := by rw [decide_eq_false_iff_not]; omega
              have d9n : decide (0 < z) = false := by rw [decide_eq_false_iff_not]; omega
              clear hprev p3 g5
              go_wp2_with fail
              go_quiet (fail)
              go_wp2_with fail
              refine (cN _).mono ?_
              rintro e w' ⟨rfl, rfl⟩
              go_wp2_with fail
              go_ret
              exact ⟨rfl, below_drewN (Below.next hb (ab1 _ _)) _⟩
            · have d9 : decide ((0 : Int) < (z : Int)) = true := by rw [decide_eq_true_eq]; omega
              have d9n : decide (0 < z) = true := by rw [decide_eq_true_eq]; omega
              obtain ⟨fz, hfz⟩ : ∃ fz, z - 1 = fz := ⟨_, rfl⟩
              have l11 : (z : Int) - 1 = (fz : Int) := by omega
              have l12 : IntKind.i64.wrap ((z : Int) - 1) = (fz : Int) := by rw [l11]; exact IntWalk.i64_in _ (by omega)
              obtain ⟨j0, j1⟩ := hprev fz hfz (by omega)
              have hfq : fz < q := by omega
              obtain ⟨zp, hzp⟩ : ∃ zp, (x.fields.getD (z - 1) fd0).num = zp := ⟨_, rfl⟩
              rw [hzp] at p3 j0
              have d8 : decide (f.num ≤ zp) = false := by rw [decide_eq_false_iff_not]; have := p3 (by omega); omega
              clear hprev p3 g5 hzp hfz
              go_wp2_with fail
              go_quiet (fail)
              go_wp2_with fail
              refine (cN _).mono ?_
              rintro e w' ⟨rfl, rfl⟩
              go_wp2_with fail
              go_ret
              exact ⟨rfl, below_drewN (Below.next hb (ab1 _ _)) _⟩
          · obtain rfl := hfe _ pe (by decide)
            rw [p4] at cN
            have HIN : Hid (((x.fields.take z).map Fd.name).contains f.name = true → 7 = 7) := Lib.hid fun _ => rfl
            have P5 := Lib.hid p5
            clear hfe hnxt pe p4 p5
            have d1 : decide (f.num < 1) = false := by rw [decide_eq_false_iff_not]; omega
            have d2 : decide (127 < f.num) = false := by rw [decide_eq_false_iff_not]; omega
            clear p1 p2
            by_cases g5 : z = 0
            · have d9 : decide ((0 : Int) < (z : Int)) = false := by rw [decide_eq_false_iff_not]; omega
              have d9n : decide (0 < z) = false := by rw [decide_eq_false_iff_not]; omega
              clear hprev p3 g5
              go_wp2_with fail
              go_quiet (fail)
              go_wp2_with fail
              refine (cN _).mono ?_
              rintro e w' ⟨rfl, rfl⟩
              go_wp2_with fail
              rename World => wo
              have HJ0 : Hid (∀ j (hj : j < x.fields.length), j < 0 → (x.fields[j]'hj).name ≠ f.name) := Lib.hid fun _ _ h => by omega
              go_loopw [11] (fun i_ wr => ∃ j : Nat, j ≤ z ∧ i_ = .int .i64 (j : Int) ∧ Hid (∀ j2 (hj : j2 < x.fields.length), j2 < j → (x.fields[j2]'hj).name ≠ f.name) ∧ Bx wr w.heap.size [.int .i64 S.ver, .slice A n c, .slice (some a) m c2] ∧ Bx wr (w.heap.size + 1) [.string (bs x.name), .slice (some b) q c3] ∧ Bx wr wo.heap.size [Value.int .i64 f.num, .string (bs f.name), .int .i64 f.type.kind, .int .i64 f.type.size, .string (bs f.type.name), .slice A5 f.type.elem.length c5, .bool f.opt] ∧ Below wo.heap.size wo wr) (fun i_ _ => z - (intOf i_).toNat)
              case atStart => exact ⟨0, by omega, rfl, HJ0, R1.next (below_drewN (ab1 _ _) _), R2.next (below_drewN (ab1 _ _) _), (Bx.new7 _ _ _ _ _ _ _ _ _).next (below_drewN (Below.refl _ _) _), below_drewN (ab1 _ _) _⟩
              case round =>
                clear HJ0 f0 f1 f2 f3 f4 f5 f6 x1 l2 hblk R1 R2
                obtain ⟨j, hj, rfl, hJ, RS, RX, RF, hbF⟩ := hrel
                have y1 := RX.c 1 rfl
                have y2 := RF.c 1 rfl
                have l5 := RX.lt
                have l6 := RF.lt
                by_cases hjz : j < z
                · have hjm : j < x.fields.length := by rw [HQ.out]; omega
                  have hjq : j < q := by omega
                  obtain ⟨a', ha', hAj⟩ := hVf.get hjm
                  cases ha'
                  have e0 := cell_next (Below.next hb hbF) hAj.2.1
                  have e1 := cell_next (Below.next hb hbF) hAj.1
                  have hblk : (b.add (j * 7)).block < wr.heap.size := blk_lt e1
                  have hyes := fun h => before_succ (p := fun j => ∀ hj : j < x.fields.length, (x.fields[j]'hj).name ≠ f.name) (k := j) (fun j hj hj2 => hJ.out j hj2 hj) h
                  have hin : (x.fields[j]'hjm).name = f.name → ((x.fields.take z).map Fd.name).contains f.name = true := fun e => in_of' x.fields z hjm hjz e
                  generalize hyj : (x.fields[j]'hjm).name = y at *
                  clear hAj e1
                  by_cases e : y = f.name
                  · have E := Lib.hid (HIN.out (hin e))
                    subst e
                    have q1 := sq_t f.name
                    clear hyes hin hJ
                    go_wp2_with fail
                    go_quiet (fail)
                    go_wp2_with fail
                    go_ret
                    exact ⟨by first | rfl | (rw [E.out]; rfl), Below.next hb (below_drewN hbF _)⟩
                  · have E := Lib.hid (show ∀ j2 (hj : j2 < x.fields.length), j2 < j + 1 → (x.fields[j2]'hj).name ≠ f.name from fun j2 hj hjk => hyes (fun hj => by rw [hyj]; exact e) j2 hjk hj)
                    have q1 := sq_f e
                    clear hyes hin hJ hyj
                    go_wp2_with fail
                    go_quiet (fail)
                    go_wp2_with fail
                    go_roundw
                    case rel => exact ⟨j + 1, by omega, by go_num, E, RS.next (below_drewN (Below.refl _ _) _), RX.next (below_drewN (Below.refl _ _) _), RF.next (below_drewN (Below.refl _ _) _), below_drewN hbF _⟩
                    case measure => simp [intOf]; omega
                · obtain rfl : j = z := by omega
                  have HNO := Lib.hid (not_in' x.fields j hJ.out)
                  have s0 := RS.c 0 rfl
                  have s1 := RS.c 1 rfl
                  have s2 := RS.c 2 rfl
                  have g2 := RF.c 2 rfl
                  have g3 := RF.c 3 rfl
                  have g4 := RF.c 4 rfl
                  have g5 := RF.c 5 rfl
                  have cR := cRight wr hbF
                  clear hJ
                  exact absurd (HNO.out.symm.trans P5.out) (by decide)
            · have d9 : decide ((0 : Int) < (z : Int)) = true := by rw [decide_eq_true_eq]; omega
              have d9n : decide (0 < z) = true := by rw [decide_eq_true_eq]; omega
              obtain ⟨fz, hfz⟩ : ∃ fz, z - 1 = fz := ⟨_, rfl⟩
              have l11 : (z : Int) - 1 = (fz : Int) := by omega
              have l12 : IntKind.i64.wrap ((z : Int) - 1) = (fz : Int) := by rw [l11]; exact IntWalk.i64_in _ (by omega)
              obtain ⟨j0, j1⟩ := hprev fz hfz (by omega)
              have hfq : fz < q := by omega
              obtain ⟨zp, hzp⟩ : ∃ zp, (x.fields.getD (z - 1) fd0).num = zp := ⟨_, rfl⟩
              rw [hzp] at p3 j0
              have d8 : decide (f.num ≤ zp) = false := by rw [decide_eq_false_iff_not]; have := p3 (by omega); omega
              clear hprev p3 g5 hzp hfz
              go_wp2_with fail
              go_quiet (fail)
              go_wp2_with fail
              refine (cN _).mono ?_
              rintro e w' ⟨rfl, rfl⟩
              go_wp2_with fail
              rename World => wo
              have HJ0 : Hid (∀ j (hj : j < x.fields.length), j < 0 → (x.fields[j]'hj).name ≠ f.name) := Lib.hid fun _ _ h => by omega
              go_loopw [11] (fun i_ wr => ∃ j : Nat, j ≤ z ∧ i_ = .int .i64 (j : Int) ∧ Hid (∀ j2 (hj : j2 < x.fields.length), j2 < j → (x.fields[j2]'hj).name ≠ f.name) ∧ Bx wr w.heap.size [.int .i64 S.ver, .slice A n c, .slice (some a) m c2] ∧ Bx wr (w.heap.size + 1) [.string (bs x.name), .slice (some b) q c3] ∧ Bx wr wo.heap.size [Value.int .i64 f.num, .string (bs f.name), .int .i64 f.type.kind, .int .i64 f.type.size, .string (bs f.type.name), .slice A5 f.type.elem.length c5, .bool f.opt] ∧ Below wo.heap.size wo wr) (fun i_ _ => z - (intOf i_).toNat)
              case atStart => exact ⟨0, by omega, rfl, HJ0, R1.next (below_drewN (ab1 _ _) _), R2.next (below_drewN (ab1 _ _) _), (Bx.new7 _ _ _ _ _ _ _ _ _).next (below_drewN (Below.refl _ _) _), below_drewN (ab1 _ _) _⟩
              case round =>
                clear HJ0 f0 f1 f2 f3 f4 f5 f6 x1 l2 hblk R1 R2
                obtain ⟨j, hj, rfl, hJ, RS, RX, RF, hbF⟩ := hrel
                have y1 := RX.c 1 rfl
                have y2 := RF.c 1 rfl
                have l5 := RX.lt
                have l6 := RF.lt
                by_cases hjz : j < z
                · have hjm : j < x.fields.length := by rw [HQ.out]; omega
                  have hjq : j < q := by omega
                  obtain ⟨a', ha', hAj⟩ := hVf.get hjm
                  cases ha'
                  have e0 := cell_next (Below.next hb hbF) hAj.2.1
                  have e1 := cell_next (Below.next hb hbF) hAj.1
                  have hblk : (b.add (j * 7)).block < wr.heap.size := blk_lt e1
                  have hyes := fun h => before_succ (p := fun j => ∀ hj : j < x.fields.length, (x.fields[j]'hj).name ≠ f.name) (k := j) (fun j hj hj2 => hJ.out j hj2 hj) h
                  have hin : (x.fields[j]'hjm).name = f.name → ((x.fields.take z).map Fd.name).contains f.name = true := fun e => in_of' x.fields z hjm hjz e
                  generalize hyj : (x.fields[j]'hjm).name = y at *
                  clear hAj e1
                  by_cases e : y = f.name
                  · have E := Lib.hid (HIN.out (hin e))
                    subst e
                    have q1 := sq_t f.name
                    clear hyes hin hJ
                    go_wp2_with fail
                    go_quiet (fail)
                    go_wp2_with fail
                    go_ret
                    exact ⟨by first | rfl | (rw [E.out]; rfl), Below.next hb (below_drewN hbF _)⟩
                  · have E := Lib.hid (show ∀ j2 (hj : j2 < x.fields.length), j2 < j + 1 → (x.fields[j2]'hj).name ≠ f.name from fun j2 hj hjk => hyes (fun hj => by rw [hyj]; exact e) j2 hjk hj)
                    have q1 := sq_f e
                    clear hyes hin hJ hyj
                    go_wp2_with fail
                    go_quiet (fail)
                    go_wp2_with fail
                    go_roundw
                    case rel => exact ⟨j + 1, by omega, by go_num, E, RS.next (below_drewN (Below.refl _ _) _), RX.next (below_drewN (Below.refl _ _) _), RF.next (below_drewN (Below.refl _ _) _), below_drewN hbF _⟩
                    case measure => simp [intOf]; omega
                · obtain rfl : j = z := by omega
                  have HNO := Lib.hid (not_in' x.fields j hJ.out)
                  have s0 := RS.c 0 rfl
                  have s1 := RS.c 1 rfl
                  have s2 := RS.c 2 rfl
                  have g2 := RF.c 2 rfl
                  have g3 := RF.c 3 rfl
                  have g4 := RF.c 4 rfl
                  have g5 := RF.c 5 rfl
                  have cR := cRight wr hbF
                  clear hJ
                  exact absurd (HNO.out.symm.trans P5.out) (by decide)
          · obtain rfl := hfe _ pe (by decide)
            rw [p4] at cN
            rw [p6] at cRight
            have HIN : Hid (((x.fields.take z).map Fd.name).contains f.name = true → 13 = 7) := Lib.hid fun h => by rw [p5] at h; cases h
            clear hfe hnxt pe p4 p5 p6
            have d1 : decide (f.num < 1) = false := by rw [decide_eq_false_iff_not]; omega
            have d2 : decide (127 < f.num) = false := by rw [decide_eq_false_iff_not]; omega
            clear p1 p2
            by_cases g5 : z = 0
            · have d9 : decide ((0 : Int) < (z : Int)) = false := by rw [decide_eq_false_iff_not]; omega
              have d9n : decide (0 < z) = false := by rw [decide_eq_false_iff_not]; omega
              clear hprev p3 g5
              go_wp2_with fail
              go_quiet (fail)
              go_wp2_with fail
              refine (cN _).mono ?_
              rintro e w' ⟨rfl, rfl⟩
              go_wp2_with fail
              rename World => wo
              have HJ0 : Hid (∀ j (hj : j < x.fields.length), j < 0 → (x.fields[j]'hj).name ≠ f.name) := Lib.hid fun _ _ h => by omega
              go_loopw [11] (fun i_ wr => ∃ j : Nat, j ≤ z ∧ i_ = .int .i64 (j : Int) ∧ Hid (∀ j2 (hj : j2 < x.fields.length), j2 < j → (x.fields[j2]'hj).name ≠ f.name) ∧ Bx wr w.heap.size [.int .i64 S.ver, .slice A n c, .slice (some a) m c2] ∧ Bx wr (w.heap.size + 1) [.string (bs x.name), .slice (some b) q c3] ∧ Bx wr wo.heap.size [Value.int .i64 f.num, .string (bs f.name), .int .i64 f.type.kind, .int .i64 f.type.size, .string (bs f.type.name), .slice A5 f.type.elem.length c5, .bool f.opt] ∧ Below wo.heap.size wo wr) (fun i_ _ => z - (intOf i_).toNat)
              case atStart => exact ⟨0, by omega, rfl, HJ0, R1.next (below_drewN (ab1 _ _) _), R2.next (below_drewN (ab1 _ _) _), (Bx.new7 _ _ _ _ _ _ _ _ _).next (below_drewN (Below.refl _ _) _), below_drewN (ab1 _ _) _⟩
              case round =>
                clear HJ0 f0 f1 f2 f3 f4 f5 f6 x1 l2 hblk R1 R2
                obtain ⟨j, hj, rfl, hJ, RS, RX, RF, hbF⟩ := hrel
                have y1 := RX.c 1 rfl
                have y2 := RF.c 1 rfl
                have l5 := RX.lt
                have l6 := RF.lt
                by_cases hjz : j < z
                · have hjm : j < x.fields.length := by rw [HQ.out]; omega
                  have hjq : j < q := by omega
                  obtain ⟨a', ha', hAj⟩ := hVf.get hjm
                  cases ha'
                  have e0 := cell_next (Below.next hb hbF) hAj.2.1
                  have e1 := cell_next (Below.next hb hbF) hAj.1
                  have hblk : (b.add (j * 7)).block < wr.heap.size := blk_lt e1
                  have hyes := fun h => before_succ (p := fun j => ∀ hj : j < x.fields.length, (x.fields[j]'hj).name ≠ f.name) (k := j) (fun j hj hj2 => hJ.out j hj2 hj) h
                  have hin : (x.fields[j]'hjm).name = f.name → ((x.fields.take z).map Fd.name).contains f.name = true := fun e => in_of' x.fields z hjm hjz e
                  generalize hyj : (x.fields[j]'hjm).name = y at *
                  clear hAj e1
                  by_cases e : y = f.name
                  · have E := Lib.hid (HIN.out (hin e))
                    subst e
                    have q1 := sq_t f.name
                    clear hyes hin hJ
                    go_wp2_with fail
                    go_quiet (fail)
                    go_wp2_with fail
                    go_ret
                    exact ⟨by first | rfl | (rw [E.out]; rfl), Below.next hb (below_drewN hbF _)⟩
                  · have E := Lib.hid (show ∀ j2 (hj : j2 < x.fields.length), j2 < j + 1 → (x.fields[j2]'hj).name ≠ f.name from fun j2 hj hjk => hyes (fun hj => by rw [hyj]; exact e) j2 hjk hj)
                    have q1 := sq_f e
                    clear hyes hin hJ hyj
                    go_wp2_with fail
                    go_quiet (fail)
                    go_wp2_with fail
                    go_roundw
                    case rel => exact ⟨j + 1, by omega, by go_num, E, RS.next (below_drewN (Below.refl _ _) _), RX.next (below_drewN (Below.refl _ _) _), RF.next (below_drewN (Below.refl _ _) _), below_drewN hbF _⟩
                    case measure => simp [intOf]; omega
                · obtain rfl : j = z := by omega
                  have HNO := Lib.hid (not_in' x.fields j hJ.out)
                  have s0 := RS.c 0 rfl
                  have s1 := RS.c 1 rfl
                  have s2 := RS.c 2 rfl
                  have g2 := RF.c 2 rfl
                  have g3 := RF.c 3 rfl
                  have g4 := RF.c 4 rfl
                  have g5 := RF.c 5 rfl
                  have cR := cRight wr hbF
                  clear hJ
                  go_wp2_with fail
                  refine cR.mono ?_
                  rintro e w3 ⟨rfl, hb3⟩
                  go_wp2_with fail
                  go_ret
                  exact ⟨rfl, Below.next (Below.next hb hbF) hb3⟩
            · have d9 : decide ((0 : Int) < (z : Int)) = true := by rw [decide_eq_true_eq]; omega
              have d9n : decide (0 < z) = true := by rw [decide_eq_true_eq]; omega
              obtain ⟨fz, hfz⟩ : ∃ fz, z - 1 = fz := ⟨_, rfl⟩
              have l11 : (z : Int) - 1 = (fz : Int) := by omega
              have l12 : IntKind.i64.wrap ((z : Int) - 1) = (fz : Int) := by rw [l11]; exact IntWalk.i64_in _ (by omega)
              obtain ⟨j0, j1⟩ := hprev fz hfz (by omega)
              have hfq : fz < q := by omega
              obtain ⟨zp, hzp⟩ : ∃ zp, (x.fields.getD (z - 1) fd0).num = zp := ⟨_, rfl⟩
              rw [hzp] at p3 j0
              have d8 : decide (f.num ≤ zp) = false := by rw [decide_eq_false_iff_not]; have := p3 (by omega); omega
              clear hprev p3 g5 hzp hfz
              go_wp2_with fail
              go_quiet (fail)
              go_wp2_with fail
              refine (cN _).mono ?_
              rintro e w' ⟨rfl, rfl⟩
              go_wp2_with fail
              rename World => wo
              have HJ0 : Hid (∀ j (hj : j < x.fields.length), j < 0 → (x.fields[j]'hj).name ≠ f.name) := Lib.hid fun _ _ h => by omega
              go_loopw [11] (fun i_ wr => ∃ j : Nat, j ≤ z ∧ i_ = .int .i64 (j : Int) ∧ Hid (∀ j2 (hj : j2 < x.fields.length), j2 < j → (x.fields[j2]'hj).name ≠ f.name) ∧ Bx wr w.heap.size [.int .i64 S.ver, .slice A n c, .slice (some a) m c2] ∧ Bx wr (w.heap.size + 1) [.string (bs x.name), .slice (some b) q c3] ∧ Bx wr wo.heap.size [Value.int .i64 f.num, .string (bs f.name), .int .i64 f.type.kind, .int .i64 f.type.size, .string (bs f.type.name), .slice A5 f.type.elem.length c5, .bool f.opt] ∧ Below wo.heap.size wo wr) (fun i_ _ => z - (intOf i_).toNat)
              case atStart => exact ⟨0, by omega, rfl, HJ0, R1.next (below_drewN (ab1 _ _) _), R2.next (below_drewN (ab1 _ _) _), (Bx.new7 _ _ _ _ _ _ _ _ _).next (below_drewN (Below.refl _ _) _), below_drewN (ab1 _ _) _⟩
              case round =>
                clear HJ0 f0 f1 f2 f3 f4 f5 f6 x1 l2 hblk R1 R2
                obtain ⟨j, hj, rfl, hJ, RS, RX, RF, hbF⟩ := hrel
                have y1 := RX.c 1 rfl
                have y2 := RF.c 1 rfl
                have l5 := RX.lt
                have l6 := RF.lt
                by_cases hjz : j < z
                · have hjm : j < x.fields.length := by rw [HQ.out]; omega
                  have hjq : j < q := by omega
                  obtain ⟨a', ha', hAj⟩ := hVf.get hjm
                  cases ha'
                  have e0 := cell_next (Below.next hb hbF) hAj.2.1
                  have e1 := cell_next (Below.next hb hbF) hAj.1
                  have hblk : (b.add (j * 7)).block < wr.heap.size := blk_lt e1
                  have hyes := fun h => before_succ (p := fun j => ∀ hj : j < x.fields.length, (x.fields[j]'hj).name ≠ f.name) (k := j) (fun j hj hj2 => hJ.out j hj2 hj) h
                  have hin : (x.fields[j]'hjm).name = f.name → ((x.fields.take z).map Fd.name).contains f.name = true := fun e => in_of' x.fields z hjm hjz e
                  generalize hyj : (x.fields[j]'hjm).name = y at *
                  clear hAj e1
                  by_cases e : y = f.name
                  · have E := Lib.hid (HIN.out (hin e))
                    subst e
                    have q1 := sq_t f.name
                    clear hyes hin hJ
                    go_wp2_with fail
                    go_quiet (fail)
                    go_wp2_with fail
                    go_ret
                    exact ⟨by first | rfl | (rw [E.out]; rfl), Below.next hb (below_drewN hbF _)⟩
                  · have E := Lib.hid (show ∀ j2 (hj : j2 < x.fields.length), j2 < j + 1 → (x.fields[j2]'hj).name ≠ f.name from fun j2 hj hjk => hyes (fun hj => by rw [hyj]; exact e) j2 hjk hj)
                    have q1 := sq_f e
                    clear hyes hin hJ hyj
                    go_wp2_with fail
                    go_quiet (fail)
                    go_wp2_with fail
                    go_roundw
                    case rel => exact ⟨j + 1, by omega, by go_num, E, RS.next (below_drewN (Below.refl _ _) _), RX.next (below_drewN (Below.refl _ _) _), RF.next (below_drewN (Below.refl _ _) _), below_drewN hbF _⟩
                    case measure => simp [intOf]; omega
                · obtain rfl : j = z := by omega
                  have HNO := Lib.hid (not_in' x.fields j hJ.out)
                  have s0 := RS.c 0 rfl
                  have s1 := RS.c 1 rfl
                  have s2 := RS.c 2 rfl
                  have g2 := RF.c 2 rfl
                  have g3 := RF.c 3 rfl
                  have g4 := RF.c 4 rfl
                  have g5 := RF.c 5 rfl
                  have cR := cRight wr hbF
                  clear hJ
                  go_wp2_with fail
                  refine cR.mono ?_
                  rintro e w3 ⟨rfl, hb3⟩
                  go_wp2_with fail
                  go_ret
                  exact ⟨rfl, Below.next (Below.next hb hbF) hb3⟩
          · have HX := Lib.hid (hnxt pe)
            rw [p4] at cN
            rw [p6] at cRight
            have HIN : Hid (((x.fields.take z).map Fd.name).contains f.name = true → r = 7) := Lib.hid fun h => by rw [p5] at h; cases h
            clear hfe hnxt pe p4 p5 p6
            have d1 : decide (f.num < 1) = false := by rw [decide_eq_false_iff_not]; omega
            have d2 : decide (127 < f.num) = false := by rw [decide_eq_false_iff_not]; omega
            clear p1 p2
            by_cases g5 : z = 0
            · have d9 : decide ((0 : Int) < (z : Int)) = false := by rw [decide_eq_false_iff_not]; omega
              have d9n : decide (0 < z) = false := by rw [decide_eq_false_iff_not]; omega
              clear hprev p3 g5
              go_wp2_with fail
              go_quiet (fail)
              go_wp2_with fail
              refine (cN _).mono ?_
              rintro e w' ⟨rfl, rfl⟩
              go_wp2_with fail
              rename World => wo
              have HJ0 : Hid (∀ j (hj : j < x.fields.length), j < 0 → (x.fields[j]'hj).name ≠ f.name) := Lib.hid fun _ _ h => by omega
              go_loopw [11] (fun i_ wr => ∃ j : Nat, j ≤ z ∧ i_ = .int .i64 (j : Int) ∧ Hid (∀ j2 (hj : j2 < x.fields.length), j2 < j → (x.fields[j2]'hj).name ≠ f.name) ∧ Bx wr w.heap.size [.int .i64 S.ver, .slice A n c, .slice (some a) m c2] ∧ Bx wr (w.heap.size + 1) [.string (bs x.name), .slice (some b) q c3] ∧ Bx wr wo.heap.size [Value.int .i64 f.num, .string (bs f.name), .int .i64 f.type.kind, .int .i64 f.type.size, .string (bs f.type.name), .slice A5 f.type.elem.length c5, .bool f.opt] ∧ Below wo.heap.size wo wr) (fun i_ _ => z - (intOf i_).toNat)
              case atStart => exact ⟨0, by omega, rfl, HJ0, R1.next (below_drewN (ab1 _ _) _), R2.next (below_drewN (ab1 _ _) _), (Bx.new7 _ _ _ _ _ _ _ _ _).next (below_drewN (Below.refl _ _) _), below_drewN (ab1 _ _) _⟩
              case round =>
                clear HJ0 f0 f1 f2 f3 f4 f5 f6 x1 l2 hblk R1 R2
                obtain ⟨j, hj, rfl, hJ, RS, RX, RF, hbF⟩ := hrel
                have y1 := RX.c 1 rfl
                have y2 := RF.c 1 rfl
                have l5 := RX.lt
                have l6 := RF.lt
                by_cases hjz : j < z
                · have hjm : j < x.fields.length := by rw [HQ.out]; omega
                  have hjq : j < q := by omega
                  obtain ⟨a', ha', hAj⟩ := hVf.get hjm
                  cases ha'
                  have e0 := cell_next (Below.next hb hbF) hAj.2.1
                  have e1 := cell_next (Below.next hb hbF) hAj.1
                  have hblk : (b.add (j * 7)).block < wr.heap.size := blk_lt e1
                  have hyes := fun h => before_succ (p := fun j => ∀ hj : j < x.fields.length, (x.fields[j]'hj).name ≠ f.name) (k := j) (fun j hj hj2 => hJ.out j hj2 hj) h
                  have hin : (x.fields[j]'hjm).name = f.name → ((x.fields.take z).map Fd.name).contains f.name = true := fun e => in_of' x.fields z hjm hjz e
                  generalize hyj : (x.fields[j]'hjm).name = y at *
                  clear hAj e1
                  by_cases e : y = f.name
                  · have E := Lib.hid (HIN.out (hin e))
                    subst e
                    have q1 := sq_t f.name
                    clear hyes hin hJ
                    go_wp2_with fail
                    go_quiet (fail)
                    go_wp2_with fail
                    go_ret
                    exact ⟨by first | rfl | (rw [E.out]; rfl), Below.next hb (below_drewN hbF _)⟩
                  · have E := Lib.hid (show ∀ j2 (hj : j2 < x.fields.length), j2 < j + 1 → (x.fields[j2]'hj).name ≠ f.name from fun j2 hj hjk => hyes (fun hj => by rw [hyj]; exact e) j2 hjk hj)
                    have q1 := sq_f e
                    clear hyes hin hJ hyj
                    go_wp2_with fail
                    go_quiet (fail)
                    go_wp2_with fail
                    go_roundw
                    case rel => exact ⟨j + 1, by omega, by go_num, E, RS.next (below_drewN (Below.refl _ _) _), RX.next (below_drewN (Below.refl _ _) _), RF.next (below_drewN (Below.refl _ _) _), below_drewN hbF _⟩
                    case measure => simp [intOf]; omega
                · obtain rfl : j = z := by omega
                  have HNO := Lib.hid (not_in' x.fields j hJ.out)
                  have s0 := RS.c 0 rfl
                  have s1 := RS.c 1 rfl
                  have s2 := RS.c 2 rfl
                  have g2 := RF.c 2 rfl
                  have g3 := RF.c 3 rfl
                  have g4 := RF.c 4 rfl
                  have g5 := RF.c 5 rfl
                  have cR := cRight wr hbF
                  clear hJ
                  go_wp2_with fail
                  refine cR.mono ?_
                  rintro e w3 ⟨rfl, hb3⟩
                  go_wp2_with fail
                  go_roundw
                  case rel => exact ⟨j + 1, by omega, by go_num, HX, RS.next hb3, RX.next hb3, Below.next (Below.next hb hbF) hb3⟩
                  case measure => simp [intOf]; omega
            · have d9 : decide ((0 : Int) < (z : Int)) = true := by rw [decide_eq_true_eq]; omega
              have d9n : decide (0 < z) = true := by rw [decide_eq_true_eq]; omega
              obtain ⟨fz, hfz⟩ : ∃ fz, z - 1 = fz := ⟨_, rfl⟩
              have l11 : (z : Int) - 1 = (fz : Int) := by omega
              have l12 : IntKind.i64.wrap ((z : Int) - 1) = (fz : Int) := by rw [l11]; exact IntWalk.i64_in _ (by omega)
              obtain ⟨j0, j1⟩ := hprev fz hfz (by omega)
              have hfq : fz < q := by omega
              obtain ⟨zp, hzp⟩ : ∃ zp, (x.fields.getD (z - 1) fd0).num = zp := ⟨_, rfl⟩
              rw [hzp] at p3 j0
              have d8 : decide (f.num ≤ zp) = false := by rw [decide_eq_false_iff_not]; have := p3 (by omega); omega
              clear hprev p3 g5 hzp hfz
              go_wp2_with fail
              go_quiet (fail)
              go_wp2_with fail
              refine (cN _).mono ?_
              rintro e w' ⟨rfl, rfl⟩
              go_wp2_with fail
              rename World => wo
              have HJ0 : Hid (∀ j (hj : j < x.fields.length), j < 0 → (x.fields[j]'hj).name ≠ f.name) := Lib.hid fun _ _ h => by omega
              go_loopw [11] (fun i_ wr => ∃ j : Nat, j ≤ z ∧ i_ = .int .i64 (j : Int) ∧ Hid (∀ j2 (hj : j2 < x.fields.length), j2 < j → (x.fields[j2]'hj).name ≠ f.name) ∧ Bx wr w.heap.size [.int .i64 S.ver, .slice A n c, .slice (some a) m c2] ∧ Bx wr (w.heap.size + 1) [.string (bs x.name), .slice (some b) q c3] ∧ Bx wr wo.heap.size [Value.int .i64 f.num, .string (bs f.name), .int .i64 f.type.kind, .int .i64 f.type.size, .string (bs f.type.name), .slice A5 f.type.elem.length c5, .bool f.opt] ∧ Below wo.heap.size wo wr) (fun i_ _ => z - (intOf i_).toNat)
              case atStart => exact ⟨0, by omega, rfl, HJ0, R1.next (below_drewN (ab1 _ _) _), R2.next (below_drewN (ab1 _ _) _), (Bx.new7 _ _ _ _ _ _ _ _ _).next (below_drewN (Below.refl _ _) _), below_drewN (ab1 _ _) _⟩
              case round =>
                clear HJ0 f0 f1 f2 f3 f4 f5 f6 x1 l2 hblk R1 R2
                obtain ⟨j, hj, rfl, hJ, RS, RX, RF, hbF⟩ := hrel
                have y1 := RX.c 1 rfl
                have y2 := RF.c 1 rfl
                have l5 := RX.lt
                have l6 := RF.lt
                by_cases hjz : j < z
                · have hjm : j < x.fields.length := by rw [HQ.out]; omega
                  have hjq : j < q := by omega
                  obtain ⟨a', ha', hAj⟩ := hVf.get hjm
                  cases ha'
                  have e0 := cell_next (Below.next hb hbF) hAj.2.1
                  have e1 := cell_next (Below.next hb hbF) hAj.1
                  have hblk : (b.add (j * 7)).block < wr.heap.size := blk_lt e1
                  have hyes := fun h => before_succ (p := fun j => ∀ hj : j < x.fields.length, (x.fields[j]'hj).name ≠ f.name) (k := j) (fun j hj hj2 => hJ.out j hj2 hj) h
                  have hin : (x.fields[j]'hjm).name = f.name → ((x.fields.take z).map Fd.name).contains f.name = true := fun e => in_of' x.fields z hjm hjz e
                  generalize hyj : (x.fields[j]'hjm).name = y at *
                  clear hAj e1
                  by_cases e : y = f.name
                  · have E := Lib.hid (HIN.out (hin e))
                    subst e
                    have q1 := sq_t f.name
                    clear hyes hin hJ
                    go_wp2_with fail
                    go_quiet (fail)
                    go_wp2_with fail
                    go_ret
                    exact ⟨by first | rfl | (rw [E.out]; rfl), Below.next hb (below_drewN hbF _)⟩
                  · have E := Lib.hid (show ∀ j2 (hj : j2 < x.fields.length), j2 < j + 1 → (x.fields[j2]'hj).name ≠ f.name from fun j2 hj hjk => hyes (fun hj => by rw [hyj]; exact e) j2 hjk hj)
                    have q1 := sq_f e
                    clear hyes hin hJ hyj
                    go_wp2_with fail
                    go_quiet (fail)
                    go_wp2_with fail
                    go_roundw
                    case rel => exact ⟨j + 1, by omega, by go_num, E, RS.next (below_drewN (Below.refl _ _) _), RX.next (below_drewN (Below.refl _ _) _), RF.next (below_drewN (Below.refl _ _) _), below_drewN hbF _⟩
                    case measure => simp [intOf]; omega
                · obtain rfl : j = z := by omega
                  have HNO := Lib.hid (not_in' x.fields j hJ.out)
                  have s0 := RS.c 0 rfl
                  have s1 := RS.c 1 rfl
                  have s2 := RS.c 2 rfl
                  have g2 := RF.c 2 rfl
                  have g3 := RF.c 3 rfl
                  have g4 := RF.c 4 rfl
                  have g5 := RF.c 5 rfl
                  have cR := cRight wr hbF
                  clear hJ
                  go_wp2_with fail
                  refine cR.mono ?_
                  rintro e w3 ⟨rfl, hb3⟩
                  go_wp2_with fail
                  go_roundw
                  case rel => exact ⟨j + 1, by omega, by go_num, HX, RS.next hb3, RX.next hb3, Below.next (Below.next hb hbF) hb3⟩
                  case measure => simp [intOf]; omega
        · obtain rfl : z = q := by omega
          have H0 := Lib.hid (show r = 0 by rw [← HR.out]; exact fe_zero hI.out)
          clear hI
          go_wp2_with fail
          go_ret
          exact ⟨by rw [H0.out]; rfl, hb⟩
end Go.Proofs.YthbhbpcjcnkkkaaGreatDoor

/-
  The developers' Check. No conditions beyond those that each names, and what the library's variables hold.
-/
import Derived.Test.YthbhbpcjcnkkkaaGreatDoorM14
import Derived.Test.YthbhbpcjcnkkkaaGreatDoorM05
import Derived.Test.YthbhbpcjcnkkkaaGreatDoorM10
import Derived.Test.YthbhbpcjcnkkkaaGreatDoorM06
import Derived.Test.YthbhbpcjcnkkkaaGreatDoorShelfB
namespace Go.Proofs.YthbhbpcjcnkkkaaGreatDoor
open Go.RowKit Go.Maps Go.Sort Go.Shelf
theorem chk_ver {S : Sch} (h : S.ver < 1 ∨ 999 < S.ver) : chk S = 4 := by unfold chk; rw [if_pos h]
theorem chk_long {S : Sch} (h : ¬ (S.ver < 1 ∨ 999 < S.ver)) (h2 : longS S) : chk S = 3 := by unfold chk; rw [if_neg h, if_pos h2]
theorem chk_en {S : Sch} (h : ¬ (S.ver < 1 ∨ 999 < S.ver)) (h2 : ¬ longS S) {k e : Nat} (hk : k < S.enums.length) (h3 : ∀ j, j < k → enE S j = 0) (he : enE S k = e) (h0 : e ≠ 0) : chk S = e := by
  have := fe_at hk h3 he h0
  unfold chk
  rw [if_neg h, if_neg h2, this, if_pos h0]
theorem chk_st {S : Sch} (h : ¬ (S.ver < 1 ∨ 999 < S.ver)) (h2 : ¬ longS S) (h4 : ∀ j, j < S.enums.length → enE S j = 0) {k e : Nat} (hk : k < S.structs.length) (h3 : ∀ j, j < k → stE S j = 0) (he : stE S k = e) (h0 : e ≠ 0) : chk S = e := by
  have := fe_at hk h3 he h0
  have h5 := fe_zero h4
  unfold chk
  rw [if_neg h, if_neg h2, h5, if_neg (fun h => h rfl), this, if_pos h0]
theorem chk_ns {S : Sch} (h : ¬ (S.ver < 1 ∨ 999 < S.ver)) (h2 : ¬ longS S) (hP : Parts S) : chk S = nsR S := by
  have h4 := fe_zero hP.en
  have h5 := fe_zero hP.st
  unfold chk nsR
  rw [if_neg h, if_neg h2, h4, if_neg (fun h => h rfl), h5, if_neg (fun h => h rfl)]
theorem take_map {α β : Type} {l : List α} (f : α → β) {k : Nat} (hk : k < l.length) : (l.map f).take (k + 1) = (l.map f).take k ++ [f (l[k]'hk)] := by
  rw [List.take_succ_eq_append_getElem (by simpa using hk)]
  simp
set_option maxRecDepth 100000 in
set_option maxHeartbeats 8000000 in
theorem check_any (S : Sch) (hB : FewB S) (v : Value) (w : World) (hv : ScV w S v) (hE : Env w) :
    Calls Tryz.prog 11 #[v] w (Ib (.int .i64 (chk S : Int)) w) := by
  have hmm := @run_makeMap Tryz.prog
  obtain ⟨A, c, A2, c2, rfl, hS⟩ := hv
  obtain ⟨n, hn⟩ : ∃ n, S.enums.length = n := ⟨_, rfl⟩
  obtain ⟨m, hm⟩ : ∃ m, S.structs.length = m := ⟨_, rfl⟩
  have HN := Lib.hid hn
  have HM := Lib.hid hm
  have hn18 := hB.ne
  have hm18 := hB.ns
  rw [hn] at hn18
  rw [hm] at hm18
  obtain ⟨r, hr⟩ := exB (longS S)
  have hv1 : ScV (w.alloc (Obj.cells #[.int .i64 S.ver, .slice A n c, .slice A2 m c2] 25)) S (.agg #[.int .i64 S.ver, .slice A n c, .slice A2 m c2]) := ⟨A, c, A2, c2, by rw [hn, hm], hS.next (ab1 _ _)⟩
  have cL := isLong_any S (.agg #[.int .i64 S.ver, .slice A n c, .slice A2 m c2]) _ r hr (by omega) (by omega) hv1
  rw [hn, hm]
  have B1 := Bx.new3 w 25 (.int .i64 S.ver) (.slice A n c) (.slice A2 m c2)
  have hab := ab1 w (Obj.cells #[.int .i64 S.ver, .slice A n c, .slice A2 m c2] 25)
  by_cases h1 : S.ver < 1
  · have hc := chk_ver (.inl h1)
    have hc2 : (4 : Int) = (chk S : Int) := by rw [hc]; rfl
    clear cL hr hc hS
    go_enter Tryz.func11, Tryz.ntmps11
    go_wp2_with fail
    go_ret
    exact ⟨by rw [← hc2]; rfl, hab⟩
  by_cases h2 : 999 < S.ver
  · have hc := chk_ver (.inr h2)
    have hc2 : (4 : Int) = (chk S : Int) := by rw [hc]; rfl
    clear cL hr hc hS
    go_enter Tryz.func11, Tryz.ntmps11
    go_wp2_with fail
    go_ret
    exact ⟨by rw [← hc2]; rfl, hab⟩
  have h12 : ¬ (S.ver < 1 ∨ 999 < S.ver) := by omega
  go_enter Tryz.func11, Tryz.ntmps11
  go_wp2_with fail
  refine cL.mono ?_
  rintro e w1 ⟨rfl, hb1⟩
  have hab1 := Below.next hab hb1
  have B1 := B1.next hb1
  have l0 := B1.lt
  cases r
  case true =>
    have hc := chk_long h12 (hr.1 rfl)
    have hc2 : (3 : Int) = (chk S : Int) := by rw [hc]; rfl
    clear cL hr hc hS
    go_wp2_with fail
    go_ret
    exact ⟨by rw [← hc2]; rfl, hab1⟩
  have hnl : ¬ longS S := fun h => by have := hr.2 h; cases this
  have hS1 := hS.next hab1
  have hv2 : ScV w1 S (.agg #[.int .i64 S.ver, .slice A n c, .slice A2 m c2]) := ⟨A, c, A2, c2, by rw [hn, hm], hS1⟩
  have cDf := define_any S (.agg #[.int .i64 S.ver, .slice A n c, .slice A2 m c2]) w1 hv2 (by omega) (by omega) (fun t ht => (hB.st t ht).1) (fun t ht => (hB.en t ht).1)
  have c0 := B1.c 0 rfl
  have c1 := B1.c 1 rfl
  have c2_ := B1.c 2 rfl
  clear cL hv1 hv2 hS hab hr hn hm
  go_wp2_with fail
  refine cDf.mono ?_
  rintro e w2 ⟨b1, b2, rfl, hD, hb2⟩
  have hab2 := Below.next hab1 hb2
  have hS2 := hS1.next hb2
  have hE2 := hE.next hab2
  have B2 := B1.next hb2
  have l2 := B2.lt
  have g1 := B2.c 1 rfl
  have hSe := hS2.en
  have hSs := hS2.st
  have z1 : (w2.alloc (Obj.map #[] 0)).heap.size = w2.heap.size + 1 := by simp
  have M0 := (Ms.made w2).next (ab1 (w2.alloc (Obj.map #[] 0)) (Obj.cells #[.map (some b1), .map (some b2)] 66))
  have C0 := Bx.new2 (w2.alloc (Obj.map #[] 0)) 66 (.map (some b1)) (.map (some b2))
  have B3 := B2.next (ab2 w2 (Obj.map #[] 0) (Obj.cells #[.map (some b1), .map (some b2)] 66))
  have hb3 := ab2 w2 (Obj.map #[] 0) (Obj.cells #[.map (some b1), .map (some b2)] 66)
  rw [z1] at C0
  have HZ : Hid (∀ j, j < 0 → enE S j = 0) := Lib.hid fun _ h => by omega
  clear cDf z1 c0 c1 c2_ l0 B1 hS1 hab1 hb2
  go_wp2_with fail
  clear B2 g1
  go_loopw [27] (fun i wr => ∃ k : Nat, k ≤ n ∧ i = .int .i64 (k : Int) ∧ Hid (∀ j, j < k → enE S j = 0) ∧ Ms wr w2.heap.size k ((ens S).take k) ∧ Bx wr w.heap.size [.int .i64 S.ver, .slice A n c, .slice A2 m c2] ∧ Bx wr (w2.heap.size + 1) [.map (some b1), .map (some b2)] ∧ Below w2.heap.size w2 wr) (fun i _ => n - (intOf i).toNat)
  case atStart => exact ⟨0, by omega, rfl, HZ, M0, B3, C0, hb3⟩
  case round =>
    clear M0 C0 B3 hb3 HZ
    obtain ⟨k, hk, rfl, HZ, hM, R1, R2, hb⟩ := hrel
    have s1 := R1.c 1 rfl
    have l1 := R1.lt
    have l3 := R2.lt
    have hlM := hM.lt
    by_cases hlt : k < n
    · obtain ⟨a, rfl, hA⟩ := hSe.get (i := k) (by rw [HN.out]; exact hlt)
      have hkm : k < S.enums.length := by rw [HN.out]; exact hlt
      obtain ⟨A3, c3, A4, c4, e0, e1, e2, hV⟩ := hA.val
      replace e0 := cell_next hb e0
      replace e1 := cell_next hb e1
      replace e2 := cell_next hb e2
      have hblk : (a.add (k * 3)).block < wr.heap.size := blk_lt e0
      have hT : (ens S).take (k + 1) = (ens S).take k ++ [(S.enums[k]'hkm).name] := take_map En.name hkm
      obtain ⟨q1, q2, q3, q4⟩ := hB.en _ (List.getElem_mem hkm)
      have hee := enE_at hkm
      generalize S.enums[k]'hkm = x at *
      have hbx := Below.next hb (ab1 wr (Obj.cells #[.string (bs x.name), .slice A3 x.names.length c3, .slice A4 x.nums.length c4] 38))
      have hMx := hM.next (ab1 wr (Obj.cells #[.string (bs x.name), .slice A3 x.names.length c3, .slice A4 x.nums.length c4] 38))
      have Rx1 := R1.next (ab1 wr (Obj.cells #[.string (bs x.name), .slice A3 x.names.length c3, .slice A4 x.nums.length c4] 38))
      have Rx2 := R2.next (ab1 wr (Obj.cells #[.string (bs x.name), .slice A3 x.names.length c3, .slice A4 x.nums.length c4] 38))
      have cC := checkEnum_any w2 x _ w2.heap.size k ((ens S).take k) _ hV hbx (Nat.le_refl _) hMx hE2 (by omega) q1 q2 q4
      rw [← hee] at cC
      obtain ⟨r, hr⟩ : ∃ r, enE S k = r := ⟨_, rfl⟩
      rw [hr] at cC
      have HT := Lib.hid hT
      have HR := Lib.hid hr
      clear hr hT hee hA q1 q2 q3 q4
      go_wp2_with fail
      refine cC.mono ?_
      rintro e w4 ⟨rfl, hg4, hM4⟩
      have R14 := Rx1.kept hg4 (by omega)
      have R24 := Rx2.kept hg4 (by omega)
      have hb4 := hbx.grown hg4 hbx.size (fun j hj => by cases hj; exact Nat.le_refl _)
      clear cC Rx1 Rx2 hMx hbx R1 R2 hM hb s1 l1 l3 hlM e0 e1 e2 hblk
      by_cases h0 : r = 0
      · subst h0
        have hM5 := hM4 rfl
        rw [← HT.out] at hM5
        have HZ2 := Lib.hid (before_succ HZ.out HR.out)
        clear hM4 HZ
        go_wp2_with fail
        go_roundw
        case rel => exact ⟨k + 1, by omega, by go_num, HZ2, hM5, R14, R24, hb4⟩
        case measure => simp [intOf]; omega
      · have hc := chk_en h12 hnl (by rw [HN.out]; exact hlt) HZ.out HR.out h0
        have d1 : ((r : Int) != 0) = true := by simp; omega
        have d2 : ((r : Int) == 0) = false := by simp; omega
        have HC := Lib.hid hc
        have hab5 := Below.next hab2 hb4
        clear hM4 HZ hc
        go_wp2_with fail
        go_ret
        exact ⟨by rw [HC.out]; rfl, hab5⟩
    · obtain rfl : k = n := by omega
      have HEN := Lib.hid (show ∀ j, j < S.enums.length → enE S j = 0 by rw [HN.out]; exact HZ.out)
      have hM2 : Ms wr w2.heap.size (k + 0) (ens S ++ (sns S).take 0) := by
        have : (ens S).take k = ens S := List.take_of_length_le (by unfold ens; rw [List.length_map, HN.out]; exact Nat.le_refl _)
        rw [this] at hM
        simpa using hM
      have HZ3 : Hid (∀ j, j < 0 → stE S j = 0) := Lib.hid fun _ h => by omega
      have s2 := R1.c 2 rfl
      clear HZ hM
      go_wp2_with fail
      clear s1 s2 l1 l3 hlM hSe
      rename World => wo
      go_loopw [41] (fun i wr => ∃ y : Nat, y ≤ m ∧ i = .int .i64 (y : Int) ∧ Hid (∀ j, j < y → stE S j = 0) ∧ Ms wr w2.heap.size (k + y) (ens S ++ (sns S).take y) ∧ Bx wr w.heap.size [.int .i64 S.ver, .slice A k c, .slice A2 m c2] ∧ Bx wr (w2.heap.size + 1) [.map (some b1), .map (some b2)] ∧ Below w2.heap.size w2 wr) (fun i _ => m - (intOf i).toNat)
      case atStart => exact ⟨0, by omega, rfl, HZ3, hM2, R1, R2, hb⟩
      case round =>
        clear HZ3 hM2 R1 R2 hb
        obtain ⟨y, hy, rfl, HZ, hM, R1, R2, hb⟩ := hrel
        have s0 := R1.c 0 rfl
        have s1 := R1.c 1 rfl
        have s2 := R1.c 2 rfl
        have l1 := R1.lt
        have l3 := R2.lt
        have hlM := hM.lt
        have p0 := R2.c 0 rfl
        have p1 := R2.c 1 rfl
        by_cases hlt : y < m
        · obtain ⟨a, rfl, hA⟩ := hSs.get (i := y) (by rw [HM.out]; exact hlt)
          have hkm : y < S.structs.length := by rw [HM.out]; exact hlt
          obtain ⟨A3, c3, e0, e1, hV⟩ := hA.val
          replace e0 := cell_next hb e0
          replace e1 := cell_next hb e1
          have hblk : (a.add (y * 2)).block < wr.heap.size := blk_lt e0
          have hT : ens S ++ (sns S).take (y + 1) = (ens S ++ (sns S).take y) ++ [(S.structs[y]'hkm).name] := by unfold sns; rw [take_map St.name hkm, List.append_assoc]
          obtain ⟨q1, q2, q3⟩ := hB.st _ (List.getElem_mem hkm)
          have hee := stE_at hkm
          generalize S.structs[y]'hkm = t at *
          have hbx := Below.next hb (ab1 wr (Obj.cells #[.string (bs t.name), .slice A3 t.fields.length c3] 32))
          have hMx := hM.next (ab1 wr (Obj.cells #[.string (bs t.name), .slice A3 t.fields.length c3] 32))
          have Rx1 := R1.next (ab1 wr (Obj.cells #[.string (bs t.name), .slice A3 t.fields.length c3] 32))
          have Rx2 := R2.next (ab1 wr (Obj.cells #[.string (bs t.name), .slice A3 t.fields.length c3] 32))
          have cC := checkStruct_any w2 S t _ w2.heap.size (k + y) b1 b2 (ens S ++ (sns S).take y) _ hV hD hbx (Nat.le_refl _) hMx hE2 (by omega) q1 q2 (fun f hf => ⟨(q3 f hf).1, (q3 f hf).2.1, (q3 f hf).2.2.1⟩)
          rw [← hee] at cC
          obtain ⟨r, hr⟩ : ∃ r, stE S y = r := ⟨_, rfl⟩
          rw [hr] at cC
          have HT := Lib.hid hT
          have HR := Lib.hid hr
          clear hr hT hee hA q1 q2 q3
          go_wp2_with fail
          refine cC.mono ?_
          rintro e w4 ⟨rfl, hg4, hM4⟩
          have R14 := Rx1.kept hg4 (by omega)
          have R24 := Rx2.kept hg4 (by omega)
          have hb4 := hbx.grown hg4 hbx.size (fun j hj => by cases hj; exact Nat.le_refl _)
          clear cC Rx1 Rx2 hMx hbx R1 R2 hM hb s0 s1 s2 l1 l3 hlM e0 e1 hblk p0 p1
          by_cases h0 : r = 0
          · subst h0
            have hM5 := hM4 rfl
            rw [← HT.out] at hM5
            have HZ2 := Lib.hid (before_succ HZ.out HR.out)
            clear hM4 HZ
            go_wp2_with fail
            go_roundw
            case rel => exact ⟨y + 1, by omega, by go_num, HZ2, hM5, R14, R24, hb4⟩
            case measure => simp [intOf]; omega
          · have hc := chk_st h12 hnl HEN.out (by rw [HM.out]; exact hlt) HZ.out HR.out h0
            have d1 : ((r : Int) != 0) = true := by simp; omega
            have d2 : ((r : Int) == 0) = false := by simp; omega
            have HC := Lib.hid hc
            have hab5 := Below.next hab2 hb4
            clear hM4 HZ hc
            go_wp2_with fail
            go_ret
            exact ⟨by rw [HC.out]; rfl, hab5⟩
        · obtain rfl : y = m := by omega
          have hP : Parts S := ⟨HEN.out, by rw [HM.out]; exact HZ.out⟩
          have HC := Lib.hid (chk_ns h12 hnl hP)
          have cN := checkNesting_any S (hP.okk hB) (fun h => ⟨_, dpt_of hP.nd hB h⟩) b1 b2 (.agg #[.int .i64 S.ver, .slice A k c, .slice A2 y c2]) wr ⟨A, c, A2, c2, by rw [HN.out, HM.out], hS2.next hb⟩ (hD.next hb)
          have hab5 := Below.next hab2 hb
          clear HZ hM
          go_wp2_with fail
          refine cN.mono ?_
          rintro e w5 ⟨rfl, hb5⟩
          go_wp2_with fail
          go_ret
          exact ⟨by rw [HC.out]; rfl, Below.next hab5 hb5⟩
end Go.Proofs.YthbhbpcjcnkkkaaGreatDoor
/-
  The developers' definitions of a valid schema that has a struct, its Depth and Uses. No conditions beyond those that each names, and what the library's variables hold.
-/
namespace Go.Proofs.YthbhbpcjcnkkkaaGreatDoor
open Go.RowKit Go.Maps Go.Sort Go.Shelf
theorem nsR_zero {S : Sch} (h : nsR S = 0) : ¬ cyc S ∧ ¬ deep S := by
  unfold nsR at h
  by_cases h1 : cyc S
  · rw [if_pos h1] at h; cases h
  · rw [if_neg h1] at h
    by_cases h2 : deep S
    · rw [if_pos h2] at h; cases h
    · exact ⟨h1, h2⟩
/-- A valid schema, in all that this says. -/
structure Vld (S : Sch) : Prop where
  ver : 1 ≤ S.ver ∧ S.ver ≤ 999
  lg : ¬ longS S
  pt : Parts S
  nc : ¬ cyc S
  nd : ¬ deep S
theorem chk_zero {S : Sch} (h : chk S = 0) : Vld S := by
  by_cases h1 : S.ver < 1 ∨ 999 < S.ver
  · rw [chk_ver h1] at h; cases h
  · by_cases h2 : longS S
    · rw [chk_long h1 h2] at h; cases h
    · have h3 : fe (enE S) S.enums.length = 0 := by
        by_cases h3 : fe (enE S) S.enums.length = 0
        · exact h3
        · unfold chk at h
          rw [if_neg h1, if_neg h2, if_pos h3] at h
          exact h
      have h4 : fe (stE S) S.structs.length = 0 := by
        by_cases h4 : fe (stE S) S.structs.length = 0
        · exact h4
        · unfold chk at h
          rw [if_neg h1, if_neg h2, h3, if_neg (fun h => h rfl), if_pos h4] at h
          exact h
      have hP : Parts S := ⟨fe_iff.1 h3, fe_iff.1 h4⟩
      rw [chk_ns h1 h2 hP] at h
      obtain ⟨h5, h6⟩ := nsR_zero h
      exact ⟨by omega, h2, hP, h5, h6⟩
set_option maxRecDepth 100000 in
set_option maxHeartbeats 4000000 in
theorem find_bad (S : Sch) (hB : FewB S) (x : List UInt8) (v : Value) (w : World) (hv : ScV w S v) (hE : Env w) (hc : chk S ≠ 0) :
    Calls Tryz.prog 50 #[v, .string (bs x)] w (Ib (.tuple #[.agg #[.map none, .map none], .bool false]) w) := by
  have hv2 := hv
  obtain ⟨A, c, A2, c2, rfl, hS⟩ := hv
  obtain ⟨n, hn⟩ : ∃ n, S.enums.length = n := ⟨_, rfl⟩
  obtain ⟨m, hm⟩ : ∃ m, S.structs.length = m := ⟨_, rfl⟩
  have hab := ab2 w (Obj.cells #[.int .i64 S.ver, .slice A n c, .slice A2 m c2] 25) (Obj.cells #[.map none, .map none] 66)
  rw [hn, hm] at hv2 ⊢
  have cC := check_any S hB _ _ (hv2.next hab) (hE.next hab)
  have z1 : (w.alloc (Obj.cells #[.int .i64 S.ver, .slice A n c, .slice A2 m c2] 25)).heap.size = w.heap.size + 1 := by simp
  have B2 := Bx.new2 (w.alloc (Obj.cells #[.int .i64 S.ver, .slice A n c, .slice A2 m c2] 25)) 66 (.map none) (.map none)
  rw [z1] at B2
  obtain ⟨e, he⟩ : ∃ e, chk S = e := ⟨_, rfl⟩
  rw [he] at cC hc
  have d1 : ((e : Int) != 0) = true := by simp; omega
  have d2 : ((e : Int) == 0) = false := by simp; omega
  clear z1 hS hv2 he
  go_enter Tryz.func50, Tryz.ntmps50
  go_wp2_with fail
  refine cC.mono ?_
  rintro e2 w3 ⟨rfl, hb3⟩
  have B3 := B2.next hb3
  have q0 := B3.c 0 rfl
  have q1 := B3.c 1 rfl
  have f0 := B3.f 0 rfl
  have f1 := B3.f 1 rfl
  have hab3 := Below.next hab hb3
  clear cC
  go_wp2_with fail
  refine bodyPost_ret (v := .tuple #[.agg #[.map none, .map none], .bool false]) (by simp [results, Tryz.results50, go_sem, q0, q1]) rfl ⟨rfl, ?_⟩
  exact (hab3.setCell (by simp) _).setCell (by simp) _
/-- What is found of a valid schema. -/
def FiP (S : Sch) (x : List UInt8) (w : World) (e : Ending) (w' : World) : Prop := ∃ b1 b2, e = .returned (.tuple #[.agg #[.map (some b1), .map (some b2)], .bool ((sns S).contains x)]) ∧ Dm w' S b1 b2 ∧ Below w.heap.size w w'
set_option maxRecDepth 100000 in
set_option maxHeartbeats 4000000 in
theorem find_ok (S : Sch) (hB : FewB S) (x : List UInt8) (hx : x.length ≤ 9223372036854775807) (v : Value) (w : World) (hv : ScV w S v) (hE : Env w) (hc : chk S = 0) :
    Calls Tryz.prog 50 #[v, .string (bs x)] w (FiP S x w) := by
  have hv2 := hv
  obtain ⟨A, c, A2, c2, rfl, hS⟩ := hv
  obtain ⟨n, hn⟩ : ∃ n, S.enums.length = n := ⟨_, rfl⟩
  obtain ⟨m, hm⟩ : ∃ m, S.structs.length = m := ⟨_, rfl⟩
  have hn18 := hB.ne
  have hm18 := hB.ns
  have hab := ab2 w (Obj.cells #[.int .i64 S.ver, .slice A n c, .slice A2 m c2] 25) (Obj.cells #[.map none, .map none] 66)
  rw [hn, hm] at hv2 ⊢
  have cC := check_any S hB _ _ (hv2.next hab) (hE.next hab)
  have z1 : (w.alloc (Obj.cells #[.int .i64 S.ver, .slice A n c, .slice A2 m c2] 25)).heap.size = w.heap.size + 1 := by simp
  have B1 := (Bx.new3 w 25 (.int .i64 S.ver) (.slice A n c) (.slice A2 m c2)).next (ab1 _ (Obj.cells #[.map none, .map none] 66))
  have B2 := Bx.new2 (w.alloc (Obj.cells #[.int .i64 S.ver, .slice A n c, .slice A2 m c2] 25)) 66 (.map none) (.map none)
  rw [z1] at B2
  rw [hc] at cC
  obtain ⟨r, hr⟩ : ∃ r, (sns S).contains x = r := ⟨_, rfl⟩
  unfold FiP
  rw [hr]
  clear z1 hS
  go_enter Tryz.func50, Tryz.ntmps50
  go_wp2_with fail
  refine cC.mono ?_
  rintro e2 w3 ⟨rfl, hb3⟩
  have hab3 := Below.next hab hb3
  have C1 := B1.next hb3
  have C2 := B2.next hb3
  have cDf := define_at w S _ w3 hv2 hab3 (by omega) (by omega) (fun t ht => (hB.st t ht).1) (fun t ht => (hB.en t ht).1)
  have hl3 := C2.lt
  have s0 := C1.c 0 rfl
  have s1 := C1.c 1 rfl
  have s2 := C1.c 2 rfl
  have l1 := C1.lt
  clear cC B1 B2 hab hb3
  go_wp2_with fail
  refine cDf.mono ?_
  rintro e2 w4 ⟨b1, b2, rfl, hQ1, hQ2, hg1, hg2, hb4⟩
  have hab4 := Below.next hab3 hb4
  have hD : Dm w4 S b1 b2 := ⟨hQ1.dm (by omega) fun _ _ => StV.next hab4, hQ2.dm (by omega) fun _ _ => EnV.next hab4⟩
  have hne1 : b1 ≠ w.heap.size + 1 := by omega
  have hne2 : b2 ≠ w.heap.size + 1 := by omega
  have E2 := C2.next hb4
  have hl2 := E2.lt
  clear cDf s0 s1 s2 l1 C1 C2 hab3 hb4
  go_upto_region 4 with (fail)
  have hE := Bx.new2 w4 66 (.map (some b1)) (.map (some b2))
  have E3 := E2.next (ab1 w4 (Obj.cells #[.map (some b1), .map (some b2)] 66))
  have hD1 := hD.next (ab1 w4 (Obj.cells #[.map (some b1), .map (some b2)] 66))
  have hq5 := ab1 w4 (Obj.cells #[.map (some b1), .map (some b2)] 66)
  have hab5 := Below.next hab4 (ab1 w4 (Obj.cells #[.map (some b1), .map (some b2)] 66))
  generalize w4.alloc (Obj.cells #[.map (some b1), .map (some b2)] 66) = W1 at *
  clear E2
  refine wp_region_seqN (by kernel_rfl) (FF [(1, Fact.at_ W1 (.string (bs x))), (6, Fact.at_ W1 (.pointer (some ⟨w4.heap.size, 0, none⟩))), (13, Fact.at_ W1 (.agg #[.map (some b1), .map (some b2)])), (14, Fact.at_ W1 (.agg #[.map (some b1), .map (some b2)])), (15, Fact.at_ W1 (.string (bs x))), (16, Fact.at_ W1 (.bool r))]) [1, 6] [] 17 4 [13, 14, 15, 16] rfl (by kernel_rfl) (by kernel_rfl) (by decide) (by kernel_rfl) (by kernel_rfl) ?_ ?_ ?_
  · intro t ht
    simp only [List.mem_cons, List.not_mem_nil, or_false] at ht
    rcases ht with rfl | rfl
    · exact ⟨rfl, Below.refl _ _⟩
    · exact ⟨rfl, Below.refl _ _⟩
  · refine fcs ⟨Ob.new_ (at1 6 13 (.pointer (some ⟨w4.heap.size, 0, none⟩)) (.agg #[.map (some b1), .map (some b2)]) rfl (by first | exact .inl rfl | exact .inr ⟨_, _, _, rfl, rfl, by kernel_rfl, by decide, rfl⟩) (by kernel_rfl) rfl rfl (fun a W' hb h1 => by have h3 := (hb.cell (p := ⟨w4.heap.size, 0, none⟩) hE.lt).trans (hE.c 0 rfl); have h4 := (hb.cell (p := ⟨w4.heap.size, 1, none⟩) hE.lt).trans (hE.c 1 rfl); simp [execOp, h1] <;> go_simp)) (by kernel_rfl), ?_⟩
    refine fcs ⟨Ob.new_ (at1 6 14 (.pointer (some ⟨w4.heap.size, 0, none⟩)) (.agg #[.map (some b1), .map (some b2)]) rfl (by first | exact .inl rfl | exact .inr ⟨_, _, _, rfl, rfl, by kernel_rfl, by decide, rfl⟩) (by kernel_rfl) rfl rfl (fun a W' hb h1 => by have h3 := (hb.cell (p := ⟨w4.heap.size, 0, none⟩) hE.lt).trans (hE.c 0 rfl); have h4 := (hb.cell (p := ⟨w4.heap.size, 1, none⟩) hE.lt).trans (hE.c 1 rfl); simp [execOp, h1] <;> go_simp)) (by kernel_rfl), ?_⟩
    refine fcs ⟨Ob.new_ (atcopy 1 15 (.string (bs x)) (.inl rfl) rfl (by first | exact .inl rfl | exact .inr ⟨_, _, _, rfl, rfl, by kernel_rfl, by decide, rfl⟩) (by kernel_rfl) rfl rfl) (by kernel_rfl), ?_⟩
    refine fcs ⟨Ob.new_ (atc2 73 14 15 16 (.agg #[.map (some b1), .map (some b2)]) (.string (bs x)) (.bool r) _ rfl rfl (by first | exact .inl rfl | exact .inr ⟨_, _, _, rfl, rfl, by kernel_rfl, by decide, rfl⟩) (by kernel_rfl) (by kernel_rfl) rfl rfl (by kernel_rfl) rfl (fun W' hb => by rw [← hr]; exact hasStruct_any S b1 b2 x W' hx (hD1.next hb))) (by kernel_rfl), ?_⟩
    exact fnl
  intro vv wv hvv hbv _ _
  have hv13 : vv 13 = .agg #[.map (some b1), .map (some b2)] := (hvv 13 (by decide)).1
  have hv16 : vv 16 = .bool r := (hvv 16 (by decide)).1
  simp only [lay, List.foldl_cons, List.foldl_nil, List.setIfInBounds_toArray, List.set_cons_succ, List.set_cons_zero, hv13, hv16, List.drop_succ_cons, List.drop_zero]
  have E4 := E3.next hbv
  have hab6 := Below.next hab5 hbv
  have hq6 := gb_of (Below.next hq5 hbv) none
  have P1 := hQ1.kept hq6 (by simp)
  have P2 := hQ2.kept hq6 (by simp)
  have q0 := E4.c 0 rfl
  have q1 := E4.c 1 rfl
  have f0 := E4.f 0 rfl
  have f1 := E4.f 1 rfl
  clear hvv E3 hE hab4 hab5 hD hbv hQ1 hQ2 hq5 hq6 hD1 hl2 hl3
  go_wp2_with fail
  have hg := (gb_setCell wv ⟨w.heap.size + 1, 0, none⟩ (.map (some b1))).trans (gb_setCell (wv.setCell ⟨w.heap.size + 1, 0, none⟩ (.map (some b1))) ⟨w.heap.size + 1, 1, none⟩ (.map (some b2)))
  have hab7 := hab6.grown hg hab6.size (fun j hj => by cases hj; show w.heap.size ≤ w.heap.size + 1; omega)
  refine bodyPost_ret (v := .tuple #[.agg #[.map (some b1), .map (some b2)], .bool r]) (by simp [results, Tryz.results50, go_sem, q0, q1]) rfl ⟨b1, b2, rfl, ⟨?_, ?_⟩, hab7⟩
  · exact (P1.kept hg (by intro h; injection h with h; exact hne1 h)).dm (by omega) fun _ _ => StV.next hab7
  · exact (P2.kept hg (by intro h; injection h with h; exact hne2 h)).dm (by omega) fun _ _ => EnV.next hab7
/-- The depth that is answered, and the names used. -/
noncomputable def depA (S : Sch) (x : List UInt8) : Nat := if chk S = 0 then (if (sns S).contains x = true then dep S x else 0) else 0
def UsA (S : Sch) (x : List UInt8) (l : List (List UInt8)) : Prop := (chk S = 0 ∧ (sns S).contains x = true ∧ Us S x l) ∨ (¬ (chk S = 0 ∧ (sns S).contains x = true) ∧ l = [])
def UaP (S : Sch) (x : List UInt8) (w : World) (e : Ending) (w' : World) : Prop := ∃ v l, e = .returned v ∧ UsA S x l ∧ Nms w' l v ∧ Below w.heap.size w w'
set_option maxRecDepth 100000 in
set_option maxHeartbeats 4000000 in
theorem devDepth_any (S : Sch) (hB : FewB S) (x : List UInt8) (hx : x.length ≤ 9223372036854775807) (v : Value) (w : World) (hv : ScV w S v) (hE : Env w) :
    Calls Tryz.prog 22 #[v, .string (bs x)] w (Ib (.int .i64 (depA S x : Int)) w) := by
  have hmm := @run_makeMap Tryz.prog
  have hv2 := hv
  obtain ⟨A, c, A2, c2, rfl, hS⟩ := hv
  obtain ⟨n, hn⟩ : ∃ n, S.enums.length = n := ⟨_, rfl⟩
  obtain ⟨m, hm⟩ : ∃ m, S.structs.length = m := ⟨_, rfl⟩
  have hab := ab1 w (Obj.cells #[.int .i64 S.ver, .slice A n c, .slice A2 m c2] 25)
  rw [hn, hm] at hv2 ⊢
  have hv3 := hv2.next hab
  have hE3 := hE.next hab
  by_cases hc : chk S = 0
  · have cF := find_ok S hB x hx _ _ hv3 hE3 hc
    have hV := chk_zero hc
    have hO := hV.pt.okk hB
    have hDp := dpt_of hV.pt.nd hB hV.nc
    unfold FiP at cF
    cases hr : (sns S).contains x
    · have hA : depA S x = 0 := by unfold depA; rw [hr, if_pos hc]; rfl
      rw [hr] at cF
      rw [hA]
      clear hr hS hv2 hv3 hDp hO hV
      go_enter Tryz.func22, Tryz.ntmps22
      go_wp2_with fail
      refine cF.mono ?_
      rintro e w2 ⟨b1, b2, rfl, hD, hb2⟩
      have hb3 := Below.next hab hb2
      go_wp2_with fail
      go_ret
      exact ⟨rfl, Below.next hb3 (ab1 _ _)⟩
    · have hA : depA S x = dep S x := by unfold depA; rw [hr, if_pos hc, if_pos rfl]
      have hxs : x ∈ sns S := List.contains_iff_mem.1 hr
      rw [hr] at cF
      rw [hA]
      clear hr hS hv2 hv3 hV
      go_enter Tryz.func22, Tryz.ntmps22
      go_wp2_with fail
      refine cF.mono ?_
      rintro e w2 ⟨b1, b2, rfl, hD, hb2⟩
      have hb3 := Below.next hab hb2
      have hK := Kp.made S (w2.alloc (Obj.cells #[.map (some b1), .map (some b2)] 66))
      have z1 : (w2.alloc (Obj.cells #[.map (some b1), .map (some b2)] 66)).heap.size = w2.heap.size + 1 := by simp
      have hab2 := ab2 w2 (Obj.cells #[.map (some b1), .map (some b2)] 66) (Obj.map #[] 0)
      rw [z1] at hK
      have cD := depth_any S hO _ hDp w2 (w2.heap.size + 1) b1 b2 hD (by omega) (rkS S x + 1) x _ (Nat.lt_succ_self _) hxs hab2 hK
      clear z1 cF
      go_wp2_with fail
      refine cD.mono ?_
      rintro e w4 ⟨rfl, hg4, -⟩
      have hb4 := hab2.grown hg4 hab2.size (fun j hj => by cases hj; omega)
      clear cD
      go_wp2_with fail
      go_ret
      exact ⟨rfl, Below.next hb3 hb4⟩
  · have cF := find_bad S hB x _ _ hv3 hE3 hc
    have hA : depA S x = 0 := by unfold depA; rw [if_neg hc]
    rw [hA]
    clear hS hv2 hv3
    go_enter Tryz.func22, Tryz.ntmps22
    go_wp2_with fail
    refine cF.mono ?_
    rintro e w2 ⟨rfl, hb2⟩
    have hb3 := Below.next hab hb2
    go_wp2_with fail
    go_ret
    exact ⟨rfl, Below.next hb3 (ab1 _ _)⟩
set_option maxRecDepth 100000 in
set_option maxHeartbeats 4000000 in
theorem devUses_any (S : Sch) (hB : FewB S) (x : List UInt8) (hx : x.length ≤ 9223372036854775807) (v : Value) (w : World) (hv : ScV w S v) (hE : Env w) :
    Calls Tryz.prog 25 #[v, .string (bs x)] w (UaP S x w) := by
  have hv2 := hv
  obtain ⟨A, c, A2, c2, rfl, hS⟩ := hv
  obtain ⟨n, hn⟩ : ∃ n, S.enums.length = n := ⟨_, rfl⟩
  obtain ⟨m, hm⟩ : ∃ m, S.structs.length = m := ⟨_, rfl⟩
  have hab := ab1 w (Obj.cells #[.int .i64 S.ver, .slice A n c, .slice A2 m c2] 25)
  rw [hn, hm] at hv2 ⊢
  have hv3 := hv2.next hab
  have hE3 := hE.next hab
  by_cases hc : chk S = 0
  · have cF := find_ok S hB x hx _ _ hv3 hE3 hc
    have hO := (chk_zero hc).pt.okk hB
    unfold FiP at cF
    cases hr : (sns S).contains x
    · have hA : UsA S x [] := .inr ⟨fun h => Bool.noConfusion (hr.symm.trans h.2), rfl⟩
      rw [hr] at cF
      clear hr hS hv2 hv3 hO
      go_enter Tryz.func25, Tryz.ntmps25
      go_wp2_with fail
      refine cF.mono ?_
      rintro e w2 ⟨b1, b2, rfl, hD, hb2⟩
      have hb3 := Below.next hab hb2
      go_wp2_with fail
      go_ret
      exact ⟨_, [], rfl, hA, Sl.nil _ _ _, Below.next hb3 (ab1 _ _)⟩
    · have hA : ∀ l, Us S x l → UsA S x l := fun l h => .inl ⟨hc, hr, h⟩
      rw [hr] at cF
      clear hr hS hv2 hv3
      go_enter Tryz.func25, Tryz.ntmps25
      go_wp2_with fail
      refine cF.mono ?_
      rintro e w2 ⟨b1, b2, rfl, hD, hb2⟩
      have hb3 := Below.next (Below.next hab hb2) (ab1 w2 (Obj.cells #[.map (some b1), .map (some b2)] 66))
      have cU := used_any S hO b1 b2 x hx _ (hD.next (ab1 w2 (Obj.cells #[.map (some b1), .map (some b2)] 66)))
      clear cF
      go_wp2_with fail
      refine cU.mono ?_
      rintro e w4 ⟨v4, l, rfl, hU, hN, hb4⟩
      clear cU
      go_wp2_with fail
      go_ret
      exact ⟨_, l, rfl, hA l hU, hN, Below.next hb3 hb4⟩
  · have cF := find_bad S hB x _ _ hv3 hE3 hc
    have hA : UsA S x [] := .inr ⟨fun h => hc h.1, rfl⟩
    clear hS hv2 hv3
    go_enter Tryz.func25, Tryz.ntmps25
    go_wp2_with fail
    refine cF.mono ?_
    rintro e w2 ⟨rfl, hb2⟩
    have hb3 := Below.next hab hb2
    go_wp2_with fail
    go_ret
    exact ⟨_, [], rfl, hA, Sl.nil _ _ _, Below.next hb3 (ab1 _ _)⟩
end Go.Proofs.YthbhbpcjcnkkkaaGreatDoor
/-
  Equality of types: the developers' Same, and the reference's. No conditions beyond those that each names.
-/
namespace Go.Proofs.YthbhbpcjcnkkkaaGreatDoor
open Go.RowKit
/-- Are the types equal? -/
noncomputable def eqT (t u : Ty) : Bool := @decide (t = u) (Classical.propDecidable _)
theorem eqT_iff {t u : Ty} : eqT t u = true ↔ t = u := @decide_eq_true_iff _ (Classical.propDecidable _)
theorem eqT_no {t u : Ty} (h : t ≠ u) : eqT t u = false := by
  cases e : eqT t u
  · rfl
  · exact absurd (eqT_iff.1 e) h
theorem eqT_mk (k s : Int) (n : List UInt8) (e e' : List Ty) (r : Bool) (hr : r = true ↔ e = e') : eqT (.mk k s n e) (.mk k s n e') = r := by
  rw [Bool.eq_iff_iff, eqT_iff, hr]
  exact ⟨fun h => by injection h, fun h => by rw [h]⟩
theorem exR (p : Prop) : ∃ r : Bool, r = true ↔ p := ⟨_, @decide_eq_true_iff p (Classical.propDecidable _)⟩
theorem take_ne {α : Type} {l m : List α} {k : Nat} (h : k < l.length) (h' : k < m.length) (e : l[k]'h ≠ m[k]'h') : l ≠ m := fun h2 => by subst h2; exact e rfl
theorem take_eq {α : Type} {l m : List α} {k : Nat} (h : k < l.length) (h' : k < m.length) (h1 : l.take k = m.take k) (e : l[k]'h = m[k]'h') : l.take (k + 1) = m.take (k + 1) := by
  rw [List.take_succ_eq_append_getElem h, List.take_succ_eq_append_getElem h', h1, e]
end Go.Proofs.YthbhbpcjcnkkkaaGreatDoor
/-
  The reference's Same. No conditions beyond those that each names.
-/
namespace Go.Proofs.YthbhbpcjcnkkkaaGreatDoor
open Go.RowKit
set_option maxRecDepth 100000 in
set_option maxHeartbeats 4000000 in
theorem refSame_any (N : Nat) : ∀ (t u : Ty) (v v' : Value) (w : World), SizeOf.sizeOf t < N → lok t → lok u → TyV w t v → TyV w u v' →
    Calls Tryz.prog 49 #[v, v'] w (Ib (.bool (eqT t u)) w) := by
  induction N with
  | zero => intro t u v v' w h; omega
  | succ N ih =>
    intro t u v v' w hN hl hl' hv hv'
    have hl1 := lok_len hl
    have hl2 := lok_len hl'
    have hg1 := fun i h => lok_get (t := t) (i := i) hl h
    have hg2 := fun i h => lok_get (t := u) (i := i) hl' h
    have hs1 := fun i h => size_elem (t := t) (i := i) h
    obtain ⟨A, c, rfl, hR⟩ := hv
    obtain ⟨A', c', rfl, hR'⟩ := hv'
    obtain ⟨k, s, n, e⟩ := t
    obtain ⟨k', s', n', e'⟩ := u
    simp only [Ty.kind, Ty.size, Ty.name, Ty.elem] at *
    have hab := fun o p => ab2 w o p
    obtain ⟨q, hq⟩ : ∃ q, e.length = q := ⟨_, rfl⟩
    obtain ⟨q', hq'⟩ : ∃ q', e'.length = q' := ⟨_, rfl⟩
    have HQ := Lib.hid hq
    have HQ' := Lib.hid hq'
    rw [hq] at hl1 ⊢
    rw [hq'] at hl2 ⊢
    by_cases h1 : k = k'
    · subst h1
      have b1 : (k != k) = false := by simp
      by_cases h2 : s = s'
      · subst h2
        have b2 : (s != s) = false := by simp
        by_cases h3 : n = n'
        · subst h3
          have b3 := sn_t n
          by_cases h4 : q = q'
          · subst h4
            have b4 : ((q : Int) != (q : Int)) = false := by simp
            obtain ⟨r, hr⟩ := exR (e = e')
            rw [eqT_mk k s n e e' r hr]
            have z1 : (w.alloc (Obj.cells #[.int .i64 k, .int .i64 s, .string (bs n), .slice A q c] 45)).heap.size = w.heap.size + 1 := by simp
            have B1 := (Bx.new4 w 45 (.int .i64 k) (.int .i64 s) (.string (bs n)) (.slice A q c)).next (ab1 _ (Obj.cells #[.int .i64 k, .int .i64 s, .string (bs n), .slice A' q c'] 45))
            have B2 := Bx.new4 (w.alloc (Obj.cells #[.int .i64 k, .int .i64 s, .string (bs n), .slice A q c] 45)) 45 (.int .i64 k) (.int .i64 s) (.string (bs n)) (.slice A' q c')
            rw [z1] at B2
            have hab2 := hab (Obj.cells #[.int .i64 k, .int .i64 s, .string (bs n), .slice A q c] 45) (Obj.cells #[.int .i64 k, .int .i64 s, .string (bs n), .slice A' q c'] 45)
            have HR := Lib.hid hr
            have H0 := Lib.hid (show e.take 0 = e'.take 0 by simp)
            clear hr hq hq' z1 hl hl' hab
            go_enter Tryz.func49, Tryz.ntmps49
            go_wp2_with fail
            go_loopw [5] (fun i wr => ∃ y : Nat, y ≤ q ∧ i = .int .i64 (y : Int) ∧ Hid (e.take y = e'.take y) ∧ Bx wr w.heap.size [.int .i64 k, .int .i64 s, .string (bs n), .slice A q c] ∧ Bx wr (w.heap.size + 1) [.int .i64 k, .int .i64 s, .string (bs n), .slice A' q c'] ∧ Below w.heap.size w wr) (fun i _ => q - (intOf i).toNat)
            case atStart => exact ⟨0, by omega, rfl, H0, B1, B2, hab2⟩
            case round =>
              obtain ⟨y, hy, rfl, HK, hB1, hB2, hb⟩ := hrel
              clear H0 B1 B2 hab2
              have c3 := hB1.c 3 rfl
              have l1 := hB1.lt
              by_cases hlt : y < q
              · have h1 : y < e.length := by rw [HQ.out]; exact hlt
                have h2 : y < e'.length := by rw [HQ'.out]; exact hlt
                obtain ⟨a, rfl, hA⟩ := hR.get h1
                obtain ⟨a', rfl, hA'⟩ := hR'.get h2
                obtain ⟨B, d, e0, e1, e2, e3, hV⟩ := (TyA.next hb _ _ hA).val
                obtain ⟨B', d', f0, f1, f2, f3, hV'⟩ := (TyA.next hb _ _ hA').val
                have HN := Lib.hid (take_ne h1 h2)
                have HT := Lib.hid (take_eq h1 h2 HK.out)
                have cS := fun W' (hb9 : Below wr.heap.size wr W') => ih (e[y]'h1) (e'[y]'h2) _ _ W' (by have := hs1 y h1; omega) (hg1 y h1) (hg2 y h2) (hV.next hb9) (hV'.next hb9)
                generalize e[y]'h1 = t at *
                generalize e'[y]'h2 = u at *
                obtain ⟨b, hbb⟩ : ∃ b, eqT t u = b := ⟨_, rfl⟩
                rw [hbb] at cS
                have HB := Lib.hid hbb
                have hy0 : ¬ (y : Int) < 0 := by omega
                have hyq : ¬ (q : Int) ≤ (y : Int) := by omega
                have hyd : decide ((q : Int) ≤ (y : Int)) = false := by rw [decide_eq_false_iff_not]; exact hyq
                clear hbb hA hA' hg1 hg2 hs1 hN ih h1 h2
                go_upto_region 6 with (fail)
                refine wp_region_on (by kernel_rfl) (FF [(2, Fact.at_ wr (.pointer (some ⟨w.heap.size, 0, none⟩))), (3, Fact.at_ wr (.pointer (some ⟨w.heap.size + 1, 0, none⟩))), (5, Fact.at_ wr (.int .i64 (y : Int))), (41, Fact.at_ wr (.pointer (some ⟨w.heap.size, 3, none⟩))), (42, Fact.at_ wr (.slice (some a) q c)), (43, Fact.at_ wr (.int .i64 (y : Int))), (44, Fact.at_ wr (.pointer (some (a.add (y * 4))))), (45, Fact.at_ wr (.agg #[.int .i64 t.kind, .int .i64 t.size, .string (bs t.name), .slice B t.elem.length d])), (46, Fact.at_ wr (.pointer (some ⟨w.heap.size + 1, 3, none⟩))), (47, Fact.at_ wr (.slice (some a') q c')), (48, Fact.at_ wr (.int .i64 (y : Int))), (49, Fact.at_ wr (.pointer (some (a'.add (y * 4))))), (50, Fact.at_ wr (.agg #[.int .i64 u.kind, .int .i64 u.size, .string (bs u.name), .slice B' u.elem.length d'])), (51, Fact.at_ wr (.bool b)), (52, Fact.at_ wr (.bool (!b)))]) [2, 3, 5] 53 [41, 42, 43, 44, 45, 46, 47, 48, 49, 50, 51, 52] rfl (by kernel_rfl) (by kernel_rfl) ?_ ?_ ?_
                · intro t9 ht9
                  simp only [List.mem_cons, List.not_mem_nil, or_false] at ht9
                  rcases ht9 with rfl | rfl | rfl
                  · exact ⟨rfl, Below.refl _ _⟩
                  · exact ⟨rfl, Below.refl _ _⟩
                  · exact ⟨rfl, Below.refl _ _⟩
                · refine fcs ⟨at1 2 41 (.pointer (some ⟨w.heap.size, 0, none⟩)) (.pointer (some ⟨w.heap.size, 3, none⟩)) rfl (by first | exact .inl rfl | exact .inr ⟨_, _, _, rfl, rfl, by kernel_rfl, by decide, rfl⟩) (by kernel_rfl) rfl rfl (fun a9 W' hb9 h9 => by simp [execOp, h9] <;> go_simp), ?_⟩
                  refine fcs ⟨at1 41 42 (.pointer (some ⟨w.heap.size, 3, none⟩)) (.slice (some a) q c) rfl (by first | exact .inl rfl | exact .inr ⟨_, _, _, rfl, rfl, by kernel_rfl, by decide, rfl⟩) (by kernel_rfl) rfl rfl (fun a9 W' hb9 h9 => by have g3 := cell_next hb9 (hB1.c 3 rfl); simp [execOp, h9] <;> go_simp), ?_⟩
                  refine fcs ⟨atcopy 5 43 (.int .i64 (y : Int)) (.inl rfl) rfl (by first | exact .inl rfl | exact .inr ⟨_, _, _, rfl, rfl, by kernel_rfl, by decide, rfl⟩) (by kernel_rfl) rfl rfl, ?_⟩
                  refine fcs ⟨at2 42 43 44 (.slice (some a) q c) (.int .i64 (y : Int)) (.pointer (some (a.add (y * 4)))) rfl (by first | exact .inl rfl | exact .inr ⟨_, _, _, rfl, rfl, by kernel_rfl, by decide, rfl⟩) (by kernel_rfl) (by kernel_rfl) rfl rfl rfl (fun a9 W' hb9 h9 h8 => by simp [execOp, h9, h8] <;> go_simp), ?_⟩
                  refine fcs ⟨at1 44 45 (.pointer (some (a.add (y * 4)))) (.agg #[.int .i64 t.kind, .int .i64 t.size, .string (bs t.name), .slice B t.elem.length d]) rfl (by first | exact .inl rfl | exact .inr ⟨_, _, _, rfl, rfl, by kernel_rfl, by decide, rfl⟩) (by kernel_rfl) rfl rfl (fun a9 W' hb9 h9 => by have g0 := cell_next hb9 e0; have g1 := cell_next hb9 e1; have g2 := cell_next hb9 e2; have g3 := cell_next hb9 e3; simp [execOp, h9] <;> go_simp), ?_⟩
                  refine fcs ⟨at1 3 46 (.pointer (some ⟨w.heap.size + 1, 0, none⟩)) (.pointer (some ⟨w.heap.size + 1, 3, none⟩)) rfl (by first | exact .inl rfl | exact .inr ⟨_, _, _, rfl, rfl, by kernel_rfl, by decide, rfl⟩) (by kernel_rfl) rfl rfl (fun a9 W' hb9 h9 => by simp [execOp, h9] <;> go_simp), ?_⟩
                  refine fcs ⟨at1 46 47 (.pointer (some ⟨w.heap.size + 1, 3, none⟩)) (.slice (some a') q c') rfl (by first | exact .inl rfl | exact .inr ⟨_, _, _, rfl, rfl, by kernel_rfl, by decide, rfl⟩) (by kernel_rfl) rfl rfl (fun a9 W' hb9 h9 => by have g3 := cell_next hb9 (hB2.c 3 rfl); simp [execOp, h9] <;> go_simp), ?_⟩
                  refine fcs ⟨atcopy 5 48 (.int .i64 (y : Int)) (.inl rfl) rfl (by first | exact .inl rfl | exact .inr ⟨_, _, _, rfl, rfl, by kernel_rfl, by decide, rfl⟩) (by kernel_rfl) rfl rfl, ?_⟩
                  refine fcs ⟨at2 47 48 49 (.slice (some a') q c') (.int .i64 (y : Int)) (.pointer (some (a'.add (y * 4)))) rfl (by first | exact .inl rfl | exact .inr ⟨_, _, _, rfl, rfl, by kernel_rfl, by decide, rfl⟩) (by kernel_rfl) (by kernel_rfl) rfl rfl rfl (fun a9 W' hb9 h9 h8 => by simp [execOp, h9, h8] <;> go_simp), ?_⟩
                  refine fcs ⟨at1 49 50 (.pointer (some (a'.add (y * 4)))) (.agg #[.int .i64 u.kind, .int .i64 u.size, .string (bs u.name), .slice B' u.elem.length d']) rfl (by first | exact .inl rfl | exact .inr ⟨_, _, _, rfl, rfl, by kernel_rfl, by decide, rfl⟩) (by kernel_rfl) rfl rfl (fun a9 W' hb9 h9 => by have g0 := cell_next hb9 f0; have g1 := cell_next hb9 f1; have g2 := cell_next hb9 f2; have g3 := cell_next hb9 f3; simp [execOp, h9] <;> go_simp), ?_⟩
                  refine fcs ⟨atc2 49 45 50 51 (.agg #[.int .i64 t.kind, .int .i64 t.size, .string (bs t.name), .slice B t.elem.length d]) (.agg #[.int .i64 u.kind, .int .i64 u.size, .string (bs u.name), .slice B' u.elem.length d']) (.bool b) _ rfl rfl (by first | exact .inl rfl | exact .inr ⟨_, _, _, rfl, rfl, by kernel_rfl, by decide, rfl⟩) (by kernel_rfl) (by kernel_rfl) rfl rfl (by kernel_rfl) rfl (fun W' hb9 => cS W' hb9), ?_⟩
                  refine fcs ⟨at1 51 52 (.bool b) (.bool (!b)) rfl (by first | exact .inl rfl | exact .inr ⟨_, _, _, rfl, rfl, by kernel_rfl, by decide, rfl⟩) (by kernel_rfl) rfl rfl (fun a9 W' hb9 h9 => by simp [execOp, h9] <;> go_simp), ?_⟩
                  exact fnl
                intro vv wv hvv hbv
                have hv52 : vv 52 = .bool (!b) := (hvv 52 (by decide)).1
                simp only [lay, List.foldl_cons, List.foldl_nil, List.setIfInBounds_toArray, List.set_cons_succ, List.set_cons_zero, hv52]
                have hb5 := Below.next hb hbv
                have hB3 := hB1.next hbv
                have hB4 := hB2.next hbv
                clear hvv hB1 hB2 e0 e1 e2 e3 f0 f1 f2 f3 cS hb hbv c3 l1
                cases b
                · have hF : r = false := by
                    cases r
                    · rfl
                    · exact absurd (HR.out.1 rfl) (HN.out fun h => by rw [eqT_iff.2 h] at HB; exact Bool.noConfusion HB.out)
                  subst hF
                  go_wp2_with fail
                  go_ret
                  exact ⟨rfl, hb5⟩
                · have HT2 := Lib.hid (HT.out (eqT_iff.1 HB.out))
                  go_wp2_with fail
                  go_roundw
                  case rel => exact ⟨y + 1, by omega, by go_num, HT2, hB3, hB4, hb5⟩
                  case measure => simp [intOf]; omega
              · obtain rfl : y = q := by omega
                have hF : r = true := HR.out.2 (by
                  have := HK.out
                  rwa [List.take_of_length_le (by rw [HQ.out]; exact Nat.le_refl _), List.take_of_length_le (by rw [HQ'.out]; exact Nat.le_refl _)] at this)
                subst hF
                clear ih hg1 hg2 hs1 hN
                go_wp2_with fail
                go_ret
                exact ⟨rfl, hb⟩
          · have b4 : ((q : Int) != (q' : Int)) = true := by simp; omega
            rw [eqT_no (fun h => h4 (by injection h with _ _ _ h; rw [← hq, ← hq', h]))]
            clear ih hg1 hg2 hs1 hR hR' hl hl' hN h4 hq hq'
            go_enter Tryz.func49, Tryz.ntmps49
            go_wp2_with fail
            go_ret
            exact ⟨rfl, hab _ _⟩
        · have b3 := sn_f h3
          have b3e := sq_f h3
          have b3p : ((bs n).toList = (bs n').toList) = False := by rw [toList_bs, toList_bs]; simpa using h3
          rw [eqT_no (fun h => h3 (by injection h))]
          clear ih hg1 hg2 hs1 hR hR' hl hl' hN h3 hq hq'
          go_enter Tryz.func49, Tryz.ntmps49
          go_wp2_with fail
          go_ret
          exact ⟨rfl, hab _ _⟩
      · have b2 : (s != s') = true := by simpa using h2
        rw [eqT_no (fun h => h2 (by injection h))]
        clear ih hg1 hg2 hs1 hR hR' hl hl' hN h2 hq hq'
        go_enter Tryz.func49, Tryz.ntmps49
        go_wp2_with fail
        go_ret
        exact ⟨rfl, hab _ _⟩
    · have b1 : (k != k') = true := by simpa using h1
      rw [eqT_no (fun h => h1 (by injection h))]
      clear ih hg1 hg2 hs1 hR hR' hl hl' hN h1 hq hq'
      go_enter Tryz.func49, Tryz.ntmps49
      go_wp2_with fail
      go_ret
      exact ⟨rfl, hab _ _⟩
end Go.Proofs.YthbhbpcjcnkkkaaGreatDoor
/-
  Types in new memory: what hangs on no memory but the call's own. No conditions beyond those that each names.
-/
namespace Go.Proofs.YthbhbpcjcnkkkaaGreatDoor
open Go.RowKit Go.Shelf
/-- From block lo on, what was there is as it was. -/
structure Kpl (lo : Nat) (w w' : World) : Prop where
  size : w.heap.size ≤ w'.heap.size
  blk : ∀ i, lo ≤ i → i < w.heap.size → w'.heap[i]? = w.heap[i]?
theorem Kpl.of {lo : Nat} {w w' : World} (hb : Below w.heap.size w w') : Kpl lo w w' := ⟨hb.size, fun i _ hi => hb.block i hi⟩
theorem Kpl.trans {lo : Nat} {w w1 w2 : World} (h : Kpl lo w w1) (k : Kpl lo w1 w2) : Kpl lo w w2 := ⟨Nat.le_trans h.size k.size, fun i h1 h2 => (k.blk i h1 (Nat.lt_of_lt_of_le h2 h.size)).trans (h.blk i h1 h2)⟩
theorem Kpl.mono {lo hi : Nat} {w w' : World} (h : Kpl lo w w') (hl : lo ≤ hi) : Kpl hi w w' := ⟨h.size, fun i h1 h2 => h.blk i (Nat.le_trans hl h1) h2⟩
theorem Kpl.gb {g : Nat} {w w' : World} (h : w.grownBy w' (some g)) : Kpl (g + 1) w w' := ⟨h.size, fun i h1 h2 => h.block i h2 (fun e => by cases e; omega)⟩
/-- The elements lie in new memory. -/
def NwR (lo : Nat) (w : World) (l : List Ty) (A : Option Addr) : Prop := ∀ w', Kpl lo w w' → Rw TyA 4 w' l A
theorem NwR.next {lo : Nat} {w w' : World} {l : List Ty} {A : Option Addr} (h : NwR lo w l A) (k : Kpl lo w w') : NwR lo w' l A := fun w2 k2 => h w2 (k.trans k2)
theorem NwR.rw_ {lo : Nat} {w : World} {l : List Ty} {A : Option Addr} (h : NwR lo w l A) : Rw TyA 4 w l A := h w ⟨Nat.le_refl _, fun _ _ _ => rfl⟩
theorem NwR.nil (lo : Nat) (w : World) (A : Option Addr) : NwR lo w [] A := fun _ _ => .inl rfl
theorem NwR.low {lo hi : Nat} {w : World} {l : List Ty} {A : Option Addr} (h : NwR hi w l A) (hl : lo ≤ hi) : NwR lo w l A := fun w2 k2 => h w2 (k2.mono hl)
/-- The cells of element j. -/
structure EL1 (xs : List Value) (j : Nat) (t : Ty) (A : Option Addr) (c : Nat) : Prop where
  e0 : xs[j * 4]? = some (.int .i64 t.kind)
  e1 : xs[j * 4 + 1]? = some (.int .i64 t.size)
  e2 : xs[j * 4 + 2]? = some (.string (bs t.name))
  e3 : xs[j * 4 + 3]? = some (.slice A t.elem.length c)
def EL (P : Nat → Ty → Option Addr → Prop) (l : List Ty) (xs : List Value) : Prop := ∀ j (h : j < l.length), ∃ A c, EL1 xs j (l[j]'h) A c ∧ P j (l[j]'h) A
theorem news_of {w : World} {b off : Nat} {l : List Ty} (h : ∀ i (h : i < l.length), TyA w (l[i]'h) ((⟨b, off, none⟩ : Addr).add (i * 4))) :
    ∃ xs : List Value, xs.length = l.length * 4 ∧ (∀ j u, xs[j]? = some u → w.cell? ⟨b, off + j, none⟩ = some u) ∧ (∀ u ∈ xs, u.oneCell' = true) ∧ EL (fun _ t A => Rw TyA 4 w t.elem A) l xs := by
  have hcell : ∀ q (hq : q < l.length), w.cell? ⟨b, off + q * 4, none⟩ = some (.int .i64 (l[q]'hq).kind) ∧ w.cell? ⟨b, off + (q * 4 + 1), none⟩ = some (.int .i64 (l[q]'hq).size) ∧ w.cell? ⟨b, off + (q * 4 + 2), none⟩ = some (.string (bs (l[q]'hq).name)) ∧ ∃ A c, w.cell? ⟨b, off + (q * 4 + 3), none⟩ = some (.slice A (l[q]'hq).elem.length c) ∧ Rw TyA 4 w (l[q]'hq).elem A := fun q hq => by
    have := (h q hq).cells
    rw [Addr.add_lit] at this
    simp only [nx1, Nat.add_assoc] at this
    exact this
  have hs : ∀ j, j < l.length * 4 → ∃ u, w.cell? ⟨b, off + j, none⟩ = some u ∧ u.oneCell' = true := fun j hj => by
    have hq : j / 4 < l.length := by omega
    obtain ⟨h0, h1, h2, A, c, h3, -⟩ := hcell (j / 4) hq
    have : j = j / 4 * 4 ∨ j = j / 4 * 4 + 1 ∨ j = j / 4 * 4 + 2 ∨ j = j / 4 * 4 + 3 := by omega
    rcases this with e | e | e | e
    · rw [← e] at h0; exact ⟨_, h0, rfl⟩
    · rw [← e] at h1; exact ⟨_, h1, rfl⟩
    · rw [← e] at h2; exact ⟨_, h2, rfl⟩
    · rw [← e] at h3; exact ⟨_, h3, rfl⟩
  have hget : ∀ j, j < l.length * 4 → ((List.range (l.length * 4)).map fun j => (w.cell? ⟨b, off + j, none⟩).getD undef)[j]? = some ((w.cell? ⟨b, off + j, none⟩).getD undef) := fun j hj => by simp [hj]
  refine ⟨(List.range (l.length * 4)).map fun j => (w.cell? ⟨b, off + j, none⟩).getD undef, by simp, fun j u hu => ?_, fun u hu => ?_, fun q hq => ?_⟩
  · have hj : j < l.length * 4 := by
      have := (List.getElem?_eq_some_iff.1 hu).1
      simpa using this
    rw [hget j hj] at hu
    obtain ⟨v, hv, -⟩ := hs j hj
    rw [hv] at hu ⊢
    exact hu
  · obtain ⟨j, hj, rfl⟩ := List.mem_map.1 hu
    obtain ⟨v, hv, h1⟩ := hs j (List.mem_range.1 hj)
    rw [hv]
    exact h1
  · obtain ⟨h0, h1, h2, A, c, h3, h4⟩ := hcell q hq
    refine ⟨A, c, ⟨?_, ?_, ?_, ?_⟩, h4⟩
    · rw [hget _ (by omega), h0]; rfl
    · rw [hget _ (by omega), h1]; rfl
    · rw [hget _ (by omega), h2]; rfl
    · rw [hget _ (by omega), h3]; rfl
/-- Four cells are set anew. -/
def set4 (xs : List Value) (k : Nat) (v0 v1 v2 v3 : Value) : List Value := (((xs.set (k * 4) v0).set (k * 4 + 1) v1).set (k * 4 + 2) v2).set (k * 4 + 3) v3
theorem set4_other {xs : List Value} {k i : Nat} (v0 v1 v2 v3 : Value) (h : ¬ (k * 4 ≤ i ∧ i ≤ k * 4 + 3)) : (set4 xs k v0 v1 v2 v3)[i]? = xs[i]? := by
  unfold set4
  rw [List.getElem?_set_ne (by omega), List.getElem?_set_ne (by omega), List.getElem?_set_ne (by omega), List.getElem?_set_ne (by omega)]
theorem EL1.set_other {xs : List Value} {j k : Nat} {t : Ty} {A : Option Addr} {c : Nat} (h : EL1 xs j t A c) (hne : j ≠ k) (v0 v1 v2 v3 : Value) : EL1 (set4 xs k v0 v1 v2 v3) j t A c :=
  ⟨(set4_other _ _ _ _ (by omega)).trans h.e0, (set4_other _ _ _ _ (by omega)).trans h.e1, (set4_other _ _ _ _ (by omega)).trans h.e2, (set4_other _ _ _ _ (by omega)).trans h.e3⟩
theorem EL1.set_same {xs : List Value} {k n : Nat} (t : Ty) (A : Option Addr) (c : Nat) (hl : xs.length = n * 4) (hk : k < n) : EL1 (set4 xs k (.int .i64 t.kind) (.int .i64 t.size) (.string (bs t.name)) (.slice A t.elem.length c)) k t A c := by
  unfold set4
  refine ⟨?_, ?_, ?_, ?_⟩
  · rw [List.getElem?_set_ne (by omega), List.getElem?_set_ne (by omega), List.getElem?_set_ne (by omega), List.getElem?_set_self (by omega)]
  · rw [List.getElem?_set_ne (by omega), List.getElem?_set_ne (by omega), List.getElem?_set_self (by simp; omega)]
  · rw [List.getElem?_set_ne (by omega), List.getElem?_set_self (by simp; omega)]
  · rw [List.getElem?_set_self (by simp; omega)]
theorem set4_len (xs : List Value) (k : Nat) (v0 v1 v2 v3 : Value) : (set4 xs k v0 v1 v2 v3).length = xs.length := by unfold set4; simp
/-- A row of the call's own whose elements lie in new memory is one. -/
theorem NwR.row {w : World} {lo g n cap : Nat} {e : TypeId} {l : List Ty} {xs : List Value} (hn : l.length = n) (ho : w.ownsRow lo e 4 (.slice (some ⟨g, 0, none⟩) n cap) n xs) (h : EL (fun _ t A => NwR (g + 1) w t.elem A) l xs) : NwR lo w l (some ⟨g, 0, none⟩) := fun w' k => by
  have hg := ho.lt g rfl
  refine .inr ⟨_, rfl, fun i hi => ?_⟩
  obtain ⟨A, c, hE, hP⟩ := h i hi
  have hc : ∀ j u, j < n * 4 → xs[j]? = some u → w'.cell? ⟨g, j, none⟩ = some u := fun j u hj hu => by
    rw [World.cell?_of_block (w := w) (k.blk g hg.1 hg.2), ho.cellAt j hj, hu]
  rw [Addr.add_lit, Nat.zero_add]
  exact TyA.of (hc (i * 4) _ (by omega) hE.e0) (hc (i * 4 + 1) _ (by omega) hE.e1) (hc (i * 4 + 2) _ (by omega) hE.e2) (hc (i * 4 + 3) _ (by omega) hE.e3) (hP w' (k.mono (by omega)))
/-- A type in new memory. -/
def NtP (t : Ty) (w : World) (e : Ending) (w' : World) : Prop := ∃ A c, e = .returned (.agg #[.int .i64 t.kind, .int .i64 t.size, .string (bs t.name), .slice A t.elem.length c]) ∧ NwR w.heap.size w' t.elem A ∧ Below w.heap.size w w'
def EtP (l : List Ty) (w : World) (e : Ending) (w' : World) : Prop := ∃ A c, e = .returned (.slice A l.length c) ∧ NwR w.heap.size w' l A ∧ Below w.heap.size w w'
theorem info104 : (Tryz.prog.info? 45).map (fun i => (i.zero, i.size, i.bytes)) = some (some (.agg #[.int .i64 0, .int .i64 0, .string ⟨#[]⟩, .slice none 0 0]), 4, 56) := by kernel_rfl
theorem spot_none0 {w : World} {a : Addr} {v : Value} (h : w.cell? a = some v) : a.spot = none := by
  unfold World.cell? at h
  split at h
  · split at h
    · cases h
    · rename_i h1; simpa using h1
  · cases h
/-- A copy of a list of types. -/
def ClP (n : Nat) (xs : List Value) (w : World) (e : Ending) (w' : World) : Prop := ∃ v', e = .returned v' ∧ w'.ownsRow w.heap.size 45 4 v' n xs ∧ Below w.heap.size w w'
set_option maxRecDepth 100000 in
set_option maxHeartbeats 2000000 in
theorem cloneZero_any (A : Option Addr) (c : Nat) (w : World) : Calls Tryz.prog 101 #[.slice A 0 c] w (ClP 0 [] w) := by
  cases A with
  | none => exact (AnyE.slices_Clone_nil Tryz.clone101 0 c w).mono fun e w' ⟨h1, h2⟩ => ⟨_, h1, World.ownsRow_nil _ _ _ _, by rw [h2]; exact Below.refl _ _⟩
  | some a =>
    obtain ⟨i, hi, hz, hs5, hby⟩ := info_parts info104
    have q22 : ∀ (w : World) (a : Option Addr) (n c n' c' : Nat), (binOp .eql 43 (.slice a n c) (.slice none n' c')).run Tryz.prog w = .ok (.bool a.isNone) w := fun w a n c n' c' => Lib.run_eql_slice_nil w _ _ a n c n' c' Tryz.underlying43
    go_enter Tryz.func101, Tryz.ntmps101
    go_wp2_with (at_builtin; refine wpList_append_own _ rfl _ _ 43 rfl w.heap.size 45 i _ 4 56 Tryz.underlying43 hi hz hs5 hby rfl (by decide) _ _ _ rfl (World.ownsRow_made w #[] 0 (Nat.le_refl _) (Nat.zero_le _) rfl) a 0 c [] rfl rfl (by intro j u hj; simp at hj) (by intro u hu; cases hu) (by unfold maxLen; omega) (by omega) (by simp) ?_)
    intro v' w1 hown hgrow hnil
    go_wp2
    go_ret
    exact ⟨v', rfl, by simpa using hown, ((Below.refl _ w).alloc (Nat.le_refl _) _).grown hgrow (by simp) (by intro k hk; simp [Value.ownBlock] at hk; omega)⟩
theorem cloneType_any (l : List Ty) (A : Option Addr) (c : Nat) (w : World) (hl : l.length ≤ 1000000) (hR : Rw TyA 4 w l A) :
    Calls Tryz.prog 101 #[.slice A l.length c] w fun e w' => ∃ xs, EL (fun _ t A => Rw TyA 4 w t.elem A) l xs ∧ xs.length = l.length * 4 ∧ ClP l.length xs w e w' := by
  by_cases h0 : l = []
  · subst h0
    exact (cloneZero_any A c w).mono fun e w' h => ⟨[], fun j h => absurd h (Nat.not_lt_zero _), rfl, h⟩
  · rcases hR with h | ⟨a, rfl, h⟩
    · exact absurd h h0
    · have h1 : 0 < l.length := List.length_pos_iff.2 h0
      have hs : a.spot = none := by
        have := spot_none0 ((h 0 h1).cells.1)
        simpa [Addr.add] using this
      obtain ⟨b, off, s⟩ := a
      have hs : s = none := hs
      subst hs
      obtain ⟨xs, hx1, hx2, hx3, hx4⟩ := news_of h
      obtain ⟨i, hi, hz, hs5, hby⟩ := info_parts info104
      exact (AnyE.slices_Clone Tryz.clone101 i _ 4 56 hi hz hs5 hby rfl (by decide) Tryz.sizeOf45 b off l.length c xs w hx1 (by unfold maxLen; omega) (by omega) hx2 hx3).mono fun e w' ⟨v', e1, e2, _, e4⟩ => ⟨xs, hx4, hx1, v', e1, e2, e4⟩
end Go.Proofs.YthbhbpcjcnkkkaaGreatDoor

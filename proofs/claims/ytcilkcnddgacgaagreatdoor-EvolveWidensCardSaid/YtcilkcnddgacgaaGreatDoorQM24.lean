/-
  The developers' Check. No conditions beyond those that each names, and what the library's variables hold.
-/
import Derived.Test.YtcilkcnddgacgaaGreatDoorQM23
import Derived.Test.YtcilkcnddgacgaaGreatDoorQM05
import Derived.Test.YtcilkcnddgacgaaGreatDoorQM20
import Derived.Test.YtcilkcnddgacgaaGreatDoorQM16
namespace Go.Proofs.YtcilkcnddgacgaaGreatDoor
open Go.RowKit Go.Maps Go.Sort Go.Shelf
theorem chk_ver {S : Sch} (h : S.ver < 1 ∨ 999 < S.ver) : chk S = 4 := by unfold chk; rw [if_pos h]
theorem chk_long {S : Sch} (h : ¬ (S.ver < 1 ∨ 999 < S.ver)) (h2 : longS S) : chk S = 3 := by unfold chk; rw [if_neg h, if_pos h2]
theorem chk_en {S : Sch} (h : ¬ (S.ver < 1 ∨ 999 < S.ver)) (h2 : ¬ longS S) {k e : Nat} (hk : k < S.enums.length) (h3 : ∀ j, j < k → enE S j = 0) (he : enE S k = e) (h0 : e ≠ 0) : chk S = e := by
  have := fe_at hk h3 he h0
  unfold chk
  rw [if_neg h, if_neg h2, this, if_pos h0]
theorem chk_st {S : Sch} (h : ¬ (S.ver < 1 ∨ 999 < S.ver)) (h2 : ¬ longS S) (h4 : ∀ j, j < S.enums.length → enE S j = 0) {k e : Nat} (hk : k < S.structs.length) (h3 : ∀ j, j < k → stE S j = 0) (he : stE S k = e) (h0 : e ≠ 0) : chk S = e := by
  have := fe_at hk h3 he h0
  have h5 := fe_zero h4
  unfold chk
  rw [if_neg h, if_neg h2, h5, if_neg (fun h => h rfl), this, if_pos h0]
theorem chk_ns {S : Sch} (h : ¬ (S.ver < 1 ∨ 999 < S.ver)) (h2 : ¬ longS S) (hP : Parts S) : chk S = nsR S := by
  have h4 := fe_zero hP.en
  have h5 := fe_zero hP.st
  unfold chk nsR
  rw [if_neg h, if_neg h2, h4, if_neg (fun h => h rfl), h5, if_neg (fun h => h rfl)]
theorem take_map {α β : Type} {l : List α} (f : α → β) {k : Nat} (hk : k < l.length) : (l.map f).take (k + 1) = (l.map f).take k ++ [f (l[k]'hk)] := by
  rw [List.take_succ_eq_append_getElem (by simpa using hk)]
  simp
set_option maxRecDepth 100000 in
set_option maxHeartbeats 8000000 in
theorem check_any (S : Sch) (hB : FewB S) (v : Value) (w : World) (hv : ScV w S v) (hE : Env w) :
    Calls Tryz.prog 27 #[v] w (Ib (.int .i64 (chk S : Int)) w) := by
  have hmm := @run_makeMap Tryz.prog
  obtain ⟨A, c, A2, c2, rfl, hS⟩ := hv
  obtain ⟨n, hn⟩ : ∃ n, S.enums.length = n := ⟨_, rfl⟩
  obtain ⟨m, hm⟩ : ∃ m, S.structs.length = m := ⟨_, rfl⟩
  have HN := Lib.hid hn
  have HM := Lib.hid hm
  have hn18 := hB.ne
  have hm18 := hB.ns
  rw [hn] at hn18
  rw [hm] at hm18
  obtain ⟨r, hr⟩ := exB (longS S)
  have hv1 : ScV (w.alloc (Obj.cells #[.int .i64 S.ver, .slice A n c, .slice A2 m c2] 25)) S (.agg #[.int .i64 S.ver, .slice A n c, .slice A2 m c2]) := ⟨A, c, A2, c2, by rw [hn, hm], hS.next (ab1 _ _)⟩
  have cL := isLong_any S (.agg #[.int .i64 S.ver, .slice A n c, .slice A2 m c2]) _ r hr (by omega) (by omega) hv1
  rw [hn, hm]
  have B1 := Bx.new3 w 25 (.int .i64 S.ver) (.slice A n c) (.slice A2 m c2)
  have hab := ab1 w (Obj.cells #[.int .i64 S.ver, .slice A n c, .slice A2 m c2] 25)
  by_cases h1 : S.ver < 1
  · have hc := chk_ver (.inl h1)
    have hc2 : (4 : Int) = (chk S : Int) := by rw [hc]; rfl
    clear cL hr hc hS
    go_enter Tryz.func27, Tryz.ntmps27
    go_wp2_with fail
    go_ret
    exact ⟨by rw [← hc2]; rfl, hab⟩
  by_cases h2 : 999 < S.ver
  · have hc := chk_ver (.inr h2)
    have hc2 : (4 : Int) = (chk S : Int) := by rw [hc]; rfl
    clear cL hr hc hS
    go_enter Tryz.func27, Tryz.ntmps27
    go_wp2_with fail
    go_ret
    exact ⟨by rw [← hc2]; rfl, hab⟩
  have h12 : ¬ (S.ver < 1 ∨ 999 < S.ver) := by omega
  go_enter Tryz.func27, Tryz.ntmps27
  go_wp2_with fail
  refine cL.mono ?_
  rintro e w1 ⟨rfl, hb1⟩
  have hab1 := Below.next hab hb1
  have B1 := B1.next hb1
  have l0 := B1.lt
  cases r
  case true =>
    have hc := chk_long h12 (hr.1 rfl)
    have hc2 : (3 : Int) = (chk S : Int) := by rw [hc]; rfl
    clear cL hr hc hS
    go_wp2_with fail
    go_ret
    exact ⟨by rw [← hc2]; rfl, hab1⟩
  have hnl : ¬ longS S := fun h => by have := hr.2 h; cases this
  have hS1 := hS.next hab1
  have hv2 : ScV w1 S (.agg #[.int .i64 S.ver, .slice A n c, .slice A2 m c2]) := ⟨A, c, A2, c2, by rw [hn, hm], hS1⟩
  have cDf := define_any S (.agg #[.int .i64 S.ver, .slice A n c, .slice A2 m c2]) w1 hv2 (by omega) (by omega) (fun t ht => (hB.st t ht).1) (fun t ht => (hB.en t ht).1)
  have c0 := B1.c 0 rfl
  have c1 := B1.c 1 rfl
  have c2_ := B1.c 2 rfl
  clear cL hv1 hv2 hS hab hr hn hm
  go_wp2_with fail
  refine cDf.mono ?_
  rintro e w2 ⟨b1, b2, rfl, hD, hb2⟩
  have hab2 := Below.next hab1 hb2
  have hS2 := hS1.next hb2
  have hE2 := hE.next hab2
  have B2 := B1.next hb2
  have l2 := B2.lt
  have g1 := B2.c 1 rfl
  have hSe := hS2.en
  have hSs := hS2.st
  have z1 : (w2.alloc (Obj.map #[] 0)).heap.size = w2.heap.size + 1 := by simp
  have M0 := (Ms.made w2).next (ab1 (w2.alloc (Obj.map #[] 0)) (Obj.cells #[.map (some b1), .map (some b2)] 104))
  have C0 := Bx.new2 (w2.alloc (Obj.map #[] 0)) 104 (.map (some b1)) (.map (some b2))
  have B3 := B2.next (ab2 w2 (Obj.map #[] 0) (Obj.cells #[.map (some b1), .map (some b2)] 104))
  have hb3 := ab2 w2 (Obj.map #[] 0) (Obj.cells #[.map (some b1), .map (some b2)] 104)
  rw [z1] at C0
  have HZ : Hid (∀ j, j < 0 → enE S j = 0) := Lib.hid fun _ h => by omega
  clear cDf z1 c0 c1 c2_ l0 B1 hS1 hab1 hb2
  go_wp2_with fail
  clear B2 g1
  go_loopw [27] (fun i wr => ∃ k : Nat, k ≤ n ∧ i = .int .i64 (k : Int) ∧ Hid (∀ j, j < k → enE S j = 0) ∧ Ms wr w2.heap.size k ((ens S).take k) ∧ Bx wr w.heap.size [.int .i64 S.ver, .slice A n c, .slice A2 m c2] ∧ Bx wr (w2.heap.size + 1) [.map (some b1), .map (some b2)] ∧ Below w2.heap.size w2 wr) (fun i _ => n - (intOf i).toNat)
  case atStart => exact ⟨0, by omega, rfl, HZ, M0, B3, C0, hb3⟩
  case round =>
    clear M0 C0 B3 hb3 HZ
    obtain ⟨k, hk, rfl, HZ, hM, R1, R2, hb⟩ := hrel
    have s1 := R1.c 1 rfl
    have l1 := R1.lt
    have l3 := R2.lt
    have hlM := hM.lt
    by_cases hlt : k < n
    · obtain ⟨a, rfl, hA⟩ := hSe.get (i := k) (by rw [HN.out]; exact hlt)
      have hkm : k < S.enums.length := by rw [HN.out]; exact hlt
      obtain ⟨A3, c3, A4, c4, e0, e1, e2, hV⟩ := hA.val
      replace e0 := cell_next hb e0
      replace e1 := cell_next hb e1
      replace e2 := cell_next hb e2
      have hblk : (a.add (k * 3)).block < wr.heap.size := blk_lt e0
      have hT : (ens S).take (k + 1) = (ens S).take k ++ [(S.enums[k]'hkm).name] := take_map En.name hkm
      obtain ⟨q1, q2, q3, q4⟩ := hB.en _ (List.getElem_mem hkm)
      have hee := enE_at hkm
      generalize S.enums[k]'hkm = x at *
      have hbx := Below.next hb (ab1 wr (Obj.cells #[.string (bs x.name), .slice A3 x.names.length c3, .slice A4 x.nums.length c4] 94))
      have hMx := hM.next (ab1 wr (Obj.cells #[.string (bs x.name), .slice A3 x.names.length c3, .slice A4 x.nums.length c4] 94))
      have Rx1 := R1.next (ab1 wr (Obj.cells #[.string (bs x.name), .slice A3 x.names.length c3, .slice A4 x.nums.length c4] 94))
      have Rx2 := R2.next (ab1 wr (Obj.cells #[.string (bs x.name), .slice A3 x.names.length c3, .slice A4 x.nums.length c4] 94))
      have cC := checkEnum_any w2 x _ w2.heap.size k ((ens S).take k) _ hV hbx (Nat.le_refl _) hMx hE2 (by omega) q1 q2 q4
      rw [← hee] at cC
      obtain ⟨r, hr⟩ : ∃ r, enE S k = r := ⟨_, rfl⟩
      rw [hr] at cC
      have HT := Lib.hid hT
      have HR := Lib.hid hr
      clear hr hT hee hA q1 q2 q3 q4
      go_wp2_with fail
      refine cC.mono ?_
      rintro e w4 ⟨rfl, hg4, hM4⟩
      have R14 := Rx1.kept hg4 (by omega)
      have R24 := Rx2.kept hg4 (by omega)
      have hb4 := hbx.grown hg4 hbx.size (fun j hj => by cases hj; exact Nat.le_refl _)
      clear cC Rx1 Rx2 hMx hbx R1 R2 hM hb s1 l1 l3 hlM e0 e1 e2 hblk
      by_cases h0 : r = 0
      · subst h0
        have hM5 := hM4 rfl
        rw [← HT.out] at hM5
        have HZ2 := Lib.hid (before_succ HZ.out HR.out)
        clear hM4 HZ
        go_wp2_with fail
        go_roundw
        case rel => exact ⟨k + 1, by omega, by go_num, HZ2, hM5, R14, R24, hb4⟩
        case measure => simp [intOf]; omega
      · have hc := chk_en h12 hnl (by rw [HN.out]; exact hlt) HZ.out HR.out h0
        have d1 : ((r : Int) != 0) = true := by simp; omega
        have d2 : ((r : Int) == 0) = false := by simp; omega
        have HC := Lib.hid hc
        have hab5 := Below.next hab2 hb4
        clear hM4 HZ hc
        go_wp2_with fail
        go_ret
        exact ⟨by rw [HC.out]; rfl, hab5⟩
    · obtain rfl : k = n := by omega
      have HEN := Lib.hid (show ∀ j, j < S.enums.length → enE S j = 0 by rw [HN.out]; exact HZ.out)
      have hM2 : Ms wr w2.heap.size (k + 0) (ens S ++ (sns S).take 0) := by
        have : (ens S).take k = ens S := List.take_of_length_le (by unfold ens; rw [List.length_map, HN.out]; exact Nat.le_refl _)
        rw [this] at hM
        simpa using hM
      have HZ3 : Hid (∀ j, j < 0 → stE S j = 0) := Lib.hid fun _ h => by omega
      have s2 := R1.c 2 rfl
      clear HZ hM
      go_wp2_with fail
      clear s1 s2 l1 l3 hlM hSe
      rename World => wo
      go_loopw [41] (fun i wr => ∃ y : Nat, y ≤ m ∧ i = .int .i64 (y : Int) ∧ Hid (∀ j, j < y → stE S j = 0) ∧ Ms wr w2.heap.size (k + y) (ens S ++ (sns S).take y) ∧ Bx wr w.heap.size [.int .i64 S.ver, .slice A k c, .slice A2 m c2] ∧ Bx wr (w2.heap.size + 1) [.map (some b1), .map (some b2)] ∧ Below w2.heap.size w2 wr) (fun i _ => m - (intOf i).toNat)
      case atStart => exact ⟨0, by omega, rfl, HZ3, hM2, R1, R2, hb⟩
      case round =>
        clear HZ3 hM2 R1 R2 hb
        obtain ⟨y, hy, rfl, HZ, hM, R1, R2, hb⟩ := hrel
        have s0 := R1.c 0 rfl
        have s1 := R1.c 1 rfl
        have s2 := R1.c 2 rfl
        have l1 := R1.lt
        have l3 := R2.lt
        have hlM := hM.lt
        have p0 := R2.c 0 rfl
        have p1 := R2.c 1 rfl
        by_cases hlt : y < m
        · obtain ⟨a, rfl, hA⟩ := hSs.get (i := y) (by rw [HM.out]; exact hlt)
          have hkm : y < S.structs.length := by rw [HM.out]; exact hlt
          obtain ⟨A3, c3, e0, e1, hV⟩ := hA.val
          replace e0 := cell_next hb e0
          replace e1 := cell_next hb e1
          have hblk : (a.add (y * 2)).block < wr.heap.size := blk_lt e0
          have hT : ens S ++ (sns S).take (y + 1) = (ens S ++ (sns S).take y) ++ [(S.structs[y]'hkm).name] := by unfold sns; rw [take_map St.name hkm, List.append_assoc]
          obtain ⟨q1, q2, q3⟩ := hB.st _ (List.getElem_mem hkm)
          have hee := stE_at hkm
          generalize S.structs[y]'hkm = t at *
          have hbx := Below.next hb (ab1 wr (Obj.cells #[.string (bs t.name), .slice A3 t.fields.length c3] 37))
          have hMx := hM.next (ab1 wr (Obj.cells #[.string (bs t.name), .slice A3 t.fields.length c3] 37))
          have Rx1 := R1.next (ab1 wr (Obj.cells #[.string (bs t.name), .slice A3 t.fields.length c3] 37))
          have Rx2 := R2.next (ab1 wr (Obj.cells #[.string (bs t.name), .slice A3 t.fields.length c3] 37))
          have cC := checkStruct_any w2 S t _ w2.heap.size (k + y) b1 b2 (ens S ++ (sns S).take y) _ hV hD hbx (Nat.le_refl _) hMx hE2 (by omega) q1 q2 (fun f hf => ⟨(q3 f hf).1, (q3 f hf).2.1, (q3 f hf).2.2.1⟩)
          rw [← hee] at cC
          obtain ⟨r, hr⟩ : ∃ r, stE S y = r := ⟨_, rfl⟩
          rw [hr] at cC
          have HT := Lib.hid hT
          have HR := Lib.hid hr
          clear hr hT hee hA q1 q2 q3
          go_wp2_with fail
          refine cC.mono ?_
          rintro e w4 ⟨rfl, hg4, hM4⟩
          have R14 := Rx1.kept hg4 (by omega)
          have R24 := Rx2.kept hg4 (by omega)
          have hb4 := hbx.grown hg4 hbx.size (fun j hj => by cases hj; exact Nat.le_refl _)
          clear cC Rx1 Rx2 hMx hbx R1 R2 hM hb s0 s1 s2 l1 l3 hlM e0 e1 hblk p0 p1
          by_cases h0 : r = 0
          · subst h0
            have hM5 := hM4 rfl
            rw [← HT.out] at hM5
            have HZ2 := Lib.hid (before_succ HZ.out HR.out)
            clear hM4 HZ
            go_wp2_with fail
            go_roundw
            case rel => exact ⟨y + 1, by omega, by go_num, HZ2, hM5, R14, R24, hb4⟩
            case measure => simp [intOf]; omega
          · have hc := chk_st h12 hnl HEN.out (by rw [HM.out]; exact hlt) HZ.out HR.out h0
            have d1 : ((r : Int) != 0) = true := by simp; omega
            have d2 : ((r : Int) == 0) = false := by simp; omega
            have HC := Lib.hid hc
            have hab5 := Below.next hab2 hb4
            clear hM4 HZ hc
            go_wp2_with fail
            go_ret
            exact ⟨by rw [HC.out]; rfl, hab5⟩
        · obtain rfl : y = m := by omega
          have hP : Parts S := ⟨HEN.out, by rw [HM.out]; exact HZ.out⟩
          have HC := Lib.hid (chk_ns h12 hnl hP)
          have cN := checkNesting_any S (hP.okk hB) (fun h => ⟨_, dpt_of hP.nd hB h⟩) b1 b2 (.agg #[.int .i64 S.ver, .slice A k c, .slice A2 y c2]) wr ⟨A, c, A2, c2, by rw [HN.out, HM.out], hS2.next hb⟩ (hD.next hb)
          have hab5 := Below.next hab2 hb
          clear HZ hM
          go_wp2_with fail
          refine cN.mono ?_
          rintro e w5 ⟨rfl, hb5⟩
          go_wp2_with fail
          go_ret
          exact ⟨by rw [HC.out]; rfl, Below.next hab5 hb5⟩
end Go.Proofs.YtcilkcnddgacgaaGreatDoor
/-
  The developers' definitions of a valid schema that has a struct, its Depth and Uses. No conditions beyond those that each names, and what the library's variables hold.
-/
namespace Go.Proofs.YtcilkcnddgacgaaGreatDoor
open Go.RowKit Go.Maps Go.Sort Go.Shelf
theorem nsR_zero {S : Sch} (h : nsR S = 0) : ¬ cyc S ∧ ¬ deep S := by
  unfold nsR at h
  by_cases h1 : cyc S
  · rw [if_pos h1] at h; cases h
  · rw [if_neg h1] at h
    by_cases h2 : deep S
    · rw [if_pos h2] at h; cases h
    · exact ⟨h1, h2⟩
/-- A valid schema, in all that this says. -/
structure Vld (S : Sch) : Prop where
  ver : 1 ≤ S.ver ∧ S.ver ≤ 999
  lg : ¬ longS S
  pt : Parts S
  nc : ¬ cyc S
  nd : ¬ deep S
theorem chk_zero {S : Sch} (h : chk S = 0) : Vld S := by
  by_cases h1 : S.ver < 1 ∨ 999 < S.ver
  · rw [chk_ver h1] at h; cases h
  · by_cases h2 : longS S
    · rw [chk_long h1 h2] at h; cases h
    · have h3 : fe (enE S) S.enums.length = 0 := by
        by_cases h3 : fe (enE S) S.enums.length = 0
        · exact h3
        · unfold chk at h
          rw [if_neg h1, if_neg h2, if_pos h3] at h
          exact h
      have h4 : fe (stE S) S.structs.length = 0 := by
        by_cases h4 : fe (stE S) S.structs.length = 0
        · exact h4
        · unfold chk at h
          rw [if_neg h1, if_neg h2, h3, if_neg (fun h => h rfl), if_pos h4] at h
          exact h
      have hP : Parts S := ⟨fe_iff.1 h3, fe_iff.1 h4⟩
      rw [chk_ns h1 h2 hP] at h
      obtain ⟨h5, h6⟩ := nsR_zero h
      exact ⟨by omega, h2, hP, h5, h6⟩
set_option maxRecDepth 100000 in
set_option maxHeartbeats 4000000 in
theorem find_bad (S : Sch) (hB : FewB S) (x : List UInt8) (v : Value) (w : World) (hv : ScV w S v) (hE : Env w) (hc : chk S ≠ 0) :
    Calls Tryz.prog 113 #[v, .string (bs x)] w (Ib (.tuple #[.agg #[.map none, .map none], .bool false]) w) := by
  have hv2 := hv
  obtain ⟨A, c, A2, c2, rfl, hS⟩ := hv
  obtain ⟨n, hn⟩ : ∃ n, S.enums.length = n := ⟨_, rfl⟩
  obtain ⟨m, hm⟩ : ∃ m, S.structs.length = m := ⟨_, rfl⟩
  have hab := ab2 w (Obj.cells #[.int .i64 S.ver, .slice A n c, .slice A2 m c2] 25) (Obj.cells #[.map none, .map none] 104)
  rw [hn, hm] at hv2 ⊢
  have cC := check_any S hB _ _ (hv2.next hab) (hE.next hab)
  have z1 : (w.alloc (Obj.cells #[.int .i64 S.ver, .slice A n c, .slice A2 m c2] 25)).heap.size = w.heap.size + 1 := by simp
  have B2 := Bx.new2 (w.alloc (Obj.cells #[.int .i64 S.ver, .slice A n c, .slice A2 m c2] 25)) 104 (.map none) (.map none)
  rw [z1] at B2
  obtain ⟨e, he⟩ : ∃ e, chk S = e := ⟨_, rfl⟩
  rw [he] at cC hc
  have d1 : ((e : Int) != 0) = true := by simp; omega
  have d2 : ((e : Int) == 0) = false := by simp; omega
  clear z1 hS hv2 he
  go_enter Tryz.func113, Tryz.ntmps113
  go_wp2_with fail
  refine cC.mono ?_
  rintro e2 w3 ⟨rfl, hb3⟩
  have B3 := B2.next hb3
  have q0 := B3.c 0 rfl
  have q1 := B3.c 1 rfl
  have f0 := B3.f 0 rfl
  have f1 := B3.f 1 rfl
  have hab3 := Below.next hab hb3
  clear cC
  go_wp2_with fail
  refine bodyPost_ret (v := .tuple #[.agg #[.map none, .map none], .bool false]) (by simp [results, Tryz.results113, go_sem, q0, q1]) rfl ⟨rfl, ?_⟩
  exact (hab3.setCell (by simp) _).setCell (by simp) _
/-- What is found of a valid schema. -/
def FiP (S : Sch) (x : List UInt8) (w : World) (e : Ending) (w' : World) : Prop := ∃ b1 b2, e = .returned (.tuple #[.agg #[.map (some b1), .map (some b2)], .bool ((sns S).contains x)]) ∧ Dm w' S b1 b2 ∧ Below w.heap.size w w'
set_option maxRecDepth 100000 in
set_option maxHeartbeats 4000000 in
theorem find_ok (S : Sch) (hB : FewB S) (x : List UInt8) (hx : x.length ≤ 9223372036854775807) (v : Value) (w : World) (hv : ScV w S v) (hE : Env w) (hc : chk S = 0) :
    Calls Tryz.prog 113 #[v, .string (bs x)] w (FiP S x w) := by
  have hv2 := hv
  obtain ⟨A, c, A2, c2, rfl, hS⟩ := hv
  obtain ⟨n, hn⟩ : ∃ n, S.enums.length = n := ⟨_, rfl⟩
  obtain ⟨m, hm⟩ : ∃ m, S.structs.length = m := ⟨_, rfl⟩
  have hn18 := hB.ne
  have hm18 := hB.ns
  have hab := ab2 w (Obj.cells #[.int .i64 S.ver, .slice A n c, .slice A2 m c2] 25) (Obj.cells #[.map none, .map none] 104)
  rw [hn, hm] at hv2 ⊢
  have cC := check_any S hB _ _ (hv2.next hab) (hE.next hab)
  have z1 : (w.alloc (Obj.cells #[.int .i64 S.ver, .slice A n c, .slice A2 m c2] 25)).heap.size = w.heap.size + 1 := by simp
  have B1 := (Bx.new3 w 25 (.int .i64 S.ver) (.slice A n c) (.slice A2 m c2)).next (ab1 _ (Obj.cells #[.map none, .map none] 104))
  have B2 := Bx.new2 (w.alloc (Obj.cells #[.int .i64 S.ver, .slice A n c, .slice A2 m c2] 25)) 104 (.map none) (.map none)
  rw [z1] at B2
  rw [hc] at cC
  obtain ⟨r, hr⟩ : ∃ r, (sns S).contains x = r := ⟨_, rfl⟩
  unfold FiP
  rw [hr]
  clear z1 hS
  go_enter Tryz.func113, Tryz.ntmps113
  go_wp2_with fail
  refine cC.mono ?_
  rintro e2 w3 ⟨rfl, hb3⟩
  have hab3 := Below.next hab hb3
  have C1 := B1.next hb3
  have C2 := B2.next hb3
  have cDf := define_at w S _ w3 hv2 hab3 (by omega) (by omega) (fun t ht => (hB.st t ht).1) (fun t ht => (hB.en t ht).1)
  have hl3 := C2.lt
  have s0 := C1.c 0 rfl
  have s1 := C1.c 1 rfl
  have s2 := C1.c 2 rfl
  have l1 := C1.lt
  clear cC B1 B2 hab hb3
  go_wp2_with fail
  refine cDf.mono ?_
  rintro e2 w4 ⟨b1, b2, rfl, hQ1, hQ2, hg1, hg2, hb4⟩
  have hab4 := Below.next hab3 hb4
  have hD : Dm w4 S b1 b2 := ⟨hQ1.dm (by omega) fun _ _ => StV.next hab4, hQ2.dm (by omega) fun _ _ => EnV.next hab4⟩
  have hne1 : b1 ≠ w.heap.size + 1 := by omega
  have hne2 : b2 ≠ w.heap.size + 1 := by omega
  have E2 := C2.next hb4
  have hl2 := E2.lt
  clear cDf s0 s1 s2 l1 C1 C2 hab3 hb4
  go_upto_region 4 with (fail)
  have hE := Bx.new2 w4 104 (.map (some b1)) (.map (some b2))
  have E3 := E2.next (ab1 w4 (Obj.cells #[.map (some b1), .map (some b2)] 104))
  have hD1 := hD.next (ab1 w4 (Obj.cells #[.map (some b1), .map (some b2)] 104))
  have hq5 := ab1 w4 (Obj.cells #[.map (some b1), .map (some b2)] 104)
  have hab5 := Below.next hab4 (ab1 w4 (Obj.cells #[.map (some b1), .map (some b2)] 104))
  generalize w4.alloc (Obj.cells #[.map (some b1), .map (some b2)] 104) = W1 at *
  clear E2
  refine wp_region_seqN (by kernel_rfl) (FF [(1, Fact.at_ W1 (.string (bs x))), (6, Fact.at_ W1 (.pointer (some ⟨w4.heap.size, 0, none⟩))), (13, Fact.at_ W1 (.agg #[.map (some b1), .map (some b2)])), (14, Fact.at_ W1 (.agg #[.map (some b1), .map (some b2)])), (15, Fact.at_ W1 (.string (bs x))), (16, Fact.at_ W1 (.bool r))]) [1, 6] [] 17 4 [13, 14, 15, 16] rfl (by kernel_rfl) (by kernel_rfl) (by decide) (by kernel_rfl) (by kernel_rfl) ?_ ?_ ?_
  · intro t ht
    simp only [List.mem_cons, List.not_mem_nil, or_false] at ht
    rcases ht with rfl | rfl
    · exact ⟨rfl, Below.refl _ _⟩
    · exact ⟨rfl, Below.refl _ _⟩
  · refine fcs ⟨Ob.new_ (at1 6 13 (.pointer (some ⟨w4.heap.size, 0, none⟩)) (.agg #[.map (some b1), .map (some b2)]) rfl (by first | exact .inl rfl | exact .inr ⟨_, _, _, rfl, rfl, by kernel_rfl, by decide, rfl⟩) (by kernel_rfl) rfl rfl (fun a W' hb h1 => by have h3 := (hb.cell (p := ⟨w4.heap.size, 0, none⟩) hE.lt).trans (hE.c 0 rfl); have h4 := (hb.cell (p := ⟨w4.heap.size, 1, none⟩) hE.lt).trans (hE.c 1 rfl); simp [execOp, h1] <;> go_simp)) (by kernel_rfl), ?_⟩
    refine fcs ⟨Ob.new_ (at1 6 14 (.pointer (some ⟨w4.heap.size, 0, none⟩)) (.agg #[.map (some b1), .map (some b2)]) rfl (by first | exact .inl rfl | exact .inr ⟨_, _, _, rfl, rfl, by kernel_rfl, by decide, rfl⟩) (by kernel_rfl) rfl rfl (fun a W' hb h1 => by have h3 := (hb.cell (p := ⟨w4.heap.size, 0, none⟩) hE.lt).trans (hE.c 0 rfl); have h4 := (hb.cell (p := ⟨w4.heap.size, 1, none⟩) hE.lt).trans (hE.c 1 rfl); simp [execOp, h1] <;> go_simp)) (by kernel_rfl), ?_⟩
    refine fcs ⟨Ob.new_ (atcopy 1 15 (.string (bs x)) (.inl rfl) rfl (by first | exact .inl rfl | exact .inr ⟨_, _, _, rfl, rfl, by kernel_rfl, by decide, rfl⟩) (by kernel_rfl) rfl rfl) (by kernel_rfl), ?_⟩
    refine fcs ⟨Ob.new_ (atc2 150 14 15 16 (.agg #[.map (some b1), .map (some b2)]) (.string (bs x)) (.bool r) _ rfl rfl (by first | exact .inl rfl | exact .inr ⟨_, _, _, rfl, rfl, by kernel_rfl, by decide, rfl⟩) (by kernel_rfl) (by kernel_rfl) rfl rfl (by kernel_rfl) rfl (fun W' hb => by rw [← hr]; exact hasStruct_any S b1 b2 x W' hx (hD1.next hb))) (by kernel_rfl), ?_⟩
    exact fnl
  intro vv wv hvv hbv _ _
  have hv13 : vv 13 = .agg #[.map (some b1), .map (some b2)] := (hvv 13 (by decide)).1
  have hv16 : vv 16 = .bool r := (hvv 16 (by decide)).1
  simp only [lay, List.foldl_cons, List.foldl_nil, List.setIfInBounds_toArray, List.set_cons_succ, List.set_cons_zero, hv13, hv16, List.drop_succ_cons, List.drop_zero]
  have E4 := E3.next hbv
  have hab6 := Below.next hab5 hbv
  have hq6 := gb_of (Below.next hq5 hbv) none
  have P1 := hQ1.kept hq6 (by simp)
  have P2 := hQ2.kept hq6 (by simp)
  have q0 := E4.c 0 rfl
  have q1 := E4.c 1 rfl
  have f0 := E4.f 0 rfl
  have f1 := E4.f 1 rfl
  clear hvv E3 hE hab4 hab5 hD hbv hQ1 hQ2 hq5 hq6 hD1 hl2 hl3
  go_wp2_with fail
  have hg := (gb_setCell wv ⟨w.heap.size + 1, 0, none⟩ (.map (some b1))).trans (gb_setCell (wv.setCell ⟨w.heap.size + 1, 0, none⟩ (.map (some b1))) ⟨w.heap.size + 1, 1, none⟩ (.map (some b2)))
  have hab7 := hab6.grown hg hab6.size (fun j hj => by cases hj; show w.heap.size ≤ w.heap.size + 1; omega)
  refine bodyPost_ret (v := .tuple #[.agg #[.map (some b1), .map (some b2)], .bool r]) (by simp [results, Tryz.results113, go_sem, q0, q1]) rfl ⟨b1, b2, rfl, ⟨?_, ?_⟩, hab7⟩
  · exact (P1.kept hg (by intro h; injection h with h; exact hne1 h)).dm (by omega) fun _ _ => StV.next hab7
  · exact (P2.kept hg (by intro h; injection h with h; exact hne2 h)).dm (by omega) fun _ _ => EnV.next hab7
def UsA (S : Sch) (x : List UInt8) (l : List (List UInt8)) : Prop := (chk S = 0 ∧ (sns S).contains x = true ∧ Us S x l) ∨ (¬ (chk S = 0 ∧ (sns S).contains x = true) ∧ l = [])
def UaP (S : Sch) (x : List UInt8) (w : World) (e : Ending) (w' : World) : Prop := ∃ v l, e = .returned v ∧ UsA S x l ∧ Nms w' l v ∧ Below w.heap.size w w'
set_option maxRecDepth 100000 in
set_option maxHeartbeats 4000000 in
theorem devUses_any (S : Sch) (hB : FewB S) (x : List UInt8) (hx : x.length ≤ 9223372036854775807) (v : Value) (w : World) (hv : ScV w S v) (hE : Env w) :
    Calls Tryz.prog 68 #[v, .string (bs x)] w (UaP S x w) := by
  have hv2 := hv
  obtain ⟨A, c, A2, c2, rfl, hS⟩ := hv
  obtain ⟨n, hn⟩ : ∃ n, S.enums.length = n := ⟨_, rfl⟩
  obtain ⟨m, hm⟩ : ∃ m, S.structs.length = m := ⟨_, rfl⟩
  have hab := ab1 w (Obj.cells #[.int .i64 S.ver, .slice A n c, .slice A2 m c2] 25)
  rw [hn, hm] at hv2 ⊢
  have hv3 := hv2.next hab
  have hE3 := hE.next hab
  by_cases hc : chk S = 0
  · have cF := find_ok S hB x hx _ _ hv3 hE3 hc
    have hO := (chk_zero hc).pt.okk hB
    unfold FiP at cF
    cases hr : (sns S).contains x
    · have hA : UsA S x [] := .inr ⟨fun h => Bool.noConfusion (hr.symm.trans h.2), rfl⟩
      rw [hr] at cF
      clear hr hS hv2 hv3 hO
      go_enter Tryz.func68, Tryz.ntmps68
      go_wp2_with fail
      refine cF.mono ?_
      rintro e w2 ⟨b1, b2, rfl, hD, hb2⟩
      have hb3 := Below.next hab hb2
      go_wp2_with fail
      go_ret
      exact ⟨_, [], rfl, hA, Sl.nil _ _ _, Below.next hb3 (ab1 _ _)⟩
    · have hA : ∀ l, Us S x l → UsA S x l := fun l h => .inl ⟨hc, hr, h⟩
      rw [hr] at cF
      clear hr hS hv2 hv3
      go_enter Tryz.func68, Tryz.ntmps68
      go_wp2_with fail
      refine cF.mono ?_
      rintro e w2 ⟨b1, b2, rfl, hD, hb2⟩
      have hb3 := Below.next (Below.next hab hb2) (ab1 w2 (Obj.cells #[.map (some b1), .map (some b2)] 104))
      have cU := used_any S hO b1 b2 x hx _ (hD.next (ab1 w2 (Obj.cells #[.map (some b1), .map (some b2)] 104)))
      clear cF
      go_wp2_with fail
      refine cU.mono ?_
      rintro e w4 ⟨v4, l, rfl, hU, hN, hb4⟩
      clear cU
      go_wp2_with fail
      go_ret
      exact ⟨_, l, rfl, hA l hU, hN, Below.next hb3 hb4⟩
  · have cF := find_bad S hB x _ _ hv3 hE3 hc
    have hA : UsA S x [] := .inr ⟨fun h => hc h.1, rfl⟩
    clear hS hv2 hv3
    go_enter Tryz.func68, Tryz.ntmps68
    go_wp2_with fail
    refine cF.mono ?_
    rintro e w2 ⟨rfl, hb2⟩
    have hb3 := Below.next hab hb2
    go_wp2_with fail
    go_ret
    exact ⟨_, [], rfl, hA, Sl.nil _ _ _, Below.next hb3 (ab1 _ _)⟩
end Go.Proofs.YtcilkcnddgacgaaGreatDoor
/-
  The developers' Issues and Compatible of two schemas whose struct uses nothing. No conditions beyond those that each names.
-/
namespace Go.Proofs.YtcilkcnddgacgaaGreatDoor
open Go.RowKit Go.Sort
set_option maxRecDepth 100000 in
set_option maxHeartbeats 8000000 in
theorem hasStruct_yes (S : Sch) (A : Option Addr) (c : Nat) (A2 : Option Addr) (c2 : Nat) (nm : List UInt8) (w : World) (hS : Sc w S A A2) (hf : Few9 S) (hB : FewB S) (hE : Env w) (hk : chk S = 0) (hs : (fst_ St.name S.structs nm).isSome = true) :
    Calls Tryz.prog 44 #[.agg #[.int .i64 S.ver, .slice A S.enums.length c, .slice A2 S.structs.length c2], .string (bs nm)] w (Ib (.bool true) w) := by
  have hbx := ab1 w (Obj.cells #[.int .i64 S.ver, .slice A S.enums.length c, .slice A2 S.structs.length c2] 25)
  have B1 := Bx.new3 w 25 (.int .i64 S.ver) (.slice A S.enums.length c) (.slice A2 S.structs.length c2)
  have cC := fun W (hb : Below w.heap.size w W) => check_any S hB (.agg #[.int .i64 S.ver, .slice A S.enums.length c, .slice A2 S.structs.length c2]) W ⟨A, c, A2, c2, rfl, Sc.next hb hS⟩ (hE.next hb)
  have cS := fun W (hb : Below w.heap.size w W) => devStruct_k S nm (.agg #[.int .i64 S.ver, .slice A S.enums.length c, .slice A2 S.structs.length c2]) W ⟨A, c, A2, c2, rfl, Sc.next hb hS⟩ hf.sl hf.st
  rw [hk] at cC
  unfold StK at cS
  rw [hs] at cS
  generalize (fst_ St.name S.structs nm).getD st0 = t0 at *
  have q0 : (((0 : Nat) : Int) != 0) = false := rfl
  have c1 := cC _ hbx
  clear hk hs cC
  go_enter Tryz.func44, Tryz.ntmps44
  go_upto_region 1 with (fail)
  generalize w.alloc (Obj.cells #[.int .i64 S.ver, .slice A S.enums.length c, .slice A2 S.structs.length c2] 25) = w1 at *
  have f0 := B1.c 0 rfl
  have f1 := B1.c 1 rfl
  have f2 := B1.c 2 rfl
  have fl := B1.lt
  go_wp2_with fail
  refine c1.mono ?_
  rintro e w2 ⟨rfl, hb2⟩
  replace B1 := B1.next hb2
  replace hbx := Below.next hbx hb2
  clear c1 f0 f1 f2 fl hb2
  have f0 := B1.c 0 rfl
  have f1 := B1.c 1 rfl
  have f2 := B1.c 2 rfl
  have fl := B1.lt
  have c1 := cS _ hbx
  clear cS
  go_wp2_with fail
  refine c1.mono ?_
  rintro e w3 ⟨v, rfl, hK, hb3⟩
  obtain ⟨A8, c8, rfl, -⟩ := hK w3 (Kpl.refl _ _)
  clear c1 f0 f1 f2 fl
  go_wp2_with fail
  go_ret
  exact ⟨rfl, Below.next hbx (Below.next hb3 (ab1 _ _))⟩
set_option maxRecDepth 100000 in
set_option maxHeartbeats 8000000 in
theorem cmpNames_one (S T : Sch) (A : Option Addr) (c : Nat) (A2 : Option Addr) (c2 : Nat) (A5 : Option Addr) (c5 : Nat) (A6 : Option Addr) (c6 : Nat) (nm : List UInt8) (w : World) (hS : Sc w S A A2) (hT : Sc w T A5 A6) (hBS : FewB S) (hBT : FewB T) (hE : Env w) (hnm : nm.length ≤ 100000) (hu : ∀ l, UsA S nm l → l = []) :
    Calls Tryz.prog 28 #[.agg #[.int .i64 S.ver, .slice A S.enums.length c, .slice A2 S.structs.length c2], .agg #[.int .i64 T.ver, .slice A5 T.enums.length c5, .slice A6 T.structs.length c6], .string (bs nm)] w (fun e W => ∃ r, e = .returned (.slice (some ⟨r, 0, none⟩) 1 1) ∧ Bx W r [.string (bs nm)] ∧ Below w.heap.size w W) := by
  have cS := fun W (hb : Below w.heap.size w W) => devUses_any S hBS nm (by omega) (.agg #[.int .i64 S.ver, .slice A S.enums.length c, .slice A2 S.structs.length c2]) W ⟨A, c, A2, c2, rfl, Sc.next hb hS⟩ (hE.next hb)
  have cT := fun W (hb : Below w.heap.size w W) => devUses_any T hBT nm (by omega) (.agg #[.int .i64 T.ver, .slice A5 T.enums.length c5, .slice A6 T.structs.length c6]) W ⟨A5, c5, A6, c6, rfl, Sc.next hb hT⟩ (hE.next hb)
  have z1 : (w.alloc (Obj.cells #[.int .i64 S.ver, .slice A S.enums.length c, .slice A2 S.structs.length c2] 25)).heap.size = w.heap.size + 1 := by simp
  have B1 := (Bx.new3 w 25 (.int .i64 S.ver) (.slice A S.enums.length c) (.slice A2 S.structs.length c2)).next (ab1 _ (Obj.cells #[.int .i64 T.ver, .slice A5 T.enums.length c5, .slice A6 T.structs.length c6] 25))
  have B2 := Bx.new3 (w.alloc (Obj.cells #[.int .i64 S.ver, .slice A S.enums.length c, .slice A2 S.structs.length c2] 25)) 25 (.int .i64 T.ver) (.slice A5 T.enums.length c5) (.slice A6 T.structs.length c6)
  rw [z1] at B2
  have hab := ab2 w (Obj.cells #[.int .i64 S.ver, .slice A S.enums.length c, .slice A2 S.structs.length c2] 25) (Obj.cells #[.int .i64 T.ver, .slice A5 T.enums.length c5, .slice A6 T.structs.length c6] 25)
  clear z1
  clear hS hT hE
  go_enter Tryz.func28, Tryz.ntmps28
  go_upto_region 1 with (fail)
  generalize (w.alloc (Obj.cells #[.int .i64 S.ver, .slice A S.enums.length c, .slice A2 S.structs.length c2] 25)).alloc (Obj.cells #[.int .i64 T.ver, .slice A5 T.enums.length c5, .slice A6 T.structs.length c6] 25) = w1 at *
  have hbx := ab1 w1 (Obj.cells #[.string (bs nm)] 9)
  have B3 := Bx.new1 w1 9 (.string (bs nm))
  have hab2 := Below.next hab hbx
  have c1 := cT _ hab2
  have f0 := B2.c 0 rfl
  have f1 := B2.c 1 rfl
  have f2 := B2.c 2 rfl
  have fl := B2.lt
  go_wp2_with fail
  refine c1.mono ?_
  rintro e w2 ⟨v1, l1, rfl, -, ⟨N1, n1, rfl, -⟩, hb2⟩
  replace hab2 := Below.next hab2 hb2
  replace B1 := (B1.next hbx).next hb2
  replace B3 := B3.next hb2
  clear c1 cT f0 f1 f2 fl B2 hbx hb2 hab
  have f0 := B1.c 0 rfl
  have f1 := B1.c 1 rfl
  have f2 := B1.c 2 rfl
  have fl := B1.lt
  have c1 := cS _ hab2
  clear cS
  go_wp2_with fail
  refine c1.mono ?_
  rintro e w3 ⟨v2, l2, rfl, hU, ⟨N2, n2, rfl, -⟩, hb3⟩
  obtain rfl := hu l2 hU
  replace hab2 := Below.next hab2 hb3
  replace B3 := B3.next hb3
  clear c1 f0 f1 f2 fl B1 hb3 hU hu
  go_wp2_with fail
  go_loopw [7, 20] (fun x i wr => x = .slice (some ⟨w1.heap.size, 0, none⟩) 1 1 ∧ i = .int .i64 0 ∧ wr = w3) (fun _ _ _ => 0)
  case atStart => exact ⟨rfl, rfl, rfl⟩
  case round =>
    obtain ⟨rfl, rfl, rfl⟩ := hrel
    go_wp2_with fail
    go_ret
    exact ⟨_, rfl, B3, hab2⟩
end Go.Proofs.YtcilkcnddgacgaaGreatDoor
/-
  The developers' Issues and Compatible, where at most one issue is found in one struct. No conditions beyond those that each names.
-/
namespace Go.Proofs.YtcilkcnddgacgaaGreatDoor
open Go.RowKit Go.Sort
def IsR (R : List Iss) (w : World) (e : Ending) (W : World) : Prop := ∃ G d, e = .returned (.slice G R.length d) ∧ Rw IsA 3 W R G ∧ Below w.heap.size w W
set_option maxRecDepth 100000 in
set_option maxHeartbeats 8000000 in
theorem issues_one (S T : Sch) (A : Option Addr) (c : Nat) (A2 : Option Addr) (c2 : Nat) (A5 : Option Addr) (c5 : Nat) (A6 : Option Addr) (c6 : Nat) (nm : List UInt8) (w : World) (hS : Sc w S A A2) (hT : Sc w T A5 A6) (hfS : Few9 S) (hfT : Few9 T) (hBS : FewB S) (hBT : FewB T) (hlS : lok9 S) (hlT : lok9 T) (hE : Env w) (hnm : nm.length ≤ 100000) (hu : ∀ l, UsA S nm l → l = []) (hkS : chk S = 0) (hkT : chk T = 0) (sa sb : St) (hsa : fst_ St.name S.structs nm = some sa) (hsb : fst_ St.name T.structs nm = some sb) (hna : 0 < sa.fields.length) (hnb : 0 < sb.fields.length) (hno : (fst_ En.name S.enums nm).isSome = false ∨ (fst_ En.name T.enums nm).isSome = false)
    (R : List Iss) (hR : (sa.fields ++ sb.fields).foldl (fun l f => lsF (fst_ Fd.num sa.fields f.num) (fst_ Fd.num sb.fields f.num) f sa.name l) [] = R) (hRl : R.length ≤ 1) :
    Calls Tryz.prog 10 #[.agg #[.int .i64 S.ver, .slice A S.enums.length c, .slice A2 S.structs.length c2], .agg #[.int .i64 T.ver, .slice A5 T.enums.length c5, .slice A6 T.structs.length c6], .string (bs nm)] w (IsR R w) := by
  have cS := fun W (hb : Below w.heap.size w W) => check_any S hBS (.agg #[.int .i64 S.ver, .slice A S.enums.length c, .slice A2 S.structs.length c2]) W ⟨A, c, A2, c2, rfl, Sc.next hb hS⟩ (hE.next hb)
  have cT := fun W (hb : Below w.heap.size w W) => check_any T hBT (.agg #[.int .i64 T.ver, .slice A5 T.enums.length c5, .slice A6 T.structs.length c6]) W ⟨A5, c5, A6, c6, rfl, Sc.next hb hT⟩ (hE.next hb)
  rw [hkS] at cS
  rw [hkT] at cT
  have cN := fun W (hb : Below w.heap.size w W) => cmpNames_one S T A c A2 c2 A5 c5 A6 c6 nm W (Sc.next hb hS) (Sc.next hb hT) hBS hBT (hE.next hb) hnm hu
  have cO := fun W g B h1 h2 h3 h4 h5 h6 => cmpOne_both w W S T A c A2 c2 A5 c5 A6 c6 nm g B (.slice none 0 0) [] hS hT hfS hfT h1 h2 (fun q e => by cases e) h3 h4 h5 h6 hlS hlT (by simp) sa sb hsa hsb hna hnb hno
  simp only [hR] at cO
  have q0 : (((0 : Nat) : Int) != 0) = false := rfl
  have z1 : (w.alloc (Obj.cells #[.int .i64 S.ver, .slice A S.enums.length c, .slice A2 S.structs.length c2] 25)).heap.size = w.heap.size + 1 := by simp
  have B1 := (Bx.new3 w 25 (.int .i64 S.ver) (.slice A S.enums.length c) (.slice A2 S.structs.length c2)).next (ab1 _ (Obj.cells #[.int .i64 T.ver, .slice A5 T.enums.length c5, .slice A6 T.structs.length c6] 25))
  have B2 := Bx.new3 (w.alloc (Obj.cells #[.int .i64 S.ver, .slice A S.enums.length c, .slice A2 S.structs.length c2] 25)) 25 (.int .i64 T.ver) (.slice A5 T.enums.length c5) (.slice A6 T.structs.length c6)
  rw [z1] at B2
  have hab := ab2 w (Obj.cells #[.int .i64 S.ver, .slice A S.enums.length c, .slice A2 S.structs.length c2] 25) (Obj.cells #[.int .i64 T.ver, .slice A5 T.enums.length c5, .slice A6 T.structs.length c6] 25)
  clear z1
  clear hS hT hE hkS hkT hR hu hsa hsb hno hna hnb
  have c1 := cS _ hab
  clear cS
  go_enter Tryz.func10, Tryz.ntmps10
  go_upto_region 1 with (fail)
  generalize (w.alloc (Obj.cells #[.int .i64 S.ver, .slice A S.enums.length c, .slice A2 S.structs.length c2] 25)).alloc (Obj.cells #[.int .i64 T.ver, .slice A5 T.enums.length c5, .slice A6 T.structs.length c6] 25) = w1 at *
  have f0 := B1.c 0 rfl
  have f1 := B1.c 1 rfl
  have f2 := B1.c 2 rfl
  have fl := B1.lt
  go_wp2_with fail
  refine c1.mono ?_
  rintro e w2 ⟨rfl, hb2⟩
  replace B1 := B1.next hb2
  replace B2 := B2.next hb2
  replace hab := Below.next hab hb2
  clear c1 f0 f1 f2 fl hb2
  have f0 := B2.c 0 rfl
  have f1 := B2.c 1 rfl
  have f2 := B2.c 2 rfl
  have fl := B2.lt
  have c1 := cT _ hab
  clear cT
  go_wp2_with fail
  refine c1.mono ?_
  rintro e w3 ⟨rfl, hb3⟩
  replace B1 := B1.next hb3
  replace B2 := B2.next hb3
  replace hab := Below.next hab hb3
  clear c1 f0 f1 f2 fl hb3
  have f0 := B1.c 0 rfl
  have f1 := B1.c 1 rfl
  have f2 := B1.c 2 rfl
  have fl := B1.lt
  have k0 := B2.c 0 rfl
  have k1 := B2.c 1 rfl
  have k2 := B2.c 2 rfl
  have kl := B2.lt
  have hbx := ab1 w3 (Obj.cells #[.int .i64 S.ver, .slice A S.enums.length c, .slice A2 S.structs.length c2, .int .i64 T.ver, .slice A5 T.enums.length c5, .slice A6 T.structs.length c6, .slice none 0 0] 63)
  have D7 := Bx.newA w3 63 #[.int .i64 S.ver, .slice A S.enums.length c, .slice A2 S.structs.length c2, .int .i64 T.ver, .slice A5 T.enums.length c5, .slice A6 T.structs.length c6, .slice none 0 0]
  go_upto_region 4 with (fail)
  generalize w3.alloc (Obj.cells #[.int .i64 S.ver, .slice A S.enums.length c, .slice A2 S.structs.length c2, .int .i64 T.ver, .slice A5 T.enums.length c5, .slice A6 T.structs.length c6, .slice none 0 0] 63) = w4 at *
  clear f0 f1 f2 fl k0 k1 k2 kl
  replace B1 := B1.next hbx
  replace B2 := B2.next hbx
  have hab4 := Below.next hab hbx
  have f0 := B1.c 0 rfl
  have f1 := B1.c 1 rfl
  have f2 := B1.c 2 rfl
  have fl := B1.lt
  have k0 := B2.c 0 rfl
  have k1 := B2.c 1 rfl
  have k2 := B2.c 2 rfl
  have kl := B2.lt
  have c1 := cN w4 hab4
  clear cN hbx
  go_wp2_with fail
  refine c1.mono ?_
  rintro e w5 ⟨r, rfl, Br, hb5⟩
  have h7 := D7.lt
  have hb45 := hb5.size
  replace D7 := D7.next hb5
  have hab5 := Below.next hab4 hb5
  clear c1 f0 f1 f2 fl k0 k1 k2 kl B1 B2 hb5 hab4
  have hg := Nat.le_trans hab.size (Nat.le_refl w3.heap.size)
  have hgB : w3.heap.size < w4.heap.size := h7
  have c1 := cO w5 w3.heap.size w4.heap.size hab5 hg D7 (OwS.nil _ _) hb45 hgB
  have i0 := Br.c 0 rfl
  have il := Br.lt
  clear cO D7 h7
  unfold CfP at c1
  go_wp2_with fail
  go_loopw [26] (fun i wr => (i = .int .i64 0 ∧ wr = w5) ∨ (i = .int .i64 1 ∧ ∃ v, Bx wr w3.heap.size ([.int .i64 S.ver, .slice A S.enums.length c, .slice A2 S.structs.length c2, .int .i64 T.ver, .slice A5 T.enums.length c5, .slice A6 T.structs.length c6] ++ [v]) ∧ OwS w4.heap.size wr v R ∧ Below w.heap.size w wr)) (fun i _ => (1 - intOf i).toNat)
  case atStart => exact .inl ⟨rfl, rfl⟩
  case round =>
    rcases hrel with ⟨rfl, rfl⟩ | ⟨rfl, v, hC, hO, hb⟩
    · go_wp2_with fail
      refine c1.mono ?_
      rintro en w6 ⟨rfl, v', l, hC, hO, hA, rfl⟩
      have HA := Lib.hid hA
      clear c1 i0 il
      go_wp2_with fail
      go_roundw
      case rel => exact .inr ⟨rfl, v', hC, hO, HA.out.below hab5 hg (fun q e => by cases e)⟩
      case measure => simp [intOf]
    · clear c1 i0 il
      obtain ⟨G, d, rfl, hRw⟩ := hO.rw_
      have c1 := sortSmall G R.length d (.func (.func 31) #[] #[]) wr hRl
      have HQ := Lib.hid (show IsR R w (.returned (.slice G R.length d)) wr from ⟨G, d, rfl, hRw, hb⟩)
      have c6 := hC.c 6 rfl
      have cl := hC.lt
      clear hO hRw hb hC
      generalize R.length = n at *
      go_wp2_with fail
      refine c1.mono ?_
      rintro en w6 ⟨rfl, rfl⟩
      clear c1
      go_wp2_with fail
      go_ret
      exact HQ.out
end Go.Proofs.YtcilkcnddgacgaaGreatDoor
/-
  The law's schemas and types: what they hold. No conditions beyond those that each names.
-/
namespace Go.Proofs.YtcilkcnddgacgaaGreatDoor
open Go.RowKit
end Go.Proofs.YtcilkcnddgacgaaGreatDoor
/-
  The law's example. No conditions beyond those that each names.
-/
namespace Go.Proofs.YtcilkcnddgacgaaGreatDoor
open Go.RowKit Go.Sort
set_option maxRecDepth 100000 in
set_option maxHeartbeats 8000000 in
theorem compatible_one (S T : Sch) (A : Option Addr) (c : Nat) (A2 : Option Addr) (c2 : Nat) (A5 : Option Addr) (c5 : Nat) (A6 : Option Addr) (c6 : Nat) (nm : List UInt8) (w : World) (hS : Sc w S A A2) (hT : Sc w T A5 A6) (hfS : Few9 S) (hfT : Few9 T) (hBS : FewB S) (hBT : FewB T) (hlS : lok9 S) (hlT : lok9 T) (hE : Env w) (hnm : nm.length ≤ 100000) (hu : ∀ l, UsA S nm l → l = []) (hkS : chk S = 0) (hkT : chk T = 0) (sa sb : St) (hsa : fst_ St.name S.structs nm = some sa) (hsb : fst_ St.name T.structs nm = some sb) (hna : 0 < sa.fields.length) (hnb : 0 < sb.fields.length) (hno : (fst_ En.name S.enums nm).isSome = false ∨ (fst_ En.name T.enums nm).isSome = false)
    (hR : (sa.fields ++ sb.fields).foldl (fun l f => lsF (fst_ Fd.num sa.fields f.num) (fst_ Fd.num sb.fields f.num) f sa.name l) [] = []) :
    Calls Tryz.prog 14 #[.agg #[.int .i64 S.ver, .slice A S.enums.length c, .slice A2 S.structs.length c2], .agg #[.int .i64 T.ver, .slice A5 T.enums.length c5, .slice A6 T.structs.length c6], .string (bs nm)] w (Ib (.bool true) w) := by
  have cS := fun W (hb : Below w.heap.size w W) => hasStruct_yes S A c A2 c2 nm W (Sc.next hb hS) hfS hBS (hE.next hb) hkS (by rw [hsa]; rfl)
  have cT := fun W (hb : Below w.heap.size w W) => hasStruct_yes T A5 c5 A6 c6 nm W (Sc.next hb hT) hfT hBT (hE.next hb) hkT (by rw [hsb]; rfl)
  have cI := fun W (hb : Below w.heap.size w W) => issues_one S T A c A2 c2 A5 c5 A6 c6 nm W (Sc.next hb hS) (Sc.next hb hT) hfS hfT hBS hBT hlS hlT (hE.next hb) hnm hu hkS hkT sa sb hsa hsb hna hnb hno [] hR (by simp)
  unfold IsR at cI
  have z1 : (w.alloc (Obj.cells #[.int .i64 S.ver, .slice A S.enums.length c, .slice A2 S.structs.length c2] 25)).heap.size = w.heap.size + 1 := by simp
  have B1 := (Bx.new3 w 25 (.int .i64 S.ver) (.slice A S.enums.length c) (.slice A2 S.structs.length c2)).next (ab1 _ (Obj.cells #[.int .i64 T.ver, .slice A5 T.enums.length c5, .slice A6 T.structs.length c6] 25))
  have B2 := Bx.new3 (w.alloc (Obj.cells #[.int .i64 S.ver, .slice A S.enums.length c, .slice A2 S.structs.length c2] 25)) 25 (.int .i64 T.ver) (.slice A5 T.enums.length c5) (.slice A6 T.structs.length c6)
  rw [z1] at B2
  have hab := ab2 w (Obj.cells #[.int .i64 S.ver, .slice A S.enums.length c, .slice A2 S.structs.length c2] 25) (Obj.cells #[.int .i64 T.ver, .slice A5 T.enums.length c5, .slice A6 T.structs.length c6] 25)
  clear z1
  clear hS hT hE hkS hkT hR hu hsa hsb hno hna hnb
  have c1 := cS _ hab
  clear cS
  go_enter Tryz.func14, Tryz.ntmps14
  go_upto_region 1 with (fail)
  generalize (w.alloc (Obj.cells #[.int .i64 S.ver, .slice A S.enums.length c, .slice A2 S.structs.length c2] 25)).alloc (Obj.cells #[.int .i64 T.ver, .slice A5 T.enums.length c5, .slice A6 T.structs.length c6] 25) = w1 at *
  have f0 := B1.c 0 rfl
  have f1 := B1.c 1 rfl
  have f2 := B1.c 2 rfl
  have fl := B1.lt
  go_wp2_with fail
  refine c1.mono ?_
  rintro e w2 ⟨rfl, hb2⟩
  replace B1 := B1.next hb2
  replace B2 := B2.next hb2
  replace hab := Below.next hab hb2
  clear c1 f0 f1 f2 fl hb2
  have f0 := B2.c 0 rfl
  have f1 := B2.c 1 rfl
  have f2 := B2.c 2 rfl
  have fl := B2.lt
  have c1 := cT _ hab
  clear cT
  go_wp2_with fail
  refine c1.mono ?_
  rintro e w3 ⟨rfl, hb3⟩
  replace B1 := B1.next hb3
  replace B2 := B2.next hb3
  replace hab := Below.next hab hb3
  clear c1 f0 f1 f2 fl hb3
  have f0 := B1.c 0 rfl
  have f1 := B1.c 1 rfl
  have f2 := B1.c 2 rfl
  have fl := B1.lt
  have k0 := B2.c 0 rfl
  have k1 := B2.c 1 rfl
  have k2 := B2.c 2 rfl
  have kl := B2.lt
  have c1 := cI _ hab
  clear cI
  go_wp2_with fail
  refine c1.mono ?_
  rintro e w4 ⟨G, d, rfl, -, hb4⟩
  clear c1
  go_wp2_with fail
  go_ret
  exact ⟨rfl, Below.next hab hb4⟩
/-- The example's schemas. -/
def evT : List UInt8 := [84, 111, 112]
def evF (s : Int) : Fd := ⟨2, [120], false, .mk 2 s [] []⟩
def evSt (s : Int) : St := ⟨evT, [evF s]⟩
def evS (v s : Int) : Sch := ⟨v, [], [evSt s]⟩
theorem ev_fst (v s : Int) : fst_ St.name (evS v s).structs evT = some (evSt s) := by
  show fst_ St.name [evSt s] evT = _
  rw [fst_cons]
  exact if_pos rfl
theorem ev_fd (s : Int) : fst_ Fd.num [evF s] 2 = some (evF s) := by
  rw [fst_cons]
  exact if_pos rfl
theorem ev_fold (s t : Int) : ((evSt s).fields ++ (evSt t).fields).foldl (fun l f => lsF (fst_ Fd.num (evSt s).fields f.num) (fst_ Fd.num (evSt t).fields f.num) f (evSt s).name l) [] = if s ≤ t then [] else [⟨1, 2, evT⟩] := by
  have key : ∀ (f : Fd) (l : List Iss), f.num = 2 → lsF (fst_ Fd.num [evF s] f.num) (fst_ Fd.num [evF t] f.num) f evT l = if s ≤ t then l else adI l ⟨1, 2, evT⟩ := fun f l hf => by
    rw [hf, ev_fd, ev_fd, (lsF_eq (some (evF s)) (some (evF t)) f evT l).2.2 rfl rfl, hf]
    simp only [Option.getD_some]
    rw [if_pos (show (evF s).opt = (evF t).opt from rfl)]
    by_cases h : s ≤ t
    · rw [if_pos h, if_pos (show wdB (evF s).type (evF t).type = true from wdB_iff.2 (.num _ _ _ _ _ (.inl rfl) h))]
    · rw [if_neg h, if_neg (by rw [show wdB (evF s).type (evF t).type = false from wd_gt h]; simp)]
  show [evF s, evF t].foldl (fun l f => lsF (fst_ Fd.num [evF s] f.num) (fst_ Fd.num [evF t] f.num) f evT l) [] = _
  rw [List.foldl_cons, List.foldl_cons, List.foldl_nil, key (evF s) _ rfl, key (evF t) _ rfl]
  by_cases h : s ≤ t
  · rw [if_pos h, if_pos h, if_pos h]
  · rw [if_neg h, if_neg h, if_neg h]; rfl
theorem ev_few (v s : Int) : Few9 (evS v s) := ⟨by show 1 ≤ 1000; decide, by show 0 ≤ 1000; decide, fun t ht => by
  obtain rfl : t = evSt s := by simpa [evS] using ht
  exact ⟨by show 1 ≤ 1000; decide, fun f hf => by
    obtain rfl : f = evF s := by simpa [evSt] using hf
    rfl⟩, fun t ht => by simp [evS] at ht⟩
theorem ev_lok (v s : Int) : lok9 (evS v s) := by
  intro t ht f hf
  obtain rfl : t = evSt s := by simpa [evS] using ht
  obtain rfl : f = evF s := by simpa [evSt] using hf
  simp [evF, lok, lok.loks]
theorem ev_nx (v s : Int) (x y : List UInt8) : y ∉ nx (evS v s) x := fun h => by
  unfold nx at h
  have e1 : nxs (evSt s) = [] := rfl
  have e3 : nxs st0 = [] := by decide +kernel
  rw [show (evS v s).structs = [evSt s] from rfl, fst_cons, fst_nil] at h
  by_cases h1 : (evSt s).name = x
  · rw [if_pos h1] at h
    have h : y ∈ nxs (evSt s) := h
    rw [e1] at h; cases h
  · rw [if_neg h1] at h
    have h : y ∈ nxs st0 := h
    rw [e3] at h; cases h
theorem ev_uses (v s : Int) (x : List UInt8) (l : List (List UInt8)) (h : UsA (evS v s) x l) : l = [] := by
  rcases h with ⟨-, -, -, h⟩ | ⟨-, h⟩
  · cases l with
    | nil => rfl
    | cons y r =>
      have hr := (h y).1 (by simp)
      exfalso
      cases hr with
      | one h2 => exact ev_nx v s _ _ h2
      | more _ h2 => exact ev_nx v s _ _ h2
  · exact h
theorem ev_zero {S : Sch} (h1 : ¬ (S.ver < 1 ∨ 999 < S.ver)) (h2 : ¬ longS S) (h3 : Parts S) (hn : ∀ x y, y ∉ nx S x) (h5 : ∀ t ∈ S.structs, dep S t.name ≤ 6) : chk S = 0 := by
  have h4 : ¬ cyc S := by
    rintro ⟨t, -, h⟩
    cases h with
    | one h2 => exact hn _ _ h2
    | more _ h2 => exact hn _ _ h2
  rw [chk_ns h1 h2 h3]
  refine (nsR_no h4).2 ?_
  rintro ⟨t, ht, h⟩
  have := h5 t ht
  omega
theorem ev_chkA : chk (evS 1 8) = 0 := ev_zero (by decide) (by unfold longS; decide +kernel) ⟨by decide +kernel, by decide +kernel⟩ (ev_nx 1 8) (by decide +kernel)
theorem ev_chkB : chk (evS 2 16) = 0 := ev_zero (by decide) (by unfold longS; decide +kernel) ⟨by decide +kernel, by decide +kernel⟩ (ev_nx 2 16) (by decide +kernel)
end Go.Proofs.YtcilkcnddgacgaaGreatDoor


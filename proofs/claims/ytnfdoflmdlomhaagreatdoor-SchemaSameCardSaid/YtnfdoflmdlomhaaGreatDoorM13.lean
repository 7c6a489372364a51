import Derived.Test.YtnfdoflmdlomhaaGreatDoorM12
import Derived.Test.YtnfdoflmdlomhaaGreatDoorM11
import Derived.Lib.QuietBelow
/-
  Which schemas are too long: the reference's and the developers' test. No conditions beyond those that each names.
-/
namespace Go.Proofs.YtnfdoflmdlomhaaGreatDoor
open Go.RowKit
set_option maxRecDepth 100000 in
set_option maxHeartbeats 4000000 in
theorem refLong_any (S : Sch) (v : Value) (w : World) (r : Bool) (hr : r = true ↔ longS S) (hn : S.enums.length ≤ 1000) (hm : S.structs.length ≤ 1000) (hv : ScV w S v) :
    Calls Tryz.prog 42 #[v] w (Ib (.bool r) w) := by
  obtain ⟨A, c, A2, c2, rfl, hS⟩ := hv
  have hSe := hS.en
  have hSs := hS.st
  clear hS
  unfold longS at hr
  obtain ⟨n, hn2⟩ : ∃ n, S.enums.length = n := ⟨_, rfl⟩
  obtain ⟨m, hm2⟩ : ∃ m, S.structs.length = m := ⟨_, rfl⟩
  have HN := Lib.hid hn2
  have HM := Lib.hid hm2
  rw [hn2] at hn hr ⊢
  rw [hm2] at hm hr ⊢
  clear hn2 hm2
  have hB := Bx.new3 w 25 (.int .i64 S.ver) (.slice A n c) (.slice A2 m c2)
  by_cases h1 : 16 < n + m
  · obtain rfl := hr.2 (.inl h1)
    clear hr
    by_cases g1 : 16 < n
    · have d1 : decide ((16 : Int) < (n : Int)) = true := by rw [decide_eq_true_eq]; omega
      clear h1 g1
      go_enter Tryz.func42, Tryz.ntmps42
      go_wp2_with fail
      go_ret
      exact ⟨rfl, ab1 _ _⟩
    · have d1 : decide ((16 : Int) < (n : Int)) = false := by rw [decide_eq_false_iff_not]; omega
      by_cases g2 : 16 < m
      · have d2 : decide ((16 : Int) < (m : Int)) = true := by rw [decide_eq_true_eq]; omega
        clear h1 g1 g2
        go_enter Tryz.func42, Tryz.ntmps42
        go_wp2_with fail
        go_ret
        exact ⟨rfl, ab1 _ _⟩
      · have d2 : decide ((16 : Int) < (m : Int)) = false := by rw [decide_eq_false_iff_not]; omega
        have d3 : decide ((16 : Int) < (n : Int) + (m : Int)) = true := by rw [decide_eq_true_eq]; omega
        clear h1 g1 g2
        go_enter Tryz.func42, Tryz.ntmps42
        go_wp2_with fail
        go_ret
        exact ⟨rfl, ab1 _ _⟩
  · have d1 : decide ((16 : Int) < (n : Int)) = false := by rw [decide_eq_false_iff_not]; omega
    have d2 : decide ((16 : Int) < (m : Int)) = false := by rw [decide_eq_false_iff_not]; omega
    have d3 : decide ((16 : Int) < (n : Int) + (m : Int)) = false := by rw [decide_eq_false_iff_not]; omega
    have HR := Lib.hid hr
    clear hr
    go_enter Tryz.func42, Tryz.ntmps42
    go_wp2_with fail
    go_loopw [3] (fun i wr => ∃ k : Nat, k ≤ n ∧ i = .int .i64 (k : Int) ∧ Hid (∀ j (h : j < S.enums.length), j < k → decide ((S.enums[j]'h).names.length ≤ 16) = true) ∧ Bx wr w.heap.size [.int .i64 S.ver, .slice A n c, .slice A2 m c2] ∧ Below w.heap.size w wr) (fun i _ => n - (intOf i).toNat)
    case atStart => exact ⟨0, by omega, rfl, Lib.hid fun j _ h => by omega, hB, ab1 _ _⟩
    case round =>
      obtain ⟨k, hk, rfl, hI, hBr, hb⟩ := hrel
      have b1 := hBr.c 1 rfl
      have b2 := hBr.c 2 rfl
      clear hB
      by_cases hlt : k < n
      · obtain ⟨a, rfl, hA⟩ := hSe.get (i := k) (by rw [HN.out]; exact hlt)
        obtain ⟨e0, ⟨A3, c3, e1, -⟩, A4, c4, e2, -⟩ := hA.next hb
        have hblk : (a.add (k * 3)).block < wr.heap.size := blk_lt e0
        have hx : ¬ (S.enums[k]'(by rw [HN.out]; exact hlt)).names.length ≤ 16 → r = true := fun e => HR.out.2 (.inr (.inl ⟨_, List.getElem_mem (by rw [HN.out]; exact hlt), by omega⟩))
        have hy := fun e => all_next (p := fun x : En => decide (x.names.length ≤ 16)) hI.out (k := k) (by rw [HN.out]; exact hlt) e
        generalize S.enums[k]'(by rw [HN.out]; exact hlt) = x at *
        by_cases g : x.names.length ≤ 16
        · have d5 : decide ((16 : Int) < (x.names.length : Int)) = false := by rw [decide_eq_false_iff_not]; omega
          have E := Lib.hid (hy (decide_eq_true g))
          clear hx hy hI g hA
          go_wp2_with fail
          go_roundw
          case rel => exact ⟨k + 1, by omega, by go_num, E, hBr, hb⟩
          case measure => simp [intOf]; omega
        · have d5 : decide ((16 : Int) < (x.names.length : Int)) = true := by rw [decide_eq_true_eq]; omega
          obtain rfl := hx g
          clear hx hy hI g hA
          go_wp2_with fail
          go_ret
          exact ⟨rfl, hb⟩
      · obtain rfl : k = n := by omega
        have H1 := Lib.hid (show ∀ x ∈ S.enums, ¬ 16 < x.names.length by
          intro x hx
          obtain ⟨j, hj, rfl⟩ := List.mem_iff_getElem.1 hx
          have := hI.out j hj (by rw [← HN.out]; exact hj)
          rw [decide_eq_true_eq] at this
          omega)
        clear hI
        go_wp2_with fail
        rename World => wo
        go_loopw [4] (fun i wr => ∃ y : Nat, y ≤ m ∧ i = .int .i64 (y : Int) ∧ Hid (∀ j (h : j < S.structs.length), j < y → decide ((S.structs[j]'h).fields.length ≤ 16) = true) ∧ Bx wr w.heap.size [.int .i64 S.ver, .slice A k c, .slice A2 m c2] ∧ Below w.heap.size w wr) (fun i _ => m - (intOf i).toNat)
        case atStart => exact ⟨0, by omega, rfl, Lib.hid fun j _ h => by omega, hBr, hb⟩
        case round =>
          obtain ⟨k2, hk2, rfl, hI, hBr2, hb2⟩ := hrel
          have b1 := hBr2.c 1 rfl
          have b2 := hBr2.c 2 rfl
          clear hBr
          by_cases hlt2 : k2 < m
          · obtain ⟨a, rfl, hA⟩ := hSs.get (i := k2) (by rw [HM.out]; exact hlt2)
            obtain ⟨e0, A3, c3, e1, -⟩ := hA.next hb2
            have hblk : (a.add (k2 * 2)).block < wr.heap.size := blk_lt e0
            have hx : ¬ (S.structs[k2]'(by rw [HM.out]; exact hlt2)).fields.length ≤ 16 → r = true := fun e => HR.out.2 (.inr (.inr ⟨_, List.getElem_mem (by rw [HM.out]; exact hlt2), by omega⟩))
            have hy := fun e => all_next (p := fun x : St => decide (x.fields.length ≤ 16)) hI.out (k := k2) (by rw [HM.out]; exact hlt2) e
            generalize S.structs[k2]'(by rw [HM.out]; exact hlt2) = x at *
            by_cases g : x.fields.length ≤ 16
            · have d5 : decide ((16 : Int) < (x.fields.length : Int)) = false := by rw [decide_eq_false_iff_not]; omega
              have E := Lib.hid (hy (decide_eq_true g))
              clear hx hy hI g hA
              go_wp2_with fail
              go_roundw
              case rel => exact ⟨k2 + 1, by omega, by go_num, E, hBr2, hb2⟩
              case measure => simp [intOf]; omega
            · have d5 : decide ((16 : Int) < (x.fields.length : Int)) = true := by rw [decide_eq_true_eq]; omega
              obtain rfl := hx g
              clear hx hy hI g hA
              go_wp2_with fail
              go_ret
              exact ⟨rfl, hb2⟩
          · obtain rfl : k2 = m := by omega
            obtain rfl : r = false := by
              rw [Bool.eq_false_iff]
              intro h
              rcases HR.out.1 h with h | ⟨x, hx, h⟩ | ⟨x, hx, h⟩
              · omega
              · exact H1.out x hx h
              · obtain ⟨j, hj, rfl⟩ := List.mem_iff_getElem.1 hx
                have := hI.out j hj (by rw [← HM.out]; exact hj)
                rw [decide_eq_true_eq] at this
                omega
            clear hI
            go_wp2_with fail
            go_ret
            exact ⟨rfl, hb2⟩
set_option maxRecDepth 100000 in
set_option maxHeartbeats 4000000 in
theorem isLong_any (S : Sch) (v : Value) (w : World) (r : Bool) (hr : r = true ↔ longS S) (hn : S.enums.length ≤ 1000) (hm : S.structs.length ≤ 1000) (hv : ScV w S v) :
    Calls Tryz.prog 37 #[v] w (Ib (.bool r) w) := by
  obtain ⟨A, c, A2, c2, rfl, hS⟩ := hv
  have hSe := hS.en
  have hSs := hS.st
  clear hS
  unfold longS at hr
  obtain ⟨n, hn2⟩ : ∃ n, S.enums.length = n := ⟨_, rfl⟩
  obtain ⟨m, hm2⟩ : ∃ m, S.structs.length = m := ⟨_, rfl⟩
  have HN := Lib.hid hn2
  have HM := Lib.hid hm2
  rw [hn2] at hn hr ⊢
  rw [hm2] at hm hr ⊢
  clear hn2 hm2
  have hB := Bx.new3 w 25 (.int .i64 S.ver) (.slice A n c) (.slice A2 m c2)
  by_cases h1 : 16 < n + m
  · obtain rfl := hr.2 (.inl h1)
    have d1 : decide ((16 : Int) < (n : Int) + (m : Int)) = true := by rw [decide_eq_true_eq]; omega
    clear hr h1
    go_enter Tryz.func37, Tryz.ntmps37
    go_wp2_with fail
    go_ret
    exact ⟨rfl, ab1 _ _⟩
  · have d1 : decide ((16 : Int) < (n : Int) + (m : Int)) = false := by rw [decide_eq_false_iff_not]; omega
    have HR := Lib.hid hr
    clear hr
    go_enter Tryz.func37, Tryz.ntmps37
    go_wp2_with fail
    go_loopw [18] (fun i wr => ∃ k : Nat, k ≤ n ∧ i = .int .i64 (k : Int) ∧ Hid (∀ j (h : j < S.enums.length), j < k → decide ((S.enums[j]'h).names.length ≤ 16) = true) ∧ Bx wr w.heap.size [.int .i64 S.ver, .slice A n c, .slice A2 m c2] ∧ Below w.heap.size w wr) (fun i _ => n - (intOf i).toNat)
    case atStart => exact ⟨0, by omega, rfl, Lib.hid fun j _ h => by omega, hB, ab1 _ _⟩
    case round =>
      obtain ⟨k, hk, rfl, hI, hBr, hb⟩ := hrel
      have b1 := hBr.c 1 rfl
      have b2 := hBr.c 2 rfl
      clear hB
      by_cases hlt : k < n
      · obtain ⟨a, rfl, hA⟩ := hSe.get (i := k) (by rw [HN.out]; exact hlt)
        obtain ⟨e0, ⟨A3, c3, e1, -⟩, A4, c4, e2, -⟩ := hA.next hb
        have hblk : (a.add (k * 3)).block < wr.heap.size := blk_lt e0
        have hx : ¬ (S.enums[k]'(by rw [HN.out]; exact hlt)).names.length ≤ 16 → r = true := fun e => HR.out.2 (.inr (.inl ⟨_, List.getElem_mem (by rw [HN.out]; exact hlt), by omega⟩))
        have hy := fun e => all_next (p := fun x : En => decide (x.names.length ≤ 16)) hI.out (k := k) (by rw [HN.out]; exact hlt) e
        generalize S.enums[k]'(by rw [HN.out]; exact hlt) = x at *
        by_cases g : x.names.length ≤ 16
        · have d5 : decide ((16 : Int) < (x.names.length : Int)) = false := by rw [decide_eq_false_iff_not]; omega
          have E := Lib.hid (hy (decide_eq_true g))
          clear hx hy hI g hA
          go_wp2_with fail
          go_roundw
          case rel => exact ⟨k + 1, by omega, by go_num, E, hBr.next (ab1 _ _), Below.next hb (ab1 _ _)⟩
          case measure => simp [intOf]; omega
        · have d5 : decide ((16 : Int) < (x.names.length : Int)) = true := by rw [decide_eq_true_eq]; omega
          obtain rfl := hx g
          clear hx hy hI g hA
          go_wp2_with fail
          go_ret
          exact ⟨rfl, Below.next hb (ab1 _ _)⟩
      · obtain rfl : k = n := by omega
        have H1 := Lib.hid (show ∀ x ∈ S.enums, ¬ 16 < x.names.length by
          intro x hx
          obtain ⟨j, hj, rfl⟩ := List.mem_iff_getElem.1 hx
          have := hI.out j hj (by rw [← HN.out]; exact hj)
          rw [decide_eq_true_eq] at this
          omega)
        clear hI
        go_wp2_with fail
        rename World => wo
        go_loopw [30] (fun i wr => ∃ y : Nat, y ≤ m ∧ i = .int .i64 (y : Int) ∧ Hid (∀ j (h : j < S.structs.length), j < y → decide ((S.structs[j]'h).fields.length ≤ 16) = true) ∧ Bx wr w.heap.size [.int .i64 S.ver, .slice A k c, .slice A2 m c2] ∧ Below w.heap.size w wr) (fun i _ => m - (intOf i).toNat)
        case atStart => exact ⟨0, by omega, rfl, Lib.hid fun j _ h => by omega, hBr, hb⟩
        case round =>
          obtain ⟨k2, hk2, rfl, hI, hBr2, hb2⟩ := hrel
          have b1 := hBr2.c 1 rfl
          have b2 := hBr2.c 2 rfl
          clear hBr
          by_cases hlt2 : k2 < m
          · obtain ⟨a, rfl, hA⟩ := hSs.get (i := k2) (by rw [HM.out]; exact hlt2)
            obtain ⟨e0, A3, c3, e1, -⟩ := hA.next hb2
            have hblk : (a.add (k2 * 2)).block < wr.heap.size := blk_lt e0
            have hx : ¬ (S.structs[k2]'(by rw [HM.out]; exact hlt2)).fields.length ≤ 16 → r = true := fun e => HR.out.2 (.inr (.inr ⟨_, List.getElem_mem (by rw [HM.out]; exact hlt2), by omega⟩))
            have hy := fun e => all_next (p := fun x : St => decide (x.fields.length ≤ 16)) hI.out (k := k2) (by rw [HM.out]; exact hlt2) e
            generalize S.structs[k2]'(by rw [HM.out]; exact hlt2) = x at *
            by_cases g : x.fields.length ≤ 16
            · have d5 : decide ((16 : Int) < (x.fields.length : Int)) = false := by rw [decide_eq_false_iff_not]; omega
              have E := Lib.hid (hy (decide_eq_true g))
              clear hx hy hI g hA
              go_wp2_with fail
              go_roundw
              case rel => exact ⟨k2 + 1, by omega, by go_num, E, hBr2.next (ab1 _ _), Below.next hb2 (ab1 _ _)⟩
              case measure => simp [intOf]; omega
            · have d5 : decide ((16 : Int) < (x.fields.length : Int)) = true := by rw [decide_eq_true_eq]; omega
              obtain rfl := hx g
              clear hx hy hI g hA
              go_wp2_with fail
              go_ret
              exact ⟨rfl, Below.next hb2 (ab1 _ _)⟩
          · obtain rfl : k2 = m := by omega
            obtain rfl : r = false := by
              rw [Bool.eq_false_iff]
              intro h
              rcases HR.out.1 h with h | ⟨x, hx, h⟩ | ⟨x, hx, h⟩
              · omega
              · exact H1.out x hx h
              · obtain ⟨j, hj, rfl⟩ := List.mem_iff_getElem.1 hx
                have := hI.out j hj (by rw [← HM.out]; exact hj)
                rw [decide_eq_true_eq] at this
                omega
            clear hI
            go_wp2_with fail
            go_ret
            exact ⟨rfl, hb2⟩
end Go.Proofs.YtnfdoflmdlomhaaGreatDoor
/-
  The reference's valid types: Right. No conditions beyond those that each names.
-/
namespace Go.Proofs.YtnfdoflmdlomhaaGreatDoor
open Go.RowKit
theorem TyV.mk_ {w : World} {k s : Int} {n : List UInt8} {e : List Ty} {u : Value} : TyV w (.mk k s n e) u ↔ ∃ A c, u = .agg #[.int .i64 k, .int .i64 s, .string (bs n), .slice A e.length c] ∧ Rw TyA 4 w e A := Iff.rfl
set_option maxRecDepth 100000 in
set_option maxHeartbeats 4000000 in
theorem right1_any (S : Sch) (s : Int) (n : List UInt8) (e : List Ty) (v u : Value) (w : World) (hS : ScV w S v) (hT : TyV w (.mk 1 s n e) u) (hl : e.length ≤ 9223372036854775807) :
    Calls Tryz.prog 71 #[v, u] w (Ib (.bool (right S (.mk 1 s n e))) w) := by
  have cP := fun W h => refPlain_any (.mk 1 s n e) u W (TyV.next h hT) hl
  obtain ⟨A, c, A2, c2, rfl, hSc⟩ := hS
  obtain ⟨A3, c3, rfl, hR⟩ := TyV.mk_.1 hT
  obtain ⟨r, hr⟩ : ∃ r, right S (.mk 1 s n e) = r := ⟨_, rfl⟩
  rw [hr]
  rw [right_eq, if_neg (by decide), if_neg (by decide), if_neg (by decide)] at hr
  replace cP : ∀ W, Below w.heap.size w W → Calls Tryz.prog 94 #[.agg #[.int .i64 1, .int .i64 s, .string (bs n), .slice A3 e.length c3]] W (Ib (.bool (decide (e.length = 0))) W) := cP
  generalize decide (e.length = 0) = z at *
  clear hT hR hSc
  by_cases h0 : s = 0
  · subst h0
    have hz : szOk 1 0 = true := rfl
    by_cases hn : n = []
    · subst hn
      have q0 : (bs ([] : List UInt8)).toList = [] := toList_bs []
      obtain rfl : z = r := by rw [← hr, hz]; simp
      clear hr hz
      go_enter Tryz.func71, Tryz.ntmps71
      go_wp2_with fail
      refine (cP _ (ab2 _ _ _)).mono ?_
      rintro e1 w1 ⟨rfl, hb⟩
      go_wp2_with fail
      go_ret
      exact ⟨rfl, Below.next (ab2 _ _ _) hb⟩
    · have q0 : ¬ (bs n).toList = [] := by rw [toList_bs]; exact hn
      obtain rfl : false = r := by rw [← hr, hz, decide_eq_false hn]; simp
      clear hr hz hn cP
      go_enter Tryz.func71, Tryz.ntmps71
      go_wp2_with fail
      go_ret
      exact ⟨rfl, ab2 _ _ _⟩
  · have d0 : (s == 0) = false := by simpa using h0
    have hz : szOk 1 s = false := by simp [szOk, h0]
    clear h0
    obtain rfl : false = r := by rw [← hr, hz]; rfl
    clear hr hz cP
    go_enter Tryz.func71, Tryz.ntmps71
    go_wp2_with fail
    go_ret
    exact ⟨rfl, ab2 _ _ _⟩

set_option maxRecDepth 100000 in
set_option maxHeartbeats 4000000 in
theorem right2_any (S : Sch) (s : Int) (n : List UInt8) (e : List Ty) (v u : Value) (w : World) (hS : ScV w S v) (hT : TyV w (.mk 2 s n e) u) (hl : e.length ≤ 9223372036854775807) :
    Calls Tryz.prog 71 #[v, u] w (Ib (.bool (right S (.mk 2 s n e))) w) := by
  have cP := fun W h => refPlain_any (.mk 2 s n e) u W (TyV.next h hT) hl
  obtain ⟨A, c, A2, c2, rfl, hSc⟩ := hS
  obtain ⟨A3, c3, rfl, hR⟩ := TyV.mk_.1 hT
  obtain ⟨r, hr⟩ : ∃ r, right S (.mk 2 s n e) = r := ⟨_, rfl⟩
  rw [hr]
  rw [right_eq, if_neg (by decide), if_neg (by decide), if_neg (by decide)] at hr
  replace cP : ∀ W, Below w.heap.size w W → Calls Tryz.prog 94 #[.agg #[.int .i64 2, .int .i64 s, .string (bs n), .slice A3 e.length c3]] W (Ib (.bool (decide (e.length = 0))) W) := cP
  generalize decide (e.length = 0) = z at *
  clear hT hR hSc
  by_cases h8 : s = 8
  · subst h8
    have hz : szOk 2 8 = true := rfl
    by_cases hn : n = []
    · subst hn
      have q0 : (bs ([] : List UInt8)).toList = [] := toList_bs []
      obtain rfl : z = r := by rw [← hr, hz]; simp
      clear hr hz
      go_enter Tryz.func71, Tryz.ntmps71
      go_wp2_with fail
      refine (cP _ (ab2 _ _ _)).mono ?_
      rintro e1 w1 ⟨rfl, hb⟩
      go_wp2_with fail
      go_ret
      exact ⟨rfl, Below.next (ab2 _ _ _) hb⟩
    · have q0 : ¬ (bs n).toList = [] := by rw [toList_bs]; exact hn
      obtain rfl : false = r := by rw [← hr, hz, decide_eq_false hn]; simp
      clear hr hz hn cP
      go_enter Tryz.func71, Tryz.ntmps71
      go_wp2_with fail
      go_ret
      exact ⟨rfl, ab2 _ _ _⟩
  · have d8 : (s == 8) = false := by simpa using h8
    by_cases h16 : s = 16
    · subst h16
      have hz : szOk 2 16 = true := rfl
      by_cases hn : n = []
      · subst hn
        have q0 : (bs ([] : List UInt8)).toList = [] := toList_bs []
        obtain rfl : z = r := by rw [← hr, hz]; simp
        clear hr hz
        go_enter Tryz.func71, Tryz.ntmps71
        go_wp2_with fail
        refine (cP _ (ab2 _ _ _)).mono ?_
        rintro e1 w1 ⟨rfl, hb⟩
        go_wp2_with fail
        go_ret
        exact ⟨rfl, Below.next (ab2 _ _ _) hb⟩
      · have q0 : ¬ (bs n).toList = [] := by rw [toList_bs]; exact hn
        obtain rfl : false = r := by rw [← hr, hz, decide_eq_false hn]; simp
        clear hr hz hn cP
        go_enter Tryz.func71, Tryz.ntmps71
        go_wp2_with fail
        go_ret
        exact ⟨rfl, ab2 _ _ _⟩
    · have d16 : (s == 16) = false := by simpa using h16
      by_cases h32 : s = 32
      · subst h32
        have hz : szOk 2 32 = true := rfl
        by_cases hn : n = []
        · subst hn
          have q0 : (bs ([] : List UInt8)).toList = [] := toList_bs []
          obtain rfl : z = r := by rw [← hr, hz]; simp
          clear hr hz
          go_enter Tryz.func71, Tryz.ntmps71
          go_wp2_with fail
          refine (cP _ (ab2 _ _ _)).mono ?_
          rintro e1 w1 ⟨rfl, hb⟩
          go_wp2_with fail
          go_ret
          exact ⟨rfl, Below.next (ab2 _ _ _) hb⟩
        · have q0 : ¬ (bs n).toList = [] := by rw [toList_bs]; exact hn
          obtain rfl : false = r := by rw [← hr, hz, decide_eq_false hn]; simp
          clear hr hz hn cP
          go_enter Tryz.func71, Tryz.ntmps71
          go_wp2_with fail
          go_ret
          exact ⟨rfl, ab2 _ _ _⟩
      · have d32 : (s == 32) = false := by simpa using h32
        by_cases h64 : s = 64
        · subst h64
          have hz : szOk 2 64 = true := rfl
          by_cases hn : n = []
          · subst hn
            have q0 : (bs ([] : List UInt8)).toList = [] := toList_bs []
            obtain rfl : z = r := by rw [← hr, hz]; simp
            clear hr hz
            go_enter Tryz.func71, Tryz.ntmps71
            go_wp2_with fail
            refine (cP _ (ab2 _ _ _)).mono ?_
            rintro e1 w1 ⟨rfl, hb⟩
            go_wp2_with fail
            go_ret
            exact ⟨rfl, Below.next (ab2 _ _ _) hb⟩
          · have q0 : ¬ (bs n).toList = [] := by rw [toList_bs]; exact hn
            obtain rfl : false = r := by rw [← hr, hz, decide_eq_false hn]; simp
            clear hr hz hn cP
            go_enter Tryz.func71, Tryz.ntmps71
            go_wp2_with fail
            go_ret
            exact ⟨rfl, ab2 _ _ _⟩
        · have d64 : (s == 64) = false := by simpa using h64
          have hz : szOk 2 s = false := by simp [szOk, h8, h16, h32, h64]
          clear h8 h16 h32 h64
          obtain rfl : false = r := by rw [← hr, hz]; rfl
          clear hr hz cP
          go_enter Tryz.func71, Tryz.ntmps71
          go_wp2_with fail
          go_ret
          exact ⟨rfl, ab2 _ _ _⟩

set_option maxRecDepth 100000 in
set_option maxHeartbeats 4000000 in
theorem right3_any (S : Sch) (s : Int) (n : List UInt8) (e : List Ty) (v u : Value) (w : World) (hS : ScV w S v) (hT : TyV w (.mk 3 s n e) u) (hl : e.length ≤ 9223372036854775807) :
    Calls Tryz.prog 71 #[v, u] w (Ib (.bool (right S (.mk 3 s n e))) w) := by
  have cP := fun W h => refPlain_any (.mk 3 s n e) u W (TyV.next h hT) hl
  obtain ⟨A, c, A2, c2, rfl, hSc⟩ := hS
  obtain ⟨A3, c3, rfl, hR⟩ := TyV.mk_.1 hT
  obtain ⟨r, hr⟩ : ∃ r, right S (.mk 3 s n e) = r := ⟨_, rfl⟩
  rw [hr]
  rw [right_eq, if_neg (by decide), if_neg (by decide), if_neg (by decide)] at hr
  replace cP : ∀ W, Below w.heap.size w W → Calls Tryz.prog 94 #[.agg #[.int .i64 3, .int .i64 s, .string (bs n), .slice A3 e.length c3]] W (Ib (.bool (decide (e.length = 0))) W) := cP
  generalize decide (e.length = 0) = z at *
  clear hT hR hSc
  by_cases h8 : s = 8
  · subst h8
    have hz : szOk 3 8 = true := rfl
    by_cases hn : n = []
    · subst hn
      have q0 : (bs ([] : List UInt8)).toList = [] := toList_bs []
      obtain rfl : z = r := by rw [← hr, hz]; simp
      clear hr hz
      go_enter Tryz.func71, Tryz.ntmps71
      go_wp2_with fail
      refine (cP _ (ab2 _ _ _)).mono ?_
      rintro e1 w1 ⟨rfl, hb⟩
      go_wp2_with fail
      go_ret
      exact ⟨rfl, Below.next (ab2 _ _ _) hb⟩
    · have q0 : ¬ (bs n).toList = [] := by rw [toList_bs]; exact hn
      obtain rfl : false = r := by rw [← hr, hz, decide_eq_false hn]; simp
      clear hr hz hn cP
      go_enter Tryz.func71, Tryz.ntmps71
      go_wp2_with fail
      go_ret
      exact ⟨rfl, ab2 _ _ _⟩
  · have d8 : (s == 8) = false := by simpa using h8
    by_cases h16 : s = 16
    · subst h16
      have hz : szOk 3 16 = true := rfl
      by_cases hn : n = []
      · subst hn
        have q0 : (bs ([] : List UInt8)).toList = [] := toList_bs []
        obtain rfl : z = r := by rw [← hr, hz]; simp
        clear hr hz
        go_enter Tryz.func71, Tryz.ntmps71
        go_wp2_with fail
        refine (cP _ (ab2 _ _ _)).mono ?_
        rintro e1 w1 ⟨rfl, hb⟩
        go_wp2_with fail
        go_ret
        exact ⟨rfl, Below.next (ab2 _ _ _) hb⟩
      · have q0 : ¬ (bs n).toList = [] := by rw [toList_bs]; exact hn
        obtain rfl : false = r := by rw [← hr, hz, decide_eq_false hn]; simp
        clear hr hz hn cP
        go_enter Tryz.func71, Tryz.ntmps71
        go_wp2_with fail
        go_ret
        exact ⟨rfl, ab2 _ _ _⟩
    · have d16 : (s == 16) = false := by simpa using h16
      by_cases h32 : s = 32
      · subst h32
        have hz : szOk 3 32 = true := rfl
        by_cases hn : n = []
        · subst hn
          have q0 : (bs ([] : List UInt8)).toList = [] := toList_bs []
          obtain rfl : z = r := by rw [← hr, hz]; simp
          clear hr hz
          go_enter Tryz.func71, Tryz.ntmps71
          go_wp2_with fail
          refine (cP _ (ab2 _ _ _)).mono ?_
          rintro e1 w1 ⟨rfl, hb⟩
          go_wp2_with fail
          go_ret
          exact ⟨rfl, Below.next (ab2 _ _ _) hb⟩
        · have q0 : ¬ (bs n).toList = [] := by rw [toList_bs]; exact hn
          obtain rfl : false = r := by rw [← hr, hz, decide_eq_false hn]; simp
          clear hr hz hn cP
          go_enter Tryz.func71, Tryz.ntmps71
          go_wp2_with fail
          go_ret
          exact ⟨rfl, ab2 _ _ _⟩
      · have d32 : (s == 32) = false := by simpa using h32
        have hz : szOk 3 s = false := by simp [szOk, h8, h16, h32]
        clear h8 h16 h32
        obtain rfl : false = r := by rw [← hr, hz]; rfl
        clear hr hz cP
        go_enter Tryz.func71, Tryz.ntmps71
        go_wp2_with fail
        go_ret
        exact ⟨rfl, ab2 _ _ _⟩

set_option maxRecDepth 100000 in
set_option maxHeartbeats 4000000 in
theorem right4_any (S : Sch) (s : Int) (n : List UInt8) (e : List Ty) (v u : Value) (w : World) (hS : ScV w S v) (hT : TyV w (.mk 4 s n e) u) (hl : e.length ≤ 9223372036854775807) :
    Calls Tryz.prog 71 #[v, u] w (Ib (.bool (right S (.mk 4 s n e))) w) := by
  have cP := fun W h => refPlain_any (.mk 4 s n e) u W (TyV.next h hT) hl
  obtain ⟨A, c, A2, c2, rfl, hSc⟩ := hS
  obtain ⟨A3, c3, rfl, hR⟩ := TyV.mk_.1 hT
  obtain ⟨r, hr⟩ : ∃ r, right S (.mk 4 s n e) = r := ⟨_, rfl⟩
  rw [hr]
  rw [right_eq, if_neg (by decide), if_neg (by decide), if_neg (by decide)] at hr
  replace cP : ∀ W, Below w.heap.size w W → Calls Tryz.prog 94 #[.agg #[.int .i64 4, .int .i64 s, .string (bs n), .slice A3 e.length c3]] W (Ib (.bool (decide (e.length = 0))) W) := cP
  generalize decide (e.length = 0) = z at *
  clear hT hR hSc
  by_cases h1 : 1 ≤ s
  · have d1 : decide (1 ≤ s) = true := decide_eq_true h1
    by_cases h2 : s ≤ 2000
    · have d2 : decide (s ≤ 2000) = true := decide_eq_true h2
      have hz : szOk 4 s = true := by simp [szOk, h1, h2]
      by_cases hn : n = []
      · subst hn
        have q0 : (bs ([] : List UInt8)).toList = [] := toList_bs []
        obtain rfl : z = r := by rw [← hr, hz]; simp
        clear hr hz
        go_enter Tryz.func71, Tryz.ntmps71
        go_wp2_with fail
        refine (cP _ (ab2 _ _ _)).mono ?_
        rintro e1 w1 ⟨rfl, hb⟩
        go_wp2_with fail
        go_ret
        exact ⟨rfl, Below.next (ab2 _ _ _) hb⟩
      · have q0 : ¬ (bs n).toList = [] := by rw [toList_bs]; exact hn
        obtain rfl : false = r := by rw [← hr, hz, decide_eq_false hn]; simp
        clear hr hz hn cP
        go_enter Tryz.func71, Tryz.ntmps71
        go_wp2_with fail
        go_ret
        exact ⟨rfl, ab2 _ _ _⟩
    · have d2 : decide (s ≤ 2000) = false := decide_eq_false h2
      have hz : szOk 4 s = false := by simp [szOk, h2]
      clear h2
      obtain rfl : false = r := by rw [← hr, hz]; rfl
      clear hr hz cP
      go_enter Tryz.func71, Tryz.ntmps71
      go_wp2_with fail
      go_ret
      exact ⟨rfl, ab2 _ _ _⟩
  · have d1 : decide (1 ≤ s) = false := decide_eq_false h1
    have hz : szOk 4 s = false := by simp [szOk, h1]
    clear h1
    obtain rfl : false = r := by rw [← hr, hz]; rfl
    clear hr hz cP
    go_enter Tryz.func71, Tryz.ntmps71
    go_wp2_with fail
    go_ret
    exact ⟨rfl, ab2 _ _ _⟩

theorem mem_sns (S : Sch) (n : List UInt8) : (fst_ St.name S.structs n).isSome = (sns S).contains n := by
  rw [Bool.eq_iff_iff, List.contains_iff_mem]
  cases h : fst_ St.name S.structs n with
  | none =>
    simp only [Option.isSome_none, Bool.false_eq_true, false_iff]
    intro hm
    obtain ⟨t, ht, e⟩ := List.mem_map.1 hm
    exact fst_none.1 h t ht e
  | some t =>
    simp only [Option.isSome_some, true_iff]
    obtain ⟨h1, h2⟩ := fst_mem h
    exact List.mem_map.2 ⟨t, h1, h2⟩
set_option maxRecDepth 100000 in
set_option maxHeartbeats 4000000 in
theorem right6_any (S : Sch) (s : Int) (n : List UInt8) (e : List Ty) (v u : Value) (w : World) (hb : S.structs.length ≤ 1000) (hS : ScV w S v) (hT : TyV w (.mk 6 s n e) u) (hl : e.length ≤ 9223372036854775807) :
    Calls Tryz.prog 71 #[v, u] w (Ib (.bool (right S (.mk 6 s n e))) w) := by
  have cP := fun W h => refPlain_any (.mk 6 s n e) u W (TyV.next h hT) hl
  have cF := fun W h => refStruct_any S n v W (ScV.next h hS) hb
  obtain ⟨A, c, A2, c2, rfl, hSc⟩ := hS
  obtain ⟨A3, c3, rfl, hR⟩ := TyV.mk_.1 hT
  obtain ⟨r, hr⟩ : ∃ r, right S (.mk 6 s n e) = r := ⟨_, rfl⟩
  rw [hr]
  have hr2 : right S (.mk 6 s n e) = (decide (s = 0) && ((fst_ St.name S.structs n).isSome && decide (e.length = 0))) := by
    rw [right_eq, mem_sns]
    rfl
  rw [hr2] at hr
  generalize fst_ St.name S.structs n = o at *
  replace cP : ∀ W, Below w.heap.size w W → Calls Tryz.prog 94 #[.agg #[.int .i64 6, .int .i64 s, .string (bs n), .slice A3 e.length c3]] W (Ib (.bool (decide (e.length = 0))) W) := cP
  generalize decide (e.length = 0) = z at *
  have hB2 := Bx.new4 (w.alloc (Obj.cells #[.int .i64 S.ver, .slice A S.enums.length c, .slice A2 S.structs.length c2] 25)) 45 (.int .i64 6) (.int .i64 s) (.string (bs n)) (.slice A3 e.length c3)
  have hz1 : (w.alloc (Obj.cells #[.int .i64 S.ver, .slice A S.enums.length c, .slice A2 S.structs.length c2] 25)).heap.size = w.heap.size + 1 := by simp
  rw [hz1] at hB2
  clear hT hR hSc hr2 hz1
  cases o with
  | none =>
    obtain rfl : false = r := by rw [← hr]; simp
    go_enter Tryz.func71, Tryz.ntmps71
    go_wp2_with fail
    refine (cF _ (ab2 _ _ _)).mono ?_
    rintro e1 w1 ⟨v1, rfl, hV, hb1⟩
    obtain ⟨A4, c4, rfl, -⟩ := hV
    clear cF cP hr
    have hB2 := hB2.next hb1
    have b1 := hB2.c 1 rfl
    go_wp2_with fail
    go_ret
    exact ⟨rfl, Below.next (Below.next (ab2 _ _ _) hb1) (ab1 _ _)⟩
  | some t =>
    by_cases hs : s = 0
    · subst hs
      obtain rfl : z = r := by rw [← hr]; simp
      go_enter Tryz.func71, Tryz.ntmps71
      go_wp2_with fail
      refine (cF _ (ab2 _ _ _)).mono ?_
      rintro e1 w1 ⟨v1, rfl, hV, hb1⟩
      obtain ⟨A4, c4, rfl, -⟩ := hV
      clear cF hr
      have hB2 := hB2.next hb1
      have b0 := hB2.c 0 rfl
      have b1 := hB2.c 1 rfl
      have b2 := hB2.c 2 rfl
      have b3 := hB2.c 3 rfl
      have hlt := hB2.lt
      have hb2 := Below.next (ab2 _ _ _) hb1
      go_wp2_with fail
      refine (cP _ (Below.next hb2 (ab1 _ _))).mono ?_
      rintro e2 w2 ⟨rfl, hb3⟩
      go_wp2_with fail
      go_ret
      exact ⟨rfl, Below.next (Below.next hb2 (ab1 _ _)) hb3⟩
    · obtain rfl : false = r := by rw [← hr, decide_eq_false hs]; rfl
      have d0 : (s == 0) = false := by simpa using hs
      clear hs
      go_enter Tryz.func71, Tryz.ntmps71
      go_wp2_with fail
      refine (cF _ (ab2 _ _ _)).mono ?_
      rintro e1 w1 ⟨v1, rfl, hV, hb1⟩
      obtain ⟨A4, c4, rfl, -⟩ := hV
      clear cF cP hr
      have hB2 := hB2.next hb1
      have b1 := hB2.c 1 rfl
      have hlt := hB2.lt
      go_wp2_with fail
      go_ret
      exact ⟨rfl, Below.next (Below.next (ab2 _ _ _) hb1) (ab1 _ _)⟩
theorem mem_ens (S : Sch) (n : List UInt8) : (fst_ En.name S.enums n).isSome = (ens S).contains n := by
  rw [Bool.eq_iff_iff, List.contains_iff_mem]
  cases h : fst_ En.name S.enums n with
  | none =>
    simp only [Option.isSome_none, Bool.false_eq_true, false_iff]
    intro hm
    obtain ⟨t, ht, e⟩ := List.mem_map.1 hm
    exact fst_none.1 h t ht e
  | some t =>
    simp only [Option.isSome_some, true_iff]
    obtain ⟨h1, h2⟩ := fst_mem h
    exact List.mem_map.2 ⟨t, h1, h2⟩
set_option maxRecDepth 100000 in
set_option maxHeartbeats 4000000 in
theorem right7_any (S : Sch) (s : Int) (n : List UInt8) (e : List Ty) (v u : Value) (w : World) (hb : S.enums.length ≤ 1000) (hS : ScV w S v) (hT : TyV w (.mk 7 s n e) u) (hl : e.length ≤ 9223372036854775807) :
    Calls Tryz.prog 71 #[v, u] w (Ib (.bool (right S (.mk 7 s n e))) w) := by
  have cP := fun W h => refPlain_any (.mk 7 s n e) u W (TyV.next h hT) hl
  have cF := fun W h => refEnum_any S n v W (ScV.next h hS) hb
  obtain ⟨A, c, A2, c2, rfl, hSc⟩ := hS
  obtain ⟨A3, c3, rfl, hR⟩ := TyV.mk_.1 hT
  obtain ⟨r, hr⟩ : ∃ r, right S (.mk 7 s n e) = r := ⟨_, rfl⟩
  rw [hr]
  have hr2 : right S (.mk 7 s n e) = (decide (s = 0) && ((fst_ En.name S.enums n).isSome && decide (e.length = 0))) := by
    rw [right_eq, mem_ens]
    rfl
  rw [hr2] at hr
  generalize fst_ En.name S.enums n = o at *
  replace cP : ∀ W, Below w.heap.size w W → Calls Tryz.prog 94 #[.agg #[.int .i64 7, .int .i64 s, .string (bs n), .slice A3 e.length c3]] W (Ib (.bool (decide (e.length = 0))) W) := cP
  generalize decide (e.length = 0) = z at *
  have hB2 := Bx.new4 (w.alloc (Obj.cells #[.int .i64 S.ver, .slice A S.enums.length c, .slice A2 S.structs.length c2] 25)) 45 (.int .i64 7) (.int .i64 s) (.string (bs n)) (.slice A3 e.length c3)
  have hz1 : (w.alloc (Obj.cells #[.int .i64 S.ver, .slice A S.enums.length c, .slice A2 S.structs.length c2] 25)).heap.size = w.heap.size + 1 := by simp
  rw [hz1] at hB2
  clear hT hR hSc hr2 hz1
  cases o with
  | none =>
    obtain rfl : false = r := by rw [← hr]; simp
    go_enter Tryz.func71, Tryz.ntmps71
    go_wp2_with fail
    refine (cF _ (ab2 _ _ _)).mono ?_
    rintro e1 w1 ⟨v1, rfl, hV, hb1⟩
    obtain ⟨A4, c4, A5, c5, rfl, -, -⟩ := hV
    clear cF cP hr
    have hB2 := hB2.next hb1
    have b1 := hB2.c 1 rfl
    go_wp2_with fail
    go_ret
    exact ⟨rfl, Below.next (Below.next (ab2 _ _ _) hb1) (ab1 _ _)⟩
  | some t =>
    by_cases hs : s = 0
    · subst hs
      obtain rfl : z = r := by rw [← hr]; simp
      go_enter Tryz.func71, Tryz.ntmps71
      go_wp2_with fail
      refine (cF _ (ab2 _ _ _)).mono ?_
      rintro e1 w1 ⟨v1, rfl, hV, hb1⟩
      obtain ⟨A4, c4, A5, c5, rfl, -, -⟩ := hV
      clear cF hr
      have hB2 := hB2.next hb1
      have b0 := hB2.c 0 rfl
      have b1 := hB2.c 1 rfl
      have b2 := hB2.c 2 rfl
      have b3 := hB2.c 3 rfl
      have hlt := hB2.lt
      have hb2 := Below.next (ab2 _ _ _) hb1
      go_wp2_with fail
      refine (cP _ (Below.next hb2 (ab1 _ _))).mono ?_
      rintro e2 w2 ⟨rfl, hb3⟩
      go_wp2_with fail
      go_ret
      exact ⟨rfl, Below.next (Below.next hb2 (ab1 _ _)) hb3⟩
    · obtain rfl : false = r := by rw [← hr, decide_eq_false hs]; rfl
      have d0 : (s == 0) = false := by simpa using hs
      clear hs
      go_enter Tryz.func71, Tryz.ntmps71
      go_wp2_with fail
      refine (cF _ (ab2 _ _ _)).mono ?_
      rintro e1 w1 ⟨v1, rfl, hV, hb1⟩
      obtain ⟨A4, c4, A5, c5, rfl, -, -⟩ := hV
      clear cF cP hr
      have hB2 := hB2.next hb1
      have b1 := hB2.c 1 rfl
      have hlt := hB2.lt
      go_wp2_with fail
      go_ret
      exact ⟨rfl, Below.next (Below.next (ab2 _ _ _) hb1) (ab1 _ _)⟩
end Go.Proofs.YtnfdoflmdlomhaaGreatDoor

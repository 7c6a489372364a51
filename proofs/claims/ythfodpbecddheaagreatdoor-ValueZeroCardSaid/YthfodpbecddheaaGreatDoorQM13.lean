/-
  Whole numbers in a list. No conditions beyond those that each names.
-/
import Derived.Test.YthfodpbecddheaaGreatDoorQM12
import Derived.Test.YthfodpbecddheaaGreatDoorQM08
namespace Go.Proofs.YthfodpbecddheaaGreatDoor
open Go.RowKit Go.Shelf
set_option maxRecDepth 100000 in
set_option maxHeartbeats 4000000 in
theorem indexInts_any (l : List Int) (x : Int) (A : Option Addr) (c : Nat) (w : World) (hl : l.length ≤ 9223372036854775807) (hR : Rw TyI 1 w l A) :
    Calls Tryz.prog 108 #[.slice A l.length c, .int .i64 x] w (Is (.int .i64 (ixI (l.findIdx? fun y => decide (x = y)))) w) := by
  obtain ⟨n, hn⟩ : ∃ n, l.length = n := ⟨_, rfl⟩
  obtain ⟨r, hr⟩ : ∃ r, ixI (l.findIdx? fun y => decide (x = y)) = r := ⟨_, rfl⟩
  have HN := Lib.hid hn
  have HR := Lib.hid hr
  rw [hn] at hl
  rw [hn, hr]
  clear hn hr
  have H0 : Hid (∀ j (hj : j < l.length), j < 0 → decide (x = l[j]'hj) = false) := Lib.hid fun j _ h => by omega
  go_enter Tryz.func108, Tryz.ntmps108
  go_wp2_with fail
  go_loopw [8] (fun i wr => ∃ k : Nat, k ≤ n ∧ i = .int .i64 (k : Int) ∧ Hid (∀ j (hj : j < l.length), j < k → decide (x = l[j]'hj) = false) ∧ w = wr) (fun i _ => n - (intOf i).toNat)
  case atStart => exact ⟨0, by omega, rfl, H0, rfl⟩
  case round =>
    obtain ⟨k, hk, rfl, HK, rfl⟩ := hrel
    clear H0
    by_cases hlt : k < n
    · have h1 : k < l.length := by rw [HN.out]; exact hlt
      have hk1 := Lib.hid hlt
      obtain ⟨a, rfl, hA⟩ := hR.get h1
      rw [Nat.mul_one] at hA
      have hA : w.cell? (a.add k) = some (.int .i64 (l[k]'h1)) := hA
      have HF := Lib.hid (fun (h : ¬ x = l[k]'h1) => show ∀ j (hj : j < l.length), j < k + 1 → decide (x = l[j]'hj) = false from fun j hj h2 => by
        by_cases e : j = k
        · subst e; exact decide_eq_false h
        · exact HK.out j hj (by omega))
      have HT := Lib.hid (fun (h : x = l[k]'h1) => show r = (k : Int) by rw [← HR.out, findIdx_at h1 (decide_eq_true h) HK.out]; rfl)
      generalize l[k]'h1 = u at *
      clear hR HK
      by_cases hxu : x = u
      · have d1 : (x == u) = true := by simpa using hxu
        have HT2 := HT.out hxu
        clear HF HT hxu
        subst HT2
        go_wp2_with fail
        go_ret
        exact ⟨rfl, rfl⟩
      · have d1 : (x == u) = false := by simpa using hxu
        have HF2 := Lib.hid (HF.out hxu)
        clear HF HT hxu
        go_wp2_with fail
        go_roundw
        case rel => exact ⟨k + 1, hk1.out, by go_num, HF2, by first | trivial | rfl⟩
        case measure => have := hk1.out; simp [intOf]; omega
    · obtain rfl : k = n := by omega
      have HE : r = -1 := by rw [← HR.out, findIdx_none fun j hj => HK.out j hj (by rw [← HN.out]; exact hj)]; rfl
      subst HE
      clear HK hR
      go_wp2_with fail
      go_ret
      exact ⟨rfl, rfl⟩
set_option maxRecDepth 100000 in
set_option maxHeartbeats 4000000 in
theorem containsInts_any (l : List Int) (x : Int) (A : Option Addr) (c : Nat) (w : World) (hl : l.length ≤ 9223372036854775807) (hR : Rw TyI 1 w l A) :
    Calls Tryz.prog 54 #[.slice A l.length c, .int .i64 x] w (Is (.bool (l.contains x)) w) := by
  have cI := indexInts_any l x A c w hl hR
  have e := any_ix (fun y => decide (x = y)) l
  have e2 : l.contains x = l.any fun y => decide (x = y) := by
    rw [List.contains_eq_any_beq]; rfl
  rw [e2, ← e]
  generalize ixI (l.findIdx? fun y => decide (x = y)) = r at cI ⊢
  clear e e2
  generalize l.length = n at *
  go_enter Tryz.func54, Tryz.ntmps54
  go_wp2_with fail
  refine cI.mono ?_
  rintro e w2 ⟨rfl, rfl⟩
  go_wp2_with fail
  go_ret
  exact ⟨rfl, rfl⟩
end Go.Proofs.YthfodpbecddheaaGreatDoor
/-
  Which types the developers permit: the kinds without parts. No conditions beyond those that each names.
-/
namespace Go.Proofs.YthfodpbecddheaaGreatDoor
open Go.RowKit Go.Shelf
set_option maxRecDepth 100000 in
set_option maxHeartbeats 8000000 in
theorem permitso_any (S : Sch) (k : Int) (k1 : k ≠ 1) (k2 : k ≠ 2) (k3 : k ≠ 3) (k4 : k ≠ 4) (k5 : k ≠ 5) (k6 : k ≠ 6) (k7 : k ≠ 7) (s : Int) (n : List UInt8) (e : List Ty) (v u : Value) (w : World) (hS : ScV w S v) (hT : TyV w (.mk k s n e) u) (hl : e.length ≤ 9223372036854775807) :
    Calls Tryz.prog 32 #[v, u] w (Ib (.bool (right S (.mk k s n e))) w) := by
  obtain ⟨A, c, A2, c2, rfl, -⟩ := hS
  obtain ⟨A3, c3, rfl, -⟩ := TyV.mk_.1 hT
  rw [right_eq]
  have hz : szOk k s = false := by unfold szOk; rw [if_neg k1, if_neg k2, if_neg k3, if_neg k4, if_neg k5, if_neg k6, if_neg k7]
  rw [hz, Bool.false_and]
  have x1 : (k == 1) = false := by simpa using k1
  have x2 : (k == 2) = false := by simpa using k2
  have x3 : (k == 3) = false := by simpa using k3
  have x4 : (k == 4) = false := by simpa using k4
  have x5 : (k == 5) = false := by simpa using k5
  have x6 : (k == 6) = false := by simpa using k6
  have x7 : (k == 7) = false := by simpa using k7
  clear hz k1 k2 k3 k4 k5 k6 k7
  clear hT
  generalize e.length = m at *
  by_cases hn : n = []
  · subst hn
    have q0 : (bs ([] : List UInt8)).toList = [] := toList_bs []
    have q1 : ((bs ([] : List UInt8)).toList == []) = true := by rw [toList_bs]; rfl
    by_cases he : m = 0
    · subst he
      by_cases hs : s = 0
      · subst hs
        skip
        go_enter Tryz.func32, Tryz.ntmps32
        go_wp2_with fail
        go_ret
        exact ⟨rfl, ab2 _ _ _⟩
      · have qs : (s == 0) = false := by simpa using hs
        skip
        go_enter Tryz.func32, Tryz.ntmps32
        go_wp2_with fail
        go_ret
        exact ⟨rfl, ab2 _ _ _⟩
    · have qe : ((m : Int) == 0) = false := by simp; omega
      by_cases hs : s = 0
      · subst hs
        skip
        go_enter Tryz.func32, Tryz.ntmps32
        go_wp2_with fail
        go_ret
        exact ⟨rfl, ab2 _ _ _⟩
      · have qs : (s == 0) = false := by simpa using hs
        skip
        go_enter Tryz.func32, Tryz.ntmps32
        go_wp2_with fail
        go_ret
        exact ⟨rfl, ab2 _ _ _⟩
  · have q1 : ((bs n).toList == []) = false := by rw [toList_bs, beq_eq_false_iff_ne]; exact hn
    by_cases he : m = 0
    · subst he
      by_cases hs : s = 0
      · subst hs
        skip
        go_enter Tryz.func32, Tryz.ntmps32
        go_wp2_with fail
        go_ret
        exact ⟨rfl, ab2 _ _ _⟩
      · have qs : (s == 0) = false := by simpa using hs
        skip
        go_enter Tryz.func32, Tryz.ntmps32
        go_wp2_with fail
        go_ret
        exact ⟨rfl, ab2 _ _ _⟩
    · have qe : ((m : Int) == 0) = false := by simp; omega
      by_cases hs : s = 0
      · subst hs
        skip
        go_enter Tryz.func32, Tryz.ntmps32
        go_wp2_with fail
        go_ret
        exact ⟨rfl, ab2 _ _ _⟩
      · have qs : (s == 0) = false := by simpa using hs
        skip
        go_enter Tryz.func32, Tryz.ntmps32
        go_wp2_with fail
        go_ret
        exact ⟨rfl, ab2 _ _ _⟩
set_option maxRecDepth 100000 in
set_option maxHeartbeats 8000000 in
theorem permits1_any (S : Sch) (s : Int) (n : List UInt8) (e : List Ty) (v u : Value) (w : World) (hS : ScV w S v) (hT : TyV w (.mk 1 s n e) u) (hl : e.length ≤ 9223372036854775807) :
    Calls Tryz.prog 32 #[v, u] w (Ib (.bool (right S (.mk 1 s n e))) w) := by
  obtain ⟨A, c, A2, c2, rfl, -⟩ := hS
  obtain ⟨A3, c3, rfl, -⟩ := TyV.mk_.1 hT
  rw [right_eq]
  rw [if_neg (by decide), if_neg (by decide), if_neg (by decide)]
  clear hT
  generalize e.length = m at *
  by_cases hn : n = []
  · subst hn
    have q0 : (bs ([] : List UInt8)).toList = [] := toList_bs []
    have q1 : ((bs ([] : List UInt8)).toList == []) = true := by rw [toList_bs]; rfl
    by_cases he : m = 0
    · subst he
      by_cases hs : s = 0
      · subst hs
        rw [show (szOk 1 0 && (decide (([] : List UInt8) = []) && decide (0 = 0))) = true by simp [szOk]]
        go_enter Tryz.func32, Tryz.ntmps32
        go_wp2_with fail
        go_ret
        exact ⟨rfl, ab2 _ _ _⟩
      · have qs : (s == 0) = false := by simpa using hs
        rw [show (szOk 1 s && (decide (([] : List UInt8) = []) && decide (0 = 0))) = false by simp [szOk, hs]]
        go_enter Tryz.func32, Tryz.ntmps32
        go_wp2_with fail
        go_ret
        exact ⟨rfl, ab2 _ _ _⟩
    · have qe : ((m : Int) == 0) = false := by simp; omega
      by_cases hs : s = 0
      · subst hs
        rw [show (szOk 1 0 && (decide (([] : List UInt8) = []) && decide (m = 0))) = false by simp [szOk, he]]
        go_enter Tryz.func32, Tryz.ntmps32
        go_wp2_with fail
        go_ret
        exact ⟨rfl, ab2 _ _ _⟩
      · have qs : (s == 0) = false := by simpa using hs
        rw [show (szOk 1 s && (decide (([] : List UInt8) = []) && decide (m = 0))) = false by simp [szOk, he, hs]]
        go_enter Tryz.func32, Tryz.ntmps32
        go_wp2_with fail
        go_ret
        exact ⟨rfl, ab2 _ _ _⟩
  · have q1 : ((bs n).toList == []) = false := by rw [toList_bs, beq_eq_false_iff_ne]; exact hn
    by_cases he : m = 0
    · subst he
      by_cases hs : s = 0
      · subst hs
        rw [show (szOk 1 0 && (decide ((n : List UInt8) = []) && decide (0 = 0))) = false by simp [szOk, hn]]
        go_enter Tryz.func32, Tryz.ntmps32
        go_wp2_with fail
        go_ret
        exact ⟨rfl, ab2 _ _ _⟩
      · have qs : (s == 0) = false := by simpa using hs
        rw [show (szOk 1 s && (decide ((n : List UInt8) = []) && decide (0 = 0))) = false by simp [szOk, hn, hs]]
        go_enter Tryz.func32, Tryz.ntmps32
        go_wp2_with fail
        go_ret
        exact ⟨rfl, ab2 _ _ _⟩
    · have qe : ((m : Int) == 0) = false := by simp; omega
      by_cases hs : s = 0
      · subst hs
        rw [show (szOk 1 0 && (decide ((n : List UInt8) = []) && decide (m = 0))) = false by simp [szOk, hn, he]]
        go_enter Tryz.func32, Tryz.ntmps32
        go_wp2_with fail
        go_ret
        exact ⟨rfl, ab2 _ _ _⟩
      · have qs : (s == 0) = false := by simpa using hs
        rw [show (szOk 1 s && (decide ((n : List UInt8) = []) && decide (m = 0))) = false by simp [szOk, hn, he, hs]]
        go_enter Tryz.func32, Tryz.ntmps32
        go_wp2_with fail
        go_ret
        exact ⟨rfl, ab2 _ _ _⟩
set_option maxRecDepth 100000 in
set_option maxHeartbeats 8000000 in
theorem permits4_any (S : Sch) (s : Int) (n : List UInt8) (e : List Ty) (v u : Value) (w : World) (hS : ScV w S v) (hT : TyV w (.mk 4 s n e) u) (hl : e.length ≤ 9223372036854775807) :
    Calls Tryz.prog 32 #[v, u] w (Ib (.bool (right S (.mk 4 s n e))) w) := by
  obtain ⟨A, c, A2, c2, rfl, -⟩ := hS
  obtain ⟨A3, c3, rfl, -⟩ := TyV.mk_.1 hT
  rw [right_eq]
  rw [if_neg (by decide), if_neg (by decide), if_neg (by decide)]
  clear hT
  generalize e.length = m at *
  by_cases hn : n = []
  · subst hn
    have q0 : (bs ([] : List UInt8)).toList = [] := toList_bs []
    have q1 : ((bs ([] : List UInt8)).toList == []) = true := by rw [toList_bs]; rfl
    by_cases he : m = 0
    · subst he
      by_cases hs : s = 0
      · subst hs
        rw [show (szOk 4 0 && (decide (([] : List UInt8) = []) && decide (0 = 0))) = false by simp [szOk]]
        go_enter Tryz.func32, Tryz.ntmps32
        go_wp2_with fail
        go_ret
        exact ⟨rfl, ab2 _ _ _⟩
      · have qs : (s == 0) = false := by simpa using hs
        by_cases h1 : 1 ≤ s
        · have d1 : decide (1 ≤ s) = true := decide_eq_true h1
          by_cases h2 : s ≤ 2000
          · have d2 : decide (s ≤ 2000) = true := decide_eq_true h2
            have hr : (szOk 4 s && (decide (([] : List UInt8) = []) && decide (0 = 0))) = true := by simp [szOk, h1, h2]
            clear h1 h2 hs
            rw [hr]
            go_enter Tryz.func32, Tryz.ntmps32
            go_wp2_with fail
            go_ret
            exact ⟨rfl, ab2 _ _ _⟩
          · have d2 : decide (s ≤ 2000) = false := decide_eq_false h2
            have hr : (szOk 4 s && (decide (([] : List UInt8) = []) && decide (0 = 0))) = false := by simp [szOk, h2]
            clear h1 h2 hs
            rw [hr]
            go_enter Tryz.func32, Tryz.ntmps32
            go_wp2_with fail
            go_ret
            exact ⟨rfl, ab2 _ _ _⟩
        · have d1 : decide (1 ≤ s) = false := decide_eq_false h1
          have hr : (szOk 4 s && (decide (([] : List UInt8) = []) && decide (0 = 0))) = false := by simp [szOk, h1]
          clear h1 hs
          rw [hr]
          go_enter Tryz.func32, Tryz.ntmps32
          go_wp2_with fail
          go_ret
          exact ⟨rfl, ab2 _ _ _⟩
    · have qe : ((m : Int) == 0) = false := by simp; omega
      by_cases hs : s = 0
      · subst hs
        rw [show (szOk 4 0 && (decide (([] : List UInt8) = []) && decide (m = 0))) = false by simp [szOk]]
        go_enter Tryz.func32, Tryz.ntmps32
        go_wp2_with fail
        go_ret
        exact ⟨rfl, ab2 _ _ _⟩
      · have qs : (s == 0) = false := by simpa using hs
        rw [show (szOk 4 s && (decide (([] : List UInt8) = []) && decide (m = 0))) = false by simp [szOk, he]]
        go_enter Tryz.func32, Tryz.ntmps32
        go_wp2_with fail
        go_ret
        exact ⟨rfl, ab2 _ _ _⟩
  · have q1 : ((bs n).toList == []) = false := by rw [toList_bs, beq_eq_false_iff_ne]; exact hn
    by_cases he : m = 0
    · subst he
      by_cases hs : s = 0
      · subst hs
        rw [show (szOk 4 0 && (decide ((n : List UInt8) = []) && decide (0 = 0))) = false by simp [szOk]]
        go_enter Tryz.func32, Tryz.ntmps32
        go_wp2_with fail
        go_ret
        exact ⟨rfl, ab2 _ _ _⟩
      · have qs : (s == 0) = false := by simpa using hs
        rw [show (szOk 4 s && (decide ((n : List UInt8) = []) && decide (0 = 0))) = false by simp [szOk, hn]]
        go_enter Tryz.func32, Tryz.ntmps32
        go_wp2_with fail
        go_ret
        exact ⟨rfl, ab2 _ _ _⟩
    · have qe : ((m : Int) == 0) = false := by simp; omega
      by_cases hs : s = 0
      · subst hs
        rw [show (szOk 4 0 && (decide ((n : List UInt8) = []) && decide (m = 0))) = false by simp [szOk]]
        go_enter Tryz.func32, Tryz.ntmps32
        go_wp2_with fail
        go_ret
        exact ⟨rfl, ab2 _ _ _⟩
      · have qs : (s == 0) = false := by simpa using hs
        rw [show (szOk 4 s && (decide ((n : List UInt8) = []) && decide (m = 0))) = false by simp [szOk, hn, he]]
        go_enter Tryz.func32, Tryz.ntmps32
        go_wp2_with fail
        go_ret
        exact ⟨rfl, ab2 _ _ _⟩
set_option maxRecDepth 100000 in
set_option maxHeartbeats 8000000 in
theorem permits2_any (S : Sch) (s : Int) (n : List UInt8) (e : List Ty) (v u : Value) (w : World) (hS : ScV w S v) (hT : TyV w (.mk 2 s n e) u) (hl : e.length ≤ 9223372036854775807) :
    Calls Tryz.prog 32 #[v, u] w (Ib (.bool (right S (.mk 2 s n e))) w) := by
  obtain ⟨A, c, A2, c2, rfl, -⟩ := hS
  obtain ⟨A3, c3, rfl, -⟩ := TyV.mk_.1 hT
  rw [right_eq]
  rw [if_neg (by decide), if_neg (by decide), if_neg (by decide)]
  clear hT
  generalize e.length = m at *
  by_cases hn : n = []
  · subst hn
    have q0 : (bs ([] : List UInt8)).toList = [] := toList_bs []
    have q1 : ((bs ([] : List UInt8)).toList == []) = true := by rw [toList_bs]; rfl
    by_cases he : m = 0
    · subst he
      by_cases hs : s = 0
      · subst hs
        have hB := Bx.new4 ((w.alloc (Obj.cells #[.int .i64 S.ver, .slice A S.enums.length c, .slice A2 S.structs.length c2] 25)).alloc (Obj.cells #[.int .i64 2, .int .i64 0, .string (bs []), .slice A3 0 c3] 29)) 3 (.int .i64 8) (.int .i64 16) (.int .i64 32) (.int .i64 64)
        rw [show ((w.alloc (Obj.cells #[.int .i64 S.ver, .slice A S.enums.length c, .slice A2 S.structs.length c2] 25)).alloc (Obj.cells #[.int .i64 2, .int .i64 0, .string (bs []), .slice A3 0 c3] 29)).heap.size = w.heap.size + 1 + 1 by simp] at hB
        have cC := containsInts_any [8, 16, 32, 64] 0 (some ⟨w.heap.size + 1 + 1, 0, none⟩) 4 _ (by simp) (.inr ⟨_, rfl, fun i hi => by
          have hi : i < 4 := hi
          match i, hi with
          | 0, _ => exact hB.c 0 rfl
          | 1, _ => exact hB.c 1 rfl
          | 2, _ => exact hB.c 2 rfl
          | 3, _ => exact hB.c 3 rfl⟩)
        have hr : (szOk 2 0 && (decide (([] : List UInt8) = []) && decide (0 = 0))) = false := by simp [szOk]
        rw [hr]
        clear hr hB
        rw [show ([8, 16, 32, 64] : List Int).contains 0 = false by decide] at cC
        have cC : Calls Tryz.prog 54 #[.slice (some ⟨w.heap.size + 1 + 1, 0, none⟩) 4 4, .int .i64 0] _ _ := cC
        skip
        go_enter Tryz.func32, Tryz.ntmps32
        go_wp2_with fail
        refine cC.mono ?_
        rintro e9 w9 ⟨rfl, rfl⟩
        go_wp2_with fail
        go_ret
        exact ⟨rfl, ab3 _ _ _ _⟩
      · have qs : (s == 0) = false := by simpa using hs
        have hB := Bx.new4 ((w.alloc (Obj.cells #[.int .i64 S.ver, .slice A S.enums.length c, .slice A2 S.structs.length c2] 25)).alloc (Obj.cells #[.int .i64 2, .int .i64 s, .string (bs []), .slice A3 0 c3] 29)) 3 (.int .i64 8) (.int .i64 16) (.int .i64 32) (.int .i64 64)
        rw [show ((w.alloc (Obj.cells #[.int .i64 S.ver, .slice A S.enums.length c, .slice A2 S.structs.length c2] 25)).alloc (Obj.cells #[.int .i64 2, .int .i64 s, .string (bs []), .slice A3 0 c3] 29)).heap.size = w.heap.size + 1 + 1 by simp] at hB
        have cC := containsInts_any [8, 16, 32, 64] s (some ⟨w.heap.size + 1 + 1, 0, none⟩) 4 _ (by simp) (.inr ⟨_, rfl, fun i hi => by
          have hi : i < 4 := hi
          match i, hi with
          | 0, _ => exact hB.c 0 rfl
          | 1, _ => exact hB.c 1 rfl
          | 2, _ => exact hB.c 2 rfl
          | 3, _ => exact hB.c 3 rfl⟩)
        have hr : (szOk 2 s && (decide (([] : List UInt8) = []) && decide (0 = 0))) = [8, 16, 32, 64].contains s := by rw [Bool.eq_iff_iff]; simp [szOk, or_assoc]
        rw [hr]
        clear hr hB
        have cC : Calls Tryz.prog 54 #[.slice (some ⟨w.heap.size + 1 + 1, 0, none⟩) 4 4, .int .i64 s] _ _ := cC
        generalize [8, 16, 32, 64].contains s = r at cC ⊢
        skip
        go_enter Tryz.func32, Tryz.ntmps32
        go_wp2_with fail
        refine cC.mono ?_
        rintro e9 w9 ⟨rfl, rfl⟩
        go_wp2_with fail
        go_ret
        exact ⟨rfl, ab3 _ _ _ _⟩
    · have qe : ((m : Int) == 0) = false := by simp; omega
      by_cases hs : s = 0
      · subst hs
        rw [show (szOk 2 0 && (decide (([] : List UInt8) = []) && decide (m = 0))) = false by simp [he]]
        go_enter Tryz.func32, Tryz.ntmps32
        go_wp2_with fail
        go_ret
        exact ⟨rfl, ab2 _ _ _⟩
      · have qs : (s == 0) = false := by simpa using hs
        rw [show (szOk 2 s && (decide (([] : List UInt8) = []) && decide (m = 0))) = false by simp [he]]
        go_enter Tryz.func32, Tryz.ntmps32
        go_wp2_with fail
        go_ret
        exact ⟨rfl, ab2 _ _ _⟩
  · have q1 : ((bs n).toList == []) = false := by rw [toList_bs, beq_eq_false_iff_ne]; exact hn
    by_cases he : m = 0
    · subst he
      by_cases hs : s = 0
      · subst hs
        rw [show (szOk 2 0 && (decide ((n : List UInt8) = []) && decide (0 = 0))) = false by simp [hn]]
        go_enter Tryz.func32, Tryz.ntmps32
        go_wp2_with fail
        go_ret
        exact ⟨rfl, ab2 _ _ _⟩
      · have qs : (s == 0) = false := by simpa using hs
        rw [show (szOk 2 s && (decide ((n : List UInt8) = []) && decide (0 = 0))) = false by simp [hn]]
        go_enter Tryz.func32, Tryz.ntmps32
        go_wp2_with fail
        go_ret
        exact ⟨rfl, ab2 _ _ _⟩
    · have qe : ((m : Int) == 0) = false := by simp; omega
      by_cases hs : s = 0
      · subst hs
        rw [show (szOk 2 0 && (decide ((n : List UInt8) = []) && decide (m = 0))) = false by simp [hn, he]]
        go_enter Tryz.func32, Tryz.ntmps32
        go_wp2_with fail
        go_ret
        exact ⟨rfl, ab2 _ _ _⟩
      · have qs : (s == 0) = false := by simpa using hs
        rw [show (szOk 2 s && (decide ((n : List UInt8) = []) && decide (m = 0))) = false by simp [hn, he]]
        go_enter Tryz.func32, Tryz.ntmps32
        go_wp2_with fail
        go_ret
        exact ⟨rfl, ab2 _ _ _⟩
set_option maxRecDepth 100000 in
set_option maxHeartbeats 8000000 in
theorem permits3_any (S : Sch) (s : Int) (n : List UInt8) (e : List Ty) (v u : Value) (w : World) (hS : ScV w S v) (hT : TyV w (.mk 3 s n e) u) (hl : e.length ≤ 9223372036854775807) :
    Calls Tryz.prog 32 #[v, u] w (Ib (.bool (right S (.mk 3 s n e))) w) := by
  obtain ⟨A, c, A2, c2, rfl, -⟩ := hS
  obtain ⟨A3, c3, rfl, -⟩ := TyV.mk_.1 hT
  rw [right_eq]
  rw [if_neg (by decide), if_neg (by decide), if_neg (by decide)]
  clear hT
  generalize e.length = m at *
  by_cases hn : n = []
  · subst hn
    have q0 : (bs ([] : List UInt8)).toList = [] := toList_bs []
    have q1 : ((bs ([] : List UInt8)).toList == []) = true := by rw [toList_bs]; rfl
    by_cases he : m = 0
    · subst he
      by_cases hs : s = 0
      · subst hs
        have hB := Bx.new3 ((w.alloc (Obj.cells #[.int .i64 S.ver, .slice A S.enums.length c, .slice A2 S.structs.length c2] 25)).alloc (Obj.cells #[.int .i64 3, .int .i64 0, .string (bs []), .slice A3 0 c3] 29)) 3 (.int .i64 8) (.int .i64 16) (.int .i64 32)
        rw [show ((w.alloc (Obj.cells #[.int .i64 S.ver, .slice A S.enums.length c, .slice A2 S.structs.length c2] 25)).alloc (Obj.cells #[.int .i64 3, .int .i64 0, .string (bs []), .slice A3 0 c3] 29)).heap.size = w.heap.size + 1 + 1 by simp] at hB
        have cC := containsInts_any [8, 16, 32] 0 (some ⟨w.heap.size + 1 + 1, 0, none⟩) 3 _ (by simp) (.inr ⟨_, rfl, fun i hi => by
          have hi : i < 3 := hi
          match i, hi with
          | 0, _ => exact hB.c 0 rfl
          | 1, _ => exact hB.c 1 rfl
          | 2, _ => exact hB.c 2 rfl⟩)
        have hr : (szOk 3 0 && (decide (([] : List UInt8) = []) && decide (0 = 0))) = false := by simp [szOk]
        rw [hr]
        clear hr hB
        rw [show ([8, 16, 32] : List Int).contains 0 = false by decide] at cC
        have cC : Calls Tryz.prog 54 #[.slice (some ⟨w.heap.size + 1 + 1, 0, none⟩) 3 3, .int .i64 0] _ _ := cC
        skip
        go_enter Tryz.func32, Tryz.ntmps32
        go_wp2_with fail
        refine cC.mono ?_
        rintro e9 w9 ⟨rfl, rfl⟩
        go_wp2_with fail
        go_ret
        exact ⟨rfl, ab3 _ _ _ _⟩
      · have qs : (s == 0) = false := by simpa using hs
        have hB := Bx.new3 ((w.alloc (Obj.cells #[.int .i64 S.ver, .slice A S.enums.length c, .slice A2 S.structs.length c2] 25)).alloc (Obj.cells #[.int .i64 3, .int .i64 s, .string (bs []), .slice A3 0 c3] 29)) 3 (.int .i64 8) (.int .i64 16) (.int .i64 32)
        rw [show ((w.alloc (Obj.cells #[.int .i64 S.ver, .slice A S.enums.length c, .slice A2 S.structs.length c2] 25)).alloc (Obj.cells #[.int .i64 3, .int .i64 s, .string (bs []), .slice A3 0 c3] 29)).heap.size = w.heap.size + 1 + 1 by simp] at hB
        have cC := containsInts_any [8, 16, 32] s (some ⟨w.heap.size + 1 + 1, 0, none⟩) 3 _ (by simp) (.inr ⟨_, rfl, fun i hi => by
          have hi : i < 3 := hi
          match i, hi with
          | 0, _ => exact hB.c 0 rfl
          | 1, _ => exact hB.c 1 rfl
          | 2, _ => exact hB.c 2 rfl⟩)
        have hr : (szOk 3 s && (decide (([] : List UInt8) = []) && decide (0 = 0))) = [8, 16, 32].contains s := by rw [Bool.eq_iff_iff]; simp [szOk, or_assoc]
        rw [hr]
        clear hr hB
        have cC : Calls Tryz.prog 54 #[.slice (some ⟨w.heap.size + 1 + 1, 0, none⟩) 3 3, .int .i64 s] _ _ := cC
        generalize [8, 16, 32].contains s = r at cC ⊢
        skip
        go_enter Tryz.func32, Tryz.ntmps32
        go_wp2_with fail
        refine cC.mono ?_
        rintro e9 w9 ⟨rfl, rfl⟩
        go_wp2_with fail
        go_ret
        exact ⟨rfl, ab3 _ _ _ _⟩
    · have qe : ((m : Int) == 0) = false := by simp; omega
      by_cases hs : s = 0
      · subst hs
        rw [show (szOk 3 0 && (decide (([] : List UInt8) = []) && decide (m = 0))) = false by simp [he]]
        go_enter Tryz.func32, Tryz.ntmps32
        go_wp2_with fail
        go_ret
        exact ⟨rfl, ab2 _ _ _⟩
      · have qs : (s == 0) = false := by simpa using hs
        rw [show (szOk 3 s && (decide (([] : List UInt8) = []) && decide (m = 0))) = false by simp [he]]
        go_enter Tryz.func32, Tryz.ntmps32
        go_wp2_with fail
        go_ret
        exact ⟨rfl, ab2 _ _ _⟩
  · have q1 : ((bs n).toList == []) = false := by rw [toList_bs, beq_eq_false_iff_ne]; exact hn
    by_cases he : m = 0
    · subst he
      by_cases hs : s = 0
      · subst hs
        rw [show (szOk 3 0 && (decide ((n : List UInt8) = []) && decide (0 = 0))) = false by simp [hn]]
        go_enter Tryz.func32, Tryz.ntmps32
        go_wp2_with fail
        go_ret
        exact ⟨rfl, ab2 _ _ _⟩
      · have qs : (s == 0) = false := by simpa using hs
        rw [show (szOk 3 s && (decide ((n : List UInt8) = []) && decide (0 = 0))) = false by simp [hn]]
        go_enter Tryz.func32, Tryz.ntmps32
        go_wp2_with fail
        go_ret
        exact ⟨rfl, ab2 _ _ _⟩
    · have qe : ((m : Int) == 0) = false := by simp; omega
      by_cases hs : s = 0
      · subst hs
        rw [show (szOk 3 0 && (decide ((n : List UInt8) = []) && decide (m = 0))) = false by simp [hn, he]]
        go_enter Tryz.func32, Tryz.ntmps32
        go_wp2_with fail
        go_ret
        exact ⟨rfl, ab2 _ _ _⟩
      · have qs : (s == 0) = false := by simpa using hs
        rw [show (szOk 3 s && (decide ((n : List UInt8) = []) && decide (m = 0))) = false by simp [hn, he]]
        go_enter Tryz.func32, Tryz.ntmps32
        go_wp2_with fail
        go_ret
        exact ⟨rfl, ab2 _ _ _⟩
end Go.Proofs.YthfodpbecddheaaGreatDoor
/-
  Types in new memory: what hangs on no memory but the call's own. No conditions beyond those that each names.
-/
namespace Go.Proofs.YthfodpbecddheaaGreatDoor
open Go.RowKit Go.Shelf
/-- The elements lie in new memory. -/
def NwR (lo : Nat) (w : World) (l : List Ty) (A : Option Addr) : Prop := ∀ w', Kpl lo w w' → Rw TyA 4 w' l A
theorem NwR.next {lo : Nat} {w w' : World} {l : List Ty} {A : Option Addr} (h : NwR lo w l A) (k : Kpl lo w w') : NwR lo w' l A := fun w2 k2 => h w2 (k.trans k2)
theorem NwR.rw_ {lo : Nat} {w : World} {l : List Ty} {A : Option Addr} (h : NwR lo w l A) : Rw TyA 4 w l A := h w ⟨Nat.le_refl _, fun _ _ _ => rfl⟩
theorem NwR.nil (lo : Nat) (w : World) (A : Option Addr) : NwR lo w [] A := fun _ _ => .inl rfl
theorem NwR.low {lo hi : Nat} {w : World} {l : List Ty} {A : Option Addr} (h : NwR hi w l A) (hl : lo ≤ hi) : NwR lo w l A := fun w2 k2 => h w2 (k2.mono hl)
/-- The cells of element j. -/
structure EL1 (xs : List Value) (j : Nat) (t : Ty) (A : Option Addr) (c : Nat) : Prop where
  e0 : xs[j * 4]? = some (.int .i64 t.kind)
  e1 : xs[j * 4 + 1]? = some (.int .i64 t.size)
  e2 : xs[j * 4 + 2]? = some (.string (bs t.name))
  e3 : xs[j * 4 + 3]? = some (.slice A t.elem.length c)
def EL (P : Nat → Ty → Option Addr → Prop) (l : List Ty) (xs : List Value) : Prop := ∀ j (h : j < l.length), ∃ A c, EL1 xs j (l[j]'h) A c ∧ P j (l[j]'h) A
theorem news_of {w : World} {b off : Nat} {l : List Ty} (h : ∀ i (h : i < l.length), TyA w (l[i]'h) ((⟨b, off, none⟩ : Addr).add (i * 4))) :
    ∃ xs : List Value, xs.length = l.length * 4 ∧ (∀ j u, xs[j]? = some u → w.cell? ⟨b, off + j, none⟩ = some u) ∧ (∀ u ∈ xs, u.oneCell' = true) ∧ EL (fun _ t A => Rw TyA 4 w t.elem A) l xs := by
  have hcell : ∀ q (hq : q < l.length), w.cell? ⟨b, off + q * 4, none⟩ = some (.int .i64 (l[q]'hq).kind) ∧ w.cell? ⟨b, off + (q * 4 + 1), none⟩ = some (.int .i64 (l[q]'hq).size) ∧ w.cell? ⟨b, off + (q * 4 + 2), none⟩ = some (.string (bs (l[q]'hq).name)) ∧ ∃ A c, w.cell? ⟨b, off + (q * 4 + 3), none⟩ = some (.slice A (l[q]'hq).elem.length c) ∧ Rw TyA 4 w (l[q]'hq).elem A := fun q hq => by
    have := (h q hq).cells
    rw [Addr.add_lit] at this
    simp only [nx1, Nat.add_assoc] at this
    exact this
  have hs : ∀ j, j < l.length * 4 → ∃ u, w.cell? ⟨b, off + j, none⟩ = some u ∧ u.oneCell' = true := fun j hj => by
    have hq : j / 4 < l.length := by omega
    obtain ⟨h0, h1, h2, A, c, h3, -⟩ := hcell (j / 4) hq
    have : j = j / 4 * 4 ∨ j = j / 4 * 4 + 1 ∨ j = j / 4 * 4 + 2 ∨ j = j / 4 * 4 + 3 := by omega
    rcases this with e | e | e | e
    · rw [← e] at h0; exact ⟨_, h0, rfl⟩
    · rw [← e] at h1; exact ⟨_, h1, rfl⟩
    · rw [← e] at h2; exact ⟨_, h2, rfl⟩
    · rw [← e] at h3; exact ⟨_, h3, rfl⟩
  have hget : ∀ j, j < l.length * 4 → ((List.range (l.length * 4)).map fun j => (w.cell? ⟨b, off + j, none⟩).getD undef)[j]? = some ((w.cell? ⟨b, off + j, none⟩).getD undef) := fun j hj => by simp [hj]
  refine ⟨(List.range (l.length * 4)).map fun j => (w.cell? ⟨b, off + j, none⟩).getD undef, by simp, fun j u hu => ?_, fun u hu => ?_, fun q hq => ?_⟩
  · have hj : j < l.length * 4 := by
      have := (List.getElem?_eq_some_iff.1 hu).1
      simpa using this
    rw [hget j hj] at hu
    obtain ⟨v, hv, -⟩ := hs j hj
    rw [hv] at hu ⊢
    exact hu
  · obtain ⟨j, hj, rfl⟩ := List.mem_map.1 hu
    obtain ⟨v, hv, h1⟩ := hs j (List.mem_range.1 hj)
    rw [hv]
    exact h1
  · obtain ⟨h0, h1, h2, A, c, h3, h4⟩ := hcell q hq
    refine ⟨A, c, ⟨?_, ?_, ?_, ?_⟩, h4⟩
    · rw [hget _ (by omega), h0]; rfl
    · rw [hget _ (by omega), h1]; rfl
    · rw [hget _ (by omega), h2]; rfl
    · rw [hget _ (by omega), h3]; rfl
/-- Four cells are set anew. -/
def set4 (xs : List Value) (k : Nat) (v0 v1 v2 v3 : Value) : List Value := (((xs.set (k * 4) v0).set (k * 4 + 1) v1).set (k * 4 + 2) v2).set (k * 4 + 3) v3
theorem set4_other {xs : List Value} {k i : Nat} (v0 v1 v2 v3 : Value) (h : ¬ (k * 4 ≤ i ∧ i ≤ k * 4 + 3)) : (set4 xs k v0 v1 v2 v3)[i]? = xs[i]? := by
  unfold set4
  rw [List.getElem?_set_ne (by omega), List.getElem?_set_ne (by omega), List.getElem?_set_ne (by omega), List.getElem?_set_ne (by omega)]
theorem EL1.set_other {xs : List Value} {j k : Nat} {t : Ty} {A : Option Addr} {c : Nat} (h : EL1 xs j t A c) (hne : j ≠ k) (v0 v1 v2 v3 : Value) : EL1 (set4 xs k v0 v1 v2 v3) j t A c :=
  ⟨(set4_other _ _ _ _ (by omega)).trans h.e0, (set4_other _ _ _ _ (by omega)).trans h.e1, (set4_other _ _ _ _ (by omega)).trans h.e2, (set4_other _ _ _ _ (by omega)).trans h.e3⟩
theorem EL1.set_same {xs : List Value} {k n : Nat} (t : Ty) (A : Option Addr) (c : Nat) (hl : xs.length = n * 4) (hk : k < n) : EL1 (set4 xs k (.int .i64 t.kind) (.int .i64 t.size) (.string (bs t.name)) (.slice A t.elem.length c)) k t A c := by
  unfold set4
  refine ⟨?_, ?_, ?_, ?_⟩
  · rw [List.getElem?_set_ne (by omega), List.getElem?_set_ne (by omega), List.getElem?_set_ne (by omega), List.getElem?_set_self (by omega)]
  · rw [List.getElem?_set_ne (by omega), List.getElem?_set_ne (by omega), List.getElem?_set_self (by simp; omega)]
  · rw [List.getElem?_set_ne (by omega), List.getElem?_set_self (by simp; omega)]
  · rw [List.getElem?_set_self (by simp; omega)]
theorem set4_len (xs : List Value) (k : Nat) (v0 v1 v2 v3 : Value) : (set4 xs k v0 v1 v2 v3).length = xs.length := by unfold set4; simp
/-- A row of the call's own whose elements lie in new memory is one. -/
theorem NwR.row {w : World} {lo g n cap : Nat} {e : TypeId} {l : List Ty} {xs : List Value} (hn : l.length = n) (ho : w.ownsRow lo e 4 (.slice (some ⟨g, 0, none⟩) n cap) n xs) (h : EL (fun _ t A => NwR (g + 1) w t.elem A) l xs) : NwR lo w l (some ⟨g, 0, none⟩) := fun w' k => by
  have hg := ho.lt g rfl
  refine .inr ⟨_, rfl, fun i hi => ?_⟩
  obtain ⟨A, c, hE, hP⟩ := h i hi
  have hc : ∀ j u, j < n * 4 → xs[j]? = some u → w'.cell? ⟨g, j, none⟩ = some u := fun j u hj hu => by
    rw [World.cell?_of_block (w := w) (k.blk g hg.1 hg.2), ho.cellAt j hj, hu]
  rw [Addr.add_lit, Nat.zero_add]
  exact TyA.of (hc (i * 4) _ (by omega) hE.e0) (hc (i * 4 + 1) _ (by omega) hE.e1) (hc (i * 4 + 2) _ (by omega) hE.e2) (hc (i * 4 + 3) _ (by omega) hE.e3) (hP w' (k.mono (by omega)))
/-- A type in new memory. -/
def NtP (t : Ty) (w : World) (e : Ending) (w' : World) : Prop := ∃ A c, e = .returned (.agg #[.int .i64 t.kind, .int .i64 t.size, .string (bs t.name), .slice A t.elem.length c]) ∧ NwR w.heap.size w' t.elem A ∧ Below w.heap.size w w'
def EtP (l : List Ty) (w : World) (e : Ending) (w' : World) : Prop := ∃ A c, e = .returned (.slice A l.length c) ∧ NwR w.heap.size w' l A ∧ Below w.heap.size w w'
theorem info104 : (Tryz.prog.info? 29).map (fun i => (i.zero, i.size, i.bytes)) = some (some (.agg #[.int .i64 0, .int .i64 0, .string ⟨#[]⟩, .slice none 0 0]), 4, 56) := by kernel_rfl
/-- A copy of a list of types. -/
def ClT (n : Nat) (xs : List Value) (w : World) (e : Ending) (w' : World) : Prop := ∃ v', e = .returned v' ∧ w'.ownsRow w.heap.size 29 4 v' n xs ∧ Below w.heap.size w w'
set_option maxRecDepth 100000 in
set_option maxHeartbeats 2000000 in
theorem cloneZero_any (A : Option Addr) (c : Nat) (w : World) : Calls Tryz.prog 209 #[.slice A 0 c] w (ClT 0 [] w) := by
  cases A with
  | none => exact (AnyE.slices_Clone_nil Tryz.clone209 0 c w).mono fun e w' ⟨h1, h2⟩ => ⟨_, h1, World.ownsRow_nil _ _ _ _, by rw [h2]; exact Below.refl _ _⟩
  | some a =>
    obtain ⟨i, hi, hz, hs5, hby⟩ := info_parts info104
    have q22 : ∀ (w : World) (a : Option Addr) (n c n' c' : Nat), (binOp .eql 27 (.slice a n c) (.slice none n' c')).run Tryz.prog w = .ok (.bool a.isNone) w := fun w a n c n' c' => Lib.run_eql_slice_nil w _ _ a n c n' c' Tryz.underlying27
    go_enter Tryz.func209, Tryz.ntmps209
    go_wp2_with (at_builtin; refine wpList_append_own _ rfl _ _ 27 rfl w.heap.size 29 i _ 4 56 Tryz.underlying27 hi hz hs5 hby rfl (by decide) _ _ _ rfl (World.ownsRow_made w #[] 0 (Nat.le_refl _) (Nat.zero_le _) rfl) a 0 c [] rfl rfl (by intro j u hj; simp at hj) (by intro u hu; cases hu) (by unfold maxLen; omega) (by omega) (by simp) ?_)
    intro v' w1 hown hgrow hnil
    go_wp2
    go_ret
    exact ⟨v', rfl, by simpa using hown, ((Below.refl _ w).alloc (Nat.le_refl _) _).grown hgrow (by simp) (by intro k hk; simp [Value.ownBlock] at hk; omega)⟩
theorem cloneType_any (l : List Ty) (A : Option Addr) (c : Nat) (w : World) (hl : l.length ≤ 1000000) (hR : Rw TyA 4 w l A) :
    Calls Tryz.prog 209 #[.slice A l.length c] w fun e w' => ∃ xs, EL (fun _ t A => Rw TyA 4 w t.elem A) l xs ∧ xs.length = l.length * 4 ∧ ClT l.length xs w e w' := by
  by_cases h0 : l = []
  · subst h0
    exact (cloneZero_any A c w).mono fun e w' h => ⟨[], fun j h => absurd h (Nat.not_lt_zero _), rfl, h⟩
  · rcases hR with h | ⟨a, rfl, h⟩
    · exact absurd h h0
    · have h1 : 0 < l.length := List.length_pos_iff.2 h0
      have hs : a.spot = none := by
        have := spot_none0 ((h 0 h1).cells.1)
        simpa [Addr.add] using this
      obtain ⟨b, off, s⟩ := a
      have hs : s = none := hs
      subst hs
      obtain ⟨xs, hx1, hx2, hx3, hx4⟩ := news_of h
      obtain ⟨i, hi, hz, hs5, hby⟩ := info_parts info104
      exact (AnyE.slices_Clone Tryz.clone209 i _ 4 56 hi hz hs5 hby rfl (by decide) Tryz.sizeOf29 b off l.length c xs w hx1 (by unfold maxLen; omega) (by omega) hx2 hx3).mono fun e w' ⟨v', e1, e2, _, e4⟩ => ⟨xs, hx4, hx1, v', e1, e2, e4⟩
end Go.Proofs.YthfodpbecddheaaGreatDoor
/-
  The developers' types in new memory: newType, each. No conditions beyond those that each names.
-/
namespace Go.Proofs.YthfodpbecddheaaGreatDoor
open Go.RowKit Go.Shelf
/-- The condition on the elements of a row that is renewed: those before number k lie in new memory. -/
def Rn (w0 : World) (g : Nat) (w : World) (k : Nat) (j : Nat) (t : Ty) (A : Option Addr) : Prop := if j < k then NwR (g + 1) w t.elem A else Rw TyA 4 w0 t.elem A
theorem Rn.next {w0 : World} {g k : Nat} {w w' : World} {l : List Ty} {xs : List Value} (h : EL (Rn w0 g w k) l xs) (hk : Kpl (g + 1) w w') : EL (Rn w0 g w' k) l xs := fun j hj => by
  obtain ⟨A, c, h1, h2⟩ := h j hj
  refine ⟨A, c, h1, ?_⟩
  unfold Rn at h2 ⊢
  split
  · rename_i e; rw [if_pos e] at h2; exact h2.next hk
  · rename_i e; rw [if_neg e] at h2; exact h2
theorem Rn.step {w0 : World} {g k n : Nat} {w : World} {l : List Ty} {xs : List Value} (h : EL (Rn w0 g w k) l xs) (hx : xs.length = n * 4) (hn : l.length = n) (hk : k < l.length) {A : Option Addr} {c : Nat} (hA : NwR (g + 1) w (l[k]'hk).elem A) :
    EL (Rn w0 g w (k + 1)) l (set4 xs k (.int .i64 (l[k]'hk).kind) (.int .i64 (l[k]'hk).size) (.string (bs (l[k]'hk).name)) (.slice A (l[k]'hk).elem.length c)) := fun j hj => by
  by_cases e : j = k
  · subst e
    exact ⟨A, c, EL1.set_same _ _ _ hx (by omega), by unfold Rn; rw [if_pos (Nat.lt_succ_self _)]; exact hA⟩
  · obtain ⟨A', c', h1, h2⟩ := h j hj
    refine ⟨A', c', h1.set_other e _ _ _ _, ?_⟩
    unfold Rn at h2 ⊢
    by_cases e2 : j < k
    · rw [if_pos e2] at h2; rw [if_pos (by omega)]; exact h2
    · rw [if_neg e2] at h2; rw [if_neg (by omega)]; exact h2
theorem stored4 {w : World} {base g n cap : Nat} {e : TypeId} {xs : List Value} (h : w.ownsRow base e 4 (.slice (some ⟨g, 0, none⟩) n cap) n xs) (k : Nat) (v0 v1 v2 v3 : Value) :
    ((((w.setCell ⟨g, k * 4, none⟩ v0).setCell ⟨g, k * 4 + 1, none⟩ v1).setCell ⟨g, k * 4 + 2, none⟩ v2).setCell ⟨g, k * 4 + 3, none⟩ v3).ownsRow base e 4 (.slice (some ⟨g, 0, none⟩) n cap) n (set4 xs k v0 v1 v2 v3) ∧
      w.grownBy ((((w.setCell ⟨g, k * 4, none⟩ v0).setCell ⟨g, k * 4 + 1, none⟩ v1).setCell ⟨g, k * 4 + 2, none⟩ v2).setCell ⟨g, k * 4 + 3, none⟩ v3) (some g) := by
  obtain ⟨h1, g1⟩ := h.stored (k * 4) v0
  obtain ⟨h2, g2⟩ := h1.stored (k * 4 + 1) v1
  obtain ⟨h3, g3⟩ := h2.stored (k * 4 + 2) v2
  obtain ⟨h4, g4⟩ := h3.stored (k * 4 + 3) v3
  exact ⟨h4, ((g1.trans g2).trans g3).trans g4⟩
set_option maxRecDepth 100000 in
set_option maxHeartbeats 4000000 in
theorem eachType_any (l : List Ty) (A : Option Addr) (c : Nat) (w : World) (hl : l.length ≤ 1000000) (hR : Rw TyA 4 w l A)
    (hc : ∀ i (h : i < l.length) v w', TyV w' (l[i]'h) v → Calls Tryz.prog 175 #[v] w' (NtP (l[i]'h) w')) :
    Calls Tryz.prog 198 #[.slice A l.length c, .func (.func 175) #[] #[]] w (EtP l w) := by
  have cC := cloneType_any l A c w hl hR
  unfold EtP
  obtain ⟨n, hn⟩ : ∃ n, l.length = n := ⟨_, rfl⟩
  have HN := Lib.hid hn
  rw [hn] at cC hl ⊢
  clear hn
  go_enter Tryz.func198, Tryz.ntmps198
  go_wp2_with fail
  refine cC.mono ?_
  rintro e w1 ⟨xs, hE, hxl, v', rfl, hown, hb1⟩
  clear cC
  by_cases h0 : n = 0
  · subst h0
    obtain ⟨-, hh⟩ := hown
    have hv : ∃ B d, v' = .slice B 0 d := by
      rcases hh with ⟨h, -⟩ | ⟨g, cap, cur, h, -⟩
      · exact ⟨_, _, h⟩
      · exact ⟨_, _, h⟩
    obtain ⟨B, d, rfl⟩ := hv
    have hnil : l = [] := List.eq_nil_of_length_eq_zero HN.out
    clear hc hh
    go_wp2_with fail
    go_loopw [12] (fun i wr => i = .int .i64 0 ∧ Below w.heap.size w wr) (fun _ _ => 0)
    case atStart => exact ⟨rfl, hb1⟩
    case round =>
      obtain ⟨rfl, hb⟩ := hrel
      go_wp2_with fail
      go_ret
      exact ⟨B, d, rfl, by rw [hnil]; exact NwR.nil _ _ _, hb⟩
  · have hv : ∃ g d, v' = .slice (some ⟨g, 0, none⟩) n d := by
      rcases hown.2 with ⟨-, h⟩ | ⟨g, cap, cur, h, -⟩
      · exact absurd h h0
      · exact ⟨_, _, h⟩
    obtain ⟨g, d, rfl⟩ := hv
    have hg := hown.lt g rfl
    have HE : Hid (EL (Rn w g w1 0) l xs) := Lib.hid fun j hj => by
      obtain ⟨A', c', h1, h2⟩ := hE j hj
      exact ⟨A', c', h1, by unfold Rn; rw [if_neg (by omega)]; exact h2⟩
    clear hE
    go_wp2_with fail
    go_loopw [12] (fun i wr => ∃ (k : Nat) (ys : List Value), k ≤ n ∧ i = .int .i64 (k : Int) ∧ Hid (EL (Rn w g wr k) l ys) ∧ ys.length = n * 4 ∧ wr.ownsRow w.heap.size 29 4 (.slice (some ⟨g, 0, none⟩) n d) n ys ∧ Below w.heap.size w wr) (fun i _ => n - (intOf i).toNat)
    case atStart => exact ⟨0, xs, by omega, rfl, HE, hxl, hown, hb1⟩
    case round =>
      clear HE hown hb1 hxl
      obtain ⟨k, ys, hk, rfl, HE, hyl, hown, hb⟩ := hrel
      by_cases hlt : k < n
      · have hkl : k < l.length := by rw [HN.out]; exact hlt
        obtain ⟨A3, c3, hE1, hP⟩ := HE.out k hkl
        have hP : Rw TyA 4 w (l[k]'hkl).elem A3 := by unfold Rn at hP; rw [if_neg (by omega)] at hP; exact hP
        have e0 : wr.cell? ⟨g, k * 4, none⟩ = _ := (hown.cellAt (k * 4) (by omega)).trans hE1.e0
        have e1 : wr.cell? ⟨g, k * 4 + 1, none⟩ = _ := (hown.cellAt (k * 4 + 1) (by omega)).trans hE1.e1
        have e2 : wr.cell? ⟨g, k * 4 + 2, none⟩ = _ := (hown.cellAt (k * 4 + 2) (by omega)).trans hE1.e2
        have e3 : wr.cell? ⟨g, k * 4 + 3, none⟩ = _ := (hown.cellAt (k * 4 + 3) (by omega)).trans hE1.e3
        have hgl := (hown.lt g rfl).2
        have hstep := fun W A9 c9 (hE9 : EL (Rn w g W k) l ys) => Rn.step (c := c9) (A := A9) hE9 hyl HN.out hkl
        have HS := Lib.hid hstep
        have cN := hc k hkl
        generalize l[k]'hkl = t at *
        have hW1 := ab1 wr (Obj.cells #[.int .i64 t.kind, .int .i64 t.size, .string (bs t.name), .slice A3 t.elem.length c3] 29)
        have cN2 := cN _ (wr.alloc (Obj.cells #[.int .i64 t.kind, .int .i64 t.size, .string (bs t.name), .slice A3 t.elem.length c3] 29)) ⟨A3, c3, rfl, hP.next (fun x p => TyA.next (Below.next hb hW1) x p)⟩
        have hz : wr.heap.size ≤ (wr.alloc (Obj.cells #[.int .i64 t.kind, .int .i64 t.size, .string (bs t.name), .slice A3 t.elem.length c3] 29)).heap.size := hW1.size
        clear hstep cN hE1 hP hkl
        go_wp2_with fail
        refine cN2.mono ?_
        rintro e w3 ⟨A9, c9, rfl, hN9, hb9⟩
        have hb3 := Below.next hW1 hb9
        have hb4 := Below.next hb hb3
        have hown3 := hown.kept (gbq_of hb3 none) (.inr (by simp [Value.ownBlock]))
        have f0 := hown3.frozenAt (k * 4)
        have f1 := hown3.frozenAt (k * 4 + 1)
        have f2 := hown3.frozenAt (k * 4 + 2)
        have f3 := hown3.frozenAt (k * 4 + 3)
        replace e0 := cell_next hb3 e0
        replace e1 := cell_next hb3 e1
        replace e2 := cell_next hb3 e2
        replace e3 := cell_next hb3 e3
        obtain ⟨hst, hgr⟩ := stored4 hown3 k (.int .i64 t.kind) (.int .i64 t.size) (.string (bs t.name)) (.slice A9 t.elem.length c9)
        have hE3 := Rn.next HE.out (Kpl.of (lo := g + 1) hb3)
        have hN3 : NwR (g + 1) w3 t.elem A9 := hN9.low (Nat.le_trans (Nat.succ_le_of_lt hgl) hz)
        have hE4 := Lib.hid (HS.out _ A9 c9 (Rn.next hE3 (Kpl.gb hgr (Nat.lt_succ_self _))) (hN3.next (Kpl.gb hgr (Nat.lt_succ_self _))))
        have hb5 := hb4.grown hgr hb4.size (fun j hj => by cases hj; exact (hown.lt g rfl).1)
        clear cN2 hW1 hb3 hb9 hb hown hE3
        go_wp2_with fail
        go_roundw
        case rel => exact ⟨k + 1, _, by omega, by go_num, hE4, by rw [set4_len]; exact hyl, hst, hb5⟩
        case measure => simp [intOf]; omega
      · obtain rfl : k = n := by omega
        have hF := NwR.row HN.out hown (fun j hj => by
          obtain ⟨A', c', h1, h2⟩ := HE.out j hj
          unfold Rn at h2
          rw [if_pos (by rw [← HN.out]; exact hj)] at h2
          exact ⟨A', c', h1, h2⟩)
        clear hc HE
        go_wp2_with fail
        go_ret
        exact ⟨_, _, rfl, hF, hb⟩
set_option maxRecDepth 100000 in
set_option maxHeartbeats 4000000 in
theorem newType_any (N : Nat) : ∀ (t : Ty) (v : Value) (w : World), SizeOf.sizeOf t < N → fewT t = true → TyV w t v →
    Calls Tryz.prog 175 #[v] w (NtP t w) := by
  induction N with
  | zero => intro t v w h; omega
  | succ N ih =>
    intro t v w hN hf hv
    rw [fewT_eq] at hf
    simp only [Bool.and_eq_true, decide_eq_true_eq, List.all_eq_true] at hf
    obtain ⟨A, c, rfl, hR⟩ := hv
    have hs1 := fun i h => size_elem (t := t) (i := i) h
    have z1 : (w.alloc (Obj.cells #[.int .i64 t.kind, .int .i64 t.size, .string (bs t.name), .slice A t.elem.length c] 29)).heap.size = w.heap.size + 1 := by simp
    have hab := ab2 w (Obj.cells #[.int .i64 t.kind, .int .i64 t.size, .string (bs t.name), .slice A t.elem.length c] 29) (Obj.cells #[.int .i64 0, .int .i64 0, .string ⟨#[]⟩, .slice none 0 0] 29)
    have B1 := (Bx.new4 w 29 (.int .i64 t.kind) (.int .i64 t.size) (.string (bs t.name)) (.slice A t.elem.length c)).next (ab1 _ (Obj.cells #[.int .i64 0, .int .i64 0, .string ⟨#[]⟩, .slice none 0 0] 29))
    have B2 := Bx.new4 (w.alloc (Obj.cells #[.int .i64 t.kind, .int .i64 t.size, .string (bs t.name), .slice A t.elem.length c] 29)) 29 (.int .i64 0) (.int .i64 0) (.string ⟨#[]⟩) (.slice none 0 0)
    rw [z1] at B2
    have cE := eachType_any t.elem A c _ (by omega) (hR.next fun x p => TyA.next hab x p) (fun i h v w' hV => ih _ v w' (by have := hs1 i h; omega) (hf.2.2.2 _ (List.getElem_mem h)) hV)
    have hz : w.heap.size + 1 + 1 ≤ ((w.alloc (Obj.cells #[.int .i64 t.kind, .int .i64 t.size, .string (bs t.name), .slice A t.elem.length c] 29)).alloc (Obj.cells #[.int .i64 0, .int .i64 0, .string ⟨#[]⟩, .slice none 0 0] 29)).heap.size := by simp
    unfold NtP
    clear ih hs1 hf hR z1 hN
    generalize t.elem = e at *
    go_enter Tryz.func175, Tryz.ntmps175
    go_wp2_with fail
    refine cE.mono ?_
    rintro e3 w3 ⟨A9, c9, rfl, hN9, hb9⟩
    have hb3 := Below.next hab hb9
    have C1 := B1.next hb9
    have C2 := B2.next hb9
    have p0 := C1.c 0 rfl
    have p1 := C1.c 1 rfl
    have p2 := C1.c 2 rfl
    have p3 := C1.c 3 rfl
    have f3 := C1.f 3 rfl
    have r0 := C2.c 0 rfl
    have r1 := C2.c 1 rfl
    have r2 := C2.c 2 rfl
    have r3 := C2.c 3 rfl
    have s0 := C2.f 0 rfl
    have s1 := C2.f 1 rfl
    have s2 := C2.f 2 rfl
    have s3 := C2.f 3 rfl
    have l1 := C1.lt
    have l2 := C2.lt
    clear cE
    go_wp2_with fail
    refine bodyPost_ret (v := .agg #[.int .i64 t.kind, .int .i64 t.size, .string (bs t.name), .slice A9 e.length c9]) (by simp [results, Tryz.results175, go_sem, r0, r1, r2, r3]) rfl ⟨A9, c9, rfl, ?_, ?_⟩
    · refine (hN9.next ?_).low hab.size
      exact ((((Kpl.of (Below.refl _ _)).set (by show w.heap.size < _; omega) _).set (by show w.heap.size + 1 < _; omega) _).set (by show w.heap.size + 1 < _; omega) _ |>.set (by show w.heap.size + 1 < _; omega) _).set (by show w.heap.size + 1 < _; omega) _
    · exact ((((hb3.setCell (by simp) _).setCell (by simp) _).setCell (by simp) _).setCell (by simp) _).setCell (by simp) _
end Go.Proofs.YthfodpbecddheaaGreatDoor
/-
  The developers' fields in new memory: newField, each. No conditions beyond those that each names.
-/
namespace Go.Proofs.YthfodpbecddheaaGreatDoor
open Go.RowKit Go.Shelf
/-- The fields lie in new memory. -/
def NwF (lo : Nat) (w : World) (l : List Fd) (A : Option Addr) : Prop := ∀ w', Kpl lo w w' → Rw FdA 7 w' l A
theorem NwF.next {lo : Nat} {w w' : World} {l : List Fd} {A : Option Addr} (h : NwF lo w l A) (k : Kpl lo w w') : NwF lo w' l A := fun w2 k2 => h w2 (k.trans k2)
theorem NwF.rw_ {lo : Nat} {w : World} {l : List Fd} {A : Option Addr} (h : NwF lo w l A) : Rw FdA 7 w l A := h w ⟨Nat.le_refl _, fun _ _ _ => rfl⟩
theorem NwF.nil (lo : Nat) (w : World) (A : Option Addr) : NwF lo w [] A := fun _ _ => .inl rfl
theorem NwF.low {lo hi : Nat} {w : World} {l : List Fd} {A : Option Addr} (h : NwF hi w l A) (hl : lo ≤ hi) : NwF lo w l A := fun w2 k2 => h w2 (k2.mono hl)
/-- The cells of element j. -/
structure FL1 (xs : List Value) (j : Nat) (t : Fd) (A : Option Addr) (c : Nat) : Prop where
  e0 : xs[j * 7]? = some (.int .i64 t.num)
  e1 : xs[j * 7 + 1]? = some (.string (bs t.name))
  e2 : xs[j * 7 + 2]? = some (.int .i64 t.type.kind)
  e3 : xs[j * 7 + 3]? = some (.int .i64 t.type.size)
  e4 : xs[j * 7 + 4]? = some (.string (bs t.type.name))
  e5 : xs[j * 7 + 5]? = some (.slice A t.type.elem.length c)
  e6 : xs[j * 7 + 6]? = some (.bool t.opt)
def FL (P : Nat → Fd → Option Addr → Prop) (l : List Fd) (xs : List Value) : Prop := ∀ j (h : j < l.length), ∃ A c, FL1 xs j (l[j]'h) A c ∧ P j (l[j]'h) A
theorem newsF_of {w : World} {b off : Nat} {l : List Fd} (h : ∀ i (h : i < l.length), FdA w (l[i]'h) ((⟨b, off, none⟩ : Addr).add (i * 7))) :
    ∃ xs : List Value, xs.length = l.length * 7 ∧ (∀ j u, xs[j]? = some u → w.cell? ⟨b, off + j, none⟩ = some u) ∧ (∀ u ∈ xs, u.oneCell' = true) ∧ FL (fun _ t A => Rw TyA 4 w t.type.elem A) l xs := by
  have hcell : ∀ q (hq : q < l.length), w.cell? ⟨b, off + q * 7, none⟩ = some (.int .i64 (l[q]'hq).num) ∧ w.cell? ⟨b, off + (q * 7 + 1), none⟩ = some (.string (bs (l[q]'hq).name)) ∧ w.cell? ⟨b, off + (q * 7 + 2), none⟩ = some (.int .i64 (l[q]'hq).type.kind) ∧ w.cell? ⟨b, off + (q * 7 + 3), none⟩ = some (.int .i64 (l[q]'hq).type.size) ∧ w.cell? ⟨b, off + (q * 7 + 4), none⟩ = some (.string (bs (l[q]'hq).type.name)) ∧ ∃ A c, w.cell? ⟨b, off + (q * 7 + 5), none⟩ = some (.slice A (l[q]'hq).type.elem.length c) ∧ w.cell? ⟨b, off + (q * 7 + 6), none⟩ = some (.bool (l[q]'hq).opt) ∧ Rw TyA 4 w (l[q]'hq).type.elem A := fun q hq => by
    obtain ⟨h0, h1, h2, h3, h4, ⟨A, c, h5, h6⟩, h7⟩ := h q hq
    rw [Addr.add_lit] at h0 h1 h2 h3 h4 h5 h7
    simp only [nx1, Nat.add_assoc] at h1 h2 h3 h4 h5 h7
    exact ⟨h0, h1, h2, h3, h4, A, c, h5, h7, h6⟩
  have hs : ∀ j, j < l.length * 7 → ∃ u, w.cell? ⟨b, off + j, none⟩ = some u ∧ u.oneCell' = true := fun j hj => by
    have hq : j / 7 < l.length := by omega
    obtain ⟨h0, h1, h2, h3, h4, A, c, h5, h6, -⟩ := hcell (j / 7) hq
    have : j = j / 7 * 7 ∨ j = j / 7 * 7 + 1 ∨ j = j / 7 * 7 + 2 ∨ j = j / 7 * 7 + 3 ∨ j = j / 7 * 7 + 4 ∨ j = j / 7 * 7 + 5 ∨ j = j / 7 * 7 + 6 := by omega
    rcases this with e | e | e | e | e | e | e
    · rw [← e] at h0; exact ⟨_, h0, rfl⟩
    · rw [← e] at h1; exact ⟨_, h1, rfl⟩
    · rw [← e] at h2; exact ⟨_, h2, rfl⟩
    · rw [← e] at h3; exact ⟨_, h3, rfl⟩
    · rw [← e] at h4; exact ⟨_, h4, rfl⟩
    · rw [← e] at h5; exact ⟨_, h5, rfl⟩
    · rw [← e] at h6; exact ⟨_, h6, rfl⟩
  have hget : ∀ j, j < l.length * 7 → ((List.range (l.length * 7)).map fun j => (w.cell? ⟨b, off + j, none⟩).getD undef)[j]? = some ((w.cell? ⟨b, off + j, none⟩).getD undef) := fun j hj => by simp [hj]
  refine ⟨(List.range (l.length * 7)).map fun j => (w.cell? ⟨b, off + j, none⟩).getD undef, by simp, fun j u hu => ?_, fun u hu => ?_, fun q hq => ?_⟩
  · have hj : j < l.length * 7 := by
      have := (List.getElem?_eq_some_iff.1 hu).1
      simpa using this
    rw [hget j hj] at hu
    obtain ⟨v, hv, -⟩ := hs j hj
    rw [hv] at hu ⊢
    exact hu
  · obtain ⟨j, hj, rfl⟩ := List.mem_map.1 hu
    obtain ⟨v, hv, h1⟩ := hs j (List.mem_range.1 hj)
    rw [hv]
    exact h1
  · obtain ⟨h0, h1, h2, h3, h4, A, c, h5, h6, h7⟩ := hcell q hq
    refine ⟨A, c, ⟨?_, ?_, ?_, ?_, ?_, ?_, ?_⟩, h7⟩
    · rw [hget _ (by omega), h0]; rfl
    · rw [hget _ (by omega), h1]; rfl
    · rw [hget _ (by omega), h2]; rfl
    · rw [hget _ (by omega), h3]; rfl
    · rw [hget _ (by omega), h4]; rfl
    · rw [hget _ (by omega), h5]; rfl
    · rw [hget _ (by omega), h6]; rfl
/-- Seven cells are set anew. -/
def set7 (xs : List Value) (k : Nat) (v0 v1 v2 v3 v4 v5 v6 : Value) : List Value := (((((((xs.set (k * 7) v0).set (k * 7 + 1) v1).set (k * 7 + 2) v2).set (k * 7 + 3) v3).set (k * 7 + 4) v4).set (k * 7 + 5) v5).set (k * 7 + 6) v6)
theorem set7_other {xs : List Value} {k i : Nat} (v0 v1 v2 v3 v4 v5 v6 : Value) (h : ¬ (k * 7 ≤ i ∧ i ≤ k * 7 + 6)) : (set7 xs k v0 v1 v2 v3 v4 v5 v6)[i]? = xs[i]? := by
  unfold set7
  rw [List.getElem?_set_ne (by omega), List.getElem?_set_ne (by omega), List.getElem?_set_ne (by omega), List.getElem?_set_ne (by omega), List.getElem?_set_ne (by omega), List.getElem?_set_ne (by omega), List.getElem?_set_ne (by omega)]
theorem FL1.set_other {xs : List Value} {j k : Nat} {t : Fd} {A : Option Addr} {c : Nat} (h : FL1 xs j t A c) (hne : j ≠ k) (v0 v1 v2 v3 v4 v5 v6 : Value) : FL1 (set7 xs k v0 v1 v2 v3 v4 v5 v6) j t A c :=
  ⟨(set7_other _ _ _ _ _ _ _ (by omega)).trans h.e0, (set7_other _ _ _ _ _ _ _ (by omega)).trans h.e1, (set7_other _ _ _ _ _ _ _ (by omega)).trans h.e2, (set7_other _ _ _ _ _ _ _ (by omega)).trans h.e3, (set7_other _ _ _ _ _ _ _ (by omega)).trans h.e4, (set7_other _ _ _ _ _ _ _ (by omega)).trans h.e5, (set7_other _ _ _ _ _ _ _ (by omega)).trans h.e6⟩
theorem FL1.set_same {xs : List Value} {k n : Nat} (t : Fd) (A : Option Addr) (c : Nat) (hl : xs.length = n * 7) (hk : k < n) : FL1 (set7 xs k (.int .i64 t.num) (.string (bs t.name)) (.int .i64 t.type.kind) (.int .i64 t.type.size) (.string (bs t.type.name)) (.slice A t.type.elem.length c) (.bool t.opt)) k t A c := by
  unfold set7
  refine ⟨?_, ?_, ?_, ?_, ?_, ?_, ?_⟩
  · rw [List.getElem?_set_ne (by omega), List.getElem?_set_ne (by omega), List.getElem?_set_ne (by omega), List.getElem?_set_ne (by omega), List.getElem?_set_ne (by omega), List.getElem?_set_ne (by omega), List.getElem?_set_self (by first | omega | (simp; omega))]
  · rw [List.getElem?_set_ne (by omega), List.getElem?_set_ne (by omega), List.getElem?_set_ne (by omega), List.getElem?_set_ne (by omega), List.getElem?_set_ne (by omega), List.getElem?_set_self (by first | omega | (simp; omega))]
  · rw [List.getElem?_set_ne (by omega), List.getElem?_set_ne (by omega), List.getElem?_set_ne (by omega), List.getElem?_set_ne (by omega), List.getElem?_set_self (by first | omega | (simp; omega))]
  · rw [List.getElem?_set_ne (by omega), List.getElem?_set_ne (by omega), List.getElem?_set_ne (by omega), List.getElem?_set_self (by first | omega | (simp; omega))]
  · rw [List.getElem?_set_ne (by omega), List.getElem?_set_ne (by omega), List.getElem?_set_self (by first | omega | (simp; omega))]
  · rw [List.getElem?_set_ne (by omega), List.getElem?_set_self (by first | omega | (simp; omega))]
  · rw [List.getElem?_set_self (by first | omega | (simp; omega))]
theorem set7_len (xs : List Value) (k : Nat) (v0 v1 v2 v3 v4 v5 v6 : Value) : (set7 xs k v0 v1 v2 v3 v4 v5 v6).length = xs.length := by unfold set7; simp
/-- A row of the call's own whose elements lie in new memory is one. -/
theorem NwF.row {w : World} {lo g n cap : Nat} {e : TypeId} {l : List Fd} {xs : List Value} (hn : l.length = n) (ho : w.ownsRow lo e 7 (.slice (some ⟨g, 0, none⟩) n cap) n xs) (h : FL (fun _ t A => NwR (g + 1) w t.type.elem A) l xs) : NwF lo w l (some ⟨g, 0, none⟩) := fun w' k => by
  have hg := ho.lt g rfl
  refine .inr ⟨_, rfl, fun i hi => ?_⟩
  obtain ⟨A, c, hE, hP⟩ := h i hi
  have hc : ∀ j u, j < n * 7 → xs[j]? = some u → w'.cell? ⟨g, j, none⟩ = some u := fun j u hj hu => by
    rw [World.cell?_of_block (w := w) (k.blk g hg.1 hg.2), ho.cellAt j hj, hu]
  rw [Addr.add_lit, Nat.zero_add]
  exact ⟨hc (i * 7) _ (by omega) hE.e0, hc (i * 7 + 1) _ (by omega) hE.e1, hc (i * 7 + 2) _ (by omega) hE.e2, hc (i * 7 + 3) _ (by omega) hE.e3, hc (i * 7 + 4) _ (by omega) hE.e4, ⟨A, c, hc (i * 7 + 5) _ (by omega) hE.e5, hP w' (k.mono (by omega))⟩, hc (i * 7 + 6) _ (by omega) hE.e6⟩
/-- A field in new memory. -/
def FtP (t : Fd) (w : World) (e : Ending) (w' : World) : Prop := ∃ A c, e = .returned (.agg #[.int .i64 t.num, .string (bs t.name), .int .i64 t.type.kind, .int .i64 t.type.size, .string (bs t.type.name), .slice A t.type.elem.length c, .bool t.opt]) ∧ NwR w.heap.size w' t.type.elem A ∧ Below w.heap.size w w'
def EfP (l : List Fd) (w : World) (e : Ending) (w' : World) : Prop := ∃ A c, e = .returned (.slice A l.length c) ∧ NwF w.heap.size w' l A ∧ Below w.heap.size w w'
theorem info74 : (Tryz.prog.info? 57).map (fun i => (i.zero, i.size, i.bytes)) = some (some (.agg #[.int .i64 0, .string ⟨#[]⟩, .int .i64 0, .int .i64 0, .string ⟨#[]⟩, .slice none 0 0, .bool false]), 7, 88) := by kernel_rfl
/-- A copy of a list of fields. -/
def ClF (n : Nat) (xs : List Value) (w : World) (e : Ending) (w' : World) : Prop := ∃ v', e = .returned v' ∧ w'.ownsRow w.heap.size 57 7 v' n xs ∧ Below w.heap.size w w'
set_option maxRecDepth 100000 in
set_option maxHeartbeats 2000000 in
theorem cloneZeroF_any (A : Option Addr) (c : Nat) (w : World) : Calls Tryz.prog 174 #[.slice A 0 c] w (ClF 0 [] w) := by
  cases A with
  | none => exact (AnyE.slices_Clone_nil Tryz.clone174 0 c w).mono fun e w' ⟨h1, h2⟩ => ⟨_, h1, World.ownsRow_nil _ _ _ _, by rw [h2]; exact Below.refl _ _⟩
  | some a =>
    obtain ⟨i, hi, hz, hs5, hby⟩ := info_parts info74
    have q22 : ∀ (w : World) (a : Option Addr) (n c n' c' : Nat), (binOp .eql 51 (.slice a n c) (.slice none n' c')).run Tryz.prog w = .ok (.bool a.isNone) w := fun w a n c n' c' => Lib.run_eql_slice_nil w _ _ a n c n' c' Tryz.underlying51
    go_enter Tryz.func174, Tryz.ntmps174
    go_wp2_with (at_builtin; refine wpList_append_own _ rfl _ _ 51 rfl w.heap.size 57 i _ 7 88 Tryz.underlying51 hi hz hs5 hby rfl (by decide) _ _ _ rfl (World.ownsRow_made w #[] 0 (Nat.le_refl _) (Nat.zero_le _) rfl) a 0 c [] rfl rfl (by intro j u hj; simp at hj) (by intro u hu; cases hu) (by unfold maxLen; omega) (by omega) (by simp) ?_)
    intro v' w1 hown hgrow hnil
    go_wp2
    go_ret
    exact ⟨v', rfl, by simpa using hown, ((Below.refl _ w).alloc (Nat.le_refl _) _).grown hgrow (by simp) (by intro k hk; simp [Value.ownBlock] at hk; omega)⟩
theorem cloneField_any (l : List Fd) (A : Option Addr) (c : Nat) (w : World) (hl : l.length ≤ 1000000) (hR : Rw FdA 7 w l A) :
    Calls Tryz.prog 174 #[.slice A l.length c] w fun e w' => ∃ xs, FL (fun _ t A => Rw TyA 4 w t.type.elem A) l xs ∧ xs.length = l.length * 7 ∧ ClF l.length xs w e w' := by
  by_cases h0 : l = []
  · subst h0
    exact (cloneZeroF_any A c w).mono fun e w' h => ⟨[], fun j h => absurd h (Nat.not_lt_zero _), rfl, h⟩
  · rcases hR with h | ⟨a, rfl, h⟩
    · exact absurd h h0
    · have h1 : 0 < l.length := List.length_pos_iff.2 h0
      have hs : a.spot = none := by
        have := spot_none0 (h 0 h1).1
        simpa [Addr.add] using this
      obtain ⟨b, off, s⟩ := a
      have hs : s = none := hs
      subst hs
      obtain ⟨xs, hx1, hx2, hx3, hx4⟩ := newsF_of h
      obtain ⟨i, hi, hz, hs5, hby⟩ := info_parts info74
      exact (AnyE.slices_Clone Tryz.clone174 i _ 7 88 hi hz hs5 hby rfl (by decide) Tryz.sizeOf57 b off l.length c xs w hx1 (by unfold maxLen; omega) (by omega) hx2 hx3).mono fun e w' ⟨v', e1, e2, _, e4⟩ => ⟨xs, hx4, hx1, v', e1, e2, e4⟩
/-- The condition on the fields of a row that is renewed: those before number k lie in new memory. -/
def Rf (w0 : World) (g : Nat) (w : World) (k : Nat) (j : Nat) (t : Fd) (A : Option Addr) : Prop := if j < k then NwR (g + 1) w t.type.elem A else Rw TyA 4 w0 t.type.elem A
theorem Rf.next {w0 : World} {g k : Nat} {w w' : World} {l : List Fd} {xs : List Value} (h : FL (Rf w0 g w k) l xs) (hk : Kpl (g + 1) w w') : FL (Rf w0 g w' k) l xs := fun j hj => by
  obtain ⟨A, c, h1, h2⟩ := h j hj
  refine ⟨A, c, h1, ?_⟩
  unfold Rf at h2 ⊢
  split
  · rename_i e; rw [if_pos e] at h2; exact h2.next hk
  · rename_i e; rw [if_neg e] at h2; exact h2
theorem Rf.step {w0 : World} {g k n : Nat} {w : World} {l : List Fd} {xs : List Value} (h : FL (Rf w0 g w k) l xs) (hx : xs.length = n * 7) (hn : l.length = n) (hk : k < l.length) {A : Option Addr} {c : Nat} (hA : NwR (g + 1) w (l[k]'hk).type.elem A) :
    FL (Rf w0 g w (k + 1)) l (set7 xs k (.int .i64 (l[k]'hk).num) (.string (bs (l[k]'hk).name)) (.int .i64 (l[k]'hk).type.kind) (.int .i64 (l[k]'hk).type.size) (.string (bs (l[k]'hk).type.name)) (.slice A (l[k]'hk).type.elem.length c) (.bool (l[k]'hk).opt)) := fun j hj => by
  by_cases e : j = k
  · subst e
    exact ⟨A, c, FL1.set_same _ _ _ hx (by omega), by unfold Rf; rw [if_pos (Nat.lt_succ_self _)]; exact hA⟩
  · obtain ⟨A', c', h1, h2⟩ := h j hj
    refine ⟨A', c', h1.set_other e _ _ _ _ _ _ _, ?_⟩
    unfold Rf at h2 ⊢
    by_cases e2 : j < k
    · rw [if_pos e2] at h2; rw [if_pos (by omega)]; exact h2
    · rw [if_neg e2] at h2; rw [if_neg (by omega)]; exact h2
theorem stored7 {w : World} {base g n cap : Nat} {e : TypeId} {xs : List Value} (h : w.ownsRow base e 7 (.slice (some ⟨g, 0, none⟩) n cap) n xs) (k : Nat) (v0 v1 v2 v3 v4 v5 v6 : Value) :
    (((((((w.setCell ⟨g, k * 7, none⟩ v0).setCell ⟨g, k * 7 + 1, none⟩ v1).setCell ⟨g, k * 7 + 2, none⟩ v2).setCell ⟨g, k * 7 + 3, none⟩ v3).setCell ⟨g, k * 7 + 4, none⟩ v4).setCell ⟨g, k * 7 + 5, none⟩ v5).setCell ⟨g, k * 7 + 6, none⟩ v6).ownsRow base e 7 (.slice (some ⟨g, 0, none⟩) n cap) n (set7 xs k v0 v1 v2 v3 v4 v5 v6) ∧ w.grownBy (((((((w.setCell ⟨g, k * 7, none⟩ v0).setCell ⟨g, k * 7 + 1, none⟩ v1).setCell ⟨g, k * 7 + 2, none⟩ v2).setCell ⟨g, k * 7 + 3, none⟩ v3).setCell ⟨g, k * 7 + 4, none⟩ v4).setCell ⟨g, k * 7 + 5, none⟩ v5).setCell ⟨g, k * 7 + 6, none⟩ v6) (some g) := by
  obtain ⟨h0, g0⟩ := h.stored (k * 7) v0
  obtain ⟨h1, g1⟩ := h0.stored (k * 7 + 1) v1
  obtain ⟨h2, g2⟩ := h1.stored (k * 7 + 2) v2
  obtain ⟨h3, g3⟩ := h2.stored (k * 7 + 3) v3
  obtain ⟨h4, g4⟩ := h3.stored (k * 7 + 4) v4
  obtain ⟨h5, g5⟩ := h4.stored (k * 7 + 5) v5
  obtain ⟨h6, g6⟩ := h5.stored (k * 7 + 6) v6
  exact ⟨h6, (((((g0.trans g1).trans g2).trans g3).trans g4).trans g5).trans g6⟩
set_option maxRecDepth 100000 in
set_option maxHeartbeats 4000000 in
theorem eachField_any (l : List Fd) (A : Option Addr) (c : Nat) (w : World) (hl : l.length ≤ 1000000) (hR : Rw FdA 7 w l A)
    (hc : ∀ i (h : i < l.length) v w', FdV w' (l[i]'h) v → Calls Tryz.prog 122 #[v] w' (FtP (l[i]'h) w')) :
    Calls Tryz.prog 121 #[.slice A l.length c, .func (.func 122) #[] #[]] w (EfP l w) := by
  have cC := cloneField_any l A c w hl hR
  unfold EfP
  obtain ⟨n, hn⟩ : ∃ n, l.length = n := ⟨_, rfl⟩
  have HN := Lib.hid hn
  rw [hn] at cC hl ⊢
  clear hn
  go_enter Tryz.func121, Tryz.ntmps121
  go_wp2_with fail
  refine cC.mono ?_
  rintro e w1 ⟨xs, hE, hxl, v', rfl, hown, hb1⟩
  clear cC
  by_cases h0 : n = 0
  · subst h0
    obtain ⟨-, hh⟩ := hown
    have hv : ∃ B d, v' = .slice B 0 d := by
      rcases hh with ⟨h, -⟩ | ⟨g, cap, cur, h, -⟩
      · exact ⟨_, _, h⟩
      · exact ⟨_, _, h⟩
    obtain ⟨B, d, rfl⟩ := hv
    have hnil : l = [] := List.eq_nil_of_length_eq_zero HN.out
    clear hc hh
    go_wp2_with fail
    go_loopw [12] (fun i wr => i = .int .i64 0 ∧ Below w.heap.size w wr) (fun _ _ => 0)
    case atStart => exact ⟨rfl, hb1⟩
    case round =>
      obtain ⟨rfl, hb⟩ := hrel
      go_wp2_with fail
      go_ret
      exact ⟨B, d, rfl, by rw [hnil]; exact NwF.nil _ _ _, hb⟩
  · have hv : ∃ g d, v' = .slice (some ⟨g, 0, none⟩) n d := by
      rcases hown.2 with ⟨-, h⟩ | ⟨g, cap, cur, h, -⟩
      · exact absurd h h0
      · exact ⟨_, _, h⟩
    obtain ⟨g, d, rfl⟩ := hv
    have hg := hown.lt g rfl
    have HE : Hid (FL (Rf w g w1 0) l xs) := Lib.hid fun j hj => by
      obtain ⟨A', c', h1, h2⟩ := hE j hj
      exact ⟨A', c', h1, by unfold Rf; rw [if_neg (by omega)]; exact h2⟩
    clear hE
    go_wp2_with fail
    go_loopw [12] (fun i wr => ∃ (k : Nat) (ys : List Value), k ≤ n ∧ i = .int .i64 (k : Int) ∧ Hid (FL (Rf w g wr k) l ys) ∧ ys.length = n * 7 ∧ wr.ownsRow w.heap.size 57 7 (.slice (some ⟨g, 0, none⟩) n d) n ys ∧ Below w.heap.size w wr) (fun i _ => n - (intOf i).toNat)
    case atStart => exact ⟨0, xs, by omega, rfl, HE, hxl, hown, hb1⟩
    case round =>
      clear HE hown hb1 hxl
      obtain ⟨k, ys, hk, rfl, HE, hyl, hown, hb⟩ := hrel
      by_cases hlt : k < n
      · have hkl : k < l.length := by rw [HN.out]; exact hlt
        obtain ⟨A3, c3, hE1, hP⟩ := HE.out k hkl
        have hP : Rw TyA 4 w (l[k]'hkl).type.elem A3 := by unfold Rf at hP; rw [if_neg (by omega)] at hP; exact hP
        have e0 : wr.cell? ⟨g, k * 7, none⟩ = _ := (hown.cellAt (k * 7) (by omega)).trans hE1.e0
        have e1 : wr.cell? ⟨g, k * 7 + 1, none⟩ = _ := (hown.cellAt (k * 7 + 1) (by omega)).trans hE1.e1
        have e2 : wr.cell? ⟨g, k * 7 + 2, none⟩ = _ := (hown.cellAt (k * 7 + 2) (by omega)).trans hE1.e2
        have e3 : wr.cell? ⟨g, k * 7 + 3, none⟩ = _ := (hown.cellAt (k * 7 + 3) (by omega)).trans hE1.e3
        have e4 : wr.cell? ⟨g, k * 7 + 4, none⟩ = _ := (hown.cellAt (k * 7 + 4) (by omega)).trans hE1.e4
        have e5 : wr.cell? ⟨g, k * 7 + 5, none⟩ = _ := (hown.cellAt (k * 7 + 5) (by omega)).trans hE1.e5
        have e6 : wr.cell? ⟨g, k * 7 + 6, none⟩ = _ := (hown.cellAt (k * 7 + 6) (by omega)).trans hE1.e6
        have hgl := (hown.lt g rfl).2
        have hstep := fun W A9 c9 (hE9 : FL (Rf w g W k) l ys) => Rf.step (c := c9) (A := A9) hE9 hyl HN.out hkl
        have HS := Lib.hid hstep
        have cN := hc k hkl
        generalize l[k]'hkl = t at *
        have hW1 := ab1 wr (Obj.cells #[.int .i64 t.num, .string (bs t.name), .int .i64 t.type.kind, .int .i64 t.type.size, .string (bs t.type.name), .slice A3 t.type.elem.length c3, .bool t.opt] 57)
        have cN2 := cN _ (wr.alloc (Obj.cells #[.int .i64 t.num, .string (bs t.name), .int .i64 t.type.kind, .int .i64 t.type.size, .string (bs t.type.name), .slice A3 t.type.elem.length c3, .bool t.opt] 57)) ⟨A3, c3, rfl, hP.next (fun x p => TyA.next (Below.next hb hW1) x p)⟩
        have hz : wr.heap.size ≤ (wr.alloc (Obj.cells #[.int .i64 t.num, .string (bs t.name), .int .i64 t.type.kind, .int .i64 t.type.size, .string (bs t.type.name), .slice A3 t.type.elem.length c3, .bool t.opt] 57)).heap.size := hW1.size
        clear hstep cN hE1 hP hkl
        go_wp2_with fail
        refine cN2.mono ?_
        rintro e w3 ⟨A9, c9, rfl, hN9, hb9⟩
        have hb3 := Below.next hW1 hb9
        have hb4 := Below.next hb hb3
        have hown3 := hown.kept (gbq_of hb3 none) (.inr (by simp [Value.ownBlock]))
        have f0 := hown3.frozenAt (k * 7)
        have f1 := hown3.frozenAt (k * 7 + 1)
        have f2 := hown3.frozenAt (k * 7 + 2)
        have f3 := hown3.frozenAt (k * 7 + 3)
        have f4 := hown3.frozenAt (k * 7 + 4)
        have f5 := hown3.frozenAt (k * 7 + 5)
        have f6 := hown3.frozenAt (k * 7 + 6)
        replace e0 := cell_next hb3 e0
        replace e1 := cell_next hb3 e1
        replace e2 := cell_next hb3 e2
        replace e3 := cell_next hb3 e3
        replace e4 := cell_next hb3 e4
        replace e5 := cell_next hb3 e5
        replace e6 := cell_next hb3 e6
        obtain ⟨hst, hgr⟩ := stored7 hown3 k (.int .i64 t.num) (.string (bs t.name)) (.int .i64 t.type.kind) (.int .i64 t.type.size) (.string (bs t.type.name)) (.slice A9 t.type.elem.length c9) (.bool t.opt)
        have hE3 := Rf.next HE.out (Kpl.of (lo := g + 1) hb3)
        have hN3 : NwR (g + 1) w3 t.type.elem A9 := hN9.low (Nat.le_trans (Nat.succ_le_of_lt hgl) hz)
        have hE4 := Lib.hid (HS.out _ A9 c9 (Rf.next hE3 (Kpl.gb hgr (Nat.lt_succ_self _))) (hN3.next (Kpl.gb hgr (Nat.lt_succ_self _))))
        have hb5 := hb4.grown hgr hb4.size (fun j hj => by cases hj; exact (hown.lt g rfl).1)
        clear cN2 hW1 hb3 hb9 hb hown hE3
        go_wp2_with fail
        go_roundw
        case rel => exact ⟨k + 1, _, by omega, by go_num, hE4, by rw [set7_len]; exact hyl, hst, hb5⟩
        case measure => simp [intOf]; omega
      · obtain rfl : k = n := by omega
        have hF := NwF.row HN.out hown (fun j hj => by
          obtain ⟨A', c', h1, h2⟩ := HE.out j hj
          unfold Rf at h2
          rw [if_pos (by rw [← HN.out]; exact hj)] at h2
          exact ⟨A', c', h1, h2⟩)
        clear hc HE
        go_wp2_with fail
        go_ret
        exact ⟨_, _, rfl, hF, hb⟩
set_option maxRecDepth 100000 in
set_option maxHeartbeats 4000000 in
theorem newField_any (t : Fd) (v : Value) (w : World) (hf : fewT t.type = true) (hv : FdV w t v) :
    Calls Tryz.prog 122 #[v] w (FtP t w) := by
  obtain ⟨A, c, rfl, hR⟩ := hv
  have z1 : (w.alloc (Obj.cells #[.int .i64 t.num, .string (bs t.name), .int .i64 t.type.kind, .int .i64 t.type.size, .string (bs t.type.name), .slice A t.type.elem.length c, .bool t.opt] 57)).heap.size = w.heap.size + 1 := by simp
  have hab := ab2 w (Obj.cells #[.int .i64 t.num, .string (bs t.name), .int .i64 t.type.kind, .int .i64 t.type.size, .string (bs t.type.name), .slice A t.type.elem.length c, .bool t.opt] 57) (Obj.cells #[.int .i64 0, .string ⟨#[]⟩, .int .i64 0, .int .i64 0, .string ⟨#[]⟩, .slice none 0 0, .bool false] 57)
  have B1 := (Bx.new7 w 57 (.int .i64 t.num) (.string (bs t.name)) (.int .i64 t.type.kind) (.int .i64 t.type.size) (.string (bs t.type.name)) (.slice A t.type.elem.length c) (.bool t.opt)).next (ab1 _ (Obj.cells #[.int .i64 0, .string ⟨#[]⟩, .int .i64 0, .int .i64 0, .string ⟨#[]⟩, .slice none 0 0, .bool false] 57))
  have B2 := Bx.new7 (w.alloc (Obj.cells #[.int .i64 t.num, .string (bs t.name), .int .i64 t.type.kind, .int .i64 t.type.size, .string (bs t.type.name), .slice A t.type.elem.length c, .bool t.opt] 57)) 57 (.int .i64 0) (.string ⟨#[]⟩) (.int .i64 0) (.int .i64 0) (.string ⟨#[]⟩) (.slice none 0 0) (.bool false)
  rw [z1] at B2
  have cE := newType_any (SizeOf.sizeOf t.type + 1) t.type _ _ (Nat.lt_succ_self _) hf ⟨A, c, rfl, hR.next fun x p => TyA.next hab x p⟩
  have hz : w.heap.size + 1 + 1 ≤ ((w.alloc (Obj.cells #[.int .i64 t.num, .string (bs t.name), .int .i64 t.type.kind, .int .i64 t.type.size, .string (bs t.type.name), .slice A t.type.elem.length c, .bool t.opt] 57)).alloc (Obj.cells #[.int .i64 0, .string ⟨#[]⟩, .int .i64 0, .int .i64 0, .string ⟨#[]⟩, .slice none 0 0, .bool false] 57)).heap.size := by simp
  unfold FtP
  unfold NtP at cE
  clear hf hR z1
  generalize t.type.elem = e at *
  go_enter Tryz.func122, Tryz.ntmps122
  go_wp2_with fail
  refine cE.mono ?_
  rintro e3 w3 ⟨A9, c9, rfl, hN9, hb9⟩
  have hb3 := Below.next hab hb9
  have C1 := B1.next hb9
  have C2 := B2.next hb9
  have p0 := C1.c 0 rfl
  have p1 := C1.c 1 rfl
  have p2 := C1.c 2 rfl
  have p3 := C1.c 3 rfl
  have p4 := C1.c 4 rfl
  have p5 := C1.c 5 rfl
  have p6 := C1.c 6 rfl
  have q2 := C1.f 2 rfl
  have q3 := C1.f 3 rfl
  have q4 := C1.f 4 rfl
  have q5 := C1.f 5 rfl
  have r0 := C2.c 0 rfl
  have s0 := C2.f 0 rfl
  have r1 := C2.c 1 rfl
  have s1 := C2.f 1 rfl
  have r2 := C2.c 2 rfl
  have s2 := C2.f 2 rfl
  have r3 := C2.c 3 rfl
  have s3 := C2.f 3 rfl
  have r4 := C2.c 4 rfl
  have s4 := C2.f 4 rfl
  have r5 := C2.c 5 rfl
  have s5 := C2.f 5 rfl
  have r6 := C2.c 6 rfl
  have s6 := C2.f 6 rfl
  have l1 := C1.lt
  have l2 := C2.lt
  clear cE
  go_wp2_with fail
  refine bodyPost_ret (v := .agg #[.int .i64 t.num, .string (bs t.name), .int .i64 t.type.kind, .int .i64 t.type.size, .string (bs t.type.name), .slice A9 e.length c9, .bool t.opt]) (by simp [results, Tryz.results122, go_sem, r0, r1, r2, r3, r4, r5, r6]) rfl ⟨A9, c9, rfl, ?_, ?_⟩
  · refine (hN9.next ?_).low hab.size
    iterate 11 refine Kpl.set ?_ (by first | (show w.heap.size < _; omega) | (show w.heap.size + 1 < _; omega)) _
    exact Kpl.of (Below.refl _ _)
  · iterate 11 refine Below.setCell ?_ (by simp) _
    exact hb3
end Go.Proofs.YthfodpbecddheaaGreatDoor


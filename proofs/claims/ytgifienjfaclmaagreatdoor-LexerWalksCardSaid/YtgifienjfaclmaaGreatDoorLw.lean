/-
  The reference's scanner: Mark and Word. No conditions but Go's own bounds.
-/
import Derived.Test.YtgifienjfaclmaaGreatDoorLv
namespace Go.Proofs.YtgifienjfaclmaaGreatDoor
open Go.RowKit
theorem str_ne {q l : List UInt8} (h : q ≠ l) : ((bs q).toList == (bs l).toList) = false := by rw [toList_bs, toList_bs]; simpa using h
theorem str_eq (l : List UInt8) : ((bs l).toList == (bs l).toList) = true := by simp
/-- Does the token stand for Mark of s? -/
def isMark (t : Tk) (s : List UInt8) : Bool := decide (t.kind = 4) && t.text == s
set_option maxRecDepth 100000 in
set_option maxHeartbeats 2000000 in
theorem refMark_any (g : Nat) (A : Option Addr) (c : Nat) (l : List Tk) (j : Nat) (s : List UInt8) (w : World) (hj : j < l.length) (hn : l.length ≤ 100000) (h : Sn w g A c l j) :
    Calls Tryz.prog 12 #[.pointer (some ⟨g, 0, none⟩), .string (bs s)] w (In (.bool (isMark (l[j]'hj) s)) g A c l (if isMark (l[j]'hj) s then j + 1 else j) w) := by
  have cP := fun W h => refPeek_any g A c l j W hj h
  generalize l[j]'hj = x at *
  obtain ⟨K, T, N, P⟩ := x
  have cP : ∀ W, Sn W g A c l j → Calls Tryz.prog 10 #[.pointer (some ⟨g, 0, none⟩)] W (Ib (.agg #[.int .i64 (K : Int), .string (bs T), .int .i64 N, .int .i64 (P : Int)]) W) := cP
  obtain ⟨b, hb⟩ : ∃ b, isMark ⟨K, T, N, P⟩ s = b := ⟨_, rfl⟩
  obtain ⟨m, hm0⟩ : ∃ m, (if b then j + 1 else j) = m := ⟨_, rfl⟩
  rw [hb, hm0]
  have HM := Lib.hid hm0
  have HB := Lib.hid hb
  clear hm0 hb
  go_enter Tryz.func12, Tryz.ntmps12
  go_wp2_with fail
  refine (cP _ h).mono ?_
  rintro e w2 ⟨rfl, h2⟩
  go_upto_region 2 with (fail)
  have V1 := V4.new w2 (.int .i64 (K : Int)) (.string (bs T)) (.int .i64 N) (.int .i64 (P : Int)) 34
  have Bel := Below.next h2 (grown1 (w := w2) (Obj.cells #[.int .i64 (K : Int), .string (bs T), .int .i64 N, .int .i64 (P : Int)] 34))
  have S3 := h.next Bel
  clear h2 cP h
  generalize w2.alloc (Obj.cells #[.int .i64 (K : Int), .string (bs T), .int .i64 N, .int .i64 (P : Int)] 34) = W3 at *
  generalize w2.heap.size = B1 at *
  obtain ⟨b0, b1, b2, b3, b4, b5, b6, b7, b8⟩ := V1
  by_cases hK : K = 4
  · subst hK
    have b1 : W3.cell? ⟨B1, 0, none⟩ = some (.int .i64 4) := b1
    by_cases hT : T = s
    · subst hT
      have e1 := str_eq T
      have hbt : true = b := by rw [← HB.out]; simp [isMark]
      subst hbt
      have hm : j + 1 = m := by have := HM.out; rw [if_pos rfl] at this; exact this
      have l11 : (j : Int) + 1 = (m : Int) := by omega
      have SA := S3.adv m
      have GA := gb_set (gb_below (g := g) Bel) 1 (.int .i64 (m : Int))
      obtain ⟨_, _, c1, f1, _, _⟩ := S3
      clear HM HB hm Bel
      go_wp2_with fail
      go_ret
      exact ⟨rfl, GA, SA⟩
    · have e1 := str_ne hT
      have hbt : false = b := by rw [← HB.out]; simp [isMark, hT]
      subst hbt
      have hm : j = m := by have := HM.out; rw [if_neg (by simp)] at this; exact this
      subst hm
      clear HM HB hT
      go_wp2_with fail
      go_ret
      exact ⟨rfl, gb_below Bel, S3⟩
  · have hbt : false = b := by rw [← HB.out]; simp [isMark, hK]
    subst hbt
    have hm : j = m := by have := HM.out; rw [if_neg (by simp)] at this; exact this
    subst hm
    have g0 : ((K : Int) == 4) = false := by simp; omega
    have g1 : ((K : Int) != 4) = true := by simp; omega
    clear HM HB hK
    go_wp2_with fail
    go_ret
    exact ⟨rfl, gb_below Bel, S3⟩
/-- Does the token stand for Word of s? -/
def isWord (t : Tk) (s : List UInt8) : Bool := decide (t.kind = 1) && t.text == s
set_option maxRecDepth 100000 in
set_option maxHeartbeats 2000000 in
theorem refWord_any (g : Nat) (A : Option Addr) (c : Nat) (l : List Tk) (j : Nat) (s : List UInt8) (w : World) (hj : j < l.length) (hn : l.length ≤ 100000) (h : Sn w g A c l j) :
    Calls Tryz.prog 14 #[.pointer (some ⟨g, 0, none⟩), .string (bs s)] w (In (.bool (isWord (l[j]'hj) s)) g A c l (if isWord (l[j]'hj) s then j + 1 else j) w) := by
  have cP := fun W h => refPeek_any g A c l j W hj h
  generalize l[j]'hj = x at *
  obtain ⟨K, T, N, P⟩ := x
  have cP : ∀ W, Sn W g A c l j → Calls Tryz.prog 10 #[.pointer (some ⟨g, 0, none⟩)] W (Ib (.agg #[.int .i64 (K : Int), .string (bs T), .int .i64 N, .int .i64 (P : Int)]) W) := cP
  obtain ⟨b, hb⟩ : ∃ b, isWord ⟨K, T, N, P⟩ s = b := ⟨_, rfl⟩
  obtain ⟨m, hm0⟩ : ∃ m, (if b then j + 1 else j) = m := ⟨_, rfl⟩
  rw [hb, hm0]
  have HM := Lib.hid hm0
  have HB := Lib.hid hb
  clear hm0 hb
  go_enter Tryz.func14, Tryz.ntmps14
  go_wp2_with fail
  refine (cP _ h).mono ?_
  rintro e w2 ⟨rfl, h2⟩
  go_upto_region 2 with (fail)
  have V1 := V4.new w2 (.int .i64 (K : Int)) (.string (bs T)) (.int .i64 N) (.int .i64 (P : Int)) 34
  have Bel := Below.next h2 (grown1 (w := w2) (Obj.cells #[.int .i64 (K : Int), .string (bs T), .int .i64 N, .int .i64 (P : Int)] 34))
  have S3 := h.next Bel
  clear h2 cP h
  generalize w2.alloc (Obj.cells #[.int .i64 (K : Int), .string (bs T), .int .i64 N, .int .i64 (P : Int)] 34) = W3 at *
  generalize w2.heap.size = B1 at *
  obtain ⟨b0, b1, b2, b3, b4, b5, b6, b7, b8⟩ := V1
  by_cases hK : K = 1
  · subst hK
    have b1 : W3.cell? ⟨B1, 0, none⟩ = some (.int .i64 1) := b1
    by_cases hT : T = s
    · subst hT
      have e1 := str_eq T
      have hbt : true = b := by rw [← HB.out]; simp [isWord]
      subst hbt
      have hm : j + 1 = m := by have := HM.out; rw [if_pos rfl] at this; exact this
      have l11 : (j : Int) + 1 = (m : Int) := by omega
      have SA := S3.adv m
      have GA := gb_set (gb_below (g := g) Bel) 1 (.int .i64 (m : Int))
      obtain ⟨_, _, c1, f1, _, _⟩ := S3
      clear HM HB hm Bel
      go_wp2_with fail
      go_ret
      exact ⟨rfl, GA, SA⟩
    · have e1 := str_ne hT
      have hbt : false = b := by rw [← HB.out]; simp [isWord, hT]
      subst hbt
      have hm : j = m := by have := HM.out; rw [if_neg (by simp)] at this; exact this
      subst hm
      clear HM HB hT
      go_wp2_with fail
      go_ret
      exact ⟨rfl, gb_below Bel, S3⟩
  · have hbt : false = b := by rw [← HB.out]; simp [isWord, hK]
    subst hbt
    have hm : j = m := by have := HM.out; rw [if_neg (by simp)] at this; exact this
    subst hm
    have g0 : ((K : Int) == 1) = false := by simp; omega
    have g1 : ((K : Int) != 1) = true := by simp; omega
    clear HM HB hK
    go_wp2_with fail
    go_ret
    exact ⟨rfl, gb_below Bel, S3⟩
end Go.Proofs.YtgifienjfaclmaaGreatDoor

/-
  The developers' check, kind by kind. No conditions beyond those that each names.
-/
import Derived.Test.YthfodpbecddheaaGreatDoorQM16
import Derived.Test.YthfodpbecddheaaGreatDoorQM15
import Derived.Test.YthfodpbecddheaaGreatDoorQM14
namespace Go.Proofs.YthfodpbecddheaaGreatDoor
open Go.RowKit
set_option maxRecDepth 100000 in
set_option maxHeartbeats 8000000 in
theorem check1_any (ver : Int) (E : Option Addr) (e1 e2 : Nat) (F : Option Addr) (f1 f2 : Nat) (s : Int) (nm : ByteArray) (G : Option Addr) (g1 g2 : Nat) (q n : Int) (st : List UInt8) (A : Option Addr) (a1 a2 : Nat) (B : Option Addr) (b1 b2 : Nat) (r : Int) (w : World)
    (cA : ∀ W, Below w.heap.size w W → Calls Tryz.prog 74 #[.agg #[.int .i64 ver, .slice E e1 e2, .slice F f1 f2, .int .i64 1, .int .i64 s, .string nm, .slice G g1 g2], .agg #[.int .i64 q, .int .i64 n, .string (bs st), .slice A a1 a2, .slice B b1 b2], .func (.func 75) #[.agg #[.int .i64 ver, .slice E e1 e2, .slice F f1 f2, .int .i64 1, .int .i64 s, .string nm, .slice G g1 g2]] #[]] W (Ib (.int .i64 r) W)) :
    Calls Tryz.prog 38 #[.agg #[.int .i64 ver, .slice E e1 e2, .slice F f1 f2, .int .i64 1, .int .i64 s, .string nm, .slice G g1 g2], .agg #[.int .i64 q, .int .i64 n, .string (bs st), .slice A a1 a2, .slice B b1 b2]] w (Ib (.int .i64 r) w) := by
  have D1 := (Bx.new7 w 81 (.int .i64 ver) (.slice E e1 e2) (.slice F f1 f2) (.int .i64 1) (.int .i64 s) (.string nm) (.slice G g1 g2)).next (ab1 _ (Obj.cells #[.int .i64 q, .int .i64 n, .string (bs st), .slice A a1 a2, .slice B b1 b2] 34))
  have D2 := Bx.new5 (w.alloc (Obj.cells #[.int .i64 ver, .slice E e1 e2, .slice F f1 f2, .int .i64 1, .int .i64 s, .string nm, .slice G g1 g2] 81)) 34 (.int .i64 q) (.int .i64 n) (.string (bs st)) (.slice A a1 a2) (.slice B b1 b2)
  have hab := ab2 w (Obj.cells #[.int .i64 ver, .slice E e1 e2, .slice F f1 f2, .int .i64 1, .int .i64 s, .string nm, .slice G g1 g2] 81) (Obj.cells #[.int .i64 q, .int .i64 n, .string (bs st), .slice A a1 a2, .slice B b1 b2] 34)
  rw [show (w.alloc (Obj.cells #[.int .i64 ver, .slice E e1 e2, .slice F f1 f2, .int .i64 1, .int .i64 s, .string nm, .slice G g1 g2] 81)).heap.size = w.heap.size + 1 by simp] at D2
  have i0 := D1.c 0 rfl
  have i1 := D1.c 1 rfl
  have i2 := D1.c 2 rfl
  have i3 := D1.c 3 rfl
  have i4 := D1.c 4 rfl
  have i5 := D1.c 5 rfl
  have i6 := D1.c 6 rfl
  have j0 := D2.c 0 rfl
  have j1 := D2.c 1 rfl
  have j2 := D2.c 2 rfl
  have j3 := D2.c 3 rfl
  have j4 := D2.c 4 rfl
  clear D1 D2
  go_enter Tryz.func38, Tryz.ntmps38
  go_wp2_with fail
  refine (cA _ hab).mono ?_
  rintro e w2 ⟨rfl, hb2⟩
  go_wp2_with fail
  go_ret
  exact ⟨rfl, Below.next hab hb2⟩
set_option maxRecDepth 100000 in
set_option maxHeartbeats 8000000 in
theorem check2_any (ver : Int) (E : Option Addr) (e1 e2 : Nat) (F : Option Addr) (f1 f2 : Nat) (s : Int) (nm : ByteArray) (G : Option Addr) (g1 g2 : Nat) (q n : Int) (st : List UInt8) (A : Option Addr) (a1 a2 : Nat) (B : Option Addr) (b1 b2 : Nat) (r : Int) (w : World)
    (cA : ∀ W, Below w.heap.size w W → Calls Tryz.prog 74 #[.agg #[.int .i64 ver, .slice E e1 e2, .slice F f1 f2, .int .i64 2, .int .i64 s, .string nm, .slice G g1 g2], .agg #[.int .i64 q, .int .i64 n, .string (bs st), .slice A a1 a2, .slice B b1 b2], .func (.func 76) #[.agg #[.int .i64 ver, .slice E e1 e2, .slice F f1 f2, .int .i64 2, .int .i64 s, .string nm, .slice G g1 g2]] #[]] W (Ib (.int .i64 r) W)) :
    Calls Tryz.prog 38 #[.agg #[.int .i64 ver, .slice E e1 e2, .slice F f1 f2, .int .i64 2, .int .i64 s, .string nm, .slice G g1 g2], .agg #[.int .i64 q, .int .i64 n, .string (bs st), .slice A a1 a2, .slice B b1 b2]] w (Ib (.int .i64 r) w) := by
  have D1 := (Bx.new7 w 81 (.int .i64 ver) (.slice E e1 e2) (.slice F f1 f2) (.int .i64 2) (.int .i64 s) (.string nm) (.slice G g1 g2)).next (ab1 _ (Obj.cells #[.int .i64 q, .int .i64 n, .string (bs st), .slice A a1 a2, .slice B b1 b2] 34))
  have D2 := Bx.new5 (w.alloc (Obj.cells #[.int .i64 ver, .slice E e1 e2, .slice F f1 f2, .int .i64 2, .int .i64 s, .string nm, .slice G g1 g2] 81)) 34 (.int .i64 q) (.int .i64 n) (.string (bs st)) (.slice A a1 a2) (.slice B b1 b2)
  have hab := ab2 w (Obj.cells #[.int .i64 ver, .slice E e1 e2, .slice F f1 f2, .int .i64 2, .int .i64 s, .string nm, .slice G g1 g2] 81) (Obj.cells #[.int .i64 q, .int .i64 n, .string (bs st), .slice A a1 a2, .slice B b1 b2] 34)
  rw [show (w.alloc (Obj.cells #[.int .i64 ver, .slice E e1 e2, .slice F f1 f2, .int .i64 2, .int .i64 s, .string nm, .slice G g1 g2] 81)).heap.size = w.heap.size + 1 by simp] at D2
  have i0 := D1.c 0 rfl
  have i1 := D1.c 1 rfl
  have i2 := D1.c 2 rfl
  have i3 := D1.c 3 rfl
  have i4 := D1.c 4 rfl
  have i5 := D1.c 5 rfl
  have i6 := D1.c 6 rfl
  have j0 := D2.c 0 rfl
  have j1 := D2.c 1 rfl
  have j2 := D2.c 2 rfl
  have j3 := D2.c 3 rfl
  have j4 := D2.c 4 rfl
  clear D1 D2
  go_enter Tryz.func38, Tryz.ntmps38
  go_wp2_with fail
  refine (cA _ hab).mono ?_
  rintro e w2 ⟨rfl, hb2⟩
  go_wp2_with fail
  go_ret
  exact ⟨rfl, Below.next hab hb2⟩
set_option maxRecDepth 100000 in
set_option maxHeartbeats 8000000 in
theorem check3_any (ver : Int) (E : Option Addr) (e1 e2 : Nat) (F : Option Addr) (f1 f2 : Nat) (s : Int) (nm : ByteArray) (G : Option Addr) (g1 g2 : Nat) (q n : Int) (st : List UInt8) (A : Option Addr) (a1 a2 : Nat) (B : Option Addr) (b1 b2 : Nat) (r : Int) (w : World)
    (cA : ∀ W, Below w.heap.size w W → Calls Tryz.prog 74 #[.agg #[.int .i64 ver, .slice E e1 e2, .slice F f1 f2, .int .i64 3, .int .i64 s, .string nm, .slice G g1 g2], .agg #[.int .i64 q, .int .i64 n, .string (bs st), .slice A a1 a2, .slice B b1 b2], .func (.func 77) #[.agg #[.int .i64 ver, .slice E e1 e2, .slice F f1 f2, .int .i64 3, .int .i64 s, .string nm, .slice G g1 g2]] #[]] W (Ib (.int .i64 r) W)) :
    Calls Tryz.prog 38 #[.agg #[.int .i64 ver, .slice E e1 e2, .slice F f1 f2, .int .i64 3, .int .i64 s, .string nm, .slice G g1 g2], .agg #[.int .i64 q, .int .i64 n, .string (bs st), .slice A a1 a2, .slice B b1 b2]] w (Ib (.int .i64 r) w) := by
  have D1 := (Bx.new7 w 81 (.int .i64 ver) (.slice E e1 e2) (.slice F f1 f2) (.int .i64 3) (.int .i64 s) (.string nm) (.slice G g1 g2)).next (ab1 _ (Obj.cells #[.int .i64 q, .int .i64 n, .string (bs st), .slice A a1 a2, .slice B b1 b2] 34))
  have D2 := Bx.new5 (w.alloc (Obj.cells #[.int .i64 ver, .slice E e1 e2, .slice F f1 f2, .int .i64 3, .int .i64 s, .string nm, .slice G g1 g2] 81)) 34 (.int .i64 q) (.int .i64 n) (.string (bs st)) (.slice A a1 a2) (.slice B b1 b2)
  have hab := ab2 w (Obj.cells #[.int .i64 ver, .slice E e1 e2, .slice F f1 f2, .int .i64 3, .int .i64 s, .string nm, .slice G g1 g2] 81) (Obj.cells #[.int .i64 q, .int .i64 n, .string (bs st), .slice A a1 a2, .slice B b1 b2] 34)
  rw [show (w.alloc (Obj.cells #[.int .i64 ver, .slice E e1 e2, .slice F f1 f2, .int .i64 3, .int .i64 s, .string nm, .slice G g1 g2] 81)).heap.size = w.heap.size + 1 by simp] at D2
  have i0 := D1.c 0 rfl
  have i1 := D1.c 1 rfl
  have i2 := D1.c 2 rfl
  have i3 := D1.c 3 rfl
  have i4 := D1.c 4 rfl
  have i5 := D1.c 5 rfl
  have i6 := D1.c 6 rfl
  have j0 := D2.c 0 rfl
  have j1 := D2.c 1 rfl
  have j2 := D2.c 2 rfl
  have j3 := D2.c 3 rfl
  have j4 := D2.c 4 rfl
  clear D1 D2
  go_enter Tryz.func38, Tryz.ntmps38
  go_wp2_with fail
  refine (cA _ hab).mono ?_
  rintro e w2 ⟨rfl, hb2⟩
  go_wp2_with fail
  go_ret
  exact ⟨rfl, Below.next hab hb2⟩
set_option maxRecDepth 100000 in
set_option maxHeartbeats 8000000 in
theorem check4_any (ver : Int) (E : Option Addr) (e1 e2 : Nat) (F : Option Addr) (f1 f2 : Nat) (s : Int) (nm : ByteArray) (G : Option Addr) (g1 g2 : Nat) (q n : Int) (st : List UInt8) (A : Option Addr) (a1 a2 : Nat) (B : Option Addr) (b1 b2 : Nat) (r : Int) (w : World)
    (cA : ∀ W, Below w.heap.size w W → Calls Tryz.prog 74 #[.agg #[.int .i64 ver, .slice E e1 e2, .slice F f1 f2, .int .i64 4, .int .i64 s, .string nm, .slice G g1 g2], .agg #[.int .i64 q, .int .i64 n, .string (bs st), .slice A a1 a2, .slice B b1 b2], .func (.func 78) #[.agg #[.int .i64 ver, .slice E e1 e2, .slice F f1 f2, .int .i64 4, .int .i64 s, .string nm, .slice G g1 g2]] #[]] W (Ib (.int .i64 r) W)) :
    Calls Tryz.prog 38 #[.agg #[.int .i64 ver, .slice E e1 e2, .slice F f1 f2, .int .i64 4, .int .i64 s, .string nm, .slice G g1 g2], .agg #[.int .i64 q, .int .i64 n, .string (bs st), .slice A a1 a2, .slice B b1 b2]] w (Ib (.int .i64 r) w) := by
  have D1 := (Bx.new7 w 81 (.int .i64 ver) (.slice E e1 e2) (.slice F f1 f2) (.int .i64 4) (.int .i64 s) (.string nm) (.slice G g1 g2)).next (ab1 _ (Obj.cells #[.int .i64 q, .int .i64 n, .string (bs st), .slice A a1 a2, .slice B b1 b2] 34))
  have D2 := Bx.new5 (w.alloc (Obj.cells #[.int .i64 ver, .slice E e1 e2, .slice F f1 f2, .int .i64 4, .int .i64 s, .string nm, .slice G g1 g2] 81)) 34 (.int .i64 q) (.int .i64 n) (.string (bs st)) (.slice A a1 a2) (.slice B b1 b2)
  have hab := ab2 w (Obj.cells #[.int .i64 ver, .slice E e1 e2, .slice F f1 f2, .int .i64 4, .int .i64 s, .string nm, .slice G g1 g2] 81) (Obj.cells #[.int .i64 q, .int .i64 n, .string (bs st), .slice A a1 a2, .slice B b1 b2] 34)
  rw [show (w.alloc (Obj.cells #[.int .i64 ver, .slice E e1 e2, .slice F f1 f2, .int .i64 4, .int .i64 s, .string nm, .slice G g1 g2] 81)).heap.size = w.heap.size + 1 by simp] at D2
  have i0 := D1.c 0 rfl
  have i1 := D1.c 1 rfl
  have i2 := D1.c 2 rfl
  have i3 := D1.c 3 rfl
  have i4 := D1.c 4 rfl
  have i5 := D1.c 5 rfl
  have i6 := D1.c 6 rfl
  have j0 := D2.c 0 rfl
  have j1 := D2.c 1 rfl
  have j2 := D2.c 2 rfl
  have j3 := D2.c 3 rfl
  have j4 := D2.c 4 rfl
  clear D1 D2
  go_enter Tryz.func38, Tryz.ntmps38
  go_wp2_with fail
  refine (cA _ hab).mono ?_
  rintro e w2 ⟨rfl, hb2⟩
  go_wp2_with fail
  go_ret
  exact ⟨rfl, Below.next hab hb2⟩
set_option maxRecDepth 100000 in
set_option maxHeartbeats 8000000 in
theorem check5_any (ver : Int) (E : Option Addr) (e1 e2 : Nat) (F : Option Addr) (f1 f2 : Nat) (s : Int) (nm : ByteArray) (G : Option Addr) (g1 g2 : Nat) (q n : Int) (st : List UInt8) (A : Option Addr) (a1 a2 : Nat) (B : Option Addr) (b1 b2 : Nat) (r : Int) (w : World)
    (cA : ∀ W, Below w.heap.size w W → Calls Tryz.prog 74 #[.agg #[.int .i64 ver, .slice E e1 e2, .slice F f1 f2, .int .i64 5, .int .i64 s, .string nm, .slice G g1 g2], .agg #[.int .i64 q, .int .i64 n, .string (bs st), .slice A a1 a2, .slice B b1 b2], .func (.func 79) #[.agg #[.int .i64 ver, .slice E e1 e2, .slice F f1 f2, .int .i64 5, .int .i64 s, .string nm, .slice G g1 g2]] #[]] W (Ib (.int .i64 r) W)) :
    Calls Tryz.prog 38 #[.agg #[.int .i64 ver, .slice E e1 e2, .slice F f1 f2, .int .i64 5, .int .i64 s, .string nm, .slice G g1 g2], .agg #[.int .i64 q, .int .i64 n, .string (bs st), .slice A a1 a2, .slice B b1 b2]] w (Ib (.int .i64 r) w) := by
  have D1 := (Bx.new7 w 81 (.int .i64 ver) (.slice E e1 e2) (.slice F f1 f2) (.int .i64 5) (.int .i64 s) (.string nm) (.slice G g1 g2)).next (ab1 _ (Obj.cells #[.int .i64 q, .int .i64 n, .string (bs st), .slice A a1 a2, .slice B b1 b2] 34))
  have D2 := Bx.new5 (w.alloc (Obj.cells #[.int .i64 ver, .slice E e1 e2, .slice F f1 f2, .int .i64 5, .int .i64 s, .string nm, .slice G g1 g2] 81)) 34 (.int .i64 q) (.int .i64 n) (.string (bs st)) (.slice A a1 a2) (.slice B b1 b2)
  have hab := ab2 w (Obj.cells #[.int .i64 ver, .slice E e1 e2, .slice F f1 f2, .int .i64 5, .int .i64 s, .string nm, .slice G g1 g2] 81) (Obj.cells #[.int .i64 q, .int .i64 n, .string (bs st), .slice A a1 a2, .slice B b1 b2] 34)
  rw [show (w.alloc (Obj.cells #[.int .i64 ver, .slice E e1 e2, .slice F f1 f2, .int .i64 5, .int .i64 s, .string nm, .slice G g1 g2] 81)).heap.size = w.heap.size + 1 by simp] at D2
  have i0 := D1.c 0 rfl
  have i1 := D1.c 1 rfl
  have i2 := D1.c 2 rfl
  have i3 := D1.c 3 rfl
  have i4 := D1.c 4 rfl
  have i5 := D1.c 5 rfl
  have i6 := D1.c 6 rfl
  have j0 := D2.c 0 rfl
  have j1 := D2.c 1 rfl
  have j2 := D2.c 2 rfl
  have j3 := D2.c 3 rfl
  have j4 := D2.c 4 rfl
  clear D1 D2
  go_enter Tryz.func38, Tryz.ntmps38
  go_wp2_with fail
  refine (cA _ hab).mono ?_
  rintro e w2 ⟨rfl, hb2⟩
  go_wp2_with fail
  go_ret
  exact ⟨rfl, Below.next hab hb2⟩
set_option maxRecDepth 100000 in
set_option maxHeartbeats 8000000 in
theorem check6_any (ver : Int) (E : Option Addr) (e1 e2 : Nat) (F : Option Addr) (f1 f2 : Nat) (s : Int) (nm : ByteArray) (G : Option Addr) (g1 g2 : Nat) (q n : Int) (st : List UInt8) (A : Option Addr) (a1 a2 : Nat) (B : Option Addr) (b1 b2 : Nat) (r : Int) (w : World)
    (cA : ∀ W, Below w.heap.size w W → Calls Tryz.prog 74 #[.agg #[.int .i64 ver, .slice E e1 e2, .slice F f1 f2, .int .i64 6, .int .i64 s, .string nm, .slice G g1 g2], .agg #[.int .i64 q, .int .i64 n, .string (bs st), .slice A a1 a2, .slice B b1 b2], .func (.func 80) #[.agg #[.int .i64 ver, .slice E e1 e2, .slice F f1 f2, .int .i64 6, .int .i64 s, .string nm, .slice G g1 g2]] #[]] W (Ib (.int .i64 r) W)) :
    Calls Tryz.prog 38 #[.agg #[.int .i64 ver, .slice E e1 e2, .slice F f1 f2, .int .i64 6, .int .i64 s, .string nm, .slice G g1 g2], .agg #[.int .i64 q, .int .i64 n, .string (bs st), .slice A a1 a2, .slice B b1 b2]] w (Ib (.int .i64 r) w) := by
  have D1 := (Bx.new7 w 81 (.int .i64 ver) (.slice E e1 e2) (.slice F f1 f2) (.int .i64 6) (.int .i64 s) (.string nm) (.slice G g1 g2)).next (ab1 _ (Obj.cells #[.int .i64 q, .int .i64 n, .string (bs st), .slice A a1 a2, .slice B b1 b2] 34))
  have D2 := Bx.new5 (w.alloc (Obj.cells #[.int .i64 ver, .slice E e1 e2, .slice F f1 f2, .int .i64 6, .int .i64 s, .string nm, .slice G g1 g2] 81)) 34 (.int .i64 q) (.int .i64 n) (.string (bs st)) (.slice A a1 a2) (.slice B b1 b2)
  have hab := ab2 w (Obj.cells #[.int .i64 ver, .slice E e1 e2, .slice F f1 f2, .int .i64 6, .int .i64 s, .string nm, .slice G g1 g2] 81) (Obj.cells #[.int .i64 q, .int .i64 n, .string (bs st), .slice A a1 a2, .slice B b1 b2] 34)
  rw [show (w.alloc (Obj.cells #[.int .i64 ver, .slice E e1 e2, .slice F f1 f2, .int .i64 6, .int .i64 s, .string nm, .slice G g1 g2] 81)).heap.size = w.heap.size + 1 by simp] at D2
  have i0 := D1.c 0 rfl
  have i1 := D1.c 1 rfl
  have i2 := D1.c 2 rfl
  have i3 := D1.c 3 rfl
  have i4 := D1.c 4 rfl
  have i5 := D1.c 5 rfl
  have i6 := D1.c 6 rfl
  have j0 := D2.c 0 rfl
  have j1 := D2.c 1 rfl
  have j2 := D2.c 2 rfl
  have j3 := D2.c 3 rfl
  have j4 := D2.c 4 rfl
  clear D1 D2
  go_enter Tryz.func38, Tryz.ntmps38
  go_wp2_with fail
  refine (cA _ hab).mono ?_
  rintro e w2 ⟨rfl, hb2⟩
  go_wp2_with fail
  go_ret
  exact ⟨rfl, Below.next hab hb2⟩
set_option maxRecDepth 100000 in
set_option maxHeartbeats 8000000 in
theorem check7_any (ver : Int) (E : Option Addr) (e1 e2 : Nat) (F : Option Addr) (f1 f2 : Nat) (s : Int) (nm : ByteArray) (G : Option Addr) (g1 g2 : Nat) (q n : Int) (st : List UInt8) (A : Option Addr) (a1 a2 : Nat) (B : Option Addr) (b1 b2 : Nat) (r : Int) (w : World)
    (cA : ∀ W, Below w.heap.size w W → Calls Tryz.prog 74 #[.agg #[.int .i64 ver, .slice E e1 e2, .slice F f1 f2, .int .i64 7, .int .i64 s, .string nm, .slice G g1 g2], .agg #[.int .i64 q, .int .i64 n, .string (bs st), .slice A a1 a2, .slice B b1 b2], .func (.func 81) #[.agg #[.int .i64 ver, .slice E e1 e2, .slice F f1 f2, .int .i64 7, .int .i64 s, .string nm, .slice G g1 g2]] #[]] W (Ib (.int .i64 r) W)) :
    Calls Tryz.prog 38 #[.agg #[.int .i64 ver, .slice E e1 e2, .slice F f1 f2, .int .i64 7, .int .i64 s, .string nm, .slice G g1 g2], .agg #[.int .i64 q, .int .i64 n, .string (bs st), .slice A a1 a2, .slice B b1 b2]] w (Ib (.int .i64 r) w) := by
  have D1 := (Bx.new7 w 81 (.int .i64 ver) (.slice E e1 e2) (.slice F f1 f2) (.int .i64 7) (.int .i64 s) (.string nm) (.slice G g1 g2)).next (ab1 _ (Obj.cells #[.int .i64 q, .int .i64 n, .string (bs st), .slice A a1 a2, .slice B b1 b2] 34))
  have D2 := Bx.new5 (w.alloc (Obj.cells #[.int .i64 ver, .slice E e1 e2, .slice F f1 f2, .int .i64 7, .int .i64 s, .string nm, .slice G g1 g2] 81)) 34 (.int .i64 q) (.int .i64 n) (.string (bs st)) (.slice A a1 a2) (.slice B b1 b2)
  have hab := ab2 w (Obj.cells #[.int .i64 ver, .slice E e1 e2, .slice F f1 f2, .int .i64 7, .int .i64 s, .string nm, .slice G g1 g2] 81) (Obj.cells #[.int .i64 q, .int .i64 n, .string (bs st), .slice A a1 a2, .slice B b1 b2] 34)
  rw [show (w.alloc (Obj.cells #[.int .i64 ver, .slice E e1 e2, .slice F f1 f2, .int .i64 7, .int .i64 s, .string nm, .slice G g1 g2] 81)).heap.size = w.heap.size + 1 by simp] at D2
  have i0 := D1.c 0 rfl
  have i1 := D1.c 1 rfl
  have i2 := D1.c 2 rfl
  have i3 := D1.c 3 rfl
  have i4 := D1.c 4 rfl
  have i5 := D1.c 5 rfl
  have i6 := D1.c 6 rfl
  have j0 := D2.c 0 rfl
  have j1 := D2.c 1 rfl
  have j2 := D2.c 2 rfl
  have j3 := D2.c 3 rfl
  have j4 := D2.c 4 rfl
  clear D1 D2
  go_enter Tryz.func38, Tryz.ntmps38
  go_wp2_with fail
  refine (cA _ hab).mono ?_
  rintro e w2 ⟨rfl, hb2⟩
  go_wp2_with fail
  go_ret
  exact ⟨rfl, Below.next hab hb2⟩
set_option maxRecDepth 100000 in
set_option maxHeartbeats 8000000 in
theorem checko_any (ver : Int) (E : Option Addr) (e1 e2 : Nat) (F : Option Addr) (f1 f2 : Nat) (k : Int) (s : Int) (nm : ByteArray) (G : Option Addr) (g1 g2 : Nat) (q n : Int) (st : List UInt8) (A : Option Addr) (a1 a2 : Nat) (B : Option Addr) (b1 b2 : Nat) (w : World) (k1 : k ≠ 1) (k2 : k ≠ 2) (k3 : k ≠ 3) (k4 : k ≠ 4) (k5 : k ≠ 5) (k6 : k ≠ 6) (k7 : k ≠ 7) :
    Calls Tryz.prog 38 #[.agg #[.int .i64 ver, .slice E e1 e2, .slice F f1 f2, .int .i64 k, .int .i64 s, .string nm, .slice G g1 g2], .agg #[.int .i64 q, .int .i64 n, .string (bs st), .slice A a1 a2, .slice B b1 b2]] w (Ib (.int .i64 13) w) := by
  have D1 := (Bx.new7 w 81 (.int .i64 ver) (.slice E e1 e2) (.slice F f1 f2) (.int .i64 k) (.int .i64 s) (.string nm) (.slice G g1 g2)).next (ab1 _ (Obj.cells #[.int .i64 q, .int .i64 n, .string (bs st), .slice A a1 a2, .slice B b1 b2] 34))
  have D2 := Bx.new5 (w.alloc (Obj.cells #[.int .i64 ver, .slice E e1 e2, .slice F f1 f2, .int .i64 k, .int .i64 s, .string nm, .slice G g1 g2] 81)) 34 (.int .i64 q) (.int .i64 n) (.string (bs st)) (.slice A a1 a2) (.slice B b1 b2)
  have hab := ab2 w (Obj.cells #[.int .i64 ver, .slice E e1 e2, .slice F f1 f2, .int .i64 k, .int .i64 s, .string nm, .slice G g1 g2] 81) (Obj.cells #[.int .i64 q, .int .i64 n, .string (bs st), .slice A a1 a2, .slice B b1 b2] 34)
  rw [show (w.alloc (Obj.cells #[.int .i64 ver, .slice E e1 e2, .slice F f1 f2, .int .i64 k, .int .i64 s, .string nm, .slice G g1 g2] 81)).heap.size = w.heap.size + 1 by simp] at D2
  have i0 := D1.c 0 rfl
  have i1 := D1.c 1 rfl
  have i2 := D1.c 2 rfl
  have i3 := D1.c 3 rfl
  have i4 := D1.c 4 rfl
  have i5 := D1.c 5 rfl
  have i6 := D1.c 6 rfl
  have j0 := D2.c 0 rfl
  have j1 := D2.c 1 rfl
  have j2 := D2.c 2 rfl
  have j3 := D2.c 3 rfl
  have j4 := D2.c 4 rfl
  clear D1 D2
  have q1 : (k == 1) = false := by simpa using k1
  have q2 : (k == 2) = false := by simpa using k2
  have q3 : (k == 3) = false := by simpa using k3
  have q4 : (k == 4) = false := by simpa using k4
  have q5 : (k == 5) = false := by simpa using k5
  have q6 : (k == 6) = false := by simpa using k6
  have q7 : (k == 7) = false := by simpa using k7
  clear k1 k2 k3 k4 k5 k6 k7
  go_enter Tryz.func38, Tryz.ntmps38
  go_wp2_with fail
  go_ret
  exact ⟨rfl, hab⟩
end Go.Proofs.YthfodpbecddheaaGreatDoor
/-
  The developers' check of a value, whatever its kind. No conditions beyond those that each names.
-/
namespace Go.Proofs.YthfodpbecddheaaGreatDoor
open Go.RowKit
/-- The first error behind the tests of the kind. -/
def inr_ (S : Sch) (t : Ty) (k n : Int) (s : List UInt8) (l : List Vl) (f : List (Int × Vl)) : Int :=
  if (decide (k ≠ 6) || shp (fds S t) f) = false then 13 else
    if rgd S t n = false then 4 else
    if fits t s.length l.length = false then 3 else
    fex (vck.vckl S (t.elem.headD (.mk 0 0 [] [])) l) (vck.vckf S (fds S t) f)
theorem vck_gate {S : Sch} {t : Ty} {k n : Int} {s : List UInt8} {l : List Vl} {f : List (Int × Vl)} {r : Int} (h : right S t = true → k = t.kind → pur k n s l.length f.length = true → r = inr_ S t k n s l f) :
    (if right S t = true ∧ k = t.kind ∧ pur k n s l.length f.length = true then r else 13) = vck S t (.mk k n s l f) := by
  rw [vck]
  by_cases h1 : right S t = true
  · by_cases h2 : k = t.kind
    · by_cases h3 : pur k n s l.length f.length = true
      · rw [if_pos ⟨h1, h2, h3⟩, h h1 h2 h3, h1, h3, decide_eq_true h2, inr_]
        simp only [Bool.true_and, Bool.and_true]
      · rw [if_neg (fun x => h3 x.2.2)]
        have h3 : pur k n s l.length f.length = false := by simpa using h3
        rw [h3]
        simp
    · rw [if_neg (fun x => h2 x.2.1), decide_eq_false h2]
      simp
  · rw [if_neg (fun x => h1 x.1)]
    have h1 : right S t = false := by simpa using h1
    rw [h1]
    simp
theorem fex_r (a : Int) : fex a 0 = a := by unfold fex; split <;> simp [*]
theorem fex_l (a : Int) : fex 0 a = a := fex_zero rfl
theorem pur_l {k n : Int} {s : List UInt8} {l : List Vl} {b : Nat} (h : pur k n s l.length b = true) (hk : k ≠ 5) : l = [] := by
  unfold pur at h
  simp only [Bool.and_eq_true, Bool.or_eq_true, decide_eq_true_eq] at h
  rcases h.2.1 with h | h
  · exact absurd h hk
  · exact List.eq_nil_of_length_eq_zero h
theorem pur_f {k n : Int} {s : List UInt8} {a : Nat} {f : List (Int × Vl)} (h : pur k n s a f.length = true) (hk : k ≠ 6) : f = [] := by
  unfold pur at h
  simp only [Bool.and_eq_true, Bool.or_eq_true, decide_eq_true_eq] at h
  rcases h.2.2.1 with h | h
  · exact absurd h hk
  · exact List.eq_nil_of_length_eq_zero h
theorem inr_plain {S : Sch} {t : Ty} {k n : Int} {s : List UInt8} {l : List Vl} {f : List (Int × Vl)} (hp : pur k n s l.length f.length = true) (h5 : k ≠ 5) (h6 : k ≠ 6) :
    inr_ S t k n s l f = if rgd S t n = false then 4 else if fits t s.length 0 = false then 3 else 0 := by
  obtain rfl := pur_l hp h5
  obtain rfl := pur_f hp h6
  unfold inr_
  rw [decide_eq_true h6, vck.vckl, vck.vckf]
  simp [fex]
theorem fits_no {t : Ty} {a b : Nat} (h4 : t.kind ≠ 4) (h5 : t.kind ≠ 5) : fits t a b = true := by
  unfold fits
  exact decide_eq_true ⟨fun h => absurd h h4, fun h => absurd h h5⟩
theorem rgd_no {S : Sch} {t : Ty} {n : Int} (h1 : t.kind ≠ 1) (h2 : t.kind ≠ 2) (h3 : t.kind ≠ 3) (h7 : t.kind ≠ 7) : rgd S t n = true := by
  unfold rgd
  rw [if_neg h1, if_neg h2, if_neg h3, if_neg h7]
theorem ite_dec (p : Prop) [Decidable p] (q : Bool) (h : q = decide p) (a b : Int) : (if p then a else b) = if q = false then b else a := by
  subst h
  by_cases hp : p <;> simp [hp]
theorem right_two {S : Sch} {s : Int} {nm : List UInt8} {e : List Ty} (h : right S (.mk 2 s nm e) = true) : s = 8 ∨ s = 16 ∨ s = 32 ∨ s = 64 := by
  rw [right_eq] at h
  simp [szOk] at h
  omega
theorem right_three {S : Sch} {s : Int} {nm : List UInt8} {e : List Ty} (h : right S (.mk 3 s nm e) = true) : s = 8 ∨ s = 16 ∨ s = 32 := by
  rw [right_eq] at h
  simp [szOk] at h
  omega
theorem right_none {S : Sch} {k s : Int} {nm : List UInt8} {e : List Ty} (k1 : k ≠ 1) (k2 : k ≠ 2) (k3 : k ≠ 3) (k4 : k ≠ 4) (k5 : k ≠ 5) (k6 : k ≠ 6) (k7 : k ≠ 7) : right S (.mk k s nm e) = false := by
  rw [right_eq]
  simp [szOk, k1, k2, k3, k4, k5, k6, k7]
set_option maxRecDepth 100000 in
set_option maxHeartbeats 8000000 in
theorem check_rec (S : Sch) (hf : Few9 S) (hlk : lok9 S) (hasc : ∀ t ∈ S.structs, AscD t.fields) : ∀ N, CkI S N := by
  intro N
  induction N with
  | zero => intro t v A c A2 c2 G g u w hN; omega
  | succ N ih =>
    intro t v A c A2 c2 G g u w hN hlo hvo hS hG hV
    have cP := fun W (h : Below w.heap.size w W) => permits9_any _ S t (.agg #[.int .i64 S.ver, .slice A S.enums.length c, .slice A2 S.structs.length c2]) (.agg #[.int .i64 t.kind, .int .i64 t.size, .string (bs t.name), .slice G t.elem.length g]) W (Nat.lt_succ_self _) hf hlo ⟨A, c, A2, c2, rfl, Sc.next h hS⟩ ⟨G, g, rfl, hG.next fun x p => TyA.next h x p⟩
    obtain ⟨B, b, B2, b2, rfl, hL, hF⟩ := hV
    have hvo2 := vok_iff.1 hvo
    have hlL : ∀ i (h : i < v.l.length), SizeOf.sizeOf (v.l[i]'h) < N ∧ vok (v.l[i]'h) := fun i h => ⟨by have := size_l (t := v) h; omega, hvo2.2.1.2 _ (List.getElem_mem h)⟩
    have hfF : ∀ i (h : i < v.f.length), SizeOf.sizeOf (v.f[i]'h).2 < N ∧ vok (v.f[i]'h).2 := fun i h => ⟨by have := size_f (t := v) h; omega, hvo2.2.2.2 _ (List.getElem_mem h)⟩
    obtain ⟨k, s, nm, e⟩ := t
    obtain ⟨q, n, st, l, f⟩ := v
    have hll : l.length ≤ 9223372036854775807 := hvo2.2.1.1
    have hfl : f.length ≤ 9223372036854775807 := hvo2.2.2.1
    simp only [Ty.kind, Ty.size, Ty.name, Ty.elem] at cP hG
    simp only [Vl.l, Vl.f] at hL hF hlL hfF
    by_cases k1 : k = 1
    · subst k1
      have hA := fun W h => admit_boolean S.ver A S.enums.length c A2 S.structs.length c2 1 s (bs nm) G e.length g q n st B l.length b B2 f.length b2 (right S (.mk 1 s nm e)) (if rgd S (.mk 1 s nm e) n = false then 4 else 0) W (fun W' h' => cP W' (Below.next h h')) (fun _ _ _ W' _ => by
        have h := boolean_any S.ver A S.enums.length c A2 S.structs.length c2 1 s (bs nm) G e.length g q n (bs st) B l.length b B2 f.length b2 W'
        rwa [ite_dec _ (rgd S (.mk 1 s nm e) n) (by unfold rgd; rw [if_pos (by rfl)]; exact decide_eq_decide.2 (by omega)) 0 4] at h)
      have hE := vck_gate (S := S) (t := (.mk 1 s nm e)) (k := q) (n := n) (s := st) (l := l) (f := f) (r := if rgd S (.mk 1 s nm e) n = false then 4 else 0) (fun h1 h2 h3 => by
        have h2 : q = 1 := h2
        rw [inr_plain h3 (by omega) (by omega), fits_no (t := .mk 1 s nm e) (show (1 : Int) ≠ 4 by decide) (show (1 : Int) ≠ 5 by decide)]
        simp)
      show Calls _ _ _ _ (Ib (.int .i64 (vck S (.mk 1 s nm e) (.mk q n st l f))) w)
      rw [← hE]
      exact check1_any S.ver A S.enums.length c A2 S.structs.length c2 s (bs nm) G e.length g q n st B l.length b B2 f.length b2 _ w hA
    by_cases k2 : k = 2
    · subst k2
      have hA := fun W h => admit_signed S.ver A S.enums.length c A2 S.structs.length c2 2 s (bs nm) G e.length g q n st B l.length b B2 f.length b2 (right S (.mk 2 s nm e)) (if rgd S (.mk 2 s nm e) n = false then 4 else 0) W (fun W' h' => cP W' (Below.next h h')) (fun hp _ _ W' _ => by
        rcases right_two hp with rfl | rfl | rfl | rfl
        · exact (by have h := signed8_any S.ver A S.enums.length c A2 S.structs.length c2 2 (bs nm) G e.length g q n (bs st) B l.length b B2 f.length b2 W'; rwa [ite_dec _ (rgd S (.mk 2 8 nm e) n) (by unfold rgd; rw [if_neg (by show ¬ (2 : Int) = 1; decide), if_pos (by rfl)]; exact decide_eq_decide.2 (by rw [show (2 : Int) ^ ((Ty.mk 2 8 nm e).size.toNat - 1) = 128 from rfl]; omega)) 0 4] at h)
        · exact (by have h := signed16_any S.ver A S.enums.length c A2 S.structs.length c2 2 (bs nm) G e.length g q n (bs st) B l.length b B2 f.length b2 W'; rwa [ite_dec _ (rgd S (.mk 2 16 nm e) n) (by unfold rgd; rw [if_neg (by show ¬ (2 : Int) = 1; decide), if_pos (by rfl)]; exact decide_eq_decide.2 (by rw [show (2 : Int) ^ ((Ty.mk 2 16 nm e).size.toNat - 1) = 32768 from rfl]; omega)) 0 4] at h)
        · exact (by have h := signed32_any S.ver A S.enums.length c A2 S.structs.length c2 2 (bs nm) G e.length g q n (bs st) B l.length b B2 f.length b2 W'; rwa [ite_dec _ (rgd S (.mk 2 32 nm e) n) (by unfold rgd; rw [if_neg (by show ¬ (2 : Int) = 1; decide), if_pos (by rfl)]; exact decide_eq_decide.2 (by rw [show (2 : Int) ^ ((Ty.mk 2 32 nm e).size.toNat - 1) = 2147483648 from rfl]; omega)) 0 4] at h)
        · exact (by have h := signed64_any S.ver A S.enums.length c A2 S.structs.length c2 2 (bs nm) G e.length g q n (bs st) B l.length b B2 f.length b2 W'; rwa [ite_dec _ (rgd S (.mk 2 64 nm e) n) (by unfold rgd; rw [if_neg (by show ¬ (2 : Int) = 1; decide), if_pos (by rfl)]; exact decide_eq_decide.2 (by rw [show (2 : Int) ^ ((Ty.mk 2 64 nm e).size.toNat - 1) = 9223372036854775808 from rfl]; omega)) 0 4] at h))
      have hE := vck_gate (S := S) (t := (.mk 2 s nm e)) (k := q) (n := n) (s := st) (l := l) (f := f) (r := if rgd S (.mk 2 s nm e) n = false then 4 else 0) (fun h1 h2 h3 => by
        have h2 : q = 2 := h2
        rw [inr_plain h3 (by omega) (by omega), fits_no (t := .mk 2 s nm e) (show (2 : Int) ≠ 4 by decide) (show (2 : Int) ≠ 5 by decide)]
        simp)
      show Calls _ _ _ _ (Ib (.int .i64 (vck S (.mk 2 s nm e) (.mk q n st l f))) w)
      rw [← hE]
      exact check2_any S.ver A S.enums.length c A2 S.structs.length c2 s (bs nm) G e.length g q n st B l.length b B2 f.length b2 _ w hA
    by_cases k3 : k = 3
    · subst k3
      have hA := fun W h => admit_unsigned S.ver A S.enums.length c A2 S.structs.length c2 3 s (bs nm) G e.length g q n st B l.length b B2 f.length b2 (right S (.mk 3 s nm e)) (if rgd S (.mk 3 s nm e) n = false then 4 else 0) W (fun W' h' => cP W' (Below.next h h')) (fun hp _ _ W' _ => by
        rcases right_three hp with rfl | rfl | rfl
        · exact (by have h := unsigned8_any S.ver A S.enums.length c A2 S.structs.length c2 3 (bs nm) G e.length g q n (bs st) B l.length b B2 f.length b2 W'; rwa [ite_dec _ (rgd S (.mk 3 8 nm e) n) (by unfold rgd; rw [if_neg (by show ¬ (3 : Int) = 1; decide), if_neg (by show ¬ (3 : Int) = 2; decide), if_pos (by rfl)]; exact decide_eq_decide.2 (by rw [show (2 : Int) ^ ((Ty.mk 3 8 nm e).size.toNat) = 256 from rfl]; omega)) 0 4] at h)
        · exact (by have h := unsigned16_any S.ver A S.enums.length c A2 S.structs.length c2 3 (bs nm) G e.length g q n (bs st) B l.length b B2 f.length b2 W'; rwa [ite_dec _ (rgd S (.mk 3 16 nm e) n) (by unfold rgd; rw [if_neg (by show ¬ (3 : Int) = 1; decide), if_neg (by show ¬ (3 : Int) = 2; decide), if_pos (by rfl)]; exact decide_eq_decide.2 (by rw [show (2 : Int) ^ ((Ty.mk 3 16 nm e).size.toNat) = 65536 from rfl]; omega)) 0 4] at h)
        · exact (by have h := unsigned32_any S.ver A S.enums.length c A2 S.structs.length c2 3 (bs nm) G e.length g q n (bs st) B l.length b B2 f.length b2 W'; rwa [ite_dec _ (rgd S (.mk 3 32 nm e) n) (by unfold rgd; rw [if_neg (by show ¬ (3 : Int) = 1; decide), if_neg (by show ¬ (3 : Int) = 2; decide), if_pos (by rfl)]; exact decide_eq_decide.2 (by rw [show (2 : Int) ^ ((Ty.mk 3 32 nm e).size.toNat) = 4294967296 from rfl]; omega)) 0 4] at h))
      have hE := vck_gate (S := S) (t := (.mk 3 s nm e)) (k := q) (n := n) (s := st) (l := l) (f := f) (r := if rgd S (.mk 3 s nm e) n = false then 4 else 0) (fun h1 h2 h3 => by
        have h2 : q = 3 := h2
        rw [inr_plain h3 (by omega) (by omega), fits_no (t := .mk 3 s nm e) (show (3 : Int) ≠ 4 by decide) (show (3 : Int) ≠ 5 by decide)]
        simp)
      show Calls _ _ _ _ (Ib (.int .i64 (vck S (.mk 3 s nm e) (.mk q n st l f))) w)
      rw [← hE]
      exact check3_any S.ver A S.enums.length c A2 S.structs.length c2 s (bs nm) G e.length g q n st B l.length b B2 f.length b2 _ w hA
    by_cases k4 : k = 4
    · subst k4
      have hA := fun W h => admit_text S.ver A S.enums.length c A2 S.structs.length c2 4 s (bs nm) G e.length g q n st B l.length b B2 f.length b2 (right S (.mk 4 s nm e)) (if fits (.mk 4 s nm e) st.length 0 = false then 3 else 0) W (fun W' h' => cP W' (Below.next h h')) (fun _ _ _ W' _ => by
        have h := text_any S.ver A S.enums.length c A2 S.structs.length c2 4 s (bs nm) G e.length g q n st B l.length b B2 f.length b2 W'
        rwa [ite_dec _ (fits (.mk 4 s nm e) st.length 0) (by unfold fits; exact decide_eq_decide.2 ⟨fun h => h.1 rfl, fun h => ⟨fun _ => h, fun h => absurd h (by show ¬ (4 : Int) = 5; decide)⟩⟩) 0 3] at h)
      have hE := vck_gate (S := S) (t := (.mk 4 s nm e)) (k := q) (n := n) (s := st) (l := l) (f := f) (r := if fits (.mk 4 s nm e) st.length 0 = false then 3 else 0) (fun h1 h2 h3 => by
        have h2 : q = 4 := h2
        rw [inr_plain h3 (by omega) (by omega), rgd_no (t := .mk 4 s nm e) (show (4 : Int) ≠ 1 by decide) (show (4 : Int) ≠ 2 by decide) (show (4 : Int) ≠ 3 by decide) (show (4 : Int) ≠ 7 by decide)]
        simp)
      show Calls _ _ _ _ (Ib (.int .i64 (vck S (.mk 4 s nm e) (.mk q n st l f))) w)
      rw [← hE]
      exact check4_any S.ver A S.enums.length c A2 S.structs.length c2 s (bs nm) G e.length g q n st B l.length b B2 f.length b2 _ w hA
    by_cases k5 : k = 5
    · subst k5
      have hA := fun W h => admit_list S.ver A S.enums.length c A2 S.structs.length c2 5 s (bs nm) G e.length g q n st B l.length b B2 f.length b2 (right S (.mk 5 s nm e)) (if fits (.mk 5 s nm e) st.length l.length = false then 3 else vck.vckl S (e.headD (.mk 0 0 [] [])) l) W (fun W' h' => cP W' (Below.next h h')) (fun hp _ _ W' hW => by
        obtain ⟨-, x, rfl, -⟩ := right_list hp
        have h := list_any S N ih A c A2 c2 5 s (bs nm) x G g q n (bs st) l B b B2 f.length b2 W' hlL hll (lok_get (t := .mk 5 s nm [x]) hlo (i := 0) (by show 0 < 1; omega)) (Sc.next (Below.next h hW) hS) (hG.next fun x p => TyA.next (Below.next h hW) x p) (hL.next fun x p => VlA.next (Below.next h hW) x p)
        rwa [ite_dec _ (fits (.mk 5 s nm [x]) st.length l.length) (by unfold fits; exact decide_eq_decide.2 ⟨fun h => h.2 rfl, fun h => ⟨fun h => absurd h (by show ¬ (5 : Int) = 4; decide), fun _ => h⟩⟩) (vck.vckl S x l) 3] at h)
      have hE := vck_gate (S := S) (t := (.mk 5 s nm e)) (k := q) (n := n) (s := st) (l := l) (f := f) (r := if fits (.mk 5 s nm e) st.length l.length = false then 3 else vck.vckl S (e.headD (.mk 0 0 [] [])) l) (fun h1 h2 h3 => by
        have h2 : q = 5 := h2
        obtain rfl := pur_f h3 (by omega)
        subst h2
        unfold inr_
        rw [rgd_no (t := .mk 5 s nm e) (show (5 : Int) ≠ 1 by decide) (show (5 : Int) ≠ 2 by decide) (show (5 : Int) ≠ 3 by decide) (show (5 : Int) ≠ 7 by decide), vck.vckf, fex_r]
        rfl)
      show Calls _ _ _ _ (Ib (.int .i64 (vck S (.mk 5 s nm e) (.mk q n st l f))) w)
      rw [← hE]
      exact check5_any S.ver A S.enums.length c A2 S.structs.length c2 s (bs nm) G e.length g q n st B l.length b B2 f.length b2 _ w hA
    by_cases k6 : k = 6
    · subst k6
      have hA := fun W h => admit_structure S.ver A S.enums.length c A2 S.structs.length c2 6 s (bs nm) G e.length g q n st B l.length b B2 f.length b2 (right S (.mk 6 s nm e)) (if shp (fds S (.mk 6 s nm e)) f = true then vck.vckf S (fds S (.mk 6 s nm e)) f else 13) W (fun W' h' => cP W' (Below.next h h')) (fun _ _ _ W' hW => structure_any S N ih A c A2 c2 6 s nm G e.length g q n (bs st) B l.length b f B2 b2 W' hf hlk hasc hfF hfl (Sc.next (Below.next h hW) hS) (hF.next fun x p => EtA.next (Below.next h hW) x p))
      have hE := vck_gate (S := S) (t := (.mk 6 s nm e)) (k := q) (n := n) (s := st) (l := l) (f := f) (r := if shp (fds S (.mk 6 s nm e)) f = true then vck.vckf S (fds S (.mk 6 s nm e)) f else 13) (fun h1 h2 h3 => by
        have h2 : q = 6 := h2
        obtain rfl := pur_l h3 (by omega)
        subst h2
        unfold inr_
        rw [rgd_no (t := .mk 6 s nm e) (show (6 : Int) ≠ 1 by decide) (show (6 : Int) ≠ 2 by decide) (show (6 : Int) ≠ 3 by decide) (show (6 : Int) ≠ 7 by decide), fits_no (t := .mk 6 s nm e) (show (6 : Int) ≠ 4 by decide) (show (6 : Int) ≠ 5 by decide), vck.vckl, fex_l]
        cases shp (fds S (.mk 6 s nm e)) f <;> simp)
      show Calls _ _ _ _ (Ib (.int .i64 (vck S (.mk 6 s nm e) (.mk q n st l f))) w)
      rw [← hE]
      exact check6_any S.ver A S.enums.length c A2 S.structs.length c2 s (bs nm) G e.length g q n st B l.length b B2 f.length b2 _ w hA
    by_cases k7 : k = 7
    · subst k7
      have hA := fun W h => admit_enum S.ver A S.enums.length c A2 S.structs.length c2 7 s (bs nm) G e.length g q n st B l.length b B2 f.length b2 (right S (.mk 7 s nm e)) (if rgd S (.mk 7 s nm e) n = false then 4 else 0) W (fun W' h' => cP W' (Below.next h h')) (fun _ _ _ W' hW => by
        have h := enum_any S A A2 c c2 7 s nm G e.length g q n (bs st) B l.length b B2 f.length b2 W' hf (Sc.next (Below.next h hW) hS)
        rwa [ite_dec _ (rgd S (.mk 7 s nm e) n) (by unfold rgd; rw [if_neg (by show ¬ (7 : Int) = 1; decide), if_neg (by show ¬ (7 : Int) = 2; decide), if_neg (by show ¬ (7 : Int) = 3; decide), if_pos (by rfl)]; simp [Ty.name]) 0 4] at h)
      have hE := vck_gate (S := S) (t := (.mk 7 s nm e)) (k := q) (n := n) (s := st) (l := l) (f := f) (r := if rgd S (.mk 7 s nm e) n = false then 4 else 0) (fun h1 h2 h3 => by
        have h2 : q = 7 := h2
        rw [inr_plain h3 (by omega) (by omega), fits_no (t := .mk 7 s nm e) (show (7 : Int) ≠ 4 by decide) (show (7 : Int) ≠ 5 by decide)]
        simp)
      show Calls _ _ _ _ (Ib (.int .i64 (vck S (.mk 7 s nm e) (.mk q n st l f))) w)
      rw [← hE]
      exact check7_any S.ver A S.enums.length c A2 S.structs.length c2 s (bs nm) G e.length g q n st B l.length b B2 f.length b2 _ w hA
    have hE : vck S (.mk k s nm e) (.mk q n st l f) = 13 := by
      rw [vck, right_none k1 k2 k3 k4 k5 k6 k7]
      simp
    rw [hE]
    exact checko_any S.ver A S.enums.length c A2 S.structs.length c2 k s (bs nm) G e.length g q n st B l.length b B2 f.length b2 w k1 k2 k3 k4 k5 k6 k7
end Go.Proofs.YthfodpbecddheaaGreatDoor
/-
  The schemas and the types of the law, as data. No conditions beyond those that each names.
-/
namespace Go.Proofs.YthfodpbecddheaaGreatDoor
open Go.RowKit
def bMode : List UInt8 := [77, 111, 100, 101]
def bTag : List UInt8 := [84, 97, 103]
def bTop : List UInt8 := [84, 111, 112]
def enMode : En := ⟨bMode, [[105, 100, 108, 101], [114, 117, 110]], [0, 3]⟩
def stTag : St := ⟨bTag, [⟨1, [107, 101, 121], false, .mk 4 4 [] []⟩, ⟨5, [110], true, .mk 3 8 [] []⟩]⟩
def stTop : St := ⟨bTop, [⟨2, [120], false, .mk 2 16 [] []⟩, ⟨3, [116, 97, 103, 115], false, .mk 5 3 [] [.mk 6 0 bTag []]⟩, ⟨7, [109, 111, 100, 101], true, .mk 7 0 bMode []⟩, ⟨9, [111, 107], false, .mk 1 0 [] []⟩]⟩
def schA : Sch := ⟨1, [enMode], [stTag, stTop]⟩
def schB : Sch := ⟨2, [], [stTag]⟩
def ScP (S : Sch) (w : World) (e : Ending) (w' : World) : Prop := ∃ v, e = .returned v ∧ ScV w' S v ∧ Below w.heap.size w w'
def TyP (t : Ty) (w : World) (e : Ending) (w' : World) : Prop := ∃ v, e = .returned v ∧ TyV w' t v ∧ Below w.heap.size w w'
theorem heap_alloc_size (w : World) (o : Obj) : (w.alloc o).heap.size = w.heap.size + 1 := by simp
theorem heap_new (w : World) (o : Obj) : (w.alloc o).heap[w.heap.size]? = some o := by
  rw [show (w.alloc o).heap = w.heap.push o from rfl]
  exact Array.getElem?_push_size
theorem Bx.newA (w : World) (t : TypeId) (a : Array Value) : Bx (w.alloc (Obj.cells a t)) w.heap.size a.toList :=
  ⟨by simp, fun j v e => by
    have e2 : a[j]? = some v := by simpa using e
    have h1 := heap_new w (Obj.cells a t)
    refine ⟨?_, ?_⟩
    · unfold World.cell?
      simp only [h1]
      exact e2
    · unfold World.frozen?
      simp only [h1]
      simp⟩
set_option maxRecDepth 100000 in
set_option maxHeartbeats 8000000 in
theorem schemaB_any (n : Int) (w : World) (h0 : 0 ≤ n) (h1 : n ≤ 255) (h : n % 2 = 1) : Calls Tryz.prog 10 #[.int .u8 n] w (ScP schB w) := by
  go_enter Tryz.func10, Tryz.ntmps10
  go_wp2_with fail
  have B0 := Bx.newA w 25 #[.int .i64 2, .slice none 0 0, .slice (some ⟨w.heap.size + 1 + 1 + 1 + 1 + 1 + 1 + 1 + 1 + 1, 0, none⟩) 1 1]
  have b0 := ab1 w (Obj.cells #[.int .i64 2, .slice none 0 0, .slice (some ⟨w.heap.size + 1 + 1 + 1 + 1 + 1 + 1 + 1 + 1 + 1, 0, none⟩) 1 1] 25)
  have z1 : (w.alloc (Obj.cells #[.int .i64 2, .slice none 0 0, .slice (some ⟨w.heap.size + 1 + 1 + 1 + 1 + 1 + 1 + 1 + 1 + 1, 0, none⟩) 1 1] 25)).heap.size = w.heap.size + 1 := by rw [heap_alloc_size]
  have hab := b0
  clear b0
  generalize w.alloc (Obj.cells #[.int .i64 2, .slice none 0 0, .slice (some ⟨w.heap.size + 1 + 1 + 1 + 1 + 1 + 1 + 1 + 1 + 1, 0, none⟩) 1 1] 25) = w1 at *
  have B1 := Bx.newA w1 9 #[.string ⟨#[105, 100, 108, 101]⟩, .string ⟨#[114, 117, 110]⟩]
  have b1 := ab1 w1 (Obj.cells #[.string ⟨#[105, 100, 108, 101]⟩, .string ⟨#[114, 117, 110]⟩] 9)
  have z2 : (w1.alloc (Obj.cells #[.string ⟨#[105, 100, 108, 101]⟩, .string ⟨#[114, 117, 110]⟩] 9)).heap.size = w.heap.size + 1 + 1 := by rw [heap_alloc_size, z1]
  rw [z1] at B1
  replace B0 := B0.next b1
  replace hab := Below.next hab b1
  clear b1
  generalize w1.alloc (Obj.cells #[.string ⟨#[105, 100, 108, 101]⟩, .string ⟨#[114, 117, 110]⟩] 9) = w2 at *
  have B2 := Bx.newA w2 3 #[.int .i64 0, .int .i64 3]
  have b2 := ab1 w2 (Obj.cells #[.int .i64 0, .int .i64 3] 3)
  have z3 : (w2.alloc (Obj.cells #[.int .i64 0, .int .i64 3] 3)).heap.size = w.heap.size + 1 + 1 + 1 := by rw [heap_alloc_size, z2]
  rw [z2] at B2
  replace B0 := B0.next b2
  replace B1 := B1.next b2
  replace hab := Below.next hab b2
  clear b2
  generalize w2.alloc (Obj.cells #[.int .i64 0, .int .i64 3] 3) = w3 at *
  have B3 := Bx.newA w3 75 #[.string ⟨#[77, 111, 100, 101]⟩, .slice (some ⟨w.heap.size + 1, 0, none⟩) 2 2, .slice (some ⟨w.heap.size + 1 + 1, 0, none⟩) 2 2]
  have b3 := ab1 w3 (Obj.cells #[.string ⟨#[77, 111, 100, 101]⟩, .slice (some ⟨w.heap.size + 1, 0, none⟩) 2 2, .slice (some ⟨w.heap.size + 1 + 1, 0, none⟩) 2 2] 75)
  have z4 : (w3.alloc (Obj.cells #[.string ⟨#[77, 111, 100, 101]⟩, .slice (some ⟨w.heap.size + 1, 0, none⟩) 2 2, .slice (some ⟨w.heap.size + 1 + 1, 0, none⟩) 2 2] 75)).heap.size = w.heap.size + 1 + 1 + 1 + 1 := by rw [heap_alloc_size, z3]
  rw [z3] at B3
  replace B0 := B0.next b3
  replace B1 := B1.next b3
  replace B2 := B2.next b3
  replace hab := Below.next hab b3
  clear b3
  generalize w3.alloc (Obj.cells #[.string ⟨#[77, 111, 100, 101]⟩, .slice (some ⟨w.heap.size + 1, 0, none⟩) 2 2, .slice (some ⟨w.heap.size + 1 + 1, 0, none⟩) 2 2] 75) = w4 at *
  have B4 := Bx.newA w4 57 #[.int .i64 1, .string ⟨#[107, 101, 121]⟩, .int .i64 4, .int .i64 4, .string ⟨#[]⟩, .slice none 0 0, .bool false, .int .i64 5, .string ⟨#[110]⟩, .int .i64 3, .int .i64 8, .string ⟨#[]⟩, .slice none 0 0, .bool true]
  have b4 := ab1 w4 (Obj.cells #[.int .i64 1, .string ⟨#[107, 101, 121]⟩, .int .i64 4, .int .i64 4, .string ⟨#[]⟩, .slice none 0 0, .bool false, .int .i64 5, .string ⟨#[110]⟩, .int .i64 3, .int .i64 8, .string ⟨#[]⟩, .slice none 0 0, .bool true] 57)
  have z5 : (w4.alloc (Obj.cells #[.int .i64 1, .string ⟨#[107, 101, 121]⟩, .int .i64 4, .int .i64 4, .string ⟨#[]⟩, .slice none 0 0, .bool false, .int .i64 5, .string ⟨#[110]⟩, .int .i64 3, .int .i64 8, .string ⟨#[]⟩, .slice none 0 0, .bool true] 57)).heap.size = w.heap.size + 1 + 1 + 1 + 1 + 1 := by rw [heap_alloc_size, z4]
  rw [z4] at B4
  replace B0 := B0.next b4
  replace B1 := B1.next b4
  replace B2 := B2.next b4
  replace B3 := B3.next b4
  replace hab := Below.next hab b4
  clear b4
  generalize w4.alloc (Obj.cells #[.int .i64 1, .string ⟨#[107, 101, 121]⟩, .int .i64 4, .int .i64 4, .string ⟨#[]⟩, .slice none 0 0, .bool false, .int .i64 5, .string ⟨#[110]⟩, .int .i64 3, .int .i64 8, .string ⟨#[]⟩, .slice none 0 0, .bool true] 57) = w5 at *
  have B5 := Bx.newA w5 53 #[.string ⟨#[84, 97, 103]⟩, .slice (some ⟨w.heap.size + 1 + 1 + 1 + 1, 0, none⟩) 2 2]
  have b5 := ab1 w5 (Obj.cells #[.string ⟨#[84, 97, 103]⟩, .slice (some ⟨w.heap.size + 1 + 1 + 1 + 1, 0, none⟩) 2 2] 53)
  have z6 : (w5.alloc (Obj.cells #[.string ⟨#[84, 97, 103]⟩, .slice (some ⟨w.heap.size + 1 + 1 + 1 + 1, 0, none⟩) 2 2] 53)).heap.size = w.heap.size + 1 + 1 + 1 + 1 + 1 + 1 := by rw [heap_alloc_size, z5]
  rw [z5] at B5
  replace B0 := B0.next b5
  replace B1 := B1.next b5
  replace B2 := B2.next b5
  replace B3 := B3.next b5
  replace B4 := B4.next b5
  replace hab := Below.next hab b5
  clear b5
  generalize w5.alloc (Obj.cells #[.string ⟨#[84, 97, 103]⟩, .slice (some ⟨w.heap.size + 1 + 1 + 1 + 1, 0, none⟩) 2 2] 53) = w6 at *
  have B6 := Bx.newA w6 29 #[.int .i64 6, .int .i64 0, .string ⟨#[84, 97, 103]⟩, .slice none 0 0]
  have b6 := ab1 w6 (Obj.cells #[.int .i64 6, .int .i64 0, .string ⟨#[84, 97, 103]⟩, .slice none 0 0] 29)
  have z7 : (w6.alloc (Obj.cells #[.int .i64 6, .int .i64 0, .string ⟨#[84, 97, 103]⟩, .slice none 0 0] 29)).heap.size = w.heap.size + 1 + 1 + 1 + 1 + 1 + 1 + 1 := by rw [heap_alloc_size, z6]
  rw [z6] at B6
  replace B0 := B0.next b6
  replace B1 := B1.next b6
  replace B2 := B2.next b6
  replace B3 := B3.next b6
  replace B4 := B4.next b6
  replace B5 := B5.next b6
  replace hab := Below.next hab b6
  clear b6
  generalize w6.alloc (Obj.cells #[.int .i64 6, .int .i64 0, .string ⟨#[84, 97, 103]⟩, .slice none 0 0] 29) = w7 at *
  have B7 := Bx.newA w7 57 #[.int .i64 2, .string ⟨#[120]⟩, .int .i64 2, .int .i64 16, .string ⟨#[]⟩, .slice none 0 0, .bool false, .int .i64 3, .string ⟨#[116, 97, 103, 115]⟩, .int .i64 5, .int .i64 3, .string ⟨#[]⟩, .slice (some ⟨w.heap.size + 1 + 1 + 1 + 1 + 1 + 1, 0, none⟩) 1 1, .bool false, .int .i64 7, .string ⟨#[109, 111, 100, 101]⟩, .int .i64 7, .int .i64 0, .string ⟨#[77, 111, 100, 101]⟩, .slice none 0 0, .bool true, .int .i64 9, .string ⟨#[111, 107]⟩, .int .i64 1, .int .i64 0, .string ⟨#[]⟩, .slice none 0 0, .bool false]
  have b7 := ab1 w7 (Obj.cells #[.int .i64 2, .string ⟨#[120]⟩, .int .i64 2, .int .i64 16, .string ⟨#[]⟩, .slice none 0 0, .bool false, .int .i64 3, .string ⟨#[116, 97, 103, 115]⟩, .int .i64 5, .int .i64 3, .string ⟨#[]⟩, .slice (some ⟨w.heap.size + 1 + 1 + 1 + 1 + 1 + 1, 0, none⟩) 1 1, .bool false, .int .i64 7, .string ⟨#[109, 111, 100, 101]⟩, .int .i64 7, .int .i64 0, .string ⟨#[77, 111, 100, 101]⟩, .slice none 0 0, .bool true, .int .i64 9, .string ⟨#[111, 107]⟩, .int .i64 1, .int .i64 0, .string ⟨#[]⟩, .slice none 0 0, .bool false] 57)
  have z8 : (w7.alloc (Obj.cells #[.int .i64 2, .string ⟨#[120]⟩, .int .i64 2, .int .i64 16, .string ⟨#[]⟩, .slice none 0 0, .bool false, .int .i64 3, .string ⟨#[116, 97, 103, 115]⟩, .int .i64 5, .int .i64 3, .string ⟨#[]⟩, .slice (some ⟨w.heap.size + 1 + 1 + 1 + 1 + 1 + 1, 0, none⟩) 1 1, .bool false, .int .i64 7, .string ⟨#[109, 111, 100, 101]⟩, .int .i64 7, .int .i64 0, .string ⟨#[77, 111, 100, 101]⟩, .slice none 0 0, .bool true, .int .i64 9, .string ⟨#[111, 107]⟩, .int .i64 1, .int .i64 0, .string ⟨#[]⟩, .slice none 0 0, .bool false] 57)).heap.size = w.heap.size + 1 + 1 + 1 + 1 + 1 + 1 + 1 + 1 := by rw [heap_alloc_size, z7]
  rw [z7] at B7
  replace B0 := B0.next b7
  replace B1 := B1.next b7
  replace B2 := B2.next b7
  replace B3 := B3.next b7
  replace B4 := B4.next b7
  replace B5 := B5.next b7
  replace B6 := B6.next b7
  replace hab := Below.next hab b7
  clear b7
  generalize w7.alloc (Obj.cells #[.int .i64 2, .string ⟨#[120]⟩, .int .i64 2, .int .i64 16, .string ⟨#[]⟩, .slice none 0 0, .bool false, .int .i64 3, .string ⟨#[116, 97, 103, 115]⟩, .int .i64 5, .int .i64 3, .string ⟨#[]⟩, .slice (some ⟨w.heap.size + 1 + 1 + 1 + 1 + 1 + 1, 0, none⟩) 1 1, .bool false, .int .i64 7, .string ⟨#[109, 111, 100, 101]⟩, .int .i64 7, .int .i64 0, .string ⟨#[77, 111, 100, 101]⟩, .slice none 0 0, .bool true, .int .i64 9, .string ⟨#[111, 107]⟩, .int .i64 1, .int .i64 0, .string ⟨#[]⟩, .slice none 0 0, .bool false] 57) = w8 at *
  have B8 := Bx.newA w8 53 #[.string ⟨#[84, 111, 112]⟩, .slice (some ⟨w.heap.size + 1 + 1 + 1 + 1 + 1 + 1 + 1, 0, none⟩) 4 4]
  have b8 := ab1 w8 (Obj.cells #[.string ⟨#[84, 111, 112]⟩, .slice (some ⟨w.heap.size + 1 + 1 + 1 + 1 + 1 + 1 + 1, 0, none⟩) 4 4] 53)
  have z9 : (w8.alloc (Obj.cells #[.string ⟨#[84, 111, 112]⟩, .slice (some ⟨w.heap.size + 1 + 1 + 1 + 1 + 1 + 1 + 1, 0, none⟩) 4 4] 53)).heap.size = w.heap.size + 1 + 1 + 1 + 1 + 1 + 1 + 1 + 1 + 1 := by rw [heap_alloc_size, z8]
  rw [z8] at B8
  replace B0 := B0.next b8
  replace B1 := B1.next b8
  replace B2 := B2.next b8
  replace B3 := B3.next b8
  replace B4 := B4.next b8
  replace B5 := B5.next b8
  replace B6 := B6.next b8
  replace B7 := B7.next b8
  replace hab := Below.next hab b8
  clear b8
  generalize w8.alloc (Obj.cells #[.string ⟨#[84, 111, 112]⟩, .slice (some ⟨w.heap.size + 1 + 1 + 1 + 1 + 1 + 1 + 1, 0, none⟩) 4 4] 53) = w9 at *
  have B9 := Bx.newA w9 53 #[.string ⟨#[84, 97, 103]⟩, .slice (some ⟨w.heap.size + 1 + 1 + 1 + 1, 0, none⟩) 2 2]
  have b9 := ab1 w9 (Obj.cells #[.string ⟨#[84, 97, 103]⟩, .slice (some ⟨w.heap.size + 1 + 1 + 1 + 1, 0, none⟩) 2 2] 53)
  have z10 : (w9.alloc (Obj.cells #[.string ⟨#[84, 97, 103]⟩, .slice (some ⟨w.heap.size + 1 + 1 + 1 + 1, 0, none⟩) 2 2] 53)).heap.size = w.heap.size + 1 + 1 + 1 + 1 + 1 + 1 + 1 + 1 + 1 + 1 := by rw [heap_alloc_size, z9]
  rw [z9] at B9
  replace B0 := B0.next b9
  replace B1 := B1.next b9
  replace B2 := B2.next b9
  replace B3 := B3.next b9
  replace B4 := B4.next b9
  replace B5 := B5.next b9
  replace B6 := B6.next b9
  replace B7 := B7.next b9
  replace B8 := B8.next b9
  replace hab := Below.next hab b9
  clear b9
  generalize w9.alloc (Obj.cells #[.string ⟨#[84, 97, 103]⟩, .slice (some ⟨w.heap.size + 1 + 1 + 1 + 1, 0, none⟩) 2 2] 53) = w10 at *
  have r0 := B0.c 0 rfl
  have r1 := B0.c 1 rfl
  have r2 := B0.c 2 rfl
  refine bodyPost_ret (v := .agg #[.int .i64 2, .slice none 0 0, .slice (some ⟨w.heap.size + 1 + 1 + 1 + 1 + 1 + 1 + 1 + 1 + 1, 0, none⟩) 1 1]) (by simp [results, Tryz.results10, go_sem, r0, r1, r2]) rfl ⟨_, rfl, ⟨none, 0, some ⟨w.heap.size + 1 + 1 + 1 + 1 + 1 + 1 + 1 + 1 + 1, 0, none⟩, 1, rfl, ⟨.inl rfl, rw_cons.2 ⟨_, rfl, ⟨B9.c 0 rfl, some ⟨w.heap.size + 1 + 1 + 1 + 1, 0, none⟩, 2, B9.c 1 rfl, rw_cons.2 ⟨_, rfl, ⟨B4.c 0 rfl, B4.c 1 rfl, B4.c 2 rfl, B4.c 3 rfl, B4.c 4 rfl, ⟨none, 0, B4.c 5 rfl, .inl rfl⟩, B4.c 6 rfl⟩, rw_cons.2 ⟨_, rfl, ⟨B4.c 7 rfl, B4.c 8 rfl, B4.c 9 rfl, B4.c 10 rfl, B4.c 11 rfl, ⟨none, 0, B4.c 12 rfl, .inl rfl⟩, B4.c 13 rfl⟩, .inl rfl⟩⟩⟩, .inl rfl⟩⟩⟩, hab⟩
set_option maxRecDepth 100000 in
set_option maxHeartbeats 8000000 in
theorem schemaA_any (n : Int) (w : World) (h0 : 0 ≤ n) (h1 : n ≤ 255) (h : n % 2 = 0) : Calls Tryz.prog 10 #[.int .u8 n] w (ScP schA w) := by
  go_enter Tryz.func10, Tryz.ntmps10
  go_wp2_with fail
  have B0 := Bx.newA w 25 #[.int .i64 1, .slice (some ⟨w.heap.size + 1 + 1 + 1 + 1 + 1 + 1 + 1 + 1 + 1, 0, none⟩) 1 1, .slice (some ⟨w.heap.size + 1 + 1 + 1 + 1 + 1 + 1 + 1 + 1 + 1 + 1, 0, none⟩) 2 2]
  have b0 := ab1 w (Obj.cells #[.int .i64 1, .slice (some ⟨w.heap.size + 1 + 1 + 1 + 1 + 1 + 1 + 1 + 1 + 1, 0, none⟩) 1 1, .slice (some ⟨w.heap.size + 1 + 1 + 1 + 1 + 1 + 1 + 1 + 1 + 1 + 1, 0, none⟩) 2 2] 25)
  have z1 : (w.alloc (Obj.cells #[.int .i64 1, .slice (some ⟨w.heap.size + 1 + 1 + 1 + 1 + 1 + 1 + 1 + 1 + 1, 0, none⟩) 1 1, .slice (some ⟨w.heap.size + 1 + 1 + 1 + 1 + 1 + 1 + 1 + 1 + 1 + 1, 0, none⟩) 2 2] 25)).heap.size = w.heap.size + 1 := by rw [heap_alloc_size]
  have hab := b0
  clear b0
  generalize w.alloc (Obj.cells #[.int .i64 1, .slice (some ⟨w.heap.size + 1 + 1 + 1 + 1 + 1 + 1 + 1 + 1 + 1, 0, none⟩) 1 1, .slice (some ⟨w.heap.size + 1 + 1 + 1 + 1 + 1 + 1 + 1 + 1 + 1 + 1, 0, none⟩) 2 2] 25) = w1 at *
  have B1 := Bx.newA w1 9 #[.string ⟨#[105, 100, 108, 101]⟩, .string ⟨#[114, 117, 110]⟩]
  have b1 := ab1 w1 (Obj.cells #[.string ⟨#[105, 100, 108, 101]⟩, .string ⟨#[114, 117, 110]⟩] 9)
  have z2 : (w1.alloc (Obj.cells #[.string ⟨#[105, 100, 108, 101]⟩, .string ⟨#[114, 117, 110]⟩] 9)).heap.size = w.heap.size + 1 + 1 := by rw [heap_alloc_size, z1]
  rw [z1] at B1
  replace B0 := B0.next b1
  replace hab := Below.next hab b1
  clear b1
  generalize w1.alloc (Obj.cells #[.string ⟨#[105, 100, 108, 101]⟩, .string ⟨#[114, 117, 110]⟩] 9) = w2 at *
  have B2 := Bx.newA w2 3 #[.int .i64 0, .int .i64 3]
  have b2 := ab1 w2 (Obj.cells #[.int .i64 0, .int .i64 3] 3)
  have z3 : (w2.alloc (Obj.cells #[.int .i64 0, .int .i64 3] 3)).heap.size = w.heap.size + 1 + 1 + 1 := by rw [heap_alloc_size, z2]
  rw [z2] at B2
  replace B0 := B0.next b2
  replace B1 := B1.next b2
  replace hab := Below.next hab b2
  clear b2
  generalize w2.alloc (Obj.cells #[.int .i64 0, .int .i64 3] 3) = w3 at *
  have B3 := Bx.newA w3 75 #[.string ⟨#[77, 111, 100, 101]⟩, .slice (some ⟨w.heap.size + 1, 0, none⟩) 2 2, .slice (some ⟨w.heap.size + 1 + 1, 0, none⟩) 2 2]
  have b3 := ab1 w3 (Obj.cells #[.string ⟨#[77, 111, 100, 101]⟩, .slice (some ⟨w.heap.size + 1, 0, none⟩) 2 2, .slice (some ⟨w.heap.size + 1 + 1, 0, none⟩) 2 2] 75)
  have z4 : (w3.alloc (Obj.cells #[.string ⟨#[77, 111, 100, 101]⟩, .slice (some ⟨w.heap.size + 1, 0, none⟩) 2 2, .slice (some ⟨w.heap.size + 1 + 1, 0, none⟩) 2 2] 75)).heap.size = w.heap.size + 1 + 1 + 1 + 1 := by rw [heap_alloc_size, z3]
  rw [z3] at B3
  replace B0 := B0.next b3
  replace B1 := B1.next b3
  replace B2 := B2.next b3
  replace hab := Below.next hab b3
  clear b3
  generalize w3.alloc (Obj.cells #[.string ⟨#[77, 111, 100, 101]⟩, .slice (some ⟨w.heap.size + 1, 0, none⟩) 2 2, .slice (some ⟨w.heap.size + 1 + 1, 0, none⟩) 2 2] 75) = w4 at *
  have B4 := Bx.newA w4 57 #[.int .i64 1, .string ⟨#[107, 101, 121]⟩, .int .i64 4, .int .i64 4, .string ⟨#[]⟩, .slice none 0 0, .bool false, .int .i64 5, .string ⟨#[110]⟩, .int .i64 3, .int .i64 8, .string ⟨#[]⟩, .slice none 0 0, .bool true]
  have b4 := ab1 w4 (Obj.cells #[.int .i64 1, .string ⟨#[107, 101, 121]⟩, .int .i64 4, .int .i64 4, .string ⟨#[]⟩, .slice none 0 0, .bool false, .int .i64 5, .string ⟨#[110]⟩, .int .i64 3, .int .i64 8, .string ⟨#[]⟩, .slice none 0 0, .bool true] 57)
  have z5 : (w4.alloc (Obj.cells #[.int .i64 1, .string ⟨#[107, 101, 121]⟩, .int .i64 4, .int .i64 4, .string ⟨#[]⟩, .slice none 0 0, .bool false, .int .i64 5, .string ⟨#[110]⟩, .int .i64 3, .int .i64 8, .string ⟨#[]⟩, .slice none 0 0, .bool true] 57)).heap.size = w.heap.size + 1 + 1 + 1 + 1 + 1 := by rw [heap_alloc_size, z4]
  rw [z4] at B4
  replace B0 := B0.next b4
  replace B1 := B1.next b4
  replace B2 := B2.next b4
  replace B3 := B3.next b4
  replace hab := Below.next hab b4
  clear b4
  generalize w4.alloc (Obj.cells #[.int .i64 1, .string ⟨#[107, 101, 121]⟩, .int .i64 4, .int .i64 4, .string ⟨#[]⟩, .slice none 0 0, .bool false, .int .i64 5, .string ⟨#[110]⟩, .int .i64 3, .int .i64 8, .string ⟨#[]⟩, .slice none 0 0, .bool true] 57) = w5 at *
  have B5 := Bx.newA w5 53 #[.string ⟨#[84, 97, 103]⟩, .slice (some ⟨w.heap.size + 1 + 1 + 1 + 1, 0, none⟩) 2 2]
  have b5 := ab1 w5 (Obj.cells #[.string ⟨#[84, 97, 103]⟩, .slice (some ⟨w.heap.size + 1 + 1 + 1 + 1, 0, none⟩) 2 2] 53)
  have z6 : (w5.alloc (Obj.cells #[.string ⟨#[84, 97, 103]⟩, .slice (some ⟨w.heap.size + 1 + 1 + 1 + 1, 0, none⟩) 2 2] 53)).heap.size = w.heap.size + 1 + 1 + 1 + 1 + 1 + 1 := by rw [heap_alloc_size, z5]
  rw [z5] at B5
  replace B0 := B0.next b5
  replace B1 := B1.next b5
  replace B2 := B2.next b5
  replace B3 := B3.next b5
  replace B4 := B4.next b5
  replace hab := Below.next hab b5
  clear b5
  generalize w5.alloc (Obj.cells #[.string ⟨#[84, 97, 103]⟩, .slice (some ⟨w.heap.size + 1 + 1 + 1 + 1, 0, none⟩) 2 2] 53) = w6 at *
  have B6 := Bx.newA w6 29 #[.int .i64 6, .int .i64 0, .string ⟨#[84, 97, 103]⟩, .slice none 0 0]
  have b6 := ab1 w6 (Obj.cells #[.int .i64 6, .int .i64 0, .string ⟨#[84, 97, 103]⟩, .slice none 0 0] 29)
  have z7 : (w6.alloc (Obj.cells #[.int .i64 6, .int .i64 0, .string ⟨#[84, 97, 103]⟩, .slice none 0 0] 29)).heap.size = w.heap.size + 1 + 1 + 1 + 1 + 1 + 1 + 1 := by rw [heap_alloc_size, z6]
  rw [z6] at B6
  replace B0 := B0.next b6
  replace B1 := B1.next b6
  replace B2 := B2.next b6
  replace B3 := B3.next b6
  replace B4 := B4.next b6
  replace B5 := B5.next b6
  replace hab := Below.next hab b6
  clear b6
  generalize w6.alloc (Obj.cells #[.int .i64 6, .int .i64 0, .string ⟨#[84, 97, 103]⟩, .slice none 0 0] 29) = w7 at *
  have B7 := Bx.newA w7 57 #[.int .i64 2, .string ⟨#[120]⟩, .int .i64 2, .int .i64 16, .string ⟨#[]⟩, .slice none 0 0, .bool false, .int .i64 3, .string ⟨#[116, 97, 103, 115]⟩, .int .i64 5, .int .i64 3, .string ⟨#[]⟩, .slice (some ⟨w.heap.size + 1 + 1 + 1 + 1 + 1 + 1, 0, none⟩) 1 1, .bool false, .int .i64 7, .string ⟨#[109, 111, 100, 101]⟩, .int .i64 7, .int .i64 0, .string ⟨#[77, 111, 100, 101]⟩, .slice none 0 0, .bool true, .int .i64 9, .string ⟨#[111, 107]⟩, .int .i64 1, .int .i64 0, .string ⟨#[]⟩, .slice none 0 0, .bool false]
  have b7 := ab1 w7 (Obj.cells #[.int .i64 2, .string ⟨#[120]⟩, .int .i64 2, .int .i64 16, .string ⟨#[]⟩, .slice none 0 0, .bool false, .int .i64 3, .string ⟨#[116, 97, 103, 115]⟩, .int .i64 5, .int .i64 3, .string ⟨#[]⟩, .slice (some ⟨w.heap.size + 1 + 1 + 1 + 1 + 1 + 1, 0, none⟩) 1 1, .bool false, .int .i64 7, .string ⟨#[109, 111, 100, 101]⟩, .int .i64 7, .int .i64 0, .string ⟨#[77, 111, 100, 101]⟩, .slice none 0 0, .bool true, .int .i64 9, .string ⟨#[111, 107]⟩, .int .i64 1, .int .i64 0, .string ⟨#[]⟩, .slice none 0 0, .bool false] 57)
  have z8 : (w7.alloc (Obj.cells #[.int .i64 2, .string ⟨#[120]⟩, .int .i64 2, .int .i64 16, .string ⟨#[]⟩, .slice none 0 0, .bool false, .int .i64 3, .string ⟨#[116, 97, 103, 115]⟩, .int .i64 5, .int .i64 3, .string ⟨#[]⟩, .slice (some ⟨w.heap.size + 1 + 1 + 1 + 1 + 1 + 1, 0, none⟩) 1 1, .bool false, .int .i64 7, .string ⟨#[109, 111, 100, 101]⟩, .int .i64 7, .int .i64 0, .string ⟨#[77, 111, 100, 101]⟩, .slice none 0 0, .bool true, .int .i64 9, .string ⟨#[111, 107]⟩, .int .i64 1, .int .i64 0, .string ⟨#[]⟩, .slice none 0 0, .bool false] 57)).heap.size = w.heap.size + 1 + 1 + 1 + 1 + 1 + 1 + 1 + 1 := by rw [heap_alloc_size, z7]
  rw [z7] at B7
  replace B0 := B0.next b7
  replace B1 := B1.next b7
  replace B2 := B2.next b7
  replace B3 := B3.next b7
  replace B4 := B4.next b7
  replace B5 := B5.next b7
  replace B6 := B6.next b7
  replace hab := Below.next hab b7
  clear b7
  generalize w7.alloc (Obj.cells #[.int .i64 2, .string ⟨#[120]⟩, .int .i64 2, .int .i64 16, .string ⟨#[]⟩, .slice none 0 0, .bool false, .int .i64 3, .string ⟨#[116, 97, 103, 115]⟩, .int .i64 5, .int .i64 3, .string ⟨#[]⟩, .slice (some ⟨w.heap.size + 1 + 1 + 1 + 1 + 1 + 1, 0, none⟩) 1 1, .bool false, .int .i64 7, .string ⟨#[109, 111, 100, 101]⟩, .int .i64 7, .int .i64 0, .string ⟨#[77, 111, 100, 101]⟩, .slice none 0 0, .bool true, .int .i64 9, .string ⟨#[111, 107]⟩, .int .i64 1, .int .i64 0, .string ⟨#[]⟩, .slice none 0 0, .bool false] 57) = w8 at *
  have B8 := Bx.newA w8 53 #[.string ⟨#[84, 111, 112]⟩, .slice (some ⟨w.heap.size + 1 + 1 + 1 + 1 + 1 + 1 + 1, 0, none⟩) 4 4]
  have b8 := ab1 w8 (Obj.cells #[.string ⟨#[84, 111, 112]⟩, .slice (some ⟨w.heap.size + 1 + 1 + 1 + 1 + 1 + 1 + 1, 0, none⟩) 4 4] 53)
  have z9 : (w8.alloc (Obj.cells #[.string ⟨#[84, 111, 112]⟩, .slice (some ⟨w.heap.size + 1 + 1 + 1 + 1 + 1 + 1 + 1, 0, none⟩) 4 4] 53)).heap.size = w.heap.size + 1 + 1 + 1 + 1 + 1 + 1 + 1 + 1 + 1 := by rw [heap_alloc_size, z8]
  rw [z8] at B8
  replace B0 := B0.next b8
  replace B1 := B1.next b8
  replace B2 := B2.next b8
  replace B3 := B3.next b8
  replace B4 := B4.next b8
  replace B5 := B5.next b8
  replace B6 := B6.next b8
  replace B7 := B7.next b8
  replace hab := Below.next hab b8
  clear b8
  generalize w8.alloc (Obj.cells #[.string ⟨#[84, 111, 112]⟩, .slice (some ⟨w.heap.size + 1 + 1 + 1 + 1 + 1 + 1 + 1, 0, none⟩) 4 4] 53) = w9 at *
  have B9 := Bx.newA w9 75 #[.string ⟨#[77, 111, 100, 101]⟩, .slice (some ⟨w.heap.size + 1, 0, none⟩) 2 2, .slice (some ⟨w.heap.size + 1 + 1, 0, none⟩) 2 2]
  have b9 := ab1 w9 (Obj.cells #[.string ⟨#[77, 111, 100, 101]⟩, .slice (some ⟨w.heap.size + 1, 0, none⟩) 2 2, .slice (some ⟨w.heap.size + 1 + 1, 0, none⟩) 2 2] 75)
  have z10 : (w9.alloc (Obj.cells #[.string ⟨#[77, 111, 100, 101]⟩, .slice (some ⟨w.heap.size + 1, 0, none⟩) 2 2, .slice (some ⟨w.heap.size + 1 + 1, 0, none⟩) 2 2] 75)).heap.size = w.heap.size + 1 + 1 + 1 + 1 + 1 + 1 + 1 + 1 + 1 + 1 := by rw [heap_alloc_size, z9]
  rw [z9] at B9
  replace B0 := B0.next b9
  replace B1 := B1.next b9
  replace B2 := B2.next b9
  replace B3 := B3.next b9
  replace B4 := B4.next b9
  replace B5 := B5.next b9
  replace B6 := B6.next b9
  replace B7 := B7.next b9
  replace B8 := B8.next b9
  replace hab := Below.next hab b9
  clear b9
  generalize w9.alloc (Obj.cells #[.string ⟨#[77, 111, 100, 101]⟩, .slice (some ⟨w.heap.size + 1, 0, none⟩) 2 2, .slice (some ⟨w.heap.size + 1 + 1, 0, none⟩) 2 2] 75) = w10 at *
  have B10 := Bx.newA w10 53 #[.string ⟨#[84, 97, 103]⟩, .slice (some ⟨w.heap.size + 1 + 1 + 1 + 1, 0, none⟩) 2 2, .string ⟨#[84, 111, 112]⟩, .slice (some ⟨w.heap.size + 1 + 1 + 1 + 1 + 1 + 1 + 1, 0, none⟩) 4 4]
  have b10 := ab1 w10 (Obj.cells #[.string ⟨#[84, 97, 103]⟩, .slice (some ⟨w.heap.size + 1 + 1 + 1 + 1, 0, none⟩) 2 2, .string ⟨#[84, 111, 112]⟩, .slice (some ⟨w.heap.size + 1 + 1 + 1 + 1 + 1 + 1 + 1, 0, none⟩) 4 4] 53)
  have z11 : (w10.alloc (Obj.cells #[.string ⟨#[84, 97, 103]⟩, .slice (some ⟨w.heap.size + 1 + 1 + 1 + 1, 0, none⟩) 2 2, .string ⟨#[84, 111, 112]⟩, .slice (some ⟨w.heap.size + 1 + 1 + 1 + 1 + 1 + 1 + 1, 0, none⟩) 4 4] 53)).heap.size = w.heap.size + 1 + 1 + 1 + 1 + 1 + 1 + 1 + 1 + 1 + 1 + 1 := by rw [heap_alloc_size, z10]
  rw [z10] at B10
  replace B0 := B0.next b10
  replace B1 := B1.next b10
  replace B2 := B2.next b10
  replace B3 := B3.next b10
  replace B4 := B4.next b10
  replace B5 := B5.next b10
  replace B6 := B6.next b10
  replace B7 := B7.next b10
  replace B8 := B8.next b10
  replace B9 := B9.next b10
  replace hab := Below.next hab b10
  clear b10
  generalize w10.alloc (Obj.cells #[.string ⟨#[84, 97, 103]⟩, .slice (some ⟨w.heap.size + 1 + 1 + 1 + 1, 0, none⟩) 2 2, .string ⟨#[84, 111, 112]⟩, .slice (some ⟨w.heap.size + 1 + 1 + 1 + 1 + 1 + 1 + 1, 0, none⟩) 4 4] 53) = w11 at *
  have r0 := B0.c 0 rfl
  have r1 := B0.c 1 rfl
  have r2 := B0.c 2 rfl
  refine bodyPost_ret (v := .agg #[.int .i64 1, .slice (some ⟨w.heap.size + 1 + 1 + 1 + 1 + 1 + 1 + 1 + 1 + 1, 0, none⟩) 1 1, .slice (some ⟨w.heap.size + 1 + 1 + 1 + 1 + 1 + 1 + 1 + 1 + 1 + 1, 0, none⟩) 2 2]) (by simp [results, Tryz.results10, go_sem, r0, r1, r2]) rfl ⟨_, rfl, ⟨some ⟨w.heap.size + 1 + 1 + 1 + 1 + 1 + 1 + 1 + 1 + 1, 0, none⟩, 1, some ⟨w.heap.size + 1 + 1 + 1 + 1 + 1 + 1 + 1 + 1 + 1 + 1, 0, none⟩, 2, rfl, ⟨rw_cons.2 ⟨_, rfl, ⟨B9.c 0 rfl, ⟨some ⟨w.heap.size + 1, 0, none⟩, 2, B9.c 1 rfl, rw_cons.2 ⟨_, rfl, B1.c 0 rfl, rw_cons.2 ⟨_, rfl, B1.c 1 rfl, .inl rfl⟩⟩⟩, some ⟨w.heap.size + 1 + 1, 0, none⟩, 2, B9.c 2 rfl, rw_cons.2 ⟨_, rfl, B2.c 0 rfl, rw_cons.2 ⟨_, rfl, B2.c 1 rfl, .inl rfl⟩⟩⟩, .inl rfl⟩, rw_cons.2 ⟨_, rfl, ⟨B10.c 0 rfl, some ⟨w.heap.size + 1 + 1 + 1 + 1, 0, none⟩, 2, B10.c 1 rfl, rw_cons.2 ⟨_, rfl, ⟨B4.c 0 rfl, B4.c 1 rfl, B4.c 2 rfl, B4.c 3 rfl, B4.c 4 rfl, ⟨none, 0, B4.c 5 rfl, .inl rfl⟩, B4.c 6 rfl⟩, rw_cons.2 ⟨_, rfl, ⟨B4.c 7 rfl, B4.c 8 rfl, B4.c 9 rfl, B4.c 10 rfl, B4.c 11 rfl, ⟨none, 0, B4.c 12 rfl, .inl rfl⟩, B4.c 13 rfl⟩, .inl rfl⟩⟩⟩, rw_cons.2 ⟨_, rfl, ⟨B10.c 2 rfl, some ⟨w.heap.size + 1 + 1 + 1 + 1 + 1 + 1 + 1, 0, none⟩, 4, B10.c 3 rfl, rw_cons.2 ⟨_, rfl, ⟨B7.c 0 rfl, B7.c 1 rfl, B7.c 2 rfl, B7.c 3 rfl, B7.c 4 rfl, ⟨none, 0, B7.c 5 rfl, .inl rfl⟩, B7.c 6 rfl⟩, rw_cons.2 ⟨_, rfl, ⟨B7.c 7 rfl, B7.c 8 rfl, B7.c 9 rfl, B7.c 10 rfl, B7.c 11 rfl, ⟨some ⟨w.heap.size + 1 + 1 + 1 + 1 + 1 + 1, 0, none⟩, 1, B7.c 12 rfl, rw_cons.2 ⟨_, rfl, TyA.of (B6.c 0 rfl) (B6.c 1 rfl) (B6.c 2 rfl) (B6.c 3 rfl) (.inl rfl), .inl rfl⟩⟩, B7.c 13 rfl⟩, rw_cons.2 ⟨_, rfl, ⟨B7.c 14 rfl, B7.c 15 rfl, B7.c 16 rfl, B7.c 17 rfl, B7.c 18 rfl, ⟨none, 0, B7.c 19 rfl, .inl rfl⟩, B7.c 20 rfl⟩, rw_cons.2 ⟨_, rfl, ⟨B7.c 21 rfl, B7.c 22 rfl, B7.c 23 rfl, B7.c 24 rfl, B7.c 25 rfl, ⟨none, 0, B7.c 26 rfl, .inl rfl⟩, B7.c 27 rfl⟩, .inl rfl⟩⟩⟩⟩⟩, .inl rfl⟩⟩⟩⟩, hab⟩
end Go.Proofs.YthfodpbecddheaaGreatDoor


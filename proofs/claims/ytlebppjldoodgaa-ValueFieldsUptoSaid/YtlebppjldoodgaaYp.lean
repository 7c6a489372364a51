import Derived.Test.YtlebppjldoodgaaYh
/-
  The developers' Check of a number, for the self-test. No conditions beyond those that each names.
-/
namespace Go.Proofs.Ytlebppjldoodgaa
open Go.RowKit Go.Shelf
set_option maxRecDepth 100000 in
theorem index8_any (g : Nat) (c : Nat) (w : World) (h0 : w.cell? ⟨g, 0, none⟩ = some (.int .i64 8)) :
    Calls Try.prog 94 #[.slice (some ⟨g, 0, none⟩) 4 c, .int .i64 8] w (Is (.int .i64 0) w) := by
  have hl := blk_lt h0
  go_enter Try.func94, Try.ntmps94
  go_wp2_with fail
  go_loopw [8] (fun i wr => i = .int .i64 0 ∧ wr = w) (fun _ _ => 0)
  case atStart => exact ⟨rfl, rfl⟩
  case round =>
    obtain ⟨rfl, rfl⟩ := hrel
    go_wp2_with fail
    go_ret
    exact ⟨rfl, rfl⟩
set_option maxRecDepth 100000 in
theorem contains8_any (g : Nat) (c : Nat) (w : World) (h0 : w.cell? ⟨g, 0, none⟩ = some (.int .i64 8)) :
    Calls Try.prog 86 #[.slice (some ⟨g, 0, none⟩) 4 c, .int .i64 8] w (Is (.bool true) w) := by
  have c1 := index8_any g c w h0
  go_enter Try.func86, Try.ntmps86
  go_wp2_with fail
  refine c1.mono ?_
  rintro e w2 ⟨rfl, rfl⟩
  go_wp2_with fail
  go_ret
  exact ⟨rfl, rfl⟩
set_option maxRecDepth 100000 in
set_option maxHeartbeats 4000000 in
theorem exceedsN_any (n : Int) (w : World) : Calls Try.prog 27 #[.agg #[.int .i64 2, .int .i64 n, .string ⟨#[]⟩, .slice none 0 0, .slice none 0 0], .int .i64 6] w (Ib (.bool false) w) := by
  go_enter Try.func27, Try.ntmps27
  go_wp2_with fail
  go_ret
  exact ⟨rfl, ab2 _ _ _⟩
set_option maxRecDepth 100000 in
set_option maxHeartbeats 4000000 in
theorem permits8_any (v : Int) (E : Option Addr) (e1 e2 : Nat) (F : Option Addr) (f1 f2 : Nat) (w : World) : Calls Try.prog 74 #[.agg #[.int .i64 v, .slice E e1 e2, .slice F f1 f2], .agg #[.int .i64 2, .int .i64 8, .string ⟨#[]⟩, .slice none 0 0]] w (Ib (.bool true) w) := by
  have h8 := (Bx.new4 ((w.alloc (Obj.cells #[.int .i64 v, .slice E e1 e2, .slice F f1 f2] 33)).alloc (Obj.cells #[.int .i64 2, .int .i64 8, .string ⟨#[]⟩, .slice none 0 0] 37)) 3 (.int .i64 8) (.int .i64 16) (.int .i64 32) (.int .i64 64)).c 0 rfl
  rw [show ((w.alloc (Obj.cells #[.int .i64 v, .slice E e1 e2, .slice F f1 f2] 33)).alloc (Obj.cells #[.int .i64 2, .int .i64 8, .string ⟨#[]⟩, .slice none 0 0] 37)).heap.size = w.heap.size + 1 + 1 by simp] at h8
  have c1 := contains8_any (w.heap.size + 1 + 1) 4 _ h8
  clear h8
  go_enter Try.func74, Try.ntmps74
  go_wp2_with fail
  refine c1.mono ?_
  rintro e w2 ⟨rfl, rfl⟩
  go_wp2_with fail
  go_ret
  exact ⟨rfl, ab3 _ _ _ _⟩
set_option maxRecDepth 100000 in
set_option maxHeartbeats 4000000 in
theorem isPure2_any (n : Int) (w : World) : Calls Try.prog 75 #[.agg #[.int .i64 2, .int .i64 n, .string ⟨#[]⟩, .slice none 0 0, .slice none 0 0]] w (Ib (.bool true) w) := by
  go_enter Try.func75, Try.ntmps75
  go_wp2_with fail
  go_ret
  exact ⟨rfl, ab1 _ _⟩
set_option maxRecDepth 100000 in
set_option maxHeartbeats 4000000 in
theorem signed128_any (v : Int) (E : Option Addr) (e1 e2 : Nat) (F : Option Addr) (f1 f2 : Nat) (w : World) : Calls Try.prog 55 #[.agg #[.int .i64 v, .slice E e1 e2, .slice F f1 f2, .int .i64 2, .int .i64 8, .string ⟨#[]⟩, .slice none 0 0], .agg #[.int .i64 2, .int .i64 128, .string ⟨#[]⟩, .slice none 0 0, .slice none 0 0]] w (Ib (.int .i64 4) w) := by
  go_enter Try.func55, Try.ntmps55
  go_wp2_with (go_in)
  go_ret
  exact ⟨rfl, ab2 _ _ _⟩
set_option maxRecDepth 100000 in
set_option maxHeartbeats 4000000 in
theorem admit128_any (v : Int) (E : Option Addr) (e1 e2 : Nat) (F : Option Addr) (f1 f2 : Nat) (w : World) : Calls Try.prog 53 #[.agg #[.int .i64 v, .slice E e1 e2, .slice F f1 f2, .int .i64 2, .int .i64 8, .string ⟨#[]⟩, .slice none 0 0], .agg #[.int .i64 2, .int .i64 128, .string ⟨#[]⟩, .slice none 0 0, .slice none 0 0], .func (.func 55) #[.agg #[.int .i64 v, .slice E e1 e2, .slice F f1 f2, .int .i64 2, .int .i64 8, .string ⟨#[]⟩, .slice none 0 0]] #[]] w (Ib (.int .i64 4) w) := by
  have cP := fun W => permits8_any v E e1 e2 F f1 f2 W
  have cI := fun W => isPure2_any 128 W
  have cS := fun W => signed128_any v E e1 e2 F f1 f2 W
  have D1 := (Bx.new7 w 55 (.int .i64 v) (.slice E e1 e2) (.slice F f1 f2) (.int .i64 2) (.int .i64 8) (.string ⟨#[]⟩) (.slice none 0 0)).next (ab1 _ (Obj.cells #[.int .i64 2, .int .i64 128, .string ⟨#[]⟩, .slice none 0 0, .slice none 0 0] 25))
  have D2 := Bx.new5 (w.alloc (Obj.cells #[.int .i64 v, .slice E e1 e2, .slice F f1 f2, .int .i64 2, .int .i64 8, .string ⟨#[]⟩, .slice none 0 0] 55)) 25 (.int .i64 2) (.int .i64 128) (.string ⟨#[]⟩) (.slice none 0 0) (.slice none 0 0)
  have hab := ab2 w (Obj.cells #[.int .i64 v, .slice E e1 e2, .slice F f1 f2, .int .i64 2, .int .i64 8, .string ⟨#[]⟩, .slice none 0 0] 55) (Obj.cells #[.int .i64 2, .int .i64 128, .string ⟨#[]⟩, .slice none 0 0, .slice none 0 0] 25)
  rw [show (w.alloc (Obj.cells #[.int .i64 v, .slice E e1 e2, .slice F f1 f2, .int .i64 2, .int .i64 8, .string ⟨#[]⟩, .slice none 0 0] 55)).heap.size = w.heap.size + 1 by simp] at D2
  go_enter Try.func53, Try.ntmps53
  go_wp2_with fail
  refine (cP _).mono ?_
  rintro e w2 ⟨rfl, hb2⟩
  replace D1 := D1.next hb2
  replace D2 := D2.next hb2
  replace hab := Below.next hab hb2
  have c0 := D1.c 0 rfl
  have c1 := D1.c 1 rfl
  have c2 := D1.c 2 rfl
  have c3 := D1.c 3 rfl
  have c4 := D1.c 4 rfl
  have c5 := D1.c 5 rfl
  have c6 := D1.c 6 rfl
  have x0 := D2.c 0 rfl
  have x1 := D2.c 1 rfl
  have x2 := D2.c 2 rfl
  have x3 := D2.c 3 rfl
  have x4 := D2.c 4 rfl
  go_wp2_with fail
  refine (cI _).mono ?_
  rintro e w3 ⟨rfl, hb3⟩
  replace D1 := D1.next hb3
  replace D2 := D2.next hb3
  replace hab := Below.next hab hb3
  clear c0 c1 c2 c3 c4 c5 c6 x0 x1 x2 x3 x4
  have x0 := D2.c 0 rfl
  have x1 := D2.c 1 rfl
  have x2 := D2.c 2 rfl
  have x3 := D2.c 3 rfl
  have x4 := D2.c 4 rfl
  go_wp2_with fail
  refine (cS _).mono ?_
  rintro e w4 ⟨rfl, hb4⟩
  go_wp2_with fail
  go_ret
  exact ⟨rfl, Below.next hab hb4⟩
set_option maxRecDepth 100000 in
set_option maxHeartbeats 4000000 in
theorem check128_any (v : Int) (E : Option Addr) (e1 e2 : Nat) (F : Option Addr) (f1 f2 : Nat) (w : World) : Calls Try.prog 28 #[.agg #[.int .i64 v, .slice E e1 e2, .slice F f1 f2, .int .i64 2, .int .i64 8, .string ⟨#[]⟩, .slice none 0 0], .agg #[.int .i64 2, .int .i64 128, .string ⟨#[]⟩, .slice none 0 0, .slice none 0 0]] w (Ib (.int .i64 4) w) := by
  have cA := fun W => admit128_any v E e1 e2 F f1 f2 W
  go_enter Try.func28, Try.ntmps28
  go_wp2_with fail
  refine (cA _).mono ?_
  rintro e w2 ⟨rfl, hb2⟩
  go_wp2_with fail
  go_ret
  exact ⟨rfl, Below.next (ab2 _ _ _) hb2⟩
set_option maxRecDepth 100000 in
set_option maxHeartbeats 4000000 in
theorem valueCheck128_any (v : Int) (E : Option Addr) (e1 e2 : Nat) (F : Option Addr) (f1 f2 : Nat) (w : World) : Calls Try.prog 9 #[.agg #[.int .i64 v, .slice E e1 e2, .slice F f1 f2], .agg #[.int .i64 2, .int .i64 8, .string ⟨#[]⟩, .slice none 0 0], .agg #[.int .i64 2, .int .i64 128, .string ⟨#[]⟩, .slice none 0 0, .slice none 0 0]] w (Ib (.int .i64 4) w) := by
  have cE := fun W => exceedsN_any 128 W
  have cC := fun W => check128_any v E e1 e2 F f1 f2 W
  have D1 := (Bx.new3 w 33 (.int .i64 v) (.slice E e1 e2) (.slice F f1 f2)).next (ab2 _ (Obj.cells #[.int .i64 2, .int .i64 8, .string ⟨#[]⟩, .slice none 0 0] 37) (Obj.cells #[.int .i64 2, .int .i64 128, .string ⟨#[]⟩, .slice none 0 0, .slice none 0 0] 25))
  have D2 := (Bx.new4 (w.alloc (Obj.cells #[.int .i64 v, .slice E e1 e2, .slice F f1 f2] 33)) 37 (.int .i64 2) (.int .i64 8) (.string ⟨#[]⟩) (.slice none 0 0)).next (ab1 _ (Obj.cells #[.int .i64 2, .int .i64 128, .string ⟨#[]⟩, .slice none 0 0, .slice none 0 0] 25))
  have D3 := Bx.new5 ((w.alloc (Obj.cells #[.int .i64 v, .slice E e1 e2, .slice F f1 f2] 33)).alloc (Obj.cells #[.int .i64 2, .int .i64 8, .string ⟨#[]⟩, .slice none 0 0] 37)) 25 (.int .i64 2) (.int .i64 128) (.string ⟨#[]⟩) (.slice none 0 0) (.slice none 0 0)
  rw [show (w.alloc (Obj.cells #[.int .i64 v, .slice E e1 e2, .slice F f1 f2] 33)).heap.size = w.heap.size + 1 by simp] at D2
  rw [show ((w.alloc (Obj.cells #[.int .i64 v, .slice E e1 e2, .slice F f1 f2] 33)).alloc (Obj.cells #[.int .i64 2, .int .i64 8, .string ⟨#[]⟩, .slice none 0 0] 37)).heap.size = w.heap.size + 1 + 1 by simp] at D3
  have hab := ab3 w (Obj.cells #[.int .i64 v, .slice E e1 e2, .slice F f1 f2] 33) (Obj.cells #[.int .i64 2, .int .i64 8, .string ⟨#[]⟩, .slice none 0 0] 37) (Obj.cells #[.int .i64 2, .int .i64 128, .string ⟨#[]⟩, .slice none 0 0, .slice none 0 0] 25)
  go_enter Try.func9, Try.ntmps9
  go_wp2_with fail
  refine (cE _).mono ?_
  rintro e w2 ⟨rfl, hb2⟩
  replace D1 := D1.next hb2
  replace D2 := D2.next hb2
  replace D3 := D3.next hb2
  replace hab := Below.next hab hb2
  have s0 := D1.c 0 rfl
  have s1 := D1.c 1 rfl
  have s2 := D1.c 2 rfl
  have t0 := D2.c 0 rfl
  have t1 := D2.c 1 rfl
  have t2 := D2.c 2 rfl
  have t3 := D2.c 3 rfl
  have x0 := D3.c 0 rfl
  have x1 := D3.c 1 rfl
  have x2 := D3.c 2 rfl
  have x3 := D3.c 3 rfl
  have x4 := D3.c 4 rfl
  go_wp2_with fail
  refine (cC _).mono ?_
  rintro e w3 ⟨rfl, hb3⟩
  go_wp2_with fail
  go_ret
  exact ⟨rfl, Below.next hab hb3⟩
/-- What the law's schemas are, as far as the self-test asks. -/
def ScU (w : World) (e : Ending) (w' : World) : Prop := ∃ v E e1 e2 F f1 f2, e = .returned (.agg #[.int .i64 v, .slice E e1 e2, .slice F f1 f2]) ∧ Below w.heap.size w w'
set_option maxRecDepth 100000 in
set_option maxHeartbeats 4000000 in
theorem schema0_any (w : World) : Calls Try.prog 10 #[.int .u8 0] w (ScU w) := by
  go_enter Try.func10, Try.ntmps10
  go_wp2_with fail
  refine bodyPost_ret (by simp [results, Try.results10, go_sem]; exact ⟨rfl, ⟨rfl, rfl, rfl⟩, rfl, rfl, rfl⟩) rfl ⟨_, _, _, _, _, _, _, rfl, ?_⟩
  repeat (first | exact ab1 _ _ | refine Below.alloc ?_ (by first | (simp; done) | (simp; omega)) _)
end Go.Proofs.Ytlebppjldoodgaa

import Derived.Test.YtiooilkbbfflaaaHc
import Derived.Lib.QuietBelow
import Derived.Deep.DeepCutAuto
/-
  The library's and the program's comparisons of timers. No conditions beyond those that each names.
-/
namespace Go.Proofs.Ytiooilkbbfflaaa
open Go.RowKit Go.Sort
/-- What a comparison says. -/
def sg (a b : Int) : Int := if a < b then -1 else if b < a then 1 else 0
theorem sg_lt {a b : Int} (h : a < b) : sg a b = -1 := by unfold sg; rw [if_pos h]
theorem sg_gt {a b : Int} (h : b < a) : sg a b = 1 := by unfold sg; rw [if_neg (by omega), if_pos h]
theorem sg_eq (a : Int) : sg a a = 0 := by unfold sg; simp
set_option maxRecDepth 100000 in
theorem cmpInt_any (a b : Int) (w : World) : Calls Try.prog 67 #[.int .i64 a, .int .i64 b] w (Is (.int .i64 (sg a b)) w) := by
  have d0 : (a != a) = false := by simp
  have e0 : (b != b) = false := by simp
  by_cases h1 : a < b
  · have d1 : decide (a < b) = true := decide_eq_true h1
    rw [sg_lt h1]
    clear h1
    go_enter Try.func67, Try.ntmps67
    go_wp2_with (go_in)
    go_ret
    exact ⟨rfl, rfl⟩
  · have d1 : decide (a < b) = false := decide_eq_false h1
    by_cases h2 : b < a
    · have d2 : decide (b < a) = true := decide_eq_true h2
      rw [sg_gt h2]
      clear h1 h2
      go_enter Try.func67, Try.ntmps67
      go_wp2_with (go_in)
      go_ret
      exact ⟨rfl, rfl⟩
    · have d2 : decide (b < a) = false := decide_eq_false h2
      obtain rfl : a = b := by omega
      rw [sg_eq]
      clear h1 h2
      go_enter Try.func67, Try.ntmps67
      go_wp2_with (go_in)
      go_ret
      exact ⟨rfl, rfl⟩
/-- The first of two numbers that isn't 0. -/
def orI (a b : Int) : Int := if a = 0 then b else a
set_option maxRecDepth 100000 in
set_option maxHeartbeats 1000000 in
theorem or_any (a b : Int) (g : Nat) (w : World) (hx : Bx w g [.int .i64 a, .int .i64 b]) : Calls Try.prog 66 #[.slice (some ⟨g, 0, none⟩) 2 2] w (Is (.int .i64 (orI a b)) w) := by
  have c0 := hx.c 0 rfl
  have c1 := hx.c 1 rfl
  have l1 := hx.lt
  clear hx
  by_cases h : a = 0
  · by_cases h2 : b = 0
    · subst h h2
      go_enter Try.func66, Try.ntmps66
      go_wp2_with fail
      go_loop [8] (fun i => ∃ k : Nat, k ≤ 2 ∧ i = .int .i64 (k : Int)) (fun i => 2 - (intOf i).toNat)
      case atStart => exact ⟨0, by omega, rfl⟩
      case round =>
        obtain ⟨k, hk, rfl⟩ := hrel
        match k, hk with
        | 0, _ =>
          go_wp2_with fail
          go_round
          case measure => simp [intOf]
          case rel => exact ⟨1, by omega, rfl⟩
        | 1, _ =>
          go_wp2_with fail
          go_round
          case measure => simp [intOf]
          case rel => exact ⟨2, by omega, rfl⟩
        | 2, _ =>
          go_wp2_with fail
          go_ret
          exact ⟨rfl, rfl⟩
    · have hq : (b != 0) = true := by simpa using h2
      have HR := Lib.hid (show orI a b = b by unfold orI; rw [if_pos h])
      subst h
      clear h2
      go_enter Try.func66, Try.ntmps66
      go_wp2_with fail
      go_loop [8] (fun i => ∃ k : Nat, k ≤ 1 ∧ i = .int .i64 (k : Int)) (fun i => 2 - (intOf i).toNat)
      case atStart => exact ⟨0, by omega, rfl⟩
      case round =>
        obtain ⟨k, hk, rfl⟩ := hrel
        match k, hk with
        | 0, _ =>
          go_wp2_with fail
          go_round
          case measure => simp [intOf]
          case rel => exact ⟨1, by omega, rfl⟩
        | 1, _ =>
          go_wp2_with fail
          go_ret
          rw [HR.out]
          exact ⟨rfl, rfl⟩
  · have hq : (a != 0) = true := by simpa using h
    have HR := Lib.hid (show orI a b = a by unfold orI; rw [if_neg h])
    clear h
    go_enter Try.func66, Try.ntmps66
    go_wp2_with fail
    go_loop [8] (fun i => i = .int .i64 ((0 : Nat) : Int)) (fun i => 2 - (intOf i).toNat)
    case atStart => rfl
    case round =>
      subst hrel
      go_wp2_with fail
      go_ret
      rw [HR.out]
      exact ⟨rfl, rfl⟩
/-- A slice of new elements. -/
def FNs (n : Nat) (cells : List Value) (W0 : World) : Fact := ⟨fun v w' => ∃ g, v = .slice (some ⟨g, 0, none⟩) n n ∧ Bx w' g cells ∧ W0.heap.size ≤ g ∧ Below W0.heap.size W0 w', fun _ _ _ ⟨g, h1, h2, h3, h4⟩ hb => ⟨g, h1, h2.next hb, h3, upG h4 hb⟩⟩
theorem Is.ib_calls {f : FuncId} {args : Array Value} {u : Value} {w : World} (h : Calls Try.prog f args w (Is u w)) : Calls Try.prog f args w (Ib u w) := h.mono fun _ _ h => h.ib
set_option maxRecDepth 100000 in
set_option maxHeartbeats 2000000 in
theorem compare_any (x y : Tm) (w : World) : Calls Try.prog 65 #[(.agg #[.int .i64 (x.id : Int), .int .i64 (x.at_ : Int), .int .i64 (x.per : Int)]), (.agg #[.int .i64 (y.id : Int), .int .i64 (y.at_ : Int), .int .i64 (y.per : Int)])] w (Ib (.int .i64 (orI (sg x.at_ y.at_) (sg x.id y.id))) w) := by
  have z1 : (w.alloc (Obj.cells #[.int .i64 (x.id : Int), .int .i64 (x.at_ : Int), .int .i64 (x.per : Int)] 74)).heap.size = w.heap.size + 1 := by simp
  have z2 : ((w.alloc (Obj.cells #[.int .i64 (x.id : Int), .int .i64 (x.at_ : Int), .int .i64 (x.per : Int)] 74)).alloc (Obj.cells #[.int .i64 (y.id : Int), .int .i64 (y.at_ : Int), .int .i64 (y.per : Int)] 74)).heap.size = w.heap.size + 1 + 1 := by simp
  have hab := ab2 w (Obj.cells #[.int .i64 (x.id : Int), .int .i64 (x.at_ : Int), .int .i64 (x.per : Int)] 74) (Obj.cells #[.int .i64 (y.id : Int), .int .i64 (y.at_ : Int), .int .i64 (y.per : Int)] 74)
  have C1 := (Bx.new3 w 74 (.int .i64 (x.id : Int)) (.int .i64 (x.at_ : Int)) (.int .i64 (x.per : Int))).next (ab1 _ (Obj.cells #[.int .i64 (y.id : Int), .int .i64 (y.at_ : Int), .int .i64 (y.per : Int)] 74))
  have C2 := Bx.new3 (w.alloc (Obj.cells #[.int .i64 (x.id : Int), .int .i64 (x.at_ : Int), .int .i64 (x.per : Int)] 74)) 74 (.int .i64 (y.id : Int)) (.int .i64 (y.at_ : Int)) (.int .i64 (y.per : Int))
  rw [z1] at C2
  go_enter Try.func65, Try.ntmps65
  go_upto_region 1 with (fail)
  generalize (w.alloc (Obj.cells #[.int .i64 (x.id : Int), .int .i64 (x.at_ : Int), .int .i64 (x.per : Int)] 74)).alloc (Obj.cells #[.int .i64 (y.id : Int), .int .i64 (y.at_ : Int), .int .i64 (y.per : Int)] 74) = w0 at *
  have s0 := C1.c 0 rfl
  have s1 := C1.c 1 rfl
  have r0 := C2.c 0 rfl
  have r1 := C2.c 1 rfl
  refine wp_region_on (by kernel_rfl) (FF [(2, Fact.at_ w0 (.pointer (some ⟨w.heap.size, 0, none⟩))), (3, Fact.at_ w0 (.pointer (some ⟨w.heap.size + 1, 0, none⟩))), (5, Fact.at_ w0 (.pointer (some ⟨w.heap.size, 0, none⟩))), (6, Fact.at_ w0 (.pointer (some ⟨w.heap.size, 1, none⟩))), (7, Fact.at_ w0 (.int .i64 (x.at_ : Int))), (8, Fact.at_ w0 (.pointer (some ⟨w.heap.size + 1, 0, none⟩))), (9, Fact.at_ w0 (.pointer (some ⟨w.heap.size + 1, 1, none⟩))), (10, Fact.at_ w0 (.int .i64 (y.at_ : Int))), (11, Fact.at_ w0 (.int .i64 (sg (x.at_ : Int) (y.at_ : Int)))), (12, Fact.at_ w0 (.pointer (some ⟨w.heap.size, 0, none⟩))), (13, Fact.at_ w0 (.pointer (some ⟨w.heap.size, 0, none⟩))), (14, Fact.at_ w0 (.int .i64 (x.id : Int))), (15, Fact.at_ w0 (.pointer (some ⟨w.heap.size + 1, 0, none⟩))), (16, Fact.at_ w0 (.pointer (some ⟨w.heap.size + 1, 0, none⟩))), (17, Fact.at_ w0 (.int .i64 (y.id : Int))), (18, Fact.at_ w0 (.int .i64 (sg (x.id : Int) (y.id : Int)))), (19, FNs 2 [.int .i64 (sg (x.at_ : Int) (y.at_ : Int)), .int .i64 (sg (x.id : Int) (y.id : Int))] w0), (20, Fact.at_ w0 (.int .i64 (orI (sg (x.at_ : Int) (y.at_ : Int)) (sg (x.id : Int) (y.id : Int))))), (4, Fact.at_ w0 (.int .i64 (orI (sg (x.at_ : Int) (y.at_ : Int)) (sg (x.id : Int) (y.id : Int)))))]) [2, 3] 21 [5, 6, 7, 8, 9, 10, 11, 12, 13, 14, 15, 16, 17, 18, 19, 20, 4] rfl (by kernel_rfl) (by kernel_rfl) ?_ ?_ ?_
  · intro t9 ht9
    simp only [List.mem_cons, List.not_mem_nil, or_false] at ht9
    rcases ht9 with rfl | rfl
    · exact ⟨rfl, Below.refl _ _⟩
    · exact ⟨rfl, Below.refl _ _⟩
  · refine fcs ⟨at1 2 5 (.pointer (some ⟨w.heap.size, 0, none⟩)) (.pointer (some ⟨w.heap.size, 0, none⟩)) rfl (by first | exact .inl rfl | exact .inr ⟨_, _, _, rfl, rfl, by kernel_rfl, by decide, rfl⟩) (by kernel_rfl) rfl rfl (fun a9 W9 hb9 h9 => by simp [execOp, h9] <;> go_simp), ?_⟩
    refine fcs ⟨at1 5 6 (.pointer (some ⟨w.heap.size, 0, none⟩)) (.pointer (some ⟨w.heap.size, 1, none⟩)) rfl (by first | exact .inl rfl | exact .inr ⟨_, _, _, rfl, rfl, by kernel_rfl, by decide, rfl⟩) (by kernel_rfl) rfl rfl (fun a9 W9 hb9 h9 => by simp [execOp, h9] <;> go_simp), ?_⟩
    refine fcs ⟨at1 6 7 (.pointer (some ⟨w.heap.size, 1, none⟩)) (.int .i64 (x.at_ : Int)) rfl (by first | exact .inl rfl | exact .inr ⟨_, _, _, rfl, rfl, by kernel_rfl, by decide, rfl⟩) (by kernel_rfl) rfl rfl (fun a9 W9 hb9 h9 => by have g0 := cell_next hb9 s1; simp [execOp, h9] <;> go_simp), ?_⟩
    refine fcs ⟨at1 3 8 (.pointer (some ⟨w.heap.size + 1, 0, none⟩)) (.pointer (some ⟨w.heap.size + 1, 0, none⟩)) rfl (by first | exact .inl rfl | exact .inr ⟨_, _, _, rfl, rfl, by kernel_rfl, by decide, rfl⟩) (by kernel_rfl) rfl rfl (fun a9 W9 hb9 h9 => by simp [execOp, h9] <;> go_simp), ?_⟩
    refine fcs ⟨at1 8 9 (.pointer (some ⟨w.heap.size + 1, 0, none⟩)) (.pointer (some ⟨w.heap.size + 1, 1, none⟩)) rfl (by first | exact .inl rfl | exact .inr ⟨_, _, _, rfl, rfl, by kernel_rfl, by decide, rfl⟩) (by kernel_rfl) rfl rfl (fun a9 W9 hb9 h9 => by simp [execOp, h9] <;> go_simp), ?_⟩
    refine fcs ⟨at1 9 10 (.pointer (some ⟨w.heap.size + 1, 1, none⟩)) (.int .i64 (y.at_ : Int)) rfl (by first | exact .inl rfl | exact .inr ⟨_, _, _, rfl, rfl, by kernel_rfl, by decide, rfl⟩) (by kernel_rfl) rfl rfl (fun a9 W9 hb9 h9 => by have g0 := cell_next hb9 r1; simp [execOp, h9] <;> go_simp), ?_⟩
    refine fcs ⟨atc2 67 7 10 11 (.int .i64 (x.at_ : Int)) (.int .i64 (y.at_ : Int)) (.int .i64 (sg (x.at_ : Int) (y.at_ : Int))) _ rfl rfl (by first | exact .inl rfl | exact .inr ⟨_, _, _, rfl, rfl, by kernel_rfl, by decide, rfl⟩) (by kernel_rfl) (by kernel_rfl) rfl rfl (by kernel_rfl) rfl (fun W9 hb9 => Is.ib_calls (cmpInt_any _ _ W9)), ?_⟩
    refine fcs ⟨at1 2 12 (.pointer (some ⟨w.heap.size, 0, none⟩)) (.pointer (some ⟨w.heap.size, 0, none⟩)) rfl (by first | exact .inl rfl | exact .inr ⟨_, _, _, rfl, rfl, by kernel_rfl, by decide, rfl⟩) (by kernel_rfl) rfl rfl (fun a9 W9 hb9 h9 => by simp [execOp, h9] <;> go_simp), ?_⟩
    refine fcs ⟨at1 12 13 (.pointer (some ⟨w.heap.size, 0, none⟩)) (.pointer (some ⟨w.heap.size, 0, none⟩)) rfl (by first | exact .inl rfl | exact .inr ⟨_, _, _, rfl, rfl, by kernel_rfl, by decide, rfl⟩) (by kernel_rfl) rfl rfl (fun a9 W9 hb9 h9 => by simp [execOp, h9] <;> go_simp), ?_⟩
    refine fcs ⟨at1 13 14 (.pointer (some ⟨w.heap.size, 0, none⟩)) (.int .i64 (x.id : Int)) rfl (by first | exact .inl rfl | exact .inr ⟨_, _, _, rfl, rfl, by kernel_rfl, by decide, rfl⟩) (by kernel_rfl) rfl rfl (fun a9 W9 hb9 h9 => by have g0 := cell_next hb9 s0; simp [execOp, h9] <;> go_simp), ?_⟩
    refine fcs ⟨at1 3 15 (.pointer (some ⟨w.heap.size + 1, 0, none⟩)) (.pointer (some ⟨w.heap.size + 1, 0, none⟩)) rfl (by first | exact .inl rfl | exact .inr ⟨_, _, _, rfl, rfl, by kernel_rfl, by decide, rfl⟩) (by kernel_rfl) rfl rfl (fun a9 W9 hb9 h9 => by simp [execOp, h9] <;> go_simp), ?_⟩
    refine fcs ⟨at1 15 16 (.pointer (some ⟨w.heap.size + 1, 0, none⟩)) (.pointer (some ⟨w.heap.size + 1, 0, none⟩)) rfl (by first | exact .inl rfl | exact .inr ⟨_, _, _, rfl, rfl, by kernel_rfl, by decide, rfl⟩) (by kernel_rfl) rfl rfl (fun a9 W9 hb9 h9 => by simp [execOp, h9] <;> go_simp), ?_⟩
    refine fcs ⟨at1 16 17 (.pointer (some ⟨w.heap.size + 1, 0, none⟩)) (.int .i64 (y.id : Int)) rfl (by first | exact .inl rfl | exact .inr ⟨_, _, _, rfl, rfl, by kernel_rfl, by decide, rfl⟩) (by kernel_rfl) rfl rfl (fun a9 W9 hb9 h9 => by have g0 := cell_next hb9 r0; simp [execOp, h9] <;> go_simp), ?_⟩
    refine fcs ⟨atc2 67 14 17 18 (.int .i64 (x.id : Int)) (.int .i64 (y.id : Int)) (.int .i64 (sg (x.id : Int) (y.id : Int))) _ rfl rfl (by first | exact .inl rfl | exact .inr ⟨_, _, _, rfl, rfl, by kernel_rfl, by decide, rfl⟩) (by kernel_rfl) (by kernel_rfl) rfl rfl (by kernel_rfl) rfl (fun W9 hb9 => Is.ib_calls (cmpInt_any _ _ W9)), ?_⟩
    refine fcs ⟨at_val (W0 := w0) (by first | exact .inl rfl | exact .inr ⟨_, _, _, rfl, rfl, by kernel_rfl, by decide, rfl⟩) (fun a9 W9 hf9 => by have p11 := hf9 11 (by kernel_rfl); have p18 := hf9 18 (by kernel_rfl); have h9 : a9.eval (.tmp 11) = (.int .i64 (sg (x.at_ : Int) (y.at_ : Int))) := p11.1; have h8 : a9.eval (.tmp 18) = (.int .i64 (sg (x.id : Int) (y.id : Int))) := p18.1; exact ⟨.slice (some ⟨W9.heap.size, 0, none⟩) 2 2, W9.alloc (Obj.cells #[.int .i64 (sg (x.at_ : Int) (y.at_ : Int)), .int .i64 (sg (x.id : Int) (y.id : Int))] 3), by simp [execOp, h9, h8] <;> go_simp, ab1 _ _, fun s hs => by injection hs with hs; subst hs; exact ⟨W9.heap.size, rfl, Bx.new2 _ _ _ _, p11.2.size, upG p11.2 (ab1 _ _)⟩⟩), ?_⟩
    refine fcs ⟨at_enter (W0 := w0) (by first | exact .inl rfl | exact .inr ⟨_, _, _, rfl, rfl, by kernel_rfl, by decide, rfl⟩) (fun a9 W9 hf9 => by obtain ⟨g9, p19, bx9, hg9, hb9⟩ := hf9 19 (by kernel_rfl); have q19 : a9.tmps.getD 19 undef = (.slice (some ⟨g9, 0, none⟩) 2 2) := p19; exact ⟨66, #[(.slice (some ⟨g9, 0, none⟩) 2 2)], by rw [← q19]; simpa [execOp, resolve, Act.eval] using run_invoke (by kernel_rfl) _ W9, (or_any _ _ g9 W9 bx9).mono fun e w' ⟨e1, e2⟩ => ⟨(.int .i64 (orI (sg (x.at_ : Int) (y.at_ : Int)) (sg (x.id : Int) (y.id : Int)))), e1, e2 ▸ Below.refl _ _, fun s hs => by injection hs with hs; subst hs; exact ⟨rfl, e2 ▸ hb9⟩⟩⟩), ?_⟩
    refine fcs ⟨atcopy 20 4 (.int .i64 (orI (sg (x.at_ : Int) (y.at_ : Int)) (sg (x.id : Int) (y.id : Int)))) (.inr rfl) rfl (by first | exact .inl rfl | exact .inr ⟨_, _, _, rfl, rfl, by kernel_rfl, by decide, rfl⟩) (by kernel_rfl) rfl rfl, ?_⟩
    exact fnl
  intro vv wv hvv hbv
  have hv4 : vv 4 = (.int .i64 (orI (sg (x.at_ : Int) (y.at_ : Int)) (sg (x.id : Int) (y.id : Int)))) := (hvv 4 (by decide)).1
  simp only [lay, List.foldl_cons, List.foldl_nil, List.setIfInBounds_toArray, List.set_cons_succ, List.set_cons_zero, hv4]
  go_wp2_with fail
  go_ret
  exact ⟨rfl, Below.next hab hbv⟩
end Go.Proofs.Ytiooilkbbfflaaa

import Derived.Test.YtiooilkbbfflaaaHu
/-
  The chapter's example, as the law checks it. No conditions.
-/
namespace Go.Proofs.Ytiooilkbbfflaaa
open Go.RowKit Go.Sort Go.Lib Go.Shelf
theorem Ck.low {c : Nat} {w w' : World} {v : Value} {S : Cs} {B : Nat} (h : Ck c w v S) (hf : Fm (fun i => i = c ∨ v.ownBlock = some i) w w') (hB : B ≤ c) : Fm (fun i => B ≤ i) w w' := hf.weak fun i e => by
  rcases e with e | e
  · omega
  · have := (h.sd.own.lt i e).1; omega
theorem Fm.tr {s : Nat → Prop} {w w1 w2 : World} (h : Fm s w w1) (k : Fm s w1 w2) : Fm s w w2 := h.trans k fun _ _ e => e
theorem OwF.other {B c : Nat} {w w' : World} {x v : Value} {l : List (Nat × Nat)} (h : OwF B w x l) (hf : Fm (fun i => i = c ∨ v.ownBlock = some i) w w') (hc : c < B) (hx : ∀ g, x.ownBlock = some g → v.ownBlock ≠ some g) : OwF B w' x l :=
  own_blk h fun g e => hf.blk g (h.lt g e).2 fun k => by
    rcases k with k | k
    · have := (h.lt g e).1; omega
    · exact hx g e k
theorem OwR.other {B c : Nat} {w w' : World} {x v : Value} {l : List (Nat × Nat)} (h : OwR B w x l) (hf : Fm (fun i => i = c ∨ v.ownBlock = some i) w w') (hc : c < B) (hx : ∀ g, x.ownBlock = some g → v.ownBlock ≠ some g) : OwR B w' x l :=
  own_blk h fun g e => hf.blk g (h.lt g e).2 fun k => by
    rcases k with k | k
    · have := (h.lt g e).1; omega
    · exact hx g e k
theorem av1 : evS ⟨0, 0, []⟩ 10 20 = (⟨0, 1, [⟨1, 10, 20⟩]⟩, 1, 0) := by kernel_rfl
theorem av2 : addS ⟨0, 1, [⟨1, 10, 20⟩]⟩ 30 0 = (⟨0, 2, [⟨1, 10, 20⟩, ⟨2, 30, 0⟩]⟩, 2, 0) := by kernel_rfl
theorem av3 : adS ⟨0, 2, [⟨1, 10, 20⟩, ⟨2, 30, 0⟩]⟩ 50 = (⟨50, 2, [⟨1, 70, 20⟩]⟩, [(1, 10), (1, 30), (2, 30), (1, 50)], 0) := by kernel_rfl
theorem av5 : addS ⟨50, 2, [⟨1, 70, 20⟩]⟩ 49 0 = (⟨50, 2, [⟨1, 70, 20⟩]⟩, 0, 4) := by kernel_rfl
theorem av6 : caS ⟨50, 2, [⟨1, 70, 20⟩]⟩ 2 = (⟨50, 2, [⟨1, 70, 20⟩]⟩, 6) := by kernel_rfl
theorem aw1 (c : Nat) (v : Value) (w : World) (h : Ck c w v ⟨0, 0, []⟩) : Calls Try.prog 18 #[(.pointer (some ⟨c, 0, none⟩)), .int .i64 10, .int .i64 20] w (CkM c v ⟨0, 1, [⟨1, 10, 20⟩]⟩ (.tuple #[.int .i64 1, .int .i64 0]) w) := by
  have k := every_any c v ⟨0, 0, []⟩ 10 20 w h (Nat.succ_pos _)
  rw [av1] at k
  exact k
theorem aw2 (c : Nat) (v : Value) (w : World) (h : Ck c w v ⟨0, 1, [⟨1, 10, 20⟩]⟩) : Calls Try.prog 15 #[(.pointer (some ⟨c, 0, none⟩)), .int .i64 30] w (CkM c v ⟨0, 2, [⟨1, 10, 20⟩, ⟨2, 30, 0⟩]⟩ (.tuple #[.int .i64 2, .int .i64 0]) w) := by
  have k := add_any c v ⟨0, 1, [⟨1, 10, 20⟩]⟩ 30 w h (by show 1 < _; omega)
  rw [av2] at k
  exact k
theorem aw3 (c : Nat) (v : Value) (w : World) (h : Ck c w v ⟨0, 2, [⟨1, 10, 20⟩, ⟨2, 30, 0⟩]⟩) : Calls Try.prog 17 #[(.pointer (some ⟨c, 0, none⟩)), .int .i64 50] w (AdP c v (⟨50, 2, [⟨1, 70, 20⟩]⟩, [(1, 10), (1, 30), (2, 30), (1, 50)], 0) w) := by
  have k := advance_any c v ⟨0, 2, [⟨1, 10, 20⟩, ⟨2, 30, 0⟩]⟩ 50 w h
  rw [av3] at k
  exact k
theorem aw4 (c : Nat) (v : Value) (w : World) (h : Ck c w v ⟨50, 2, [⟨1, 70, 20⟩]⟩) : Calls Try.prog 12 #[(.pointer (some ⟨c, 0, none⟩))] w (Ib (.tuple #[.int .i64 70, .bool true]) w) := next_any c v ⟨50, 2, [⟨1, 70, 20⟩]⟩ w h
theorem aw5 (c : Nat) (v : Value) (w : World) (h : Ck c w v ⟨50, 2, [⟨1, 70, 20⟩]⟩) : Calls Try.prog 15 #[(.pointer (some ⟨c, 0, none⟩)), .int .i64 49] w (CkM c v ⟨50, 2, [⟨1, 70, 20⟩]⟩ (.tuple #[.int .i64 0, .int .i64 4]) w) := by
  have k := add_any c v ⟨50, 2, [⟨1, 70, 20⟩]⟩ 49 w h (by show 2 < _; omega)
  rw [av5] at k
  exact k
theorem aw6 (c : Nat) (v : Value) (w : World) (h : Ck c w v ⟨50, 2, [⟨1, 70, 20⟩]⟩) : Calls Try.prog 16 #[(.pointer (some ⟨c, 0, none⟩)), .int .i64 2] w (CkM c v ⟨50, 2, [⟨1, 70, 20⟩]⟩ (.int .i64 6) w) := by
  have k := cancel_any c v ⟨50, 2, [⟨1, 70, 20⟩]⟩ 2 w h
  rw [av6] at k
  exact k
theorem aw7 (c : Nat) (v : Value) (w : World) (h : Ck c w v ⟨50, 2, [⟨1, 70, 20⟩]⟩) : Calls Try.prog 14 #[(.pointer (some ⟨c, 0, none⟩))] w (Ib (.int .i64 50) w) := now_any c v ⟨50, 2, [⟨1, 70, 20⟩]⟩ w h
theorem wantR (w : World) : OwR w.heap.size (w.alloc (Obj.cells #[.int .i64 1, .int .i64 10, .int .i64 1, .int .i64 30, .int .i64 2, .int .i64 30, .int .i64 1, .int .i64 50] 59)) (.slice (some ⟨w.heap.size, 0, none⟩) 4 4) [(1, 10), (1, 30), (2, 30), (1, 50)] := ⟨rfl, .inr ⟨_, 4, _, rfl, Nat.le_refl _, heap_alloc_new w _, Nat.le_refl _, by decide, rfl, rfl⟩⟩
set_option maxRecDepth 100000 in
set_option maxHeartbeats 4000000 in
theorem awake_any (w : World) : Calls Try.prog 9 #[] w (Ib (.bool true) w) := by
  go_enter Try.func9, Try.ntmps9
  go_wp2_with (first
    | (go_at_call 10; refine (new_any _).mono ?_; rintro e w1 ⟨rfl, K1, hb1⟩)
    | (go_at_call 18; refine (aw1 _ _ _ K1).mono ?_; rintro e w2 ⟨rfl, v2, K2, -, F2⟩)
    | (go_at_call 17; refine (aw3 _ _ _ K3).mono ?_; rintro e w4 ⟨x, v4, rfl, hox, K4, -, F4, hap⟩; obtain ⟨Ax, dx, rfl, -⟩ := own_nil_or hox)
    | (go_at_call 12; refine (aw4 _ _ _ K4).mono ?_; rintro e w5 ⟨rfl, hb5⟩; have K5 := K4.next hb5)
    | (go_at_call 15; refine (aw5 _ _ _ K5).mono ?_; rintro e w6 ⟨rfl, v6, K6, -, F6⟩)
    | (go_at_call 15; refine (aw2 _ _ _ K2).mono ?_; rintro e w3 ⟨rfl, v3, K3, -, F3⟩)
    | (go_at_call 19; have hx6 := OwF.other (own_next hox hb5) F6 K3.lt hap; have hb7 := ab1 w6 (Obj.cells #[.int .i64 1, .int .i64 10, .int .i64 1, .int .i64 30, .int .i64 2, .int .i64 30, .int .i64 1, .int .i64 50] 59); refine (plain_any _ _ [(1, 10), (1, 30), (2, 30), (1, 50)] _ (by decide) (own_next hx6 hb7)).mono ?_; rintro e w8 ⟨y, rfl, hoy, hb8⟩; obtain ⟨Ay, dy, rfl, -⟩ := own_nil_or hoy)
    | (go_at_call 20; have cS := same_any _ _ _ _ [(1, 10), (1, 30), (2, 30), (1, 50)] [(1, 10), (1, 30), (2, 30), (1, 50)] w8 (by decide) (by decide) hoy (own_next (wantR w6) hb8); rw [decide_eq_true (rfl : [(1, 10), (1, 30), (2, 30), (1, 50)] = [(1, 10), (1, 30), (2, 30), (1, 50)])] at cS; refine cS.mono ?_; rintro e w9 ⟨rfl, hb9⟩; have K9 := ((K6.next hb7).next hb8).next hb9)
    | (go_at_call 16; refine (aw6 _ _ _ K9).mono ?_; rintro e wa ⟨rfl, va, Ka, -, Fa⟩)
    | (go_at_call 14; refine (aw7 _ _ _ Ka).mono ?_; rintro e wb ⟨rfl, hbb⟩))
  go_ret
  have hl := Nat.le_refl w.heap.size
  exact ⟨rfl, (((((((((((Fm.of (fun i => w.heap.size ≤ i) hb1).tr (K1.low F2 hl)).tr (K2.low F3 hl)).tr (K3.low F4 hl)).tr (Fm.of _ hb5)).tr (K5.low F6 hl)).tr (Fm.of _ hb7)).tr (Fm.of _ hb8)).tr (Fm.of _ hb9)).tr (K9.low Fa hl)).tr (Fm.of _ hbb)).below hl fun _ e => e⟩
end Go.Proofs.Ytiooilkbbfflaaa

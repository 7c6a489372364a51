import Derived.Test.YtndidbanbklonaaBr
/-
  The chapter's example, as the laws check it. No conditions beyond those that each names.
-/
namespace Go.Proofs.Ytndidbanbklonaa
open Go.RowKit Go.Sort Go.Lib Go.Shelf
set_option maxRecDepth 100000 in
set_option maxHeartbeats 4000000 in
theorem awake_any (w : World) : Calls Try.prog 9 #[] w (Ib (.bool true) w) := by
  have B0 : FtS (w.alloc (Obj.cells #[.int .i64 2, .int .i64 0, .int .i64 1, .int .i64 0, .int .i64 100, .int .i64 7, .int .i64 3, .int .i64 0, .int .i64 1, .int .i64 0, .int .i64 100, .int .i64 3] 41)) (some ⟨w.heap.size, 0, none⟩) awF := .inr ⟨w.heap.size, 0, rfl, by simp, fun j v hv => by
    have h : tc e6 awF = (#[.int .i64 2, .int .i64 0, .int .i64 1, .int .i64 0, .int .i64 100, .int .i64 7, .int .i64 3, .int .i64 0, .int .i64 1, .int .i64 0, .int .i64 100, .int .i64 3] : Array Value).toList := by kernel_rfl
    rw [cell_lit (heap_newI w _), Nat.zero_add, ← Array.getElem?_toList, ← h]; exact hv⟩
  have hb0 := ab1 w (Obj.cells #[.int .i64 2, .int .i64 0, .int .i64 1, .int .i64 0, .int .i64 100, .int .i64 7, .int .i64 3, .int .i64 0, .int .i64 1, .int .i64 0, .int .i64 100, .int .i64 3] 41)
  have HB0 := Lib.hid B0
  have hE := eqlA ⟨18, 0, 1, 1, ⟨#[120]⟩⟩
  clear B0
  go_enter Try.func9, Try.ntmps9
  go_wp2_with (first
    | (go_at_call 8; refine (aw1 _ _ HB0.out).mono ?_; rintro e w1 ⟨hb1, c, m, fv, rfl, K1, hge⟩)
    | (go_at_call 24; refine (aw3 _ _ _ _ _ _ K2).mono ?_; rintro e w3 ⟨rfl, rfl⟩)
    | (go_at_call 11; refine (aw4 _ _ _ _ _ _ K2).mono ?_; rintro e w4 ⟨gx, dx, q, V4, tv4, rfl, hox, K4, hnx, N4, F4⟩)
    | (go_at_call 12; refine (aw6 _ _ _ _ _ _ _ K4).mono ?_; rintro e w5 ⟨rfl, rfl⟩)
    | (go_at_call 23; refine (aw5 _ _ _ _ _ _ _ K4).mono ?_; rintro e w6 ⟨rfl, V6, tv6, K6, N6, F6⟩; obtain ⟨lx, x0, x1, x2, x3, x4, x5, x9⟩ := aw7 hox F6 hnx)
    | (go_at_call 23; refine (aw2 _ _ _ _ _ _ K1).mono ?_; rintro e w2 ⟨rfl, V2, tv2, K2, N2, F2⟩))
  go_ret
  have h1 := Below.next hb0 hb1
  have hl := Nat.le_refl w.heap.size
  have low : ∀ i, Fp c m (fun _ => .slice none 0 0) (.slice none 0 0) i → w.heap.size ≤ i := fun i hi => Nat.le_trans hb0.size (hge i (.inl hi))
  have low2 : ∀ i, Fp c m V2 tv2 i → w.heap.size ≤ i := fun i hi => (N2 i hi).elim (low i) (Nat.le_trans h1.size)
  have low4 : ∀ i, Fp c m V4 tv4 i → w.heap.size ≤ i := fun i hi => low2 i (N4 i hi)
  exact ⟨rfl, ((((Fm.of (fun i => w.heap.size ≤ i) h1).trans F2 fun i _ e => low i e).trans F4 fun i _ e => low2 i e).trans F6 fun i _ e => low4 i e).below hl fun _ e => e⟩
end Go.Proofs.Ytndidbanbklonaa

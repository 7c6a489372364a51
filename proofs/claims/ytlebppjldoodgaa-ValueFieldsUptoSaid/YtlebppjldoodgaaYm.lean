import Derived.Test.YtlebppjldoodgaaYg
import Derived.Test.YtlebppjldoodgaaYe
/-
  The developers' renew of a value without lists. No conditions beyond those that each names.
-/
namespace Go.Proofs.Ytlebppjldoodgaa
open Go.RowKit Go.Shelf
set_option maxRecDepth 100000 in
set_option maxHeartbeats 4000000 in
theorem renewNil_any (k n : Int) (s : List UInt8) (w : World) : Calls Try.prog 40 #[(.agg #[.int .i64 k, .int .i64 n, .string (bs s), .slice none 0 0, .slice none 0 0])] w (Ib (.agg #[.int .i64 k, .int .i64 n, .string (bs s), .slice none 0 0, .slice none 0 0]) w) := by
  have cV := fun W => (AnyE.slices_Clone_nil Try.clone68 0 0 W).mono fun e w' (h : _ ∧ _) => (show Ib (.slice none 0 0) W e w' from ⟨h.1, by rw [h.2]; exact Below.refl _ _⟩)
  have cE := fun W => (AnyE.slices_Clone_nil Try.clone69 0 0 W).mono fun e w' (h : _ ∧ _) => (show Ib (.slice none 0 0) W e w' from ⟨h.1, by rw [h.2]; exact Below.refl _ _⟩)
  have z1 : (w.alloc (Obj.cells #[.int .i64 k, .int .i64 n, .string (bs s), .slice none 0 0, .slice none 0 0] 25)).heap.size = w.heap.size + 1 := by simp
  have hab := ab2 w (Obj.cells #[.int .i64 k, .int .i64 n, .string (bs s), .slice none 0 0, .slice none 0 0] 25) (Obj.cells #[.int .i64 0, .int .i64 0, .string ⟨#[]⟩, .slice none 0 0, .slice none 0 0] 25)
  have C1 := (Bx.new5 w 25 (.int .i64 k) (.int .i64 n) (.string (bs s)) (.slice none 0 0) (.slice none 0 0)).next (ab1 _ (Obj.cells #[.int .i64 0, .int .i64 0, .string ⟨#[]⟩, .slice none 0 0, .slice none 0 0] 25))
  have C2 := Bx.new5 (w.alloc (Obj.cells #[.int .i64 k, .int .i64 n, .string (bs s), .slice none 0 0, .slice none 0 0] 25)) 25 (.int .i64 0) (.int .i64 0) (.string ⟨#[]⟩) (.slice none 0 0) (.slice none 0 0)
  rw [z1] at C2
  have s3 := C1.c 3 rfl
  have s4 := C1.c 4 rfl
  clear z1
  go_enter Try.func40, Try.ntmps40
  go_upto_region 1 with (fail)
  generalize (w.alloc (Obj.cells #[.int .i64 k, .int .i64 n, .string (bs s), .slice none 0 0, .slice none 0 0] 25)).alloc (Obj.cells #[.int .i64 0, .int .i64 0, .string ⟨#[]⟩, .slice none 0 0, .slice none 0 0] 25) = W1 at *
  refine wp_region_seqN (by kernel_rfl) (FF [(1, Fact.at_ W1 (.pointer (some ⟨w.heap.size, 0, none⟩))), (7, Fact.at_ W1 (.pointer (some ⟨w.heap.size, 3, none⟩))), (8, Fact.at_ W1 (.slice none 0 0)), (9, Fact.at_ W1 (.slice none 0 0)), (10, Fact.at_ W1 (.pointer (some ⟨w.heap.size, 4, none⟩))), (11, Fact.at_ W1 (.slice none 0 0)), (12, Fact.at_ W1 (.slice none 0 0)), (13, Fact.at_ W1 (.pointer (some ⟨w.heap.size, 3, none⟩)))]) [1] [] 48 7 [7, 8, 9, 10, 11, 12, 13] rfl (by kernel_rfl) (by kernel_rfl) (by decide) (by kernel_rfl) (by kernel_rfl) ?_ ?_ ?_
  · intro t9 ht9
    simp only [List.mem_cons, List.not_mem_nil, or_false] at ht9
    rcases ht9 with rfl
    · exact ⟨rfl, Below.refl _ _⟩
  · refine fcs ⟨Ob.new_ (at1 1 7 (.pointer (some ⟨w.heap.size, 0, none⟩)) (.pointer (some ⟨w.heap.size, 3, none⟩)) rfl (by first | exact .inl rfl | exact .inr ⟨_, _, _, rfl, rfl, by kernel_rfl, by decide, rfl⟩) (by kernel_rfl) rfl rfl (fun a9 W9 hb9 h9 => by simp [execOp, h9] <;> go_simp)) (by kernel_rfl), ?_⟩
    refine fcs ⟨Ob.new_ (at1 7 8 (.pointer (some ⟨w.heap.size, 3, none⟩)) (.slice none 0 0) rfl (by first | exact .inl rfl | exact .inr ⟨_, _, _, rfl, rfl, by kernel_rfl, by decide, rfl⟩) (by kernel_rfl) rfl rfl (fun a9 W9 hb9 h9 => by have g0 := cell_next hb9 s3; simp [execOp, h9] <;> go_simp)) (by kernel_rfl), ?_⟩
    refine fcs ⟨Ob.new_ (atc1 68 8 9 (.slice none 0 0) (.slice none 0 0) _ rfl rfl (by first | exact .inl rfl | exact .inr ⟨_, _, _, rfl, rfl, by kernel_rfl, by decide, rfl⟩) (by kernel_rfl) rfl (by kernel_rfl) rfl (fun W9 hb9 => cV W9)) (by kernel_rfl), ?_⟩
    refine fcs ⟨Ob.new_ (at1 1 10 (.pointer (some ⟨w.heap.size, 0, none⟩)) (.pointer (some ⟨w.heap.size, 4, none⟩)) rfl (by first | exact .inl rfl | exact .inr ⟨_, _, _, rfl, rfl, by kernel_rfl, by decide, rfl⟩) (by kernel_rfl) rfl rfl (fun a9 W9 hb9 h9 => by simp [execOp, h9] <;> go_simp)) (by kernel_rfl), ?_⟩
    refine fcs ⟨Ob.new_ (at1 10 11 (.pointer (some ⟨w.heap.size, 4, none⟩)) (.slice none 0 0) rfl (by first | exact .inl rfl | exact .inr ⟨_, _, _, rfl, rfl, by kernel_rfl, by decide, rfl⟩) (by kernel_rfl) rfl rfl (fun a9 W9 hb9 h9 => by have g0 := cell_next hb9 s4; simp [execOp, h9] <;> go_simp)) (by kernel_rfl), ?_⟩
    refine fcs ⟨Ob.new_ (atc1 69 11 12 (.slice none 0 0) (.slice none 0 0) _ rfl rfl (by first | exact .inl rfl | exact .inr ⟨_, _, _, rfl, rfl, by kernel_rfl, by decide, rfl⟩) (by kernel_rfl) rfl (by kernel_rfl) rfl (fun W9 hb9 => cE W9)) (by kernel_rfl), ?_⟩
    refine fcs ⟨Ob.new_ (at1 1 13 (.pointer (some ⟨w.heap.size, 0, none⟩)) (.pointer (some ⟨w.heap.size, 3, none⟩)) rfl (by first | exact .inl rfl | exact .inr ⟨_, _, _, rfl, rfl, by kernel_rfl, by decide, rfl⟩) (by kernel_rfl) rfl rfl (fun a9 W9 hb9 h9 => by simp [execOp, h9] <;> go_simp)) (by kernel_rfl), ?_⟩
    exact fnl
  intro vv wv hvv hbv _ _
  have hv9 : vv 9 = (.slice none 0 0) := (hvv 9 (by decide)).1
  have hv12 : vv 12 = (.slice none 0 0) := (hvv 12 (by decide)).1
  have hv13 : vv 13 = (.pointer (some ⟨w.heap.size, 3, none⟩)) := (hvv 13 (by decide)).1
  simp only [lay, List.foldl_cons, List.foldl_nil, List.setIfInBounds_toArray, List.set_cons_succ, List.set_cons_zero, hv9, hv12, hv13, List.drop_succ_cons, List.drop_zero]
  clear hvv cV cE s3 s4 hv9 hv12 hv13
  replace hab := Below.next hab hbv
  replace C1 := C1.next hbv
  replace C2 := C2.next hbv
  have q3 := C1.c 3 rfl
  have q4 := C1.c 4 rfl
  have f3 := C1.f 3 rfl
  have f4 := C1.f 4 rfl
  have ql := C1.lt
  have D1 := (C1.put1 3 (.slice none 0 0)).put1 4 (.slice none 0 0)
  have hgr := ((gb_set1 wv ⟨w.heap.size, 3, none⟩ (.slice none 0 0)).trans (gb_set1 _ ⟨w.heap.size, 4, none⟩ (.slice none 0 0)))
  have D2 := C2.gb hgr (by show w.heap.size + 1 ≠ w.heap.size; omega)
  have hb2 := (hab.setCell (p := ⟨w.heap.size, 3, none⟩) (Nat.le_refl _) (.slice none 0 0)).setCell (p := ⟨w.heap.size, 4, none⟩) (Nat.le_refl _) (.slice none 0 0)
  clear C1 C2 hab hgr hbv
  go_wp2_with fail
  go_loopw [18] (fun i wr => i = .int .i64 0 ∧ Bx wr w.heap.size [.int .i64 k, .int .i64 n, .string (bs s), .slice none 0 0, .slice none 0 0] ∧ Bx wr (w.heap.size + 1) [.int .i64 0, .int .i64 0, .string ⟨#[]⟩, .slice none 0 0, .slice none 0 0] ∧ Below w.heap.size w wr) (fun _ _ => 0)
  case atStart => exact ⟨rfl, D1, D2, hb2⟩
  case round =>
    clear q3 q4 f3 f4 ql D1 D2 hb2
    obtain ⟨rfl, D1, D2, hb⟩ := hrel
    have q4 := D1.c 4 rfl
    go_wp2_with fail
    go_loopw [33] (fun i wr => i = .int .i64 0 ∧ Bx wr w.heap.size [.int .i64 k, .int .i64 n, .string (bs s), .slice none 0 0, .slice none 0 0] ∧ Bx wr (w.heap.size + 1) [.int .i64 0, .int .i64 0, .string ⟨#[]⟩, .slice none 0 0, .slice none 0 0] ∧ Below w.heap.size w wr) (fun _ _ => 0)
    case atStart => exact ⟨rfl, D1, D2, hb⟩
    case round =>
      clear q4 D1 D2 hb
      obtain ⟨rfl, D1, D2, hb⟩ := hrel
      have c0 := D1.c 0 rfl
      have c1 := D1.c 1 rfl
      have c2 := D1.c 2 rfl
      have c3 := D1.c 3 rfl
      have c4 := D1.c 4 rfl
      have r0 := D2.c 0 rfl
      have r1 := D2.c 1 rfl
      have r2 := D2.c 2 rfl
      have r3 := D2.c 3 rfl
      have r4 := D2.c 4 rfl
      have f0 := D2.f 0 rfl
      have f1 := D2.f 1 rfl
      have f2 := D2.f 2 rfl
      have f3 := D2.f 3 rfl
      have f4 := D2.f 4 rfl
      have l1 := D1.lt
      have l2 := D2.lt
      go_wp2_with fail
      exact bodyPost_ret (v := (.agg #[.int .i64 k, .int .i64 n, .string (bs s), .slice none 0 0, .slice none 0 0])) (by simp [results, Try.results40, go_sem, r0, r1, r2, r3, r4]) rfl ⟨rfl, ((((hb.setCell (Nat.le_succ _) _).setCell (Nat.le_succ _) _).setCell (Nat.le_succ _) _).setCell (Nat.le_succ _) _).setCell (Nat.le_succ _) _⟩
end Go.Proofs.Ytlebppjldoodgaa

/-
  The reference's scanner: Next. No conditions but Go's own bounds.
-/
import Derived.Test.YtgifienjfaclmaaGreatDoorLu
namespace Go.Proofs.YtgifienjfaclmaaGreatDoor
open Go.RowKit
theorem gb_below {w w' : World} {g : Nat} (h : Below w.heap.size w w') : w.grownBy w' (some g) := ⟨h.os, h.tape, h.output, h.size, fun k hk _ => h.block k hk⟩
theorem gb_set {w w' : World} {g : Nat} (h : w.grownBy w' (some g)) (o : Nat) (v : Value) : w.grownBy (w'.setCell ⟨g, o, none⟩ v) (some g) :=
  ⟨h.os, h.tape, h.output, by simpa [World.setCell] using h.size, fun k hk hne => (Below.heap_setCell _ _ _ _ (fun e => hne (by rw [e]))).trans (h.block k hk hne)⟩
theorem gb_new {w w' : World} {g b : Nat} (h : w.grownBy w' (some g)) (hb : w.heap.size ≤ b) (o : Nat) (v : Value) : w.grownBy (w'.setCell ⟨b, o, none⟩ v) (some g) :=
  ⟨h.os, h.tape, h.output, by simpa [World.setCell] using h.size, fun k hk hne => (Below.heap_setCell _ _ _ _ (fun e => by have : k = b := e; omega)).trans (h.block k hk hne)⟩
theorem V4.set4 {w : World} {B : Nat} {x0 y0 z0 u0 : Value} (h : V4 w B x0 y0 z0 u0) (x y z u : Value) : V4 ((((w.setCell ⟨B, 0, none⟩ x).setCell ⟨B, 1, none⟩ y).setCell ⟨B, 2, none⟩ z).setCell ⟨B, 3, none⟩ u) B x y z u := by
  obtain ⟨lt, c0, c1, c2, c3, f0, f1, f2, f3⟩ := h
  have n : ∀ i j : Nat, i ≠ j → (⟨B, i, none⟩ : Addr) ≠ ⟨B, j, none⟩ := fun i j h e => by injection e with _ e; exact h e
  refine ⟨by simpa [World.setCell] using lt, ?_, ?_, ?_, ?_, by simp [f0], by simp [f1], by simp [f2], by simp [f3]⟩
  · rw [World.cell?_setCell_other _ _ _ _ (n 3 0 (by decide)), World.cell?_setCell_other _ _ _ _ (n 2 0 (by decide)), World.cell?_setCell_other _ _ _ _ (n 1 0 (by decide))]
    exact World.cell?_setCell_same _ _ _ c0
  · rw [World.cell?_setCell_other _ _ _ _ (n 3 1 (by decide)), World.cell?_setCell_other _ _ _ _ (n 2 1 (by decide))]
    exact World.cell?_setCell_same _ _ _ ((World.cell?_setCell_other _ _ _ _ (n 0 1 (by decide))).trans c1)
  · rw [World.cell?_setCell_other _ _ _ _ (n 3 2 (by decide))]
    exact World.cell?_setCell_same _ _ _ ((World.cell?_setCell_other _ _ _ _ (n 1 2 (by decide))).trans ((World.cell?_setCell_other _ _ _ _ (n 0 2 (by decide))).trans c2))
  · exact World.cell?_setCell_same _ _ _ ((World.cell?_setCell_other _ _ _ _ (n 2 3 (by decide))).trans ((World.cell?_setCell_other _ _ _ _ (n 1 3 (by decide))).trans ((World.cell?_setCell_other _ _ _ _ (n 0 3 (by decide))).trans c3)))
theorem V4.off {w w' : World} {g B : Nat} {x y z u : Value} (h : V4 w B x y z u) (hg : w.grownBy w' (some g)) (hne : B ≠ g) : V4 w' B x y z u := by
  have hb := hg.block B h.lt (fun k => hne (Option.some.inj k))
  exact ⟨Nat.lt_of_lt_of_le h.lt hg.size, (World.cell?_of_block (a := ⟨B, 0, none⟩) hb).trans h.c0, (World.cell?_of_block (a := ⟨B, 1, none⟩) hb).trans h.c1, (World.cell?_of_block (a := ⟨B, 2, none⟩) hb).trans h.c2, (World.cell?_of_block (a := ⟨B, 3, none⟩) hb).trans h.c3,
    (World.frozen?_of_block (a := ⟨B, 0, none⟩) hb).trans h.f0, (World.frozen?_of_block (a := ⟨B, 1, none⟩) hb).trans h.f1, (World.frozen?_of_block (a := ⟨B, 2, none⟩) hb).trans h.f2, (World.frozen?_of_block (a := ⟨B, 3, none⟩) hb).trans h.f3⟩
theorem Tr.off {w w' : World} {b : Nat} {A : Option Addr} {l : List Tk} (h : Tr w A l) (hg : w.grownBy w' (some b)) (hA : ∀ a, A = some a → a.block ≠ b) : Tr w' A l := by
  rcases h with h | ⟨a, h1, h2, h3⟩
  · exact .inl h
  · refine .inr ⟨a, h1, Nat.lt_of_lt_of_le h2 hg.size, fun i hi => ?_⟩
    obtain ⟨c0, c1, c2, c3⟩ := h3 i hi
    have hb := hg.block a.block h2 (fun k => hA a h1 (Option.some.inj k))
    have ad : ∀ k, w'.cell? ((a.add (i * 4)).add k) = w.cell? ((a.add (i * 4)).add k) := fun k => World.cell?_of_block (a := (a.add (i * 4)).add k) (by rw [add_block, add_block]; exact hb)
    exact ⟨(ad 0).trans c0, (ad 1).trans c1, (ad 2).trans c2, (ad 3).trans c3⟩
theorem Sn.off {w w' : World} {g b : Nat} {A : Option Addr} {c : Nat} {l : List Tk} {j : Nat} (h : Sn w g A c l j) (hg : w.grownBy w' (some b)) (hne : g ≠ b) (hA : ∀ a, A = some a → a.block ≠ b) : Sn w' g A c l j := by
  have hb := hg.block g h.lt (fun k => hne (Option.some.inj k))
  exact ⟨Nat.lt_of_lt_of_le h.lt hg.size, (World.cell?_of_block (a := ⟨g, 0, none⟩) hb).trans h.c0, (World.cell?_of_block (a := ⟨g, 1, none⟩) hb).trans h.c1, (World.frozen?_of_block (a := ⟨g, 1, none⟩) hb).trans h.f1, h.ne, h.tr.off hg hA⟩
theorem gb_refl (w : World) (g : Nat) : w.grownBy w (some g) := gb_below (Below.refl _ _)
/-- The scanner moved on. -/
theorem Sn.adv {w : World} {g : Nat} {A : Option Addr} {c : Nat} {l : List Tk} {j : Nat} (h : Sn w g A c l j) (k : Nat) : Sn (w.setCell ⟨g, 1, none⟩ (.int .i64 (k : Int))) g A c l k := by
  refine ⟨by simpa [World.setCell] using h.lt, (World.cell?_setCell_other _ _ _ _ (by intro h; cases h)).trans h.c0, World.cell?_setCell_same _ _ _ h.c1, by simp [h.f1], h.ne, ?_⟩
  exact h.tr.off (gb_set (gb_refl w g) 1 _) h.ne
/-- The call returns v; of old memory it wrote to the scanner alone, which then stands at place j. -/
def In (v : Value) (g : Nat) (A : Option Addr) (c : Nat) (l : List Tk) (j : Nat) (w : World) (e : Ending) (w' : World) : Prop := e = .returned v ∧ w.grownBy w' (some g) ∧ Sn w' g A c l j
theorem Sn.low {w : World} {g : Nat} {A : Option Addr} {c : Nat} {l : List Tk} {j : Nat} (h : Sn w g A c l j) (hj : j < l.length) : ∀ a, A = some a → a.block < w.heap.size := fun a ha => by
  rcases h.tr with h0 | ⟨a', h1, h2, _⟩
  · omega
  · rw [ha] at h1
    injection h1 with h1
    rw [h1]
    exact h2
set_option maxRecDepth 100000 in
set_option maxHeartbeats 2000000 in
theorem refNext_any (g : Nat) (A : Option Addr) (c : Nat) (l : List Tk) (j : Nat) (w : World) (hj : j < l.length) (hn : l.length ≤ 100000) (h : Sn w g A c l j) :
    Calls Tryz.prog 8 #[.pointer (some ⟨g, 0, none⟩)] w (In (l[j]'hj).val g A c l (if (l[j]'hj).kind = 0 then j else j + 1) w) := by
  have cP := fun W h => refPeek_any g A c l j W hj h
  have hlow := h.low hj
  generalize l[j]'hj = x at *
  obtain ⟨K, T, N, P⟩ := x
  have cP : ∀ W, Sn W g A c l j → Calls Tryz.prog 10 #[.pointer (some ⟨g, 0, none⟩)] W (Ib (.agg #[.int .i64 (K : Int), .string (bs T), .int .i64 N, .int .i64 (P : Int)]) W) := cP
  show Calls Tryz.prog 8 #[.pointer (some ⟨g, 0, none⟩)] w (In (.agg #[.int .i64 (K : Int), .string (bs T), .int .i64 N, .int .i64 (P : Int)]) g A c l (if K = 0 then j else j + 1) w)
  obtain ⟨m, hm0⟩ : ∃ m, (if K = 0 then j else j + 1) = m := ⟨_, rfl⟩
  rw [hm0]
  have HM := Lib.hid hm0
  clear hm0
  have V0 := V4.new w (.int .i64 0) (.string ⟨#[]⟩) (.int .i64 0) (.int .i64 0) 34
  have hg1 := grown1 (w := w) (Obj.cells #[.int .i64 0, .string ⟨#[]⟩, .int .i64 0, .int .i64 0] 34)
  have hs1 : (w.alloc (Obj.cells #[.int .i64 0, .string ⟨#[]⟩, .int .i64 0, .int .i64 0] 34)).heap.size = w.heap.size + 1 := by simp
  go_enter Tryz.func8, Tryz.ntmps8
  go_wp2_with fail
  refine (cP _ (h.next hg1)).mono ?_
  rintro e w2 ⟨rfl, h2⟩
  have hb2 := Below.next hg1 h2
  go_upto_region 2 with (fail)
  have V1 := V4.new w2 (.int .i64 (K : Int)) (.string (bs T)) (.int .i64 N) (.int .i64 (P : Int)) 34
  have hg3 := grown1 (w := w2) (Obj.cells #[.int .i64 (K : Int), .string (bs T), .int .i64 N, .int .i64 (P : Int)] 34)
  have V0 := (V0.next h2).next hg3
  have Bel := Below.next hb2 hg3
  have S3 := h.next Bel
  have h01 : w.heap.size < w2.heap.size := by have := h2.size; omega
  have hlt := h.lt
  clear hg3 hg1 h2 hb2 hs1 cP h
  generalize w2.alloc (Obj.cells #[.int .i64 (K : Int), .string (bs T), .int .i64 N, .int .i64 (P : Int)] 34) = W3 at *
  generalize w2.heap.size = B1 at *
  obtain ⟨B0, hB0⟩ : ∃ B0, w.heap.size = B0 := ⟨_, rfl⟩
  have hB0' : w.heap.size ≤ B0 := by omega
  rw [hB0] at V0 h01 hlow hlt ⊢
  have hA0 : ∀ a, A = some a → a.block ≠ B0 := fun a ha => by have := hlow a ha; omega
  have n0 : g ≠ B0 := by omega
  have n1 : g ≠ B1 := by omega
  have n01 : B0 ≠ B1 := by omega
  by_cases hK : K = 0
  · have hm : j = m := by have := HM.out; rw [if_pos hK] at this; exact this
    clear HM
    subst hm hK
    have G := gb_new (gb_new (gb_new (gb_new (gb_below (g := g) Bel) hB0' 0 (.int .i64 (0 : Int))) hB0' 1 (.string (bs T))) hB0' 2 (.int .i64 N)) hB0' 3 (.int .i64 (P : Int))
    have S4 := S3.off (gb_set (gb_set (gb_set (gb_set (gb_refl W3 B0) 0 (.int .i64 (0 : Int))) 1 (.string (bs T))) 2 (.int .i64 N)) 3 (.int .i64 (P : Int))) n0 hA0
    obtain ⟨a0, a1, a2, a3, a4, a5, a6, a7, a8⟩ := V0
    obtain ⟨b0, b1, b2, b3, b4, b5, b6, b7, b8⟩ := V1
    have b1 : W3.cell? ⟨B1, 0, none⟩ = some (.int .i64 0) := b1
    clear S3 Bel hlow
    go_wp2_with fail
    refine bodyPost_ret (v := .agg #[.int .i64 (0 : Int), .string (bs T), .int .i64 N, .int .i64 (P : Int)]) (by simp [results, Tryz.results8, go_sem, a1, a2, a3, a4]) rfl ⟨rfl, G, S4⟩
  · have hm : j + 1 = m := by have := HM.out; rw [if_neg hK] at this; exact this
    clear HM
    have g0 : ((K : Int) == 0) = false := by simpa using hK
    have g1 : ((K : Int) != 0) = true := by simpa using hK
    have l11 : (j : Int) + 1 = (m : Int) := by omega
    have VA := V0.off (gb_set (gb_refl W3 g) 1 (.int .i64 (m : Int))) n0.symm
    have VB := V1.off (gb_set (gb_refl W3 g) 1 (.int .i64 (m : Int))) n1.symm
    have SA := S3.adv m
    have GA := gb_set (gb_below (g := g) Bel) 1 (.int .i64 (m : Int))
    obtain ⟨_, _, c1, f1, _, _⟩ := S3
    obtain ⟨b0, b1, b2, b3, b4, b5, b6, b7, b8⟩ := V1
    clear hm V0 hK Bel hlow
    go_upto_region 4 with (fail)
    generalize W3.setCell ⟨g, 1, none⟩ (.int .i64 (m : Int)) = W4 at *
    clear b0 b1 b2 b3 b4 b5 b6 b7 b8 c1 f1
    have G := gb_new (gb_new (gb_new (gb_new GA hB0' 0 (.int .i64 (K : Int))) hB0' 1 (.string (bs T))) hB0' 2 (.int .i64 N)) hB0' 3 (.int .i64 (P : Int))
    have S4 := SA.off (gb_set (gb_set (gb_set (gb_set (gb_refl W4 B0) 0 (.int .i64 (K : Int))) 1 (.string (bs T))) 2 (.int .i64 N)) 3 (.int .i64 (P : Int))) n0 hA0
    obtain ⟨a0, a1, a2, a3, a4, a5, a6, a7, a8⟩ := VA
    obtain ⟨b0, b1, b2, b3, b4, b5, b6, b7, b8⟩ := VB
    clear SA GA
    go_wp2_with fail
    refine bodyPost_ret (v := .agg #[.int .i64 (K : Int), .string (bs T), .int .i64 N, .int .i64 (P : Int)]) (by simp [results, Tryz.results8, go_sem, a1, a2, a3, a4]) rfl ⟨rfl, G, S4⟩
end Go.Proofs.YtgifienjfaclmaaGreatDoor

/-
  The law's example. No conditions beyond those that each names.
-/
import Derived.Test.YtcilkcnddgacgaaGreatDoorQM24
import Derived.Test.YtcilkcnddgacgaaGreatDoorQM17
import Derived.Test.YtcilkcnddgacgaaGreatDoorQM04
import Derived.Lib.LaidU8
import Derived.Lib.LaidTab
import Derived.Stop.LaidErr
import Derived.MakeChecks
import Derived.Deep.Slices
import Derived.WideKeyArgs
import Derived.ChangeMaps5
namespace Go.Proofs.YtcilkcnddgacgaaGreatDoor
open Go.RowKit Go.Sort
theorem ev_bA : FewB (evS 1 8) := few_B (by decide +kernel)
theorem ev_bB : FewB (evS 2 16) := few_B (by decide +kernel)
set_option maxRecDepth 100000 in
set_option maxHeartbeats 8000000 in
theorem awake12_any (w : World) (hE : Env w) : Calls Tryz.prog 9 #[] w (Ib (.bool true) w) := by
  have cI := fun W A c A2 c2 A5 c5 A6 c6 (h1 : Sc W (evS 2 16) A A2) (h2 : Sc W (evS 1 8) A5 A6) (h3 : Env W) => issues_one (evS 2 16) (evS 1 8) A c A2 c2 A5 c5 A6 c6 evT W h1 h2 (ev_few _ _) (ev_few _ _) ev_bB ev_bA (ev_lok _ _) (ev_lok _ _) h3 (by decide) (ev_uses _ _ _) ev_chkB ev_chkA (evSt 16) (evSt 8) (ev_fst _ _) (ev_fst _ _) (by decide) (by decide) (.inl rfl) [⟨1, 2, evT⟩] (ev_fold 16 8) (by decide)
  have cC := fun W A c A2 c2 A5 c5 A6 c6 (h1 : Sc W (evS 1 8) A A2) (h2 : Sc W (evS 2 16) A5 A6) (h3 : Env W) => compatible_one (evS 1 8) (evS 2 16) A c A2 c2 A5 c5 A6 c6 evT W h1 h2 (ev_few _ _) (ev_few _ _) ev_bA ev_bB (ev_lok _ _) (ev_lok _ _) h3 (by decide) (ev_uses _ _ _) ev_chkA ev_chkB (evSt 8) (evSt 16) (ev_fst _ _) (ev_fst _ _) (by decide) (by decide) (.inl rfl) (ev_fold 8 16)
  unfold IsR at cI
  go_enter Tryz.func9, Tryz.ntmps9
  go_upto_region 2 with (fail)
  have B0 := Bx.newA w 61 #[.int .i64 2, .string ⟨#[120]⟩, .int .i64 2, .int .i64 8, .string ⟨#[]⟩, .slice none 0 0, .bool false]
  have b0 := ab1 w (Obj.cells #[.int .i64 2, .string ⟨#[120]⟩, .int .i64 2, .int .i64 8, .string ⟨#[]⟩, .slice none 0 0, .bool false] 61)
  have z1 : (w.alloc (Obj.cells #[.int .i64 2, .string ⟨#[120]⟩, .int .i64 2, .int .i64 8, .string ⟨#[]⟩, .slice none 0 0, .bool false] 61)).heap.size = w.heap.size + 1 := by rw [heap_alloc_size]
  have hab := b0
  clear b0
  generalize w.alloc (Obj.cells #[.int .i64 2, .string ⟨#[120]⟩, .int .i64 2, .int .i64 8, .string ⟨#[]⟩, .slice none 0 0, .bool false] 61) = w1 at *
  have B1 := Bx.newA w1 37 #[.string ⟨#[84, 111, 112]⟩, .slice (some ⟨w.heap.size, 0, none⟩) 1 1]
  have b1 := ab1 w1 (Obj.cells #[.string ⟨#[84, 111, 112]⟩, .slice (some ⟨w.heap.size, 0, none⟩) 1 1] 37)
  have z2 : (w1.alloc (Obj.cells #[.string ⟨#[84, 111, 112]⟩, .slice (some ⟨w.heap.size, 0, none⟩) 1 1] 37)).heap.size = w.heap.size + 1 + 1 := by rw [heap_alloc_size, z1]
  rw [z1] at B1
  replace B0 := B0.next b1
  replace hab := Below.next hab b1
  clear b1
  generalize w1.alloc (Obj.cells #[.string ⟨#[84, 111, 112]⟩, .slice (some ⟨w.heap.size, 0, none⟩) 1 1] 37) = w2 at *
  have B2 := Bx.newA w2 25 #[.int .i64 1, .slice none 0 0, .slice (some ⟨w.heap.size + 1, 0, none⟩) 1 1]
  have b2 := ab1 w2 (Obj.cells #[.int .i64 1, .slice none 0 0, .slice (some ⟨w.heap.size + 1, 0, none⟩) 1 1] 25)
  have z3 : (w2.alloc (Obj.cells #[.int .i64 1, .slice none 0 0, .slice (some ⟨w.heap.size + 1, 0, none⟩) 1 1] 25)).heap.size = w.heap.size + 1 + 1 + 1 := by rw [heap_alloc_size, z2]
  rw [z2] at B2
  replace B0 := B0.next b2
  replace B1 := B1.next b2
  replace hab := Below.next hab b2
  clear b2
  generalize w2.alloc (Obj.cells #[.int .i64 1, .slice none 0 0, .slice (some ⟨w.heap.size + 1, 0, none⟩) 1 1] 25) = w3 at *
  clear z1 z2
  go_upto_region 3 with (fail)
  have B3 := Bx.newA w3 61 #[.int .i64 2, .string ⟨#[120]⟩, .int .i64 2, .int .i64 16, .string ⟨#[]⟩, .slice none 0 0, .bool false]
  have b3 := ab1 w3 (Obj.cells #[.int .i64 2, .string ⟨#[120]⟩, .int .i64 2, .int .i64 16, .string ⟨#[]⟩, .slice none 0 0, .bool false] 61)
  have z4 : (w3.alloc (Obj.cells #[.int .i64 2, .string ⟨#[120]⟩, .int .i64 2, .int .i64 16, .string ⟨#[]⟩, .slice none 0 0, .bool false] 61)).heap.size = w.heap.size + 1 + 1 + 1 + 1 := by rw [heap_alloc_size, z3]
  rw [z3] at B3
  replace B0 := B0.next b3
  replace B1 := B1.next b3
  replace B2 := B2.next b3
  replace hab := Below.next hab b3
  clear b3
  generalize w3.alloc (Obj.cells #[.int .i64 2, .string ⟨#[120]⟩, .int .i64 2, .int .i64 16, .string ⟨#[]⟩, .slice none 0 0, .bool false] 61) = w4 at *
  have B4 := Bx.newA w4 37 #[.string ⟨#[84, 111, 112]⟩, .slice (some ⟨w.heap.size + 1 + 1 + 1, 0, none⟩) 1 1]
  have b4 := ab1 w4 (Obj.cells #[.string ⟨#[84, 111, 112]⟩, .slice (some ⟨w.heap.size + 1 + 1 + 1, 0, none⟩) 1 1] 37)
  have z5 : (w4.alloc (Obj.cells #[.string ⟨#[84, 111, 112]⟩, .slice (some ⟨w.heap.size + 1 + 1 + 1, 0, none⟩) 1 1] 37)).heap.size = w.heap.size + 1 + 1 + 1 + 1 + 1 := by rw [heap_alloc_size, z4]
  rw [z4] at B4
  replace B0 := B0.next b4
  replace B1 := B1.next b4
  replace B2 := B2.next b4
  replace B3 := B3.next b4
  replace hab := Below.next hab b4
  clear b4
  generalize w4.alloc (Obj.cells #[.string ⟨#[84, 111, 112]⟩, .slice (some ⟨w.heap.size + 1 + 1 + 1, 0, none⟩) 1 1] 37) = w5 at *
  have B5 := Bx.newA w5 25 #[.int .i64 2, .slice none 0 0, .slice (some ⟨w.heap.size + 1 + 1 + 1 + 1, 0, none⟩) 1 1]
  have b5 := ab1 w5 (Obj.cells #[.int .i64 2, .slice none 0 0, .slice (some ⟨w.heap.size + 1 + 1 + 1 + 1, 0, none⟩) 1 1] 25)
  have z6 : (w5.alloc (Obj.cells #[.int .i64 2, .slice none 0 0, .slice (some ⟨w.heap.size + 1 + 1 + 1 + 1, 0, none⟩) 1 1] 25)).heap.size = w.heap.size + 1 + 1 + 1 + 1 + 1 + 1 := by rw [heap_alloc_size, z5]
  rw [z5] at B5
  replace B0 := B0.next b5
  replace B1 := B1.next b5
  replace B2 := B2.next b5
  replace B3 := B3.next b5
  replace B4 := B4.next b5
  replace hab := Below.next hab b5
  clear b5
  generalize w5.alloc (Obj.cells #[.int .i64 2, .slice none 0 0, .slice (some ⟨w.heap.size + 1 + 1 + 1 + 1, 0, none⟩) 1 1] 25) = w6 at *
  clear z3 z4 z5 z6
  have hSb : Sc w6 (evS 2 16) none (some ⟨w.heap.size + 1 + 1 + 1 + 1, 0, none⟩) := ⟨.inl rfl, rw_cons.2 ⟨_, rfl, ⟨B4.c 0 rfl, some ⟨w.heap.size + 1 + 1 + 1, 0, none⟩, 1, B4.c 1 rfl, rw_cons.2 ⟨_, rfl, ⟨B3.c 0 rfl, B3.c 1 rfl, B3.c 2 rfl, B3.c 3 rfl, B3.c 4 rfl, ⟨none, 0, B3.c 5 rfl, .inl rfl⟩, B3.c 6 rfl⟩, .inl rfl⟩⟩, .inl rfl⟩⟩
  have hSa : Sc w6 (evS 1 8) none (some ⟨w.heap.size + 1, 0, none⟩) := ⟨.inl rfl, rw_cons.2 ⟨_, rfl, ⟨B1.c 0 rfl, some ⟨w.heap.size, 0, none⟩, 1, B1.c 1 rfl, rw_cons.2 ⟨_, rfl, ⟨B0.c 0 rfl, B0.c 1 rfl, B0.c 2 rfl, B0.c 3 rfl, B0.c 4 rfl, ⟨none, 0, B0.c 5 rfl, .inl rfl⟩, B0.c 6 rfl⟩, .inl rfl⟩⟩, .inl rfl⟩⟩
  have c1 := cI w6 none 0 _ 1 none 0 _ 1 hSb hSa (hE.next hab)
  have c2 := fun W (hb : Below w6.heap.size w6 W) => cC W none 0 _ 1 none 0 _ 1 (Sc.next hb hSa) (Sc.next hb hSb) (hE.next (Below.next hab hb))
  have f0 := B2.c 0 rfl
  have f1 := B2.c 1 rfl
  have f2 := B2.c 2 rfl
  have fl := B2.lt
  have k0 := B5.c 0 rfl
  have k1 := B5.c 1 rfl
  have k2 := B5.c 2 rfl
  have kl := B5.lt
  clear cI cC hSa hSb B0 B1 B3 B4
  go_wp2_with fail
  refine c1.mono ?_
  rintro e w7 ⟨G, d, rfl, hRw, hb7⟩
  obtain ⟨a, rfl, y0, y1, y2⟩ := hRw.get (i := 0) (by decide)
  rw [Nat.zero_mul] at y0 y1 y2
  have y0 : w7.cell? a = some (.int .i64 1) := y0
  have y1 : w7.cell? (nx1 a 1) = some (.int .i64 2) := y1
  have y2 : w7.cell? (nx1 a 2) = some (.string (bs evT)) := y2
  replace B2 := B2.next hb7
  replace B5 := B5.next hb7
  have c1' := c2 w7 hb7
  clear c1 f0 f1 f2 fl k0 k1 k2 kl hRw c2
  have f0 := B2.c 0 rfl
  have f1 := B2.c 1 rfl
  have f2 := B2.c 2 rfl
  have fl := B2.lt
  have k0 := B5.c 0 rfl
  have k1 := B5.c 1 rfl
  have k2 := B5.c 2 rfl
  have kl := B5.lt
  go_wp2_with fail
  refine c1'.mono ?_
  rintro e w8 ⟨rfl, hb8⟩
  replace y0 := cell_next hb8 y0
  replace y1 := cell_next hb8 y1
  replace y2 := cell_next hb8 y2
  have hblk : a.block < w8.heap.size := blk_lt y0
  have hbe : (bs evT).toList = [84, 111, 112] := toList_bs _
  have HB := Lib.hid (Below.next hab (Below.next hb7 hb8))
  clear c1' f0 f1 f2 fl k0 k1 k2 kl B2 B5 hab hb7 hb8
  go_wp2_with fail
  go_ret
  exact ⟨rfl, HB.out⟩
end Go.Proofs.YtcilkcnddgacgaaGreatDoor
/-
  The law of widening. No conditions beyond those that each names.
-/
namespace Go.Proofs.YtcilkcnddgacgaaGreatDoor
open Go.RowKit Go.Sort
set_option maxRecDepth 100000 in
set_option maxHeartbeats 8000000 in
theorem widens12_law (a b c : Ty) (va vb vc : Value) (w : World) (ha : lok a) (hb : lok b) (hc : lok c) (h1 : TyV w a va) (h2 : TyV w b vb) (h3 : TyV w c vc) (hE : Env w) :
    Calls Tryz.prog 5 #[va, vb, vc] w (Ib (.bool true) w) := by
  have hT := wdB_trans a b c
  have cDa := fun W (h : Below w.heap.size w W) => deep_any 30 a va W (by decide) ha (h1.next h)
  have cDb := fun W (h : Below w.heap.size w W) => deep_any 30 b vb W (by decide) hb (h2.next h)
  have cDc := fun W (h : Below w.heap.size w W) => deep_any 30 c vc W (by decide) hc (h3.next h)
  have cAB := fun W (h : Below w.heap.size w W) => devWidens_any a b va vb W ha hb (h1.next h) (h2.next h)
  have cBC := fun W (h : Below w.heap.size w W) => devWidens_any b c vb vc W hb hc (h2.next h) (h3.next h)
  have cAC := fun W (h : Below w.heap.size w W) => devWidens_any a c va vc W ha hc (h1.next h) (h3.next h)
  have cAA := fun W (h : Below w.heap.size w W) => devWidens_any a a va va W ha ha (h1.next h) (h1.next h)
  have cR := fun W (h : Below w.heap.size w W) => refWidens_any (SizeOf.sizeOf a + 1) a b va vb W (Nat.lt_succ_self _) ha hb (h1.next h) (h2.next h)
  rw [wdB_self] at cAA
  obtain ⟨A, d1, rfl, -⟩ := h1
  obtain ⟨B, d2, rfl, -⟩ := h2
  obtain ⟨C, d3, rfl, -⟩ := h3
  clear ha hb hc
  generalize wdB a b = r1 at *
  generalize wdB b c = r2 at *
  generalize wdB a c = r3 at *
  generalize dpB 30 a = p1 at *
  generalize dpB 30 b = p2 at *
  generalize dpB 30 c = p3 at *
  have z1 : (w.alloc (Obj.cells #[.int .i64 a.kind, .int .i64 a.size, .string (bs a.name), .slice A a.elem.length d1] 53)).heap.size = w.heap.size + 1 := by simp
  have z2 : ((w.alloc (Obj.cells #[.int .i64 a.kind, .int .i64 a.size, .string (bs a.name), .slice A a.elem.length d1] 53)).alloc (Obj.cells #[.int .i64 b.kind, .int .i64 b.size, .string (bs b.name), .slice B b.elem.length d2] 53)).heap.size = w.heap.size + 1 + 1 := by simp
  have hab := ab3 w (Obj.cells #[.int .i64 a.kind, .int .i64 a.size, .string (bs a.name), .slice A a.elem.length d1] 53) (Obj.cells #[.int .i64 b.kind, .int .i64 b.size, .string (bs b.name), .slice B b.elem.length d2] 53) (Obj.cells #[.int .i64 c.kind, .int .i64 c.size, .string (bs c.name), .slice C c.elem.length d3] 53)
  have D3 := (Bx.new4 w 53 (.int .i64 a.kind) (.int .i64 a.size) (.string (bs a.name)) (.slice A a.elem.length d1)).next (ab2 _ (Obj.cells #[.int .i64 b.kind, .int .i64 b.size, .string (bs b.name), .slice B b.elem.length d2] 53) (Obj.cells #[.int .i64 c.kind, .int .i64 c.size, .string (bs c.name), .slice C c.elem.length d3] 53))
  have D4 := (Bx.new4 (w.alloc (Obj.cells #[.int .i64 a.kind, .int .i64 a.size, .string (bs a.name), .slice A a.elem.length d1] 53)) 53 (.int .i64 b.kind) (.int .i64 b.size) (.string (bs b.name)) (.slice B b.elem.length d2)).next (ab1 _ (Obj.cells #[.int .i64 c.kind, .int .i64 c.size, .string (bs c.name), .slice C c.elem.length d3] 53))
  have D5 := Bx.new4 ((w.alloc (Obj.cells #[.int .i64 a.kind, .int .i64 a.size, .string (bs a.name), .slice A a.elem.length d1] 53)).alloc (Obj.cells #[.int .i64 b.kind, .int .i64 b.size, .string (bs b.name), .slice B b.elem.length d2] 53)) 53 (.int .i64 c.kind) (.int .i64 c.size) (.string (bs c.name)) (.slice C c.elem.length d3)
  rw [z1] at D4
  rw [z2] at D5
  go_enter Tryz.func5, Tryz.ntmps5
  go_upto_region 1 with (fail)
  generalize (((w.alloc (Obj.cells #[.int .i64 a.kind, .int .i64 a.size, .string (bs a.name), .slice A a.elem.length d1] 53)).alloc (Obj.cells #[.int .i64 b.kind, .int .i64 b.size, .string (bs b.name), .slice B b.elem.length d2] 53)).alloc (Obj.cells #[.int .i64 c.kind, .int .i64 c.size, .string (bs c.name), .slice C c.elem.length d3] 53)) = w1 at *
  have hE1 := hE.next hab
  clear z1 z2 hE
  have cDa := fun W (h : Below w1.heap.size w1 W) => cDa W (Below.next hab h)
  have cDb := fun W (h : Below w1.heap.size w1 W) => cDb W (Below.next hab h)
  have cDc := fun W (h : Below w1.heap.size w1 W) => cDc W (Below.next hab h)
  have cAB := fun W (h : Below w1.heap.size w1 W) => cAB W (Below.next hab h)
  have cBC := fun W (h : Below w1.heap.size w1 W) => cBC W (Below.next hab h)
  have cAC := fun W (h : Below w1.heap.size w1 W) => cAC W (Below.next hab h)
  have cAA := fun W (h : Below w1.heap.size w1 W) => cAA W (Below.next hab h)
  have cR := fun W (h : Below w1.heap.size w1 W) => cR W (Below.next hab h)
  have hw := Below.refl w1.heap.size w1
  have f0 := D3.c 0 rfl
  have f1 := D3.c 1 rfl
  have f2 := D3.c 2 rfl
  have f3 := D3.c 3 rfl
  have fl := D3.lt
  have k0 := D4.c 0 rfl
  have k1 := D4.c 1 rfl
  have k2 := D4.c 2 rfl
  have k3 := D4.c 3 rfl
  have kl := D4.lt
  have m0 := D5.c 0 rfl
  have m1 := D5.c 1 rfl
  have m2 := D5.c 2 rfl
  have m3 := D5.c 3 rfl
  have ml := D5.lt
  have c1 := cDa _ hw
  go_wp2_with fail
  refine c1.mono ?_
  rintro e w2 ⟨rfl, hb2⟩
  clear c1 f0 f1 f2 f3 fl k0 k1 k2 k3 kl m0 m1 m2 m3 ml
  replace D3 := D3.next hb2
  replace D4 := D4.next hb2
  replace D5 := D5.next hb2
  replace hw := Below.next hw hb2
  clear hb2
  have f0 := D3.c 0 rfl
  have f1 := D3.c 1 rfl
  have f2 := D3.c 2 rfl
  have f3 := D3.c 3 rfl
  have fl := D3.lt
  have k0 := D4.c 0 rfl
  have k1 := D4.c 1 rfl
  have k2 := D4.c 2 rfl
  have k3 := D4.c 3 rfl
  have kl := D4.lt
  have m0 := D5.c 0 rfl
  have m1 := D5.c 1 rfl
  have m2 := D5.c 2 rfl
  have m3 := D5.c 3 rfl
  have ml := D5.lt
  cases p1
  case true =>
    have cA := awake12_any _ (hE1.next hw)
    go_wp2_with fail
    refine cA.mono ?_
    rintro e w9 ⟨rfl, hb9⟩
    clear cA
    go_wp2_with fail
    go_ret
    exact ⟨rfl, Below.next hab (Below.next hw hb9)⟩
  case false =>
  have c1 := cDb _ hw
  go_wp2_with fail
  refine c1.mono ?_
  rintro e w3 ⟨rfl, hb2⟩
  clear c1 f0 f1 f2 f3 fl k0 k1 k2 k3 kl m0 m1 m2 m3 ml
  replace D3 := D3.next hb2
  replace D4 := D4.next hb2
  replace D5 := D5.next hb2
  replace hw := Below.next hw hb2
  clear hb2
  have f0 := D3.c 0 rfl
  have f1 := D3.c 1 rfl
  have f2 := D3.c 2 rfl
  have f3 := D3.c 3 rfl
  have fl := D3.lt
  have k0 := D4.c 0 rfl
  have k1 := D4.c 1 rfl
  have k2 := D4.c 2 rfl
  have k3 := D4.c 3 rfl
  have kl := D4.lt
  have m0 := D5.c 0 rfl
  have m1 := D5.c 1 rfl
  have m2 := D5.c 2 rfl
  have m3 := D5.c 3 rfl
  have ml := D5.lt
  cases p2
  case true =>
    have cA := awake12_any _ (hE1.next hw)
    go_wp2_with fail
    refine cA.mono ?_
    rintro e w9 ⟨rfl, hb9⟩
    clear cA
    go_wp2_with fail
    go_ret
    exact ⟨rfl, Below.next hab (Below.next hw hb9)⟩
  case false =>
  have c1 := cDc _ hw
  go_wp2_with fail
  refine c1.mono ?_
  rintro e w4 ⟨rfl, hb2⟩
  clear c1 f0 f1 f2 f3 fl k0 k1 k2 k3 kl m0 m1 m2 m3 ml
  replace D3 := D3.next hb2
  replace D4 := D4.next hb2
  replace D5 := D5.next hb2
  replace hw := Below.next hw hb2
  clear hb2
  have f0 := D3.c 0 rfl
  have f1 := D3.c 1 rfl
  have f2 := D3.c 2 rfl
  have f3 := D3.c 3 rfl
  have fl := D3.lt
  have k0 := D4.c 0 rfl
  have k1 := D4.c 1 rfl
  have k2 := D4.c 2 rfl
  have k3 := D4.c 3 rfl
  have kl := D4.lt
  have m0 := D5.c 0 rfl
  have m1 := D5.c 1 rfl
  have m2 := D5.c 2 rfl
  have m3 := D5.c 3 rfl
  have ml := D5.lt
  cases p3
  case true =>
    have cA := awake12_any _ (hE1.next hw)
    go_wp2_with fail
    refine cA.mono ?_
    rintro e w9 ⟨rfl, hb9⟩
    clear cA
    go_wp2_with fail
    go_ret
    exact ⟨rfl, Below.next hab (Below.next hw hb9)⟩
  case false =>
  go_upto_region 3 with (fail)
  refine wp_region_on (by kernel_rfl) (FF [(3, Fact.at_ w4 (.pointer (some ⟨w.heap.size, 0, none⟩))), (4, Fact.at_ w4 (.pointer (some ⟨w.heap.size + 1, 0, none⟩))), (5, Fact.at_ w4 (.pointer (some ⟨w.heap.size + 1 + 1, 0, none⟩))), (20, Fact.at_ w4 (.agg #[.int .i64 a.kind, .int .i64 a.size, .string (bs a.name), .slice A a.elem.length d1])), (21, Fact.at_ w4 (.agg #[.int .i64 b.kind, .int .i64 b.size, .string (bs b.name), .slice B b.elem.length d2])), (22, Fact.at_ w4 (.bool r1)), (23, Fact.at_ w4 (.agg #[.int .i64 b.kind, .int .i64 b.size, .string (bs b.name), .slice B b.elem.length d2])), (24, Fact.at_ w4 (.agg #[.int .i64 c.kind, .int .i64 c.size, .string (bs c.name), .slice C c.elem.length d3])), (25, Fact.at_ w4 (.bool r2)), (7, Fact.at_ w4 (.bool r1)), (8, Fact.at_ w4 (.bool r2))]) [3, 4, 5] 52 [20, 21, 22, 23, 24, 25, 7, 8] rfl (by kernel_rfl) (by kernel_rfl) ?_ ?_ ?_
  · intro t9 ht9
    simp only [List.mem_cons, List.not_mem_nil, or_false] at ht9
    rcases ht9 with rfl | rfl | rfl
    · exact ⟨rfl, Below.refl _ _⟩
    · exact ⟨rfl, Below.refl _ _⟩
    · exact ⟨rfl, Below.refl _ _⟩
  · refine fcs ⟨at1 3 20 (.pointer (some ⟨w.heap.size, 0, none⟩)) (.agg #[.int .i64 a.kind, .int .i64 a.size, .string (bs a.name), .slice A a.elem.length d1]) rfl (by first | exact .inl rfl | exact .inr ⟨_, _, _, rfl, rfl, by kernel_rfl, by decide, rfl⟩) (by kernel_rfl) rfl rfl (fun a9 W9 hb9 h9 => by have g0 := cell_next hb9 f0; have g1 := cell_next hb9 f1; have g2 := cell_next hb9 f2; have g3 := cell_next hb9 f3; simp [execOp, h9] <;> go_simp), ?_⟩
    refine fcs ⟨at1 4 21 (.pointer (some ⟨w.heap.size + 1, 0, none⟩)) (.agg #[.int .i64 b.kind, .int .i64 b.size, .string (bs b.name), .slice B b.elem.length d2]) rfl (by first | exact .inl rfl | exact .inr ⟨_, _, _, rfl, rfl, by kernel_rfl, by decide, rfl⟩) (by kernel_rfl) rfl rfl (fun a9 W9 hb9 h9 => by have g0 := cell_next hb9 k0; have g1 := cell_next hb9 k1; have g2 := cell_next hb9 k2; have g3 := cell_next hb9 k3; simp [execOp, h9] <;> go_simp), ?_⟩
    refine fcs ⟨atc2 21 20 21 22 (.agg #[.int .i64 a.kind, .int .i64 a.size, .string (bs a.name), .slice A a.elem.length d1]) (.agg #[.int .i64 b.kind, .int .i64 b.size, .string (bs b.name), .slice B b.elem.length d2]) (.bool r1) _ rfl rfl (by first | exact .inl rfl | exact .inr ⟨_, _, _, rfl, rfl, by kernel_rfl, by decide, rfl⟩) (by kernel_rfl) (by kernel_rfl) rfl rfl (by kernel_rfl) rfl (fun W9 hb9 => cAB W9 (Below.next hw hb9)), ?_⟩
    refine fcs ⟨at1 4 23 (.pointer (some ⟨w.heap.size + 1, 0, none⟩)) (.agg #[.int .i64 b.kind, .int .i64 b.size, .string (bs b.name), .slice B b.elem.length d2]) rfl (by first | exact .inl rfl | exact .inr ⟨_, _, _, rfl, rfl, by kernel_rfl, by decide, rfl⟩) (by kernel_rfl) rfl rfl (fun a9 W9 hb9 h9 => by have g0 := cell_next hb9 k0; have g1 := cell_next hb9 k1; have g2 := cell_next hb9 k2; have g3 := cell_next hb9 k3; simp [execOp, h9] <;> go_simp), ?_⟩
    refine fcs ⟨at1 5 24 (.pointer (some ⟨w.heap.size + 1 + 1, 0, none⟩)) (.agg #[.int .i64 c.kind, .int .i64 c.size, .string (bs c.name), .slice C c.elem.length d3]) rfl (by first | exact .inl rfl | exact .inr ⟨_, _, _, rfl, rfl, by kernel_rfl, by decide, rfl⟩) (by kernel_rfl) rfl rfl (fun a9 W9 hb9 h9 => by have g0 := cell_next hb9 m0; have g1 := cell_next hb9 m1; have g2 := cell_next hb9 m2; have g3 := cell_next hb9 m3; simp [execOp, h9] <;> go_simp), ?_⟩
    refine fcs ⟨atc2 21 23 24 25 (.agg #[.int .i64 b.kind, .int .i64 b.size, .string (bs b.name), .slice B b.elem.length d2]) (.agg #[.int .i64 c.kind, .int .i64 c.size, .string (bs c.name), .slice C c.elem.length d3]) (.bool r2) _ rfl rfl (by first | exact .inl rfl | exact .inr ⟨_, _, _, rfl, rfl, by kernel_rfl, by decide, rfl⟩) (by kernel_rfl) (by kernel_rfl) rfl rfl (by kernel_rfl) rfl (fun W9 hb9 => cBC W9 (Below.next hw hb9)), ?_⟩
    refine fcs ⟨atcopy 22 7 (.bool r1) (.inr rfl) rfl (by first | exact .inl rfl | exact .inr ⟨_, _, _, rfl, rfl, by kernel_rfl, by decide, rfl⟩) (by kernel_rfl) rfl rfl, ?_⟩
    refine fcs ⟨atcopy 25 8 (.bool r2) (.inr rfl) rfl (by first | exact .inl rfl | exact .inr ⟨_, _, _, rfl, rfl, by kernel_rfl, by decide, rfl⟩) (by kernel_rfl) rfl rfl, ?_⟩
    exact fnl
  intro vv wv hvv hb2
  have hv7 : vv 7 = .bool r1 := (hvv 7 (by decide)).1
  have hv8 : vv 8 = .bool r2 := (hvv 8 (by decide)).1
  simp only [lay, List.foldl_cons, List.foldl_nil, List.setIfInBounds_toArray, List.set_cons_succ, List.set_cons_zero, hv7, hv8]
  replace D3 := D3.next hb2
  replace D4 := D4.next hb2
  replace D5 := D5.next hb2
  replace hw := Below.next hw hb2
  clear hvv hb2 f0 f1 f2 f3 fl k0 k1 k2 k3 kl m0 m1 m2 m3 ml cDa cDb cDc cAB cBC
  have f0 := D3.c 0 rfl
  have f1 := D3.c 1 rfl
  have f2 := D3.c 2 rfl
  have f3 := D3.c 3 rfl
  have fl := D3.lt
  have k0 := D4.c 0 rfl
  have k1 := D4.c 1 rfl
  have k2 := D4.c 2 rfl
  have k3 := D4.c 3 rfl
  have kl := D4.lt
  have m0 := D5.c 0 rfl
  have m1 := D5.c 1 rfl
  have m2 := D5.c 2 rfl
  have m3 := D5.c 3 rfl
  have ml := D5.lt
  have s1 : (r1 == r1) = true := by simp
  have c1 := cR _ hw
  go_wp2_with fail
  refine c1.mono ?_
  rintro e w6 ⟨rfl, hb2⟩
  clear c1 f0 f1 f2 f3 fl k0 k1 k2 k3 kl m0 m1 m2 m3 ml
  replace D3 := D3.next hb2
  replace D4 := D4.next hb2
  replace D5 := D5.next hb2
  replace hw := Below.next hw hb2
  clear hb2
  have f0 := D3.c 0 rfl
  have f1 := D3.c 1 rfl
  have f2 := D3.c 2 rfl
  have f3 := D3.c 3 rfl
  have fl := D3.lt
  have k0 := D4.c 0 rfl
  have k1 := D4.c 1 rfl
  have k2 := D4.c 2 rfl
  have k3 := D4.c 3 rfl
  have kl := D4.lt
  have m0 := D5.c 0 rfl
  have m1 := D5.c 1 rfl
  have m2 := D5.c 2 rfl
  have m3 := D5.c 3 rfl
  have ml := D5.lt
  have c1 := cAA _ hw
  go_wp2_with fail
  refine c1.mono ?_
  rintro e w7 ⟨rfl, hb2⟩
  clear c1 f0 f1 f2 f3 fl k0 k1 k2 k3 kl m0 m1 m2 m3 ml
  replace D3 := D3.next hb2
  replace D4 := D4.next hb2
  replace D5 := D5.next hb2
  replace hw := Below.next hw hb2
  clear hb2
  have f0 := D3.c 0 rfl
  have f1 := D3.c 1 rfl
  have f2 := D3.c 2 rfl
  have f3 := D3.c 3 rfl
  have fl := D3.lt
  have k0 := D4.c 0 rfl
  have k1 := D4.c 1 rfl
  have k2 := D4.c 2 rfl
  have k3 := D4.c 3 rfl
  have kl := D4.lt
  have m0 := D5.c 0 rfl
  have m1 := D5.c 1 rfl
  have m2 := D5.c 2 rfl
  have m3 := D5.c 3 rfl
  have ml := D5.lt
  cases r1
  case false =>
    have cA := awake12_any _ (hE1.next hw)
    go_wp2_with fail
    refine cA.mono ?_
    rintro e w9 ⟨rfl, hb9⟩
    clear cA
    go_wp2_with fail
    go_ret
    exact ⟨rfl, Below.next hab (Below.next hw hb9)⟩
  case true =>
  cases r2
  case false =>
    have cA := awake12_any _ (hE1.next hw)
    go_wp2_with fail
    refine cA.mono ?_
    rintro e w9 ⟨rfl, hb9⟩
    clear cA
    go_wp2_with fail
    go_ret
    exact ⟨rfl, Below.next hab (Below.next hw hb9)⟩
  case true =>
  obtain rfl : r3 = true := by simpa using hT
  have c1 := cAC _ hw
  go_wp2_with fail
  refine c1.mono ?_
  rintro e w8 ⟨rfl, hb2⟩
  clear c1 f0 f1 f2 f3 fl k0 k1 k2 k3 kl m0 m1 m2 m3 ml
  replace D3 := D3.next hb2
  replace D4 := D4.next hb2
  replace D5 := D5.next hb2
  replace hw := Below.next hw hb2
  clear hb2
  have f0 := D3.c 0 rfl
  have f1 := D3.c 1 rfl
  have f2 := D3.c 2 rfl
  have f3 := D3.c 3 rfl
  have fl := D3.lt
  have k0 := D4.c 0 rfl
  have k1 := D4.c 1 rfl
  have k2 := D4.c 2 rfl
  have k3 := D4.c 3 rfl
  have kl := D4.lt
  have m0 := D5.c 0 rfl
  have m1 := D5.c 1 rfl
  have m2 := D5.c 2 rfl
  have m3 := D5.c 3 rfl
  have ml := D5.lt
  have cA := awake12_any _ (hE1.next hw)
  go_wp2_with fail
  refine cA.mono ?_
  rintro e w9 ⟨rfl, hb9⟩
  clear cA
  go_wp2_with fail
  go_ret
  exact ⟨rfl, Below.next hab (Below.next hw hb9)⟩
end Go.Proofs.YtcilkcnddgacgaaGreatDoor
/-
  What rows' proofs need where arguments are types: what a type that came in is, and that arguments read behind the call as they did; the library's variables out of the rows' own condition. No conditions beyond the rows' own.
-/
namespace Go.Proofs.YtcilkcnddgacgaaGreatDoor
open Go.ChangeShapes Go.WideShapes Go.ChangeAt Go.RowKit Go.Lib
theorem rowErr12 (u : TypeId) (h : Tryz.prog.typeName? 3 u = some "*errors.errorString") : u = 275 := by
  have star : "*" ++ "errors.errorString" = "*errors.errorString" := by decide
  exact typeName_ptr_named (nm := "errors.errorString") (by rw [star]; kernel_rfl) (by kernel_rfl) (by decide) u (by rw [star]; exact h)
/-- The rows' list of variables. -/
def laidRows12 : List (String × DataW Unit) := [("math/bits.deBruijn32tab", Rows.laid_math_bits_deBruijn32tab), ("math/bits.deBruijn64tab", Rows.laid_math_bits_deBruijn64tab), ("internal/strconv.uint64pow10", Rows.laid_internal_strconv_uint64pow10), ("unicode/utf8.acceptRanges", Rows.laid_unicode_utf8_acceptRanges), ("strconv.ErrRange", Rows.laid_strconv_ErrRange), ("strconv.ErrSyntax", Rows.laid_strconv_ErrSyntax), ("unicode/utf8.first", Rows.laid_unicode_utf8_first)]
theorem env_laid12 {w : World} (hl : laidMetH Tryz.prog laidRows12 w) : Env w := by
  rw [MakeChecks.laidMetH_plain _ _ _ (by kernel_rfl)] at hl
  have ht := tabIs_of_head (zs := pow10Tab) (g := 0) (t := 256) (e := 164) (n := 20) (by kernel_rfl) (by kernel_rfl) Tryz.underlying256 Tryz.underlying164 (by kernel_rfl) (by kernel_rfl) hl.tail.tail
  obtain ⟨a, s, hv, -, -, -⟩ := laid_sentinel hl.tail.tail.tail.tail (g := 2) (ti := 222) (tp := 275) (te := 277) (ts := 9) (by kernel_rfl) (by kernel_rfl) Tryz.underlying222 rowErr12 Tryz.underlying275 Tryz.underlying277 rfl rfl Tryz.underlying9 (by kernel_rfl) (by kernel_rfl)
  exact ⟨⟨_, _, hv⟩, ht⟩
theorem trodAll_stays12 {H : Type} {enc : TypeId × Value → H} {P : Program} (hl : laidOutB P = true) {W W' : World} (hb : Below W.heap.size W W') :
    ∀ {ts : List TypeId} {vs : List Value} {ds : List (DataW H)} {ps : List MemPlace}, (ts.all fun t => P.readableRec t && decide (t < P.types.size)) = true → DataW.TrodAll enc P W 0 (fun _ => true) true ts vs ds ps → (∀ x ∈ ps, x.block < W.heap.size) →
      DataW.TrodAll enc P W' 0 (fun b => decide (b < W.heap.size)) true ts vs ds ps
  | [], [], [], _, _, h, _ => h
  | t :: ts, v :: vs, d :: ds, ps, hr, ⟨p, q, h, hs, e⟩, hlt => by
    simp only [List.all_cons, Bool.and_eq_true, decide_eq_true_eq] at hr
    have hp : ∀ x ∈ p, x.block < W.heap.size := fun x hx => hlt x (by rw [e]; simp [hx])
    have hq : ∀ x ∈ q, x.block < W.heap.size := fun x hx => hlt x (by rw [e]; simp [hx])
    exact ⟨p, q, Go.WideElems.Trod_stays hl hr.1.1 hr.1.2 h (fun x hx => hb.same (hp x hx)) (fun x hx => by simpa using hp x hx), trodAll_stays12 hl hb hr.2 hs hq, e⟩
set_option maxRecDepth 100000 in
theorem post_stays12 {H : Type} {enc : TypeId × Value → H} {f : Func} {s : ChangeSpec} {W W' : World} {args : Array Value} {ds : List (DataW H)} {before : List MemPlace} (hs : s.vars = []) (hrt : f.resultTypes = #[4])
    (hW : DataW.Whole enc Tryz.prog f.params.toList s.vars false W args.toList ds [] before) (hres : (s.fn H (ds ++ [])).results = [.lit (.bool true)]) (hvs : (s.fn H (ds ++ [])).vars = []) (hds : (s.fn H (ds ++ [])).args = ds)
    (hr : (f.params.toList.all fun t => Tryz.prog.readableRec t && decide (t < Tryz.prog.types.size)) = true) (hb : Below W.heap.size W W') :
    s.post enc Tryz.prog f false true false false W args (.bool true) W' := by
  have hlt : ∀ p ∈ before, p.block < W.heap.size := fun p hp => hW.lt p hp
  have hW2 := hW
  obtain ⟨p, q, hA, hV, e, _, _⟩ := hW2
  have hA2 : DataW.TrodAll enc Tryz.prog W 0 (fun _ => true) true f.params.toList args.toList ds p := hA
  refine post_true (pa := p) hs hrt hW hres hvs ?_ hb
  rw [hds]
  exact trodAll_stays12 (by kernel_rfl) hb hr hA2 fun x hx => hlt x (by rw [e]; simp [hx])
section
variable {H : Type} {enc : TypeId × Value → H}
theorem int_cell12 {W : World} {b : Nat} {sp : Nat → Bool} {hd : Bool} {k : Nat} {t : TypeId} {K : IntKind} {v : Value} {y : DataW H × List MemPlace} (ht : Tryz.prog.underlying t = some (.int K)) (h : DataW.trod enc Tryz.prog W b sp hd k t [v] = some y) : ∃ n, v = .int K n ∧ (Lit.int K n).wf = true := by
  obtain ⟨n, hc, _, hw⟩ := DataW.trod_int ht h
  injection hc with hc _
  exact ⟨n, hc, hw⟩
theorem str_cell12 {W : World} {b : Nat} {sp : Nat → Bool} {hd : Bool} {k : Nat} {t : TypeId} {v : Value} {y : DataW H × List MemPlace} (ht : Tryz.prog.underlying t = some .string) (h : DataW.trod enc Tryz.prog W b sp hd k t [v] = some y) : ∃ s, v = .string s ∧ s.size ≤ maxLen := by
  obtain ⟨s, hc, _, hs⟩ := DataW.trod_string ht h
  injection hc with hc _
  exact ⟨s, hc, hs⟩
theorem loks_of12 : ∀ {e : List Ty}, (∀ t ∈ e, lok t) → lok.loks e
  | [], _ => by rw [lok.loks]; trivial
  | t :: ts, h => by
    rw [lok.loks]
    exact ⟨h t (List.mem_cons_self ..), loks_of12 fun u hu => h u (List.mem_cons_of_mem _ hu)⟩
/-- The cells of a type. -/
def TyC (W : World) (t : Ty) (cs : List Value) : Prop := ∃ A c, cs = [.int .i64 t.kind, .int .i64 t.size, .string (bs t.name), .slice A t.elem.length c] ∧ lok t ∧ Rw TyA 4 W t.elem A
theorem TyC.at_ {W : World} {t : Ty} {cs : List Value} {p : Addr} (h : TyC W t cs) (hat : ∀ j, j < 4 → W.cell? (p.add j) = cs[j]?) : TyA W t p := by
  obtain ⟨A, c, rfl, -, hR⟩ := h
  have h0 := hat 0 (by decide)
  have h1 := hat 1 (by decide)
  have h2 := hat 2 (by decide)
  have h3 := hat 3 (by decide)
  exact TyA.of h0 h1 h2 h3 hR
set_option maxRecDepth 100000 in
theorem open_ty12 {W : World} (N : Nat) : ∀ (k : Nat) (cs : List Value) (y : DataW H × List MemPlace), k < N → DataW.trod enc Tryz.prog W 0 (fun _ => true) true k 53 cs = some y → ∃ t, TyC W t cs := by
  induction N with
  | zero => intro k cs y h; omega
  | succ N ih =>
    intro k cs y hk h
    obtain ⟨xs, n, rfl, -, hcl, hxl, hg⟩ := DataW.trod_struct Tryz.underlying53 h
    have ez : Tryz.prog.cellsOf 53 = 4 := by kernel_rfl
    rw [ez] at hcl
    match cs, hcl with
    | [c0, c1, c2, c3], _ =>
      have e3 : Tryz.prog.cellsOf 3 = 1 := by kernel_rfl
      have e9 : Tryz.prog.cellsOf 9 = 1 := by kernel_rfl
      have e43 : Tryz.prog.cellsOf 51 = 1 := by kernel_rfl
      have h0 : DataW.trod enc Tryz.prog W 0 (fun _ => true) true n 3 (([c0, c1, c2, c3].drop 0).take (Tryz.prog.cellsOf 3)) = xs[0]? := hg 0 _ rfl
      have h1 : DataW.trod enc Tryz.prog W 0 (fun _ => true) true n 3 (([c0, c1, c2, c3].drop 1).take (Tryz.prog.cellsOf 3)) = xs[1]? := hg 1 _ rfl
      have h2 : DataW.trod enc Tryz.prog W 0 (fun _ => true) true n 9 (([c0, c1, c2, c3].drop 2).take (Tryz.prog.cellsOf 9)) = xs[2]? := hg 2 _ rfl
      have h3 : DataW.trod enc Tryz.prog W 0 (fun _ => true) true n 51 (([c0, c1, c2, c3].drop 3).take (Tryz.prog.cellsOf 51)) = xs[3]? := hg 3 _ rfl
      rw [e3] at h0 h1
      rw [e9] at h2
      rw [e43] at h3
      have h0 : DataW.trod enc Tryz.prog W 0 (fun _ => true) true n 3 [c0] = xs[0]? := h0
      have h1 : DataW.trod enc Tryz.prog W 0 (fun _ => true) true n 3 [c1] = xs[1]? := h1
      have h2 : DataW.trod enc Tryz.prog W 0 (fun _ => true) true n 9 [c2] = xs[2]? := h2
      have h3 : DataW.trod enc Tryz.prog W 0 (fun _ => true) true n 51 [c3] = xs[3]? := h3
      have l4 : xs.length = 4 := hxl
      rw [List.getElem?_eq_getElem (by omega)] at h0 h1 h2 h3
      obtain ⟨K, rfl, -⟩ := int_cell12 Tryz.underlying3 h0
      obtain ⟨Z, rfl, -⟩ := int_cell12 Tryz.underlying3 h1
      obtain ⟨S, rfl, -⟩ := str_cell12 Tryz.underlying9 h2
      rw [bs_of S]
      rcases DataW.trod_slice Tryz.underlying51 h3 with ⟨hc, -⟩ | ⟨a, len, cap, elems, rest, m, rfl, hc, -, -, hl1, hl2, hle, hel, -, -⟩
      · obtain rfl : c3 = .slice none 0 0 := by injection hc
        exact ⟨.mk K Z S.data.toList [], none, 0, rfl, by rw [lok]; exact ⟨by decide, loks_of12 fun _ h => by cases h⟩, .inl rfl⟩
      · obtain rfl : c3 = .slice (some a) len cap := by injection hc
        have key : ∀ i, i < len → ∃ t : Ty, lok t ∧ TyA W t (a.add (i * 4)) := fun i hi => by
          have h5 := hel i hi
          rw [ez, List.getElem?_eq_getElem (by omega), Option.bind_eq_some_iff] at h5
          obtain ⟨cs', hcs, htr⟩ := h5
          obtain ⟨t, ht⟩ := ih m cs' _ (by omega) htr
          obtain ⟨-, -, hat⟩ := World.cells?_some hcs
          have hlk := ht
          obtain ⟨-, -, -, hlk, -⟩ := hlk
          exact ⟨t, hlk, ht.at_ hat⟩
        have key2 : ∀ i, ∃ t : Ty, i < len → lok t ∧ TyA W t (a.add (i * 4)) := fun i => by
          by_cases hi : i < len
          · obtain ⟨t, ht⟩ := key i hi; exact ⟨t, fun _ => ht⟩
          · exact ⟨.mk 0 0 [] [], fun h => absurd h hi⟩
        obtain ⟨q, hq⟩ := Classical.skolem.1 key2
        have hlen : ((List.range len).map q).length = len := by simp
        refine ⟨.mk K Z S.data.toList ((List.range len).map q), some a, cap, by show _ = [_, _, _, Value.slice (some a) ((List.range len).map q).length cap]; rw [hlen]; rfl, ?_, .inr ⟨a, rfl, fun i hi => ?_⟩⟩
        · rw [lok]
          refine ⟨by rw [hlen]; simp only [maxLen] at hl2; omega, loks_of12 fun t ht => ?_⟩
          obtain ⟨i, hi, rfl⟩ := List.mem_map.1 ht
          exact (hq i (List.mem_range.1 hi)).1
        · have hi2 : i < len := by
            have : i < ((List.range len).map q).length := hi
            omega
          have hi3 : i < ((List.range len).map q).length := hi
          have e4 : ((List.range len).map q)[i]'hi3 = q i := by simp
          have e : (Ty.mk K Z S.data.toList ((List.range len).map q)).elem[i]'hi = q i := e4
          rw [e]
          exact (hq i hi2).2
set_option maxRecDepth 100000 in
/-- An argument that is a type. -/
theorem open_typ12 {W : World} {r : Go.Reach} {b0 : Nat} {v : Value} {d : DataW H} {p : List MemPlace} (hv : Value.okWide Tryz.prog W r b0 53 v) (h : DataW.Trod enc Tryz.prog W 0 (fun _ => true) true 53 v d p) :
    ∃ t, lok t ∧ TyV W t v := by
  obtain ⟨cs, rfl, hsz, _⟩ : ∃ cs, v = .agg cs ∧ cs.size = Tryz.prog.cellsOf 53 ∧ Row.okWide Tryz.prog W r b0 53 cs := by
    simpa [Value.okWide, Tryz.underlying53] using hv
  obtain ⟨fuel, hf⟩ := h
  obtain ⟨t, A, c, e, hl, hR⟩ := open_ty12 (fuel + 1) fuel _ _ (Nat.lt_succ_self _) hf
  refine ⟨t, hl, A, c, ?_, hR⟩
  obtain ⟨l⟩ := cs
  have e : l = _ := e
  rw [e]
end
theorem widens12_row (a : Ty) (va : Value) (b : Ty) (vb : Value) (c : Ty) (vc : Value) (w : World) (ha : lok a) (h1 : TyV w a va) (hb : lok b) (h2 : TyV w b vb) (hc : lok c) (h3 : TyV w c vc) (hL : laidMetH Tryz.prog laidRows12 w) :
    Calls Tryz.prog 5 #[va, vb, vc] w (Ib (.bool true) w) := widens12_law a b c va vb vc w ha hb hc h1 h2 h3 (env_laid12 hL)
end Go.Proofs.YtcilkcnddgacgaaGreatDoor


/-
  A field that the struct does not have is passed over. No conditions beyond those that each names.
-/
import Derived.Test.YthfodpbecddheaaGreatDoorQM23
import Derived.Test.YthfodpbecddheaaGreatDoorQM17
import Derived.Test.YthfodpbecddheaaGreatDoorQM22
import Derived.BigQuiet
import Derived.Test.YthfodpbecddheaaGreatDoorQM12
import Derived.Test.YthfodpbecddheaaGreatDoorQM21
namespace Go.Proofs.YthfodpbecddheaaGreatDoor
open Go.RowKit Go.Sort
set_option maxRecDepth 100000 in
set_option maxHeartbeats 8000000 in
theorem rcl_none (b2 b4 : Nat) (sT : St) (A3 : Option Addr) (c3 : Nat) (B : Nat) (vF u : Value) (l : List (Int × Vl)) (xs : List Value) (y : Int) (ct : List UInt8) (w : World)
    (h2 : Bx w b2 [.string (bs sT.name), .slice A3 sT.fields.length c3]) (h4 : Bx w b4 [.int .i64 6, .int .i64 0, .string ⟨#[]⟩, .slice none 0 0, vF]) (hO : w.ownsRow B 94 6 vF l.length xs) (hI : IL 6 encE (fun _ x s => Pn x s) l xs)
    (hD : Rw FdA 7 w sT.fields A3) (hn : sT.fields.length ≤ 1000) (hfw : ∀ f ∈ sT.fields, fewT f.type = true) (hf : fst_ Fd.num sT.fields y = none) :
    Calls Tryz.prog 144 #[.int .i64 y, .string (bs ct), .pointer (some ⟨b2, 0, none⟩), u, .pointer (some ⟨b4, 0, none⟩)] w (fun e w' => e = .returned (.int .i64 0) ∧ RcE w vF.ownBlock b4 B l w') := by
  have cF := devFieldOf_any sT y (.agg #[.string (bs sT.name), .slice A3 sT.fields.length c3]) w ⟨A3, c3, rfl, hD⟩ hn hfw
  rw [hf] at cF
  have d0 := h2.c 0 rfl
  have d1 := h2.c 1 rfl
  have ld := h2.lt
  clear hn hfw hf hD
  go_enter Tryz.func144, Tryz.ntmps144
  go_wp2_with fail
  refine cF.mono ?_
  rintro e w1 ⟨vf, rfl, ⟨A8, c8, rfl, hTy⟩, hb1⟩
  have hbx := ab1 w1 (Obj.cells #[.int .i64 fd0.num, .string (bs fd0.name), .int .i64 fd0.type.kind, .int .i64 fd0.type.size, .string (bs fd0.type.name), .slice A8 fd0.type.elem.length c8, .bool fd0.opt] 57)
  have hab := Below.next hb1 hbx
  clear hTy d0 d1 ld cF hb1 hbx
  go_upto_region 2 with (fail)
  generalize hz : w1.heap.size = z at *
  generalize w1.alloc _ = w2 at *
  clear hz w1
  go_wp2_with fail
  go_ret
  exact ⟨rfl, RcE.same (h4.next hab) (own_next hO hab) hI hab⟩
end Go.Proofs.YthfodpbecddheaaGreatDoor
/-
  The law's schemas are valid: mathematics. No conditions beyond those that each names.
-/
namespace Go.Proofs.YthfodpbecddheaaGreatDoor
theorem Reach.rank {nx : List UInt8 → List (List UInt8)} {rk : List UInt8 → Nat} (hr : ∀ x y, y ∈ nx x → rk y < rk x) {x y : List UInt8} (h : Reach nx x y) : rk y < rk x := by
  induction h with
  | one h => exact hr _ _ h
  | more _ hz ih => exact Nat.lt_trans (hr _ _ hz) ih
theorem cyc_no {S : Sch} (rk : List UInt8 → Nat) (hr : ∀ x y, y ∈ nx S x → rk y < rk x) : ¬ cyc S := by
  rintro ⟨t, -, h⟩
  exact Nat.lt_irrefl _ (Reach.rank hr h)
theorem chk_zero {S : Sch} (h1 : ¬ (S.ver < 1 ∨ 999 < S.ver)) (h2 : ¬ longS S) (h3 : Parts S) (h4 : ¬ cyc S) (h5 : ∀ t ∈ S.structs, dep S t.name ≤ 6) : chk S = 0 := by
  rw [chk_ns h1 h2 h3]
  refine (nsR_no h4).2 ?_
  rintro ⟨t, ht, h⟩
  have := h5 t ht
  omega
end Go.Proofs.YthfodpbecddheaaGreatDoor
/-
  The law's example: its schema. No conditions.
-/
namespace Go.Proofs.YthfodpbecddheaaGreatDoor
open Go.RowKit
def stEx : St := ⟨[80], [⟨1, [120], false, .mk 2 32 [] []⟩, ⟨2, [111, 110], false, .mk 1 0 [] []⟩]⟩
def schEx : Sch := ⟨1, [], [stEx]⟩
set_option maxRecDepth 100000 in
set_option maxHeartbeats 8000000 in
theorem example11_any (w : World) : Calls Tryz.prog 44 #[] w (ScP schEx w) := by
  go_enter Tryz.func44, Tryz.ntmps44
  go_wp2_with fail
  have B0 := Bx.newA w 25 #[.int .i64 1, .slice none 0 0, .slice (some ⟨w.heap.size + 1 + 1, 0, none⟩) 1 1]
  have b0 := ab1 w (Obj.cells #[.int .i64 1, .slice none 0 0, .slice (some ⟨w.heap.size + 1 + 1, 0, none⟩) 1 1] 25)
  have z1 : (w.alloc (Obj.cells #[.int .i64 1, .slice none 0 0, .slice (some ⟨w.heap.size + 1 + 1, 0, none⟩) 1 1] 25)).heap.size = w.heap.size + 1 := by rw [heap_alloc_size]
  have hab := b0
  clear b0
  generalize w.alloc (Obj.cells #[.int .i64 1, .slice none 0 0, .slice (some ⟨w.heap.size + 1 + 1, 0, none⟩) 1 1] 25) = w1 at *
  have B1 := Bx.newA w1 57 #[.int .i64 1, .string ⟨#[120]⟩, .int .i64 2, .int .i64 32, .string ⟨#[]⟩, .slice none 0 0, .bool false, .int .i64 2, .string ⟨#[111, 110]⟩, .int .i64 1, .int .i64 0, .string ⟨#[]⟩, .slice none 0 0, .bool false]
  have b1 := ab1 w1 (Obj.cells #[.int .i64 1, .string ⟨#[120]⟩, .int .i64 2, .int .i64 32, .string ⟨#[]⟩, .slice none 0 0, .bool false, .int .i64 2, .string ⟨#[111, 110]⟩, .int .i64 1, .int .i64 0, .string ⟨#[]⟩, .slice none 0 0, .bool false] 57)
  have z2 : (w1.alloc (Obj.cells #[.int .i64 1, .string ⟨#[120]⟩, .int .i64 2, .int .i64 32, .string ⟨#[]⟩, .slice none 0 0, .bool false, .int .i64 2, .string ⟨#[111, 110]⟩, .int .i64 1, .int .i64 0, .string ⟨#[]⟩, .slice none 0 0, .bool false] 57)).heap.size = w.heap.size + 1 + 1 := by rw [heap_alloc_size, z1]
  rw [z1] at B1
  replace B0 := B0.next b1
  replace hab := Below.next hab b1
  clear b1
  generalize w1.alloc (Obj.cells #[.int .i64 1, .string ⟨#[120]⟩, .int .i64 2, .int .i64 32, .string ⟨#[]⟩, .slice none 0 0, .bool false, .int .i64 2, .string ⟨#[111, 110]⟩, .int .i64 1, .int .i64 0, .string ⟨#[]⟩, .slice none 0 0, .bool false] 57) = w2 at *
  have B2 := Bx.newA w2 53 #[.string ⟨#[80]⟩, .slice (some ⟨w.heap.size + 1, 0, none⟩) 2 2]
  have b2 := ab1 w2 (Obj.cells #[.string ⟨#[80]⟩, .slice (some ⟨w.heap.size + 1, 0, none⟩) 2 2] 53)
  have z3 : (w2.alloc (Obj.cells #[.string ⟨#[80]⟩, .slice (some ⟨w.heap.size + 1, 0, none⟩) 2 2] 53)).heap.size = w.heap.size + 1 + 1 + 1 := by rw [heap_alloc_size, z2]
  rw [z2] at B2
  replace B0 := B0.next b2
  replace B1 := B1.next b2
  replace hab := Below.next hab b2
  clear b2
  generalize w2.alloc (Obj.cells #[.string ⟨#[80]⟩, .slice (some ⟨w.heap.size + 1, 0, none⟩) 2 2] 53) = w3 at *
  have r0 := B0.c 0 rfl
  have r1 := B0.c 1 rfl
  have r2 := B0.c 2 rfl
  refine bodyPost_ret (v := .agg #[.int .i64 1, .slice none 0 0, .slice (some ⟨w.heap.size + 1 + 1, 0, none⟩) 1 1]) (by simp [results, Tryz.results44, go_sem, r0, r1, r2]) rfl ⟨_, rfl, ⟨none, 0, some ⟨w.heap.size + 1 + 1, 0, none⟩, 1, rfl, ⟨.inl rfl, rw_cons.2 ⟨_, rfl, ⟨B2.c 0 rfl, some ⟨w.heap.size + 1, 0, none⟩, 2, B2.c 1 rfl, rw_cons.2 ⟨_, rfl, ⟨B1.c 0 rfl, B1.c 1 rfl, B1.c 2 rfl, B1.c 3 rfl, B1.c 4 rfl, ⟨none, 0, B1.c 5 rfl, .inl rfl⟩, B1.c 6 rfl⟩, rw_cons.2 ⟨_, rfl, ⟨B1.c 7 rfl, B1.c 8 rfl, B1.c 9 rfl, B1.c 10 rfl, B1.c 11 rfl, ⟨none, 0, B1.c 12 rfl, .inl rfl⟩, B1.c 13 rfl⟩, .inl rfl⟩⟩⟩, .inl rfl⟩⟩⟩, hab⟩
theorem few_ex : Few9 schEx := ⟨by decide, by decide, fun t ht => by
  obtain rfl : t = stEx := by simpa [schEx] using ht
  exact ⟨by decide, List.all_eq_true.1 (by decide +kernel)⟩, fun t ht => by simp [schEx] at ht⟩
theorem few_exB : FewB schEx := few_B (by decide +kernel)
theorem lok_ex : lok9 schEx := by
  intro t ht
  obtain rfl : t = stEx := by simpa [schEx] using ht
  intro f hf
  simp only [stEx, List.mem_cons, List.not_mem_nil, or_false] at hf
  rcases hf with rfl | rfl <;> simp [lok, lok.loks]
theorem asc_ex : ∀ t ∈ schEx.structs, AscD t.fields := by
  intro t ht
  obtain rfl : t = stEx := by simpa [schEx] using ht
  simp [AscD, stEx]
theorem cyc_ex : ¬ cyc schEx := by
  refine cyc_no (fun _ => 0) fun x y h => ?_
  unfold nx at h
  have e1 : nxs stEx = [] := by decide +kernel
  have e3 : nxs st0 = [] := by decide +kernel
  rw [show schEx.structs = [stEx] from rfl, fst_cons, fst_nil] at h
  by_cases h1 : stEx.name = x
  · rw [if_pos h1] at h
    have h : y ∈ nxs stEx := h
    rw [e1] at h; cases h
  · rw [if_neg h1] at h
    have h : y ∈ nxs st0 := h
    rw [e3] at h; cases h
theorem chk_ex : chk schEx = 0 := chk_zero (by decide) (by unfold longS; decide +kernel) ⟨by decide +kernel, by decide +kernel⟩ cyc_ex (by decide +kernel)
theorem tyE_ex : tyE schEx [80] = 0 := by unfold tyE; rw [if_pos chk_ex]; rfl
/-- The example's value. -/
def vEx : Vl := .mk 6 0 [] [] [(1, .mk 2 (-2) [] [] []), (2, .mk 1 1 [] [] [])]
theorem vchk_ex : vchk schEx ⟨6, 0, [80], []⟩ vEx = 0 := by decide +kernel
end Go.Proofs.YthfodpbecddheaaGreatDoor
/-
  The reader's content of a struct, as its reader gives it; Decode. No conditions beyond those that each names.
-/
namespace Go.Proofs.YthfodpbecddheaaGreatDoor
open Go.RowKit Go.Sort
/-- The call returns a value whose rows are new, and a fault. -/
def RdW (t : Vl) (er : Int) (w : World) (e : Ending) (w' : World) : Prop := ∃ s1 : Sb, e = .returned (.tuple #[.agg #[.int .i64 t.kind, .int .i64 t.n, .string (bs t.s), .slice s1.A t.l.length s1.c, .slice s1.B t.f.length s1.d], .int .i64 er]) ∧ NwV w.heap.size w' t s1 ∧ Below w.heap.size w w'
/-- The call returns some value and a fault. -/
def RdE (er : Int) (w : World) (e : Ending) (w' : World) : Prop := ∃ (t : Vl) (s1 : Sb), e = .returned (.tuple #[.agg #[.int .i64 t.kind, .int .i64 t.n, .string (bs t.s), .slice s1.A t.l.length s1.c, .slice s1.B t.f.length s1.d], .int .i64 er]) ∧ Below w.heap.size w w'
set_option maxRecDepth 100000 in
set_option maxHeartbeats 4000000 in
theorem rcontent_struct (S : Sch) (A : Option Addr) (c : Nat) (A2 : Option Addr) (c2 : Nat) (s : Int) (nm : List UInt8) (G : Option Addr) (e g : Nat) (b : List UInt8) (t : Vl) (er : Int) (w : World)
    (h : ∀ W, Below w.heap.size w W → Calls Tryz.prog 95 #[.agg #[.int .i64 S.ver, .slice A S.enums.length c, .slice A2 S.structs.length c2], .agg #[.int .i64 6, .int .i64 s, .string (bs nm), .slice G e g], .string (bs b)] W (RdW t er W)) :
    Calls Tryz.prog 45 #[.agg #[.int .i64 S.ver, .slice A S.enums.length c, .slice A2 S.structs.length c2], .agg #[.int .i64 6, .int .i64 s, .string (bs nm), .slice G e g], .string (bs b)] w (RdW t er w) := by
  have D1 := (Bx.new3 w 95 (.int .i64 S.ver) (.slice A S.enums.length c) (.slice A2 S.structs.length c2)).next (ab2 _ (Obj.cells #[.int .i64 6, .int .i64 s, .string (bs nm), .slice G e g] 29) (Obj.cells #[.int .i64 0, .int .i64 0, .string ⟨#[]⟩, .slice none 0 0, .slice none 0 0] 34))
  have D2 := (Bx.new4 (w.alloc (Obj.cells #[.int .i64 S.ver, .slice A S.enums.length c, .slice A2 S.structs.length c2] 95)) 29 (.int .i64 6) (.int .i64 s) (.string (bs nm)) (.slice G e g)).next (ab1 _ (Obj.cells #[.int .i64 0, .int .i64 0, .string ⟨#[]⟩, .slice none 0 0, .slice none 0 0] 34))
  have D3 := Bx.new5 ((w.alloc (Obj.cells #[.int .i64 S.ver, .slice A S.enums.length c, .slice A2 S.structs.length c2] 95)).alloc (Obj.cells #[.int .i64 6, .int .i64 s, .string (bs nm), .slice G e g] 29)) 34 (.int .i64 0) (.int .i64 0) (.string ⟨#[]⟩) (.slice none 0 0) (.slice none 0 0)
  have z1 : (w.alloc (Obj.cells #[.int .i64 S.ver, .slice A S.enums.length c, .slice A2 S.structs.length c2] 95)).heap.size = w.heap.size + 1 := by simp
  have z2 : ((w.alloc (Obj.cells #[.int .i64 S.ver, .slice A S.enums.length c, .slice A2 S.structs.length c2] 95)).alloc (Obj.cells #[.int .i64 6, .int .i64 s, .string (bs nm), .slice G e g] 29)).heap.size = w.heap.size + 1 + 1 := by simp
  have z3 : (((w.alloc (Obj.cells #[.int .i64 S.ver, .slice A S.enums.length c, .slice A2 S.structs.length c2] 95)).alloc (Obj.cells #[.int .i64 6, .int .i64 s, .string (bs nm), .slice G e g] 29)).alloc (Obj.cells #[.int .i64 0, .int .i64 0, .string ⟨#[]⟩, .slice none 0 0, .slice none 0 0] 34)).heap.size = w.heap.size + 1 + 1 + 1 := by simp
  rw [z1] at D2
  rw [z2] at D3
  have hab := ab3 w (Obj.cells #[.int .i64 S.ver, .slice A S.enums.length c, .slice A2 S.structs.length c2] 95) (Obj.cells #[.int .i64 6, .int .i64 s, .string (bs nm), .slice G e g] 29) (Obj.cells #[.int .i64 0, .int .i64 0, .string ⟨#[]⟩, .slice none 0 0, .slice none 0 0] 34)
  go_enter Tryz.func45, Tryz.ntmps45
  go_upto_region 1 with (fail)
  generalize (((w.alloc (Obj.cells #[.int .i64 S.ver, .slice A S.enums.length c, .slice A2 S.structs.length c2] 95)).alloc (Obj.cells #[.int .i64 6, .int .i64 s, .string (bs nm), .slice G e g] 29)).alloc (Obj.cells #[.int .i64 0, .int .i64 0, .string ⟨#[]⟩, .slice none 0 0, .slice none 0 0] 34)) = wc at *
  have hz3 : w.heap.size + 1 + 1 < wc.heap.size := by omega
  clear z1 z2 z3
  have k0 := D1.c 0 rfl
  have k1 := D1.c 1 rfl
  have k2 := D1.c 2 rfl
  have lk := D1.lt
  have j0 := D2.c 0 rfl
  have j1 := D2.c 1 rfl
  have j2 := D2.c 2 rfl
  have j3 := D2.c 3 rfl
  have lj := D2.lt
  have c1 := h wc hab
  unfold RdW at c1
  clear h
  go_wp2_with fail
  refine c1.mono ?_
  rintro e9 w9 ⟨s1, rfl, hN, hb2⟩
  replace D3 := D3.next hb2
  replace hab := Below.next hab hb2
  clear hb2 k0 k1 k2 lk j0 j1 j2 j3 lj c1 D1 D2
  have q0 := D3.f 0 rfl
  have q1 := D3.f 1 rfl
  have q2 := D3.f 2 rfl
  have q3 := D3.f 3 rfl
  have q4 := D3.f 4 rfl
  have r0 := D3.c 0 rfl
  have r1 := D3.c 1 rfl
  have r2 := D3.c 2 rfl
  have r3 := D3.c 3 rfl
  have r4 := D3.c 4 rfl
  have lr := D3.lt
  have hfin := gb5 hab (b := w.heap.size + 1 + 1) (by omega) (.int .i64 t.kind) (.int .i64 t.n) (.string (bs t.s)) (.slice s1.A t.l.length s1.c) (.slice s1.B t.f.length s1.d)
  have hkf : Kpl wc.heap.size w9 (((((w9.setCell ⟨w.heap.size + 1 + 1, 0, none⟩ (.int .i64 t.kind)).setCell ⟨w.heap.size + 1 + 1, 1, none⟩ (.int .i64 t.n)).setCell ⟨w.heap.size + 1 + 1, 2, none⟩ (.string (bs t.s))).setCell ⟨w.heap.size + 1 + 1, 3, none⟩ (.slice s1.A t.l.length s1.c)).setCell ⟨w.heap.size + 1 + 1, 4, none⟩ (.slice s1.B t.f.length s1.d)) := Kpl.gb (gb_set5 _ _ _ _ _ _ _) (by omega)
  clear D3
  go_wp2_with fail
  refine bodyPost_ret (v := .tuple #[.agg #[.int .i64 t.kind, .int .i64 t.n, .string (bs t.s), .slice s1.A t.l.length s1.c, .slice s1.B t.f.length s1.d], .int .i64 er]) (by simp [results, Tryz.results45, go_sem, r0, r1, r2, r3, r4]) rfl ?_
  exact ⟨s1, rfl, (hN.next hkf).low (by omega), hfin⟩
set_option maxRecDepth 100000 in
set_option maxHeartbeats 4000000 in
theorem rcontent_fault (S : Sch) (A : Option Addr) (c : Nat) (A2 : Option Addr) (c2 : Nat) (s : Int) (nm : List UInt8) (G : Option Addr) (e g : Nat) (b : List UInt8) (er : Int) (w : World)
    (h : ∀ W, Below w.heap.size w W → Calls Tryz.prog 95 #[.agg #[.int .i64 S.ver, .slice A S.enums.length c, .slice A2 S.structs.length c2], .agg #[.int .i64 6, .int .i64 s, .string (bs nm), .slice G e g], .string (bs b)] W (RdE er W)) :
    Calls Tryz.prog 45 #[.agg #[.int .i64 S.ver, .slice A S.enums.length c, .slice A2 S.structs.length c2], .agg #[.int .i64 6, .int .i64 s, .string (bs nm), .slice G e g], .string (bs b)] w (RdE er w) := by
  have D1 := (Bx.new3 w 95 (.int .i64 S.ver) (.slice A S.enums.length c) (.slice A2 S.structs.length c2)).next (ab2 _ (Obj.cells #[.int .i64 6, .int .i64 s, .string (bs nm), .slice G e g] 29) (Obj.cells #[.int .i64 0, .int .i64 0, .string ⟨#[]⟩, .slice none 0 0, .slice none 0 0] 34))
  have D2 := (Bx.new4 (w.alloc (Obj.cells #[.int .i64 S.ver, .slice A S.enums.length c, .slice A2 S.structs.length c2] 95)) 29 (.int .i64 6) (.int .i64 s) (.string (bs nm)) (.slice G e g)).next (ab1 _ (Obj.cells #[.int .i64 0, .int .i64 0, .string ⟨#[]⟩, .slice none 0 0, .slice none 0 0] 34))
  have D3 := Bx.new5 ((w.alloc (Obj.cells #[.int .i64 S.ver, .slice A S.enums.length c, .slice A2 S.structs.length c2] 95)).alloc (Obj.cells #[.int .i64 6, .int .i64 s, .string (bs nm), .slice G e g] 29)) 34 (.int .i64 0) (.int .i64 0) (.string ⟨#[]⟩) (.slice none 0 0) (.slice none 0 0)
  have z1 : (w.alloc (Obj.cells #[.int .i64 S.ver, .slice A S.enums.length c, .slice A2 S.structs.length c2] 95)).heap.size = w.heap.size + 1 := by simp
  have z2 : ((w.alloc (Obj.cells #[.int .i64 S.ver, .slice A S.enums.length c, .slice A2 S.structs.length c2] 95)).alloc (Obj.cells #[.int .i64 6, .int .i64 s, .string (bs nm), .slice G e g] 29)).heap.size = w.heap.size + 1 + 1 := by simp
  have z3 : (((w.alloc (Obj.cells #[.int .i64 S.ver, .slice A S.enums.length c, .slice A2 S.structs.length c2] 95)).alloc (Obj.cells #[.int .i64 6, .int .i64 s, .string (bs nm), .slice G e g] 29)).alloc (Obj.cells #[.int .i64 0, .int .i64 0, .string ⟨#[]⟩, .slice none 0 0, .slice none 0 0] 34)).heap.size = w.heap.size + 1 + 1 + 1 := by simp
  rw [z1] at D2
  rw [z2] at D3
  have hab := ab3 w (Obj.cells #[.int .i64 S.ver, .slice A S.enums.length c, .slice A2 S.structs.length c2] 95) (Obj.cells #[.int .i64 6, .int .i64 s, .string (bs nm), .slice G e g] 29) (Obj.cells #[.int .i64 0, .int .i64 0, .string ⟨#[]⟩, .slice none 0 0, .slice none 0 0] 34)
  go_enter Tryz.func45, Tryz.ntmps45
  go_upto_region 1 with (fail)
  generalize (((w.alloc (Obj.cells #[.int .i64 S.ver, .slice A S.enums.length c, .slice A2 S.structs.length c2] 95)).alloc (Obj.cells #[.int .i64 6, .int .i64 s, .string (bs nm), .slice G e g] 29)).alloc (Obj.cells #[.int .i64 0, .int .i64 0, .string ⟨#[]⟩, .slice none 0 0, .slice none 0 0] 34)) = wc at *
  have hz3 : w.heap.size + 1 + 1 < wc.heap.size := by omega
  clear z1 z2 z3
  have k0 := D1.c 0 rfl
  have k1 := D1.c 1 rfl
  have k2 := D1.c 2 rfl
  have lk := D1.lt
  have j0 := D2.c 0 rfl
  have j1 := D2.c 1 rfl
  have j2 := D2.c 2 rfl
  have j3 := D2.c 3 rfl
  have lj := D2.lt
  have c1 := h wc hab
  unfold RdE at c1
  clear h
  go_wp2_with fail
  refine c1.mono ?_
  rintro e9 w9 ⟨t, s1, rfl, hb2⟩
  replace D3 := D3.next hb2
  replace hab := Below.next hab hb2
  clear hb2 k0 k1 k2 lk j0 j1 j2 j3 lj c1 D1 D2
  have q0 := D3.f 0 rfl
  have q1 := D3.f 1 rfl
  have q2 := D3.f 2 rfl
  have q3 := D3.f 3 rfl
  have q4 := D3.f 4 rfl
  have r0 := D3.c 0 rfl
  have r1 := D3.c 1 rfl
  have r2 := D3.c 2 rfl
  have r3 := D3.c 3 rfl
  have r4 := D3.c 4 rfl
  have lr := D3.lt
  have hfin := gb5 hab (b := w.heap.size + 1 + 1) (by omega) (.int .i64 t.kind) (.int .i64 t.n) (.string (bs t.s)) (.slice s1.A t.l.length s1.c) (.slice s1.B t.f.length s1.d)
  clear D3
  go_wp2_with fail
  refine bodyPost_ret (v := .tuple #[.agg #[.int .i64 t.kind, .int .i64 t.n, .string (bs t.s), .slice s1.A t.l.length s1.c, .slice s1.B t.f.length s1.d], .int .i64 er]) (by simp [results, Tryz.results45, go_sem, r0, r1, r2, r3, r4]) rfl ?_
  exact ⟨t, s1, rfl, hfin⟩
set_option maxRecDepth 100000 in
set_option maxHeartbeats 4000000 in
theorem decode_ok (S : Sch) (nm b : List UInt8) (a : Value) (t : Vl) (w : World) (hf : Few9 S) (hB : FewB S) (hE : Env w) (hty : tyE S nm = 0) (hb : b.length ≤ 2000) (hS : ScV w S a)
    (h : ∀ W A c A2 c2, ScV W S (.agg #[.int .i64 S.ver, .slice A S.enums.length c, .slice A2 S.structs.length c2]) → Calls Tryz.prog 45 #[.agg #[.int .i64 S.ver, .slice A S.enums.length c, .slice A2 S.structs.length c2], .agg #[.int .i64 6, .int .i64 0, .string (bs nm), .slice none 0 0], .string (bs b)] W (RdW t 0 W)) :
    Calls Tryz.prog 21 #[a, .string (bs nm), .string (bs b)] w (RdW t 0 w) := by
  have cT := fun W a (h1 : ScV W S a) (h2 : Env W) => typeOf_any S nm a W hf hB h2 h1
  have hty2 : tyV S nm = .agg #[.int .i64 6, .int .i64 0, .string (bs nm), .slice none 0 0] := if_pos hty
  rw [hty, hty2] at cT
  clear hf hB hty hty2
  obtain ⟨A, c, A2, c2, rfl, hS⟩ := hS
  have hS0 : ∀ W, Below w.heap.size w W → ScV W S (.agg #[.int .i64 S.ver, .slice A S.enums.length c, .slice A2 S.structs.length c2]) := fun W hb => ⟨A, c, A2, c2, rfl, Sc.next hb hS⟩
  have D1 := (Bx.new3 w 25 (.int .i64 S.ver) (.slice A S.enums.length c) (.slice A2 S.structs.length c2)).next (ab1 _ (Obj.cells #[.int .i64 0, .int .i64 0, .string ⟨#[]⟩, .slice none 0 0, .slice none 0 0] 34))
  have D3 := Bx.new5 (w.alloc (Obj.cells #[.int .i64 S.ver, .slice A S.enums.length c, .slice A2 S.structs.length c2] 25)) 34 (.int .i64 0) (.int .i64 0) (.string ⟨#[]⟩) (.slice none 0 0) (.slice none 0 0)
  have z1 : (w.alloc (Obj.cells #[.int .i64 S.ver, .slice A S.enums.length c, .slice A2 S.structs.length c2] 25)).heap.size = w.heap.size + 1 := by simp
  have z3 : ((w.alloc (Obj.cells #[.int .i64 S.ver, .slice A S.enums.length c, .slice A2 S.structs.length c2] 25)).alloc (Obj.cells #[.int .i64 0, .int .i64 0, .string ⟨#[]⟩, .slice none 0 0, .slice none 0 0] 34)).heap.size = w.heap.size + 1 + 1 := by simp
  rw [z1] at D3
  have hab := ab2 w (Obj.cells #[.int .i64 S.ver, .slice A S.enums.length c, .slice A2 S.structs.length c2] 25) (Obj.cells #[.int .i64 0, .int .i64 0, .string ⟨#[]⟩, .slice none 0 0, .slice none 0 0] 34)
  have hq1 : decide (((bs b).size : Int) > 2000) = false := by rw [bs_size]; simp; omega
  have HH := Lib.hid (And.intro hS0 h)
  clear hS hS0 h
  generalize bs b = X at *
  go_enter Tryz.func21, Tryz.ntmps21
  go_upto_region 1 with (fail)
  generalize (w.alloc (Obj.cells #[.int .i64 S.ver, .slice A S.enums.length c, .slice A2 S.structs.length c2] 25)).alloc (Obj.cells #[.int .i64 0, .int .i64 0, .string ⟨#[]⟩, .slice none 0 0, .slice none 0 0] 34) = w0 at *
  have hz3 : w.heap.size + 1 < w0.heap.size := by omega
  clear z1 z3
  have k0 := D1.c 0 rfl
  have k1 := D1.c 1 rfl
  have k2 := D1.c 2 rfl
  have l1 := D1.lt
  have c1 := cT w0 _ (HH.out.1 _ hab) (hE.next hab)
  clear cT hE
  go_wp2_with fail
  refine c1.mono ?_
  rintro e w2 ⟨rfl, hb2⟩
  have D4 := Bx.new4 w2 29 (.int .i64 6) (.int .i64 0) (.string (bs nm)) (.slice none 0 0)
  have hbx := ab1 w2 (Obj.cells #[.int .i64 6, .int .i64 0, .string (bs nm), .slice none 0 0] 29)
  replace D1 := (D1.next hb2).next hbx
  replace D3 := (D3.next hb2).next hbx
  replace hz3 : w.heap.size + 1 < (w2.alloc (Obj.cells #[.int .i64 6, .int .i64 0, .string (bs nm), .slice none 0 0] 29)).heap.size := Nat.lt_of_lt_of_le hz3 (Nat.le_trans hb2.size hbx.size)
  replace hab := Below.next hab (Below.next hb2 hbx)
  clear hb2 k0 k1 k2 l1 c1 hbx
  go_upto_region 2 with (fail)
  generalize hq : w2.heap.size = q at *
  generalize w2.alloc (Obj.cells #[.int .i64 6, .int .i64 0, .string (bs nm), .slice none 0 0] 29) = wc at *
  clear hq w2 w0
  have k0 := D1.c 0 rfl
  have k1 := D1.c 1 rfl
  have k2 := D1.c 2 rfl
  have l1 := D1.lt
  have i0 := D4.c 0 rfl
  have i1 := D4.c 1 rfl
  have i2 := D4.c 2 rfl
  have i3 := D4.c 3 rfl
  have l3 := D4.lt
  have c3 := HH.out.2 wc A c A2 c2 (HH.out.1 _ hab)
  unfold RdW at c3
  go_wp2_with fail
  refine c3.mono ?_
  rintro e w4 ⟨s1, rfl, hN, hb2⟩
  have D5 := Bx.new5 w4 34 (.int .i64 t.kind) (.int .i64 t.n) (.string (bs t.s)) (.slice s1.A t.l.length s1.c) (.slice s1.B t.f.length s1.d)
  have hbx := ab1 w4 (Obj.cells #[.int .i64 t.kind, .int .i64 t.n, .string (bs t.s), .slice s1.A t.l.length s1.c, .slice s1.B t.f.length s1.d] 34)
  replace D3 := (D3.next hb2).next hbx
  have hab2 := Below.next hab (Below.next hb2 hbx)
  have hk9 : Kpl wc.heap.size w4 (w4.alloc (Obj.cells #[.int .i64 t.kind, .int .i64 t.n, .string (bs t.s), .slice s1.A t.l.length s1.c, .slice s1.B t.f.length s1.d] 34)) := Kpl.of hbx
  have hz9 := hz3
  clear hb2 k0 k1 k2 l1 i0 i1 i2 i3 l3 c3 D1 D4 HH hbx hab
  go_upto_region 7 with (fail)
  generalize hq9 : w4.heap.size = q9 at *
  generalize w4.alloc (Obj.cells #[.int .i64 t.kind, .int .i64 t.n, .string (bs t.s), .slice s1.A t.l.length s1.c, .slice s1.B t.f.length s1.d] 34) = w9 at *
  have hN := hN.next hk9
  clear hk9 hq9
  have hab := hab2
  clear hab2
  have d0 := D5.c 0 rfl
  have d1 := D5.c 1 rfl
  have d2 := D5.c 2 rfl
  have d3 := D5.c 3 rfl
  have d4 := D5.c 4 rfl
  have ld := D5.lt
  have q0 := D3.f 0 rfl
  have q1 := D3.f 1 rfl
  have q2 := D3.f 2 rfl
  have q3 := D3.f 3 rfl
  have q4 := D3.f 4 rfl
  have r0 := D3.c 0 rfl
  have r1 := D3.c 1 rfl
  have r2 := D3.c 2 rfl
  have r3 := D3.c 3 rfl
  have r4 := D3.c 4 rfl
  have lr := D3.lt
  have hfin := gb5 hab (b := w.heap.size + 1) (by omega) (.int .i64 t.kind) (.int .i64 t.n) (.string (bs t.s)) (.slice s1.A t.l.length s1.c) (.slice s1.B t.f.length s1.d)
  have hkf : Kpl wc.heap.size w9 (((((w9.setCell ⟨w.heap.size + 1, 0, none⟩ (.int .i64 t.kind)).setCell ⟨w.heap.size + 1, 1, none⟩ (.int .i64 t.n)).setCell ⟨w.heap.size + 1, 2, none⟩ (.string (bs t.s))).setCell ⟨w.heap.size + 1, 3, none⟩ (.slice s1.A t.l.length s1.c)).setCell ⟨w.heap.size + 1, 4, none⟩ (.slice s1.B t.f.length s1.d)) := Kpl.gb (gb_set5 _ _ _ _ _ _ _) (by omega)
  clear D3
  go_wp2_with fail
  refine bodyPost_ret (v := .tuple #[.agg #[.int .i64 t.kind, .int .i64 t.n, .string (bs t.s), .slice s1.A t.l.length s1.c, .slice s1.B t.f.length s1.d], .int .i64 0]) (by simp [results, Tryz.results21, go_sem, r0, r1, r2, r3, r4]) rfl ?_
  exact ⟨s1, rfl, (hN.next hkf).low (by omega), hfin⟩
set_option maxRecDepth 100000 in
set_option maxHeartbeats 4000000 in
theorem decode_fault (S : Sch) (nm b : List UInt8) (a : Value) (er : Int) (w : World) (hf : Few9 S) (hB : FewB S) (hE : Env w) (hty : tyE S nm = 0) (hb : b.length ≤ 2000) (hS : ScV w S a) (her : er ≠ 0)
    (h : ∀ W A c A2 c2, ScV W S (.agg #[.int .i64 S.ver, .slice A S.enums.length c, .slice A2 S.structs.length c2]) → Calls Tryz.prog 45 #[.agg #[.int .i64 S.ver, .slice A S.enums.length c, .slice A2 S.structs.length c2], .agg #[.int .i64 6, .int .i64 0, .string (bs nm), .slice none 0 0], .string (bs b)] W (RdE er W)) :
    Calls Tryz.prog 21 #[a, .string (bs nm), .string (bs b)] w (Ib (.tuple #[.agg #[.int .i64 0, .int .i64 0, .string ⟨#[]⟩, .slice none 0 0, .slice none 0 0], .int .i64 er]) w) := by
  have cT := fun W a (h1 : ScV W S a) (h2 : Env W) => typeOf_any S nm a W hf hB h2 h1
  have hty2 : tyV S nm = .agg #[.int .i64 6, .int .i64 0, .string (bs nm), .slice none 0 0] := if_pos hty
  rw [hty, hty2] at cT
  clear hf hB hty hty2
  obtain ⟨A, c, A2, c2, rfl, hS⟩ := hS
  have hS0 : ∀ W, Below w.heap.size w W → ScV W S (.agg #[.int .i64 S.ver, .slice A S.enums.length c, .slice A2 S.structs.length c2]) := fun W hb => ⟨A, c, A2, c2, rfl, Sc.next hb hS⟩
  have D1 := (Bx.new3 w 25 (.int .i64 S.ver) (.slice A S.enums.length c) (.slice A2 S.structs.length c2)).next (ab1 _ (Obj.cells #[.int .i64 0, .int .i64 0, .string ⟨#[]⟩, .slice none 0 0, .slice none 0 0] 34))
  have D3 := Bx.new5 (w.alloc (Obj.cells #[.int .i64 S.ver, .slice A S.enums.length c, .slice A2 S.structs.length c2] 25)) 34 (.int .i64 0) (.int .i64 0) (.string ⟨#[]⟩) (.slice none 0 0) (.slice none 0 0)
  have z1 : (w.alloc (Obj.cells #[.int .i64 S.ver, .slice A S.enums.length c, .slice A2 S.structs.length c2] 25)).heap.size = w.heap.size + 1 := by simp
  have z3 : ((w.alloc (Obj.cells #[.int .i64 S.ver, .slice A S.enums.length c, .slice A2 S.structs.length c2] 25)).alloc (Obj.cells #[.int .i64 0, .int .i64 0, .string ⟨#[]⟩, .slice none 0 0, .slice none 0 0] 34)).heap.size = w.heap.size + 1 + 1 := by simp
  rw [z1] at D3
  have hab := ab2 w (Obj.cells #[.int .i64 S.ver, .slice A S.enums.length c, .slice A2 S.structs.length c2] 25) (Obj.cells #[.int .i64 0, .int .i64 0, .string ⟨#[]⟩, .slice none 0 0, .slice none 0 0] 34)
  have hq1 : decide (((bs b).size : Int) > 2000) = false := by rw [bs_size]; simp; omega
  have HH := Lib.hid (And.intro hS0 h)
  clear hS hS0 h
  generalize bs b = X at *
  go_enter Tryz.func21, Tryz.ntmps21
  go_upto_region 1 with (fail)
  generalize (w.alloc (Obj.cells #[.int .i64 S.ver, .slice A S.enums.length c, .slice A2 S.structs.length c2] 25)).alloc (Obj.cells #[.int .i64 0, .int .i64 0, .string ⟨#[]⟩, .slice none 0 0, .slice none 0 0] 34) = w0 at *
  have hz3 : w.heap.size + 1 < w0.heap.size := by omega
  clear z1 z3
  have k0 := D1.c 0 rfl
  have k1 := D1.c 1 rfl
  have k2 := D1.c 2 rfl
  have l1 := D1.lt
  have c1 := cT w0 _ (HH.out.1 _ hab) (hE.next hab)
  clear cT hE
  go_wp2_with fail
  refine c1.mono ?_
  rintro e w2 ⟨rfl, hb2⟩
  have D4 := Bx.new4 w2 29 (.int .i64 6) (.int .i64 0) (.string (bs nm)) (.slice none 0 0)
  have hbx := ab1 w2 (Obj.cells #[.int .i64 6, .int .i64 0, .string (bs nm), .slice none 0 0] 29)
  replace D1 := (D1.next hb2).next hbx
  replace D3 := (D3.next hb2).next hbx
  replace hz3 : w.heap.size + 1 < (w2.alloc (Obj.cells #[.int .i64 6, .int .i64 0, .string (bs nm), .slice none 0 0] 29)).heap.size := Nat.lt_of_lt_of_le hz3 (Nat.le_trans hb2.size hbx.size)
  replace hab := Below.next hab (Below.next hb2 hbx)
  clear hb2 k0 k1 k2 l1 c1 hbx
  go_upto_region 2 with (fail)
  generalize hq : w2.heap.size = q at *
  generalize w2.alloc (Obj.cells #[.int .i64 6, .int .i64 0, .string (bs nm), .slice none 0 0] 29) = wc at *
  clear hq w2 w0
  have k0 := D1.c 0 rfl
  have k1 := D1.c 1 rfl
  have k2 := D1.c 2 rfl
  have l1 := D1.lt
  have i0 := D4.c 0 rfl
  have i1 := D4.c 1 rfl
  have i2 := D4.c 2 rfl
  have i3 := D4.c 3 rfl
  have l3 := D4.lt
  have c3 := HH.out.2 wc A c A2 c2 (HH.out.1 _ hab)
  unfold RdE at c3
  go_wp2_with fail
  refine c3.mono ?_
  rintro e w4 ⟨t, s1, rfl, hb2⟩
  have qe : (er != 0) = true := by simpa using her
  have D5 := Bx.new5 w4 34 (.int .i64 t.kind) (.int .i64 t.n) (.string (bs t.s)) (.slice s1.A t.l.length s1.c) (.slice s1.B t.f.length s1.d)
  have hbx := ab1 w4 (Obj.cells #[.int .i64 t.kind, .int .i64 t.n, .string (bs t.s), .slice s1.A t.l.length s1.c, .slice s1.B t.f.length s1.d] 34)
  replace D3 := (D3.next hb2).next hbx
  have hab2 := Below.next hab (Below.next hb2 hbx)
  have hk9 : Kpl wc.heap.size w4 (w4.alloc (Obj.cells #[.int .i64 t.kind, .int .i64 t.n, .string (bs t.s), .slice s1.A t.l.length s1.c, .slice s1.B t.f.length s1.d] 34)) := Kpl.of hbx
  replace hz3 : w.heap.size + 1 < (w4.alloc (Obj.cells #[.int .i64 t.kind, .int .i64 t.n, .string (bs t.s), .slice s1.A t.l.length s1.c, .slice s1.B t.f.length s1.d] 34)).heap.size := Nat.lt_of_lt_of_le hz3 (Nat.le_trans hb2.size hbx.size)
  clear hb2 k0 k1 k2 l1 i0 i1 i2 i3 l3 c3 D1 D4 HH hbx hab
  go_upto_region 7 with (fail)
  generalize hq9 : w4.heap.size = q9 at *
  generalize w4.alloc (Obj.cells #[.int .i64 t.kind, .int .i64 t.n, .string (bs t.s), .slice s1.A t.l.length s1.c, .slice s1.B t.f.length s1.d] 34) = w9 at *
  clear hk9 hq9
  have hab := hab2
  clear hab2
  have d0 := D5.c 0 rfl
  have d1 := D5.c 1 rfl
  have d2 := D5.c 2 rfl
  have d3 := D5.c 3 rfl
  have d4 := D5.c 4 rfl
  have ld := D5.lt
  have q0 := D3.f 0 rfl
  have q1 := D3.f 1 rfl
  have q2 := D3.f 2 rfl
  have q3 := D3.f 3 rfl
  have q4 := D3.f 4 rfl
  have r0 := D3.c 0 rfl
  have r1 := D3.c 1 rfl
  have r2 := D3.c 2 rfl
  have r3 := D3.c 3 rfl
  have r4 := D3.c 4 rfl
  have lr := D3.lt
  have hfin := gb5 hab (b := w.heap.size + 1) (by omega) (.int .i64 0) (.int .i64 0) (.string ⟨#[]⟩) (.slice none 0 0) (.slice none 0 0)
  clear D3
  go_wp2_with fail
  refine bodyPost_ret (v := .tuple #[.agg #[.int .i64 0, .int .i64 0, .string ⟨#[]⟩, .slice none 0 0, .slice none 0 0], .int .i64 er]) (by simp [results, Tryz.results21, go_sem, r0, r1, r2, r3, r4]) rfl ?_
  exact ⟨rfl, hfin⟩
end Go.Proofs.YthfodpbecddheaaGreatDoor
/-
  The fields that were omitted: none, where all were read. No conditions beyond those that each names.
-/
namespace Go.Proofs.YthfodpbecddheaaGreatDoor
open Go.RowKit Go.Sort
set_option maxRecDepth 100000 in
set_option maxHeartbeats 8000000 in
theorem complete_all (S : Sch) (A : Option Addr) (c : Nat) (A2 : Option Addr) (c2 : Nat) (fl : List Fd) (A3 : Option Addr) (c3 gR cR n : Nat) (vR : Value) (l : List (Int × Vl)) (w : World)
    (hF : Rw FdA 7 w fl A3) (hn : fl.length = n) (hn9 : n ≤ 1000) (hl : l.length = n) (hc : n ≤ cR) (hnum : ∀ i (h : i < l.length) (h2 : i < fl.length), (l[i]'h).1 = (fl[i]'h2).num) (hpl : ∀ x ∈ l, x.2.l = [] ∧ x.2.f = [])
    (hvR : 0 < n → vR = .slice (some ⟨gR, 0, none⟩) n cR) (hR : ∀ i (h : i < l.length), EtA w (l[i]'h) ⟨gR, i * 6, none⟩) :
    Calls Tryz.prog 145 #[.agg #[.int .i64 S.ver, .slice A S.enums.length c, .slice A2 S.structs.length c2], .slice A3 n c3, vR] w (fun e w' => ∃ v' xs', e = .returned v' ∧ w'.ownsRow w.heap.size 94 6 v' l.length xs' ∧ IL 6 encE (fun _ x s => Pn x s) l xs' ∧ Below w.heap.size w w') := by
  have hab := ab1 w (Obj.cells #[.int .i64 S.ver, .slice A S.enums.length c, .slice A2 S.structs.length c2] 95)
  have HF := Lib.hid hF
  have HN := Lib.hid hn
  have HL := Lib.hid hl
  have HR := Lib.hid hR
  have HM := Lib.hid hnum
  have HP := Lib.hid hpl
  clear hF hn hl hR hnum hpl
  go_enter Tryz.func145, Tryz.ntmps145
  go_upto_region 1 with (fail)
  have hsz0 : (w.alloc (Obj.cells #[.int .i64 S.ver, .slice A S.enums.length c, .slice A2 S.structs.length c2] 95)).heap.size = w.heap.size + 1 := by simp
  generalize w.alloc (Obj.cells #[.int .i64 S.ver, .slice A S.enums.length c, .slice A2 S.structs.length c2] 95) = w0 at *
  have B1 := Bx.new3 w 95 (.int .i64 S.ver) (.slice A S.enums.length c) (.slice A2 S.structs.length c2)
  go_wp2_with fail
  go_loopw [2, 7, 14] (fun vr va i wr => ∃ (k : Nat) (xs : List Value), k ≤ n ∧ i = .int .i64 (k : Int) ∧ Hid (wr.ownsRow w0.heap.size 94 6 va (l.take k).length xs) ∧ Hid (IL 6 encE (fun _ x s => Pn x s) (l.take k) xs) ∧ Hid (k < n → vr = .slice (some ⟨gR, k * 6, none⟩) (n - k) (cR - k)) ∧ Below w.heap.size w wr ∧ Hid (w0.heap.size ≤ wr.heap.size)) (fun _ _ i _ => n - (intOf i).toNat)
  case atStart => exact ⟨0, [], by omega, rfl, Lib.hid (World.ownsRow_nil _ _ _ _), Lib.hid (IL.nil _ _ _), Lib.hid (fun h => by rw [hvR h]; simp), hab, Lib.hid (Nat.le_refl _)⟩
  case round =>
    obtain ⟨k, xs, hk, rfl, HO, HI, HV, hb, HZ⟩ := hrel
    by_cases hlt : k < n
    · have hk1 := Lib.hid hlt
      have hkd : k < fl.length := by rw [HN.out]; exact hlt
      have hkl : k < l.length := by rw [HL.out]; exact hlt
      obtain rfl := HV.out hlt
      obtain ⟨a, rfl, hA⟩ := (HF.out.next fun _ _ => FdA.next hb).get hkd
      obtain ⟨x0, x1, x2, x3, x4, ⟨A4, c4, x5, hEt⟩, x6⟩ := hA
      have hblk : (a.add (k * 7)).block < wr.heap.size := blk_lt x0
      obtain ⟨s', y0, y1, y2, y3, y4, y5, -⟩ := (EtA.next hb _ _ (HR.out k hkl)).sb
      have hnm := Lib.hid (HM.out k hkl hkd)
      obtain ⟨p1, p2⟩ := HP.out _ (List.getElem_mem hkl)
      have HT : Hid (l.take (k + 1) = l.take k ++ [l[k]'hkl]) := Lib.hid (by rw [List.take_succ_eq_append_getElem hkl])
      generalize l[k]'hkl = m at *
      generalize fl[k]'hkd = x at *
      have hblR : gR < wr.heap.size := blk_lt y0
      obtain ⟨r, hr⟩ : ∃ r, n - k = r + 1 := ⟨n - k - 1, by omega⟩
      obtain ⟨cr, hcr⟩ : ∃ cr, cR - k = cr + 1 := ⟨cR - k - 1, by omega⟩
      have hcn : r ≤ cr := by omega
      rw [hr, hcr]
      have HRR := Lib.hid (And.intro hr hcr)
      clear hr hcr
      have hbx := ab1 wr (Obj.cells #[.int .i64 x.num, .string (bs x.name), .int .i64 x.type.kind, .int .i64 x.type.size, .string (bs x.type.name), .slice A4 x.type.elem.length c4, .bool x.opt] 57)
      have D9 := Bx.new7 wr 57 (.int .i64 x.num) (.string (bs x.name)) (.int .i64 x.type.kind) (.int .i64 x.type.size) (.string (bs x.type.name)) (.slice A4 x.type.elem.length c4) (.bool x.opt)
      have z0 := cell_next hbx y0
      have z1 := cell_next hbx (show wr.cell? ⟨gR, k * 6 + 1, none⟩ = _ from y1)
      have z2 := cell_next hbx (show wr.cell? ⟨gR, k * 6 + 2, none⟩ = _ from y2)
      have z3 := cell_next hbx (show wr.cell? ⟨gR, k * 6 + 3, none⟩ = _ from y3)
      have z4 := cell_next hbx (show wr.cell? ⟨gR, k * 6 + 4, none⟩ = _ from y4)
      have z5 := cell_next hbx (show wr.cell? ⟨gR, k * 6 + 5, none⟩ = _ from y5)
      have hO4 := Lib.hid (own_next HO.out hbx)
      have hb4 := Below.next hb hbx
      have hZ4 := Lib.hid (Nat.le_trans HZ.out hbx.size)
      go_upto_region 5 with (fail)
      clear x0 x1 x2 x3 x4 x5 x6 y0 y1 y2 y3 y4 y5 hEt hblk hbx hblR HO HZ
      generalize hz9 : wr.heap.size = z9 at *
      generalize wr.alloc (Obj.cells #[.int .i64 x.num, .string (bs x.name), .int .i64 x.type.kind, .int .i64 x.type.size, .string (bs x.type.name), .slice A4 x.type.elem.length c4, .bool x.opt] 57) = w4 at *
      have v0 := D9.c 0 rfl
      have he : (m.1 == x.num) = true := by rw [hnm.out]; simp
      have hr0 : decide (0 < r + 1) = true := by simp
      have hr1 : decide (((r : Int) + 1) > 0) = true := by rw [decide_eq_true_iff]; omega
      go_quiet (fail)
      have hbq : Below w4.heap.size w4 (w4.drewN nq) := below_drewN (Below.refl _ _) nq
      replace z0 := cell_next hbq z0
      replace z1 := cell_next hbq z1
      replace z2 := cell_next hbq z2
      replace z3 := cell_next hbq z3
      replace z4 := cell_next hbq z4
      replace z5 := cell_next hbq z5
      have hO5 := own_next hO4.out hbq
      have hb5 := Below.next hb4 hbq
      have hZ5 := Nat.le_trans hZ4.out hbq.size
      clear hbq hO4 hb4 hZ4 he hr0 hr1 v0 D9 hb
      generalize w4.drewN nq = w5 at *
      have hEn : encE m s' = [.int .i64 m.1, .int .i64 m.2.kind, .int .i64 m.2.n, .string (bs m.2.s), .slice s'.A 0 s'.c, .slice s'.B 0 s'.d] := by unfold encE; rw [p1, p2]; rfl
      have hbe := ab1 w5 (Obj.cells #[.int .i64 m.1, .int .i64 m.2.kind, .int .i64 m.2.n, .string (bs m.2.s), .slice s'.A 0 s'.c, .slice s'.B 0 s'.d] 94)
      have hO6 := own_next hO5 hbe
      have hBe : Bx (w5.alloc (Obj.cells #[.int .i64 m.1, .int .i64 m.2.kind, .int .i64 m.2.n, .string (bs m.2.s), .slice s'.A 0 s'.c, .slice s'.B 0 s'.d] 94)) w5.heap.size (encE m s') := by rw [hEn]; exact Bx.new6 w5 94 (.int .i64 m.1) (.int .i64 m.2.kind) (.int .i64 m.2.n) (.string (bs m.2.s)) (.slice s'.A 0 s'.c) (.slice s'.B 0 s'.d)
      have hPn : Pn m s' := fun _ => ⟨.inl p1, .inl p2⟩
      have hB6 := Nat.le_trans hZ5 hbe.size
      have hb6 := Below.next hb5 hbe
      have hI6 := HI.out
      have hlk : (l.take k).length ≤ 1100000 := by rw [List.length_take]; omega
      have HX := Lib.hid (And.intro hO6 (And.intro hBe (And.intro hB6 (And.intro hb6 (And.intro hI6 hPn)))))
      have HW0 := Lib.hid hlk
      clear hO5 hbe hBe hB6 hb5 hb6 hI6 hPn hO6 hEn hZ5 hlk HI
      rw [p1] at z4
      rw [p2] at z5
      go_wp2_with (at_builtin; refine wpList_pushP rfl (.tmp 30) (.tmp 34) rfl w0.heap.size _ (l.take k) xs m s' w5.heap.size 1 rfl rfl HX.out.1 HX.out.2.2.2.2.1 HX.out.2.2.2.2.2 HX.out.2.1 HW0.out HX.out.2.2.1 ?_; intro v' xs' w6 hO7 hI7 hg7)
      have hb7 := HX.out.2.2.2.1.grown hg7 HX.out.2.2.2.1.size (fun b e => by have := (HX.out.1.lt b e).1; omega)
      have hZ7 := Nat.le_trans HX.out.2.2.1 hg7.size
      go_roundw
      case rel =>
        refine ⟨k + 1, xs', hk1.out, by go_num, Lib.hid (by rw [HT.out]; exact hO7), Lib.hid (by rw [HT.out]; exact hI7), Lib.hid (fun h => ?_), hb7, Lib.hid hZ7⟩
        obtain ⟨hr, hcr⟩ := HRR.out
        rw [if_neg (by omega), show k * 6 + 6 = (k + 1) * 6 by omega, show n - (k + 1) = r by omega, show cR - (k + 1) = cr by omega]
      case measure => have := hk1.out; simp [intOf]; omega
    · obtain rfl : k = n := by omega
      have hT : l.take k = l := by rw [← HL.out, List.take_length]
      have hO8 := HO.out
      have hI8 := HI.out
      rw [hT] at hO8 hI8
      clear hT HO HI HV HZ
      go_wp2_with fail
      go_ret
      exact ⟨_, xs, rfl, own_mono hO8 (by omega), hI8, hb⟩
end Go.Proofs.YthfodpbecddheaaGreatDoor
/-
  The walk over an encoded struct. No conditions beyond those that each names.
-/
namespace Go.Proofs.YthfodpbecddheaaGreatDoor
open Go.RowKit Go.Sort
theorem Bx.g2 {w w' : World} {b b4 : Nat} {vs : List Value} {q : Option Nat} (h : Bx w b vs) (hg : Gr2 w w' q b4) (h1 : b ≠ b4) (h2 : q ≠ some b) : Bx w' b vs := by
  have hk := hg.block b h.lt (fun e => h2 e.symm) h1
  exact ⟨Nat.lt_of_lt_of_le h.lt hg.size, fun j v e => ⟨(World.cell?_of_block (w := w) (a := ⟨b, j, none⟩) hk).trans (h.at_ j v e).1, (World.frozen?_of_block (w := w) (a := ⟨b, j, none⟩) hk).trans (h.at_ j v e).2⟩⟩
theorem Rdr.g2 {w w' : World} {g b4 : Nat} {l : List UInt8} {e : Nat} {q : Option Nat} (h : Rdr w g l e) (hg : Gr2 w w' q b4) (h1 : g ≠ b4) (h2 : q ≠ some g) : Rdr w' g l e := by
  have hb := hg.block g h.lt (fun e => h2 e.symm) h1
  exact ⟨Nat.lt_of_lt_of_le h.lt hg.size, (World.cell?_of_block (a := ⟨g, 0, none⟩) hb).trans h.c0, (World.cell?_of_block (a := ⟨g, 1, none⟩) hb).trans h.c1, (World.frozen?_of_block (a := ⟨g, 0, none⟩) hb).trans h.f0, (World.frozen?_of_block (a := ⟨g, 1, none⟩) hb).trans h.f1⟩
theorem Kpl.g2 {lo b4 : Nat} {w2 w w' : World} {q : Option Nat} (k : Kpl lo w2 w) (hg : Gr2 w w' q b4) (h1 : w2.heap.size ≤ b4) (h2 : ∀ g, q = some g → w2.heap.size ≤ g) : Kpl lo w2 w' :=
  ⟨Nat.le_trans k.size hg.size, fun i a1 a2 => (hg.block i (Nat.lt_of_lt_of_le a2 k.size) (fun e => by have := h2 i e.symm; omega) (by omega)).trans (k.blk i a1 a2)⟩
theorem below_g2 {w w1 w' : World} {b4 : Nat} {q : Option Nat} (h : Below w.heap.size w w1) (hg : Gr2 w1 w' q b4) (h1 : w.heap.size ≤ b4) (h2 : ∀ g, q = some g → w.heap.size ≤ g) : Below w.heap.size w w' :=
  ⟨hg.os.trans h.os, hg.tape.trans h.tape, hg.output.trans h.output, Nat.le_trans h.size hg.size, fun i hi => (hg.block i (Nat.lt_of_lt_of_le hi h.size) (fun e => by have := h2 i e.symm; omega) (by omega)).trans (h.block i hi)⟩
/-- What the visitor does: ct, for each field and content, gives the value read and the fault. -/
def rV (fl : List Fd) (ct : Fd → List UInt8 → Vl × Nat) (s : List (Int × Vl)) (n : Nat) (c : List UInt8) : List (Int × Vl) × Nat :=
  match fst_ Fd.num fl (n : Int) with
  | none => (s, 0)
  | some f => rcS f.opt (c = zc f.type.kind) (ct f c).2 s ((n : Int), (ct f c).1)
theorem rcS_len (o : Bool) (z : Prop) [Decidable z] (er : Nat) (l : List (Int × Vl)) (y : Int × Vl) : (rcS o z er l y).1.length ≤ l.length + 1 := by
  unfold rcS
  split
  · simp
  · split
    · simp
    · simp
/-- What holds at each turn. -/
def JR (S : Sch) (A A2 : Option Addr) (c c2 : Nat) (sT : St) (A3 : Option Addr) (c3 b2 b3 b4 lo : Nat) (wr w2 : World) (g k : Nat) (s : List (Int × Vl)) (W : World) : Prop :=
  s.length ≤ k ∧ b2 < b4 ∧ b3 < b4 ∧ b4 < g ∧ g < W.heap.size ∧ wr.heap.size ≤ b3 ∧ w2.heap.size ≤ b4 ∧ Bx W b2 [.string (bs sT.name), .slice A3 sT.fields.length c3] ∧ Bx W b3 [.int .i64 S.ver, .slice A S.enums.length c, .slice A2 S.structs.length c2] ∧ Kpl lo w2 W ∧ Below wr.heap.size wr W ∧
  ∃ v xs, Bx W b4 [.int .i64 6, .int .i64 0, .string ⟨#[]⟩, .slice none 0 0, v] ∧ W.ownsRow (g + 1) 94 6 v s.length xs ∧ IL 6 encE (fun _ x s => Pn x s) s xs
theorem JR.read {S : Sch} {A A2 : Option Addr} {c c2 : Nat} {sT : St} {A3 : Option Addr} {c3 b2 b3 b4 lo : Nat} {wr w2 : World} {g k : Nat} {s : List (Int × Vl)} {W W' : World} (h : JR S A A2 c c2 sT A3 c3 b2 b3 b4 lo wr w2 g k s W) (hg : W.grownBy W' (some g)) : JR S A A2 c c2 sT A3 c3 b2 b3 b4 lo wr w2 g k s W' := by
  obtain ⟨h1, h2, h3, h4, h5, h6, h7, h8, h9, ha, hb, v, xs, hc, hd, he⟩ := h
  refine ⟨h1, h2, h3, h4, Nat.lt_of_lt_of_le h5 hg.size, h6, h7, h8.gb hg (by omega), h9.gb hg (by omega), ha.own2 hg (fun b e => by cases e; omega), hb.grown hg hb.size (fun b e => by cases e; omega), v, xs, hc.gb hg (by omega), hd.kept hg (.inr fun e => ?_), he⟩
  have := (hd.lt _ e).1
  omega
theorem JR.step {S : Sch} {A A2 : Option Addr} {c c2 : Nat} {sT : St} {A3 : Option Addr} {c3 b2 b3 b4 lo : Nat} {wr w2 : World} {g k : Nat} {s s' : List (Int × Vl)} {W W' : World} {v : Value} {xs : List Value} {l : List UInt8} {e : Nat} (h : JR S A A2 c c2 sT A3 c3 b2 b3 b4 lo wr w2 g k s W) (hO : W.ownsRow (g + 1) 94 6 v s.length xs) (hs : s'.length ≤ s.length + 1) (hr : Rdr W g l e) (hE : RcE W v.ownBlock b4 (g + 1) s' W') : JR S A A2 c c2 sT A3 c3 b2 b3 b4 lo wr w2 g (k + 1) s' W' ∧ Rdr W' g l e := by
  obtain ⟨h1, h2, h3, h4, h5, h6, h7, h8, h9, ha, hb, -⟩ := h
  obtain ⟨v', xs', hx, hy, hz, hg⟩ := hE
  have hl : ∀ b, v.ownBlock = some b → g + 1 ≤ b := fun b e => (hO.lt b e).1
  exact ⟨⟨by omega, h2, h3, h4, Nat.lt_of_lt_of_le h5 hg.size, h6, h7, h8.g2 hg (by omega) (fun e => by have := hl _ e; omega), h9.g2 hg (by omega) (fun e => by have := hl _ e; omega), ha.g2 hg h7 (fun b e => by have := hl b e; omega), below_g2 hb hg (by omega) (fun b e => by have := hl b e; omega), v', xs', hx, hy, hz⟩, hr.g2 hg (by omega) (fun e => by have := hl _ e; omega)⟩
set_option maxRecDepth 100000 in
set_option maxHeartbeats 8000000 in
/-- The visitor keeps it. -/
theorem JR.visit (S : Sch) (A A2 : Option Addr) (c c2 : Nat) (sT : St) (A3 : Option Addr) (c3 b2 b3 b4 lo : Nat) (wr w2 : World) (g k : Nat) (s : List (Int × Vl)) (n : Nat) (cc : List UInt8) (W : World) (l : List UInt8) (e : Nat) (ct : Fd → List UInt8 → Vl × Nat)
    (hk : k ≤ 1000000) (hD : ∀ W, Kpl lo w2 W → Rw FdA 7 W sT.fields A3) (hn : sT.fields.length ≤ 1000) (hfw : ∀ f ∈ sT.fields, fewT f.type = true) (hct : ∀ f cc, ((ct f cc).1).l = [] ∧ ((ct f cc).1).f = [])
    (hC : ∀ f ∈ sT.fields, ∀ W, Below wr.heap.size wr W → ∀ A8 c8, Rw TyA 4 W f.type.elem A8 → Calls Tryz.prog 45 #[.agg #[.int .i64 S.ver, .slice A S.enums.length c, .slice A2 S.structs.length c2], .agg #[.int .i64 f.type.kind, .int .i64 f.type.size, .string (bs f.type.name), .slice A8 f.type.elem.length c8], .string (bs cc)] W (Ib (.tuple #[.agg #[.int .i64 (ct f cc).1.kind, .int .i64 (ct f cc).1.n, .string (bs (ct f cc).1.s), .slice none 0 0, .slice none 0 0], .int .i64 ((ct f cc).2 : Int)]) W))
    (hJ : JR S A A2 c c2 sT A3 c3 b2 b3 b4 lo wr w2 g k s W) (hr : Rdr W g l e) :
    Calls Tryz.prog 144 #[.int .i64 ((n : Nat) : Int), .string (bs cc), .pointer (some ⟨b2, 0, none⟩), .pointer (some ⟨b3, 0, none⟩), .pointer (some ⟨b4, 0, none⟩)] W (fun en W' => en = .returned (.int .i64 (((rV sT.fields ct s n cc).2 : Nat) : Int)) ∧ JR S A A2 c c2 sT A3 c3 b2 b3 b4 lo wr w2 g (k + 1) (rV sT.fields ct s n cc).1 W' ∧ Rdr W' g l e) := by
  obtain ⟨h1, h2, h3, h4, h5, h6, h7, h8, h9, ha, hb, v, xs, hc, hd, he⟩ := hJ
  have hJ : JR S A A2 c c2 sT A3 c3 b2 b3 b4 lo wr w2 g k s W := ⟨h1, h2, h3, h4, h5, h6, h7, h8, h9, ha, hb, v, xs, hc, hd, he⟩
  unfold rV
  cases hf : fst_ Fd.num sT.fields (n : Int) with
  | none =>
    refine (rcl_none b2 b4 sT A3 c3 (g + 1) v _ s xs (n : Int) cc W h8 hc hd he (hD W ha) hn hfw hf).mono ?_
    rintro en W' ⟨rfl, hE⟩
    exact ⟨rfl, hJ.step hd (Nat.le_succ _) hr hE⟩
  | some f =>
    have hm := (fst_mem hf).1
    have hv : (ct f cc).1 = .mk (ct f cc).1.kind (ct f cc).1.n (ct f cc).1.s [] [] := by
      have := hct f cc
      generalize (ct f cc).1 = u at *
      obtain ⟨k, n, s, l, f⟩ := u
      obtain ⟨rfl, rfl⟩ : l = [] ∧ f = [] := this
      rfl
    have h := rcl_any S A c A2 c2 b2 b3 b4 sT A3 c3 (g + 1) v s xs (n : Int) f cc (ct f cc).1.kind (ct f cc).1.n (ct f cc).1.s (ct f cc).2 W h8 h9 hc hd he (by omega) (by omega) (by omega) (hD W ha) hn hfw hf (fun W' hb' A8 c8 hT => hC f hm W' (Below.next hb hb') A8 c8 hT)
    rw [← hv] at h
    refine h.mono ?_
    rintro en W' ⟨rfl, hE⟩
    exact ⟨rfl, hJ.step hd (rcS_len _ _ _ _ _) hr hE⟩
end Go.Proofs.YthfodpbecddheaaGreatDoor
/-
  A struct's reader. No conditions beyond those that each names.
-/
namespace Go.Proofs.YthfodpbecddheaaGreatDoor
open Go.RowKit Go.Sort
theorem Bx.kpl {w w' : World} {lo b : Nat} {vs : List Value} (h : Bx w b vs) (k : Kpl lo w w') (hb : lo ≤ b) : Bx w' b vs := by
  have hk := k.blk b hb h.lt
  exact ⟨Nat.lt_of_lt_of_le h.lt k.size, fun j v e => ⟨(World.cell?_of_block (w := w) (a := ⟨b, j, none⟩) hk).trans (h.at_ j v e).1, (World.frozen?_of_block (w := w) (a := ⟨b, j, none⟩) hk).trans (h.at_ j v e).2⟩⟩
set_option maxRecDepth 100000 in
set_option maxHeartbeats 8000000 in
theorem rstruct_fault (S : Sch) (A : Option Addr) (c : Nat) (A2 : Option Addr) (c2 : Nat) (s : Int) (nm : List UInt8) (G : Option Addr) (e g : Nat) (b : List UInt8) (ct : Fd → List UInt8 → Vl × Nat) (w : World) (hf : Few9 S) (hb : b.length ≤ 1000000) (hS : Sc w S A A2) (hct : ∀ f cc, ((ct f cc).1).l = [] ∧ ((ct f cc).1).f = []) (er : Nat) (he : (pv (rV ((fst_ St.name S.structs nm).getD st0).fields ct) b.length 0 b []).2 = er) (her : er ≠ 0)
    (hC : ∀ f ∈ ((fst_ St.name S.structs nm).getD st0).fields, ∀ cc W, Below w.heap.size w W → cc.length ≤ 1000000 → ∀ A8 c8, Rw TyA 4 W f.type.elem A8 → Calls Tryz.prog 45 #[.agg #[.int .i64 S.ver, .slice A S.enums.length c, .slice A2 S.structs.length c2], .agg #[.int .i64 f.type.kind, .int .i64 f.type.size, .string (bs f.type.name), .slice A8 f.type.elem.length c8], .string (bs cc)] W (Ib (.tuple #[.agg #[.int .i64 (ct f cc).1.kind, .int .i64 (ct f cc).1.n, .string (bs (ct f cc).1.s), .slice none 0 0, .slice none 0 0], .int .i64 ((ct f cc).2 : Int)]) W)) :
    Calls Tryz.prog 95 #[.agg #[.int .i64 S.ver, .slice A S.enums.length c, .slice A2 S.structs.length c2], .agg #[.int .i64 6, .int .i64 s, .string (bs nm), .slice G e g], .string (bs b)] w (RdE (er : Int) w) := by
  have hn := few_st hf nm
  have hfw : ∀ f ∈ ((fst_ St.name S.structs nm).getD st0).fields, fewT f.type = true := fun f hff => by
    rcases fst_st0' (S := S) nm with h0 | h0
    · rw [h0] at hff; cases hff
    · exact (hf.st _ h0).2 f hff
  have cS := fun W (h : Sc W S A A2) => devStruct_k S nm (.agg #[.int .i64 S.ver, .slice A S.enums.length c, .slice A2 S.structs.length c2]) W ⟨A, c, A2, c2, rfl, h⟩ hf.sl hf.st
  unfold StK at cS
  generalize (fst_ St.name S.structs nm).getD st0 = sT at *
  generalize (fst_ St.name S.structs nm).isSome = ok at *
  have D1 := (Bx.new3 w 95 (.int .i64 S.ver) (.slice A S.enums.length c) (.slice A2 S.structs.length c2)).next (ab2 _ (Obj.cells #[.int .i64 6, .int .i64 s, .string (bs nm), .slice G e g] 29) (Obj.cells #[.int .i64 0, .int .i64 0, .string ⟨#[]⟩, .slice none 0 0, .slice none 0 0] 34))
  have D2 := (Bx.new4 (w.alloc (Obj.cells #[.int .i64 S.ver, .slice A S.enums.length c, .slice A2 S.structs.length c2] 95)) 29 (.int .i64 6) (.int .i64 s) (.string (bs nm)) (.slice G e g)).next (ab1 _ (Obj.cells #[.int .i64 0, .int .i64 0, .string ⟨#[]⟩, .slice none 0 0, .slice none 0 0] 34))
  have D3 := Bx.new5 ((w.alloc (Obj.cells #[.int .i64 S.ver, .slice A S.enums.length c, .slice A2 S.structs.length c2] 95)).alloc (Obj.cells #[.int .i64 6, .int .i64 s, .string (bs nm), .slice G e g] 29)) 34 (.int .i64 0) (.int .i64 0) (.string ⟨#[]⟩) (.slice none 0 0) (.slice none 0 0)
  have z1 : (w.alloc (Obj.cells #[.int .i64 S.ver, .slice A S.enums.length c, .slice A2 S.structs.length c2] 95)).heap.size = w.heap.size + 1 := by simp
  have z2 : ((w.alloc (Obj.cells #[.int .i64 S.ver, .slice A S.enums.length c, .slice A2 S.structs.length c2] 95)).alloc (Obj.cells #[.int .i64 6, .int .i64 s, .string (bs nm), .slice G e g] 29)).heap.size = w.heap.size + 1 + 1 := by simp
  have z3 : (((w.alloc (Obj.cells #[.int .i64 S.ver, .slice A S.enums.length c, .slice A2 S.structs.length c2] 95)).alloc (Obj.cells #[.int .i64 6, .int .i64 s, .string (bs nm), .slice G e g] 29)).alloc (Obj.cells #[.int .i64 0, .int .i64 0, .string ⟨#[]⟩, .slice none 0 0, .slice none 0 0] 34)).heap.size = w.heap.size + 1 + 1 + 1 := by simp
  rw [z1] at D2
  rw [z2] at D3
  have hab := ab3 w (Obj.cells #[.int .i64 S.ver, .slice A S.enums.length c, .slice A2 S.structs.length c2] 95) (Obj.cells #[.int .i64 6, .int .i64 s, .string (bs nm), .slice G e g] 29) (Obj.cells #[.int .i64 0, .int .i64 0, .string ⟨#[]⟩, .slice none 0 0, .slice none 0 0] 34)
  have HC := Lib.hid hC
  have HE := Lib.hid he
  clear hC he
  go_enter Tryz.func95, Tryz.ntmps95
  go_upto_region 1 with (fail)
  generalize (((w.alloc (Obj.cells #[.int .i64 S.ver, .slice A S.enums.length c, .slice A2 S.structs.length c2] 95)).alloc (Obj.cells #[.int .i64 6, .int .i64 s, .string (bs nm), .slice G e g] 29)).alloc (Obj.cells #[.int .i64 0, .int .i64 0, .string ⟨#[]⟩, .slice none 0 0, .slice none 0 0] 34)) = w0 at *
  have hz3 : w.heap.size + 1 + 1 < w0.heap.size := by omega
  clear z1 z2 z3
  have k0 := D1.c 0 rfl
  have k1 := D1.c 1 rfl
  have k2 := D1.c 2 rfl
  have lk := D1.lt
  have j2 := D2.c 2 rfl
  have lj := D2.lt
  have c1 := cS w0 (Sc.next hab hS)
  clear cS
  go_wp2_with fail
  refine c1.mono ?_
  rintro en w2 ⟨v2, rfl, hV2, hb2⟩
  obtain ⟨A3, c3, hv2, -⟩ := hV2 w2 (Kpl.refl _ _)
  subst hv2
  have HV := Lib.hid (fun W (k : Kpl w0.heap.size w2 W) => show Rw FdA 7 W sT.fields A3 by
    obtain ⟨A9, c9, e9, h9⟩ := hV2 W k
    injection e9 with e9
    injection e9 with e9
    injection e9 with _ e9
    injection e9 with e9
    injection e9 with e9
    subst e9
    exact h9)
  have hbx := ab1 w2 (Obj.cells #[.string (bs sT.name), .slice A3 sT.fields.length c3] 53)
  have hby := ab1 (w2.alloc (Obj.cells #[.string (bs sT.name), .slice A3 sT.fields.length c3] 53)) (Obj.cells #[.int .i64 6, .int .i64 0, .string ⟨#[]⟩, .slice none 0 0, .slice none 0 0] 34)
  have D7 := (Bx.new2 w2 53 (.string (bs sT.name)) (.slice A3 sT.fields.length c3)).next hby
  have D8 := Bx.new5 (w2.alloc (Obj.cells #[.string (bs sT.name), .slice A3 sT.fields.length c3] 53)) 34 (.int .i64 6) (.int .i64 0) (.string ⟨#[]⟩) (.slice none 0 0) (.slice none 0 0)
  have y1 : (w2.alloc (Obj.cells #[.string (bs sT.name), .slice A3 sT.fields.length c3] 53)).heap.size = w2.heap.size + 1 := by simp
  have y2 : ((w2.alloc (Obj.cells #[.string (bs sT.name), .slice A3 sT.fields.length c3] 53)).alloc (Obj.cells #[.int .i64 6, .int .i64 0, .string ⟨#[]⟩, .slice none 0 0, .slice none 0 0] 34)).heap.size = w2.heap.size + 1 + 1 := by simp
  rw [y1] at D8
  have E3 := D3.next hb2
  replace D1 := ((D1.next hb2).next hbx).next hby
  clear D3
  replace hab := Below.next hab (Below.next hb2 (Below.next hbx hby))
  have hz2 : w.heap.size + 1 + 1 < w2.heap.size := Nat.lt_of_lt_of_le hz3 hb2.size
  have K2 : Kpl (w.heap.size + 1 + 1) w2 ((w2.alloc (Obj.cells #[.string (bs sT.name), .slice A3 sT.fields.length c3] 53)).alloc (Obj.cells #[.int .i64 6, .int .i64 0, .string ⟨#[]⟩, .slice none 0 0, .slice none 0 0] 34)) := Kpl.of (Below.next hbx hby)
  clear k0 k1 k2 lk j2 lj c1 hV2 hb2 hbx hby D2 hS y1
  go_upto_region 3 with (fail)
  generalize (w2.alloc (Obj.cells #[.string (bs sT.name), .slice A3 sT.fields.length c3] 53)).alloc (Obj.cells #[.int .i64 6, .int .i64 0, .string ⟨#[]⟩, .slice none 0 0, .slice none 0 0] 34) = wg at *
  have cW := walk3_any (rV sT.fields ct) 144 (.pointer (some ⟨w2.heap.size, 0, none⟩)) (.pointer (some ⟨w.heap.size, 0, none⟩)) (.pointer (some ⟨w2.heap.size + 1, 0, none⟩)) b [] wg (JR S A A2 c c2 sT A3 c3 w2.heap.size w.heap.size (w2.heap.size + 1) (w.heap.size + 1 + 1) w w2) (by kernel_rfl) hb
    (fun g1 w1 h1 h2 h3 => ⟨Nat.le_refl _, by omega, by omega, by omega, h3, Nat.le_refl _, by omega, D7.next h2, D1.next h2, K2.trans (Kpl.of h2), Below.next hab h2, .slice none 0 0, [], D8.next h2, World.ownsRow_nil _ _ _ _, IL.nil _ _ _⟩)
    (fun g1 k1 s1 W W' h hg => JR.read h hg)
    (fun g1 k1 s1 n1 cc W l1 e1 hg1 hk1 hJ hr hn1 hcc => JR.visit S A A2 c c2 sT A3 c3 _ _ _ _ _ _ g1 k1 s1 n1 cc W l1 e1 ct (by omega) (fun W k => HV.out W (k.mono (by omega))) hn hfw hct (fun f hfm W hW A8 c8 hT => HC.out f hfm cc W hW hcc A8 c8 hT) hJ hr)
  generalize pv (rV sT.fields ct) b.length 0 b [] = R at *
  go_wp2_with fail
  refine cW.mono ?_
  rintro en w9 ⟨rfl, g1, k1, hJ⟩
  obtain ⟨h1, h2, h3, h4, h5, h6, h7, h8, h9, ha, hb9, v, xs, hx, hy, hz⟩ := hJ
  have D3 := E3.kpl ha (Nat.le_refl _)
  obtain ⟨l9, e9⟩ := R
  obtain rfl : e9 = er := HE.out
  obtain ⟨Bv, nv, cv, rfl⟩ := own_slice2 hy
  obtain rfl : nv = l9.length := by obtain ⟨_, _, e⟩ := own_form hy; injection e
  have hq0 : ((e9 : Int) != 0) = true := by simpa using her
  have x0 := hx.c 0 rfl
  have x1 := hx.c 1 rfl
  have x2 := hx.c 2 rfl
  have x3 := hx.c 3 rfl
  have x4 := hx.c 4 rfl
  have lx := hx.lt
  have hab := hb9
  clear hx hy hz ha hb9 h8 h9 E3 HE HC HV cW D7 D8 D1 K2 her
  have q0 := D3.f 0 rfl
  have q1 := D3.f 1 rfl
  have q2 := D3.f 2 rfl
  have q3 := D3.f 3 rfl
  have q4 := D3.f 4 rfl
  have r0 := D3.c 0 rfl
  have r1 := D3.c 1 rfl
  have r2 := D3.c 2 rfl
  have r3 := D3.c 3 rfl
  have r4 := D3.c 4 rfl
  have lr := D3.lt
  have hfin := gb5 hab (b := w.heap.size + 1 + 1) (by omega) (.int .i64 6) (.int .i64 0) (.string ⟨#[]⟩) (.slice none 0 0) (.slice Bv l9.length cv)
  generalize l9.length = n9 at *
  go_wp2_with fail
  refine bodyPost_ret (v := .tuple #[.agg #[.int .i64 6, .int .i64 0, .string ⟨#[]⟩, .slice none 0 0, .slice Bv n9 cv], .int .i64 (e9 : Int)]) (by simp [results, Tryz.results95, go_sem, r0, r1, r2, r3, r4]) rfl ?_
  exact ⟨.mk 6 0 [] [] (List.replicate n9 (0, .mk 0 0 [] [] [])), ⟨none, 0, Bv, cv⟩, by simp [Vl.kind, Vl.n, Vl.s, Vl.l, Vl.f, bs], hfin⟩
end Go.Proofs.YthfodpbecddheaaGreatDoor
/-
  A struct's reader where all fields were read. No conditions beyond those that each names.
-/
namespace Go.Proofs.YthfodpbecddheaaGreatDoor
open Go.RowKit Go.Sort
set_option maxRecDepth 100000 in
set_option maxHeartbeats 8000000 in
theorem rstruct_ok (S : Sch) (A : Option Addr) (c : Nat) (A2 : Option Addr) (c2 : Nat) (s : Int) (nm : List UInt8) (G : Option Addr) (e g : Nat) (b : List UInt8) (ct : Fd → List UInt8 → Vl × Nat) (w : World) (hf : Few9 S) (hb : b.length ≤ 1000000) (hS : Sc w S A A2) (hct : ∀ f cc, ((ct f cc).1).l = [] ∧ ((ct f cc).1).f = []) (L : List (Int × Vl)) (he : (pv (rV ((fst_ St.name S.structs nm).getD st0).fields ct) b.length 0 b []).2 = 0 ∧ (pv (rV ((fst_ St.name S.structs nm).getD st0).fields ct) b.length 0 b []).1 = L) (hlen : L.length = ((fst_ St.name S.structs nm).getD st0).fields.length) (hnum : ∀ i (h : i < L.length) (h2 : i < ((fst_ St.name S.structs nm).getD st0).fields.length), (L[i]'h).1 = (((fst_ St.name S.structs nm).getD st0).fields[i]'h2).num) (hpl : ∀ x ∈ L, x.2.l = [] ∧ x.2.f = [])
    (hC : ∀ f ∈ ((fst_ St.name S.structs nm).getD st0).fields, ∀ cc W, Below w.heap.size w W → cc.length ≤ 1000000 → ∀ A8 c8, Rw TyA 4 W f.type.elem A8 → Calls Tryz.prog 45 #[.agg #[.int .i64 S.ver, .slice A S.enums.length c, .slice A2 S.structs.length c2], .agg #[.int .i64 f.type.kind, .int .i64 f.type.size, .string (bs f.type.name), .slice A8 f.type.elem.length c8], .string (bs cc)] W (Ib (.tuple #[.agg #[.int .i64 (ct f cc).1.kind, .int .i64 (ct f cc).1.n, .string (bs (ct f cc).1.s), .slice none 0 0, .slice none 0 0], .int .i64 ((ct f cc).2 : Int)]) W)) :
    Calls Tryz.prog 95 #[.agg #[.int .i64 S.ver, .slice A S.enums.length c, .slice A2 S.structs.length c2], .agg #[.int .i64 6, .int .i64 s, .string (bs nm), .slice G e g], .string (bs b)] w (RdW (.mk 6 0 [] [] L) 0 w) := by
  have hn := few_st hf nm
  have hfw : ∀ f ∈ ((fst_ St.name S.structs nm).getD st0).fields, fewT f.type = true := fun f hff => by
    rcases fst_st0' (S := S) nm with h0 | h0
    · rw [h0] at hff; cases hff
    · exact (hf.st _ h0).2 f hff
  have cS := fun W (h : Sc W S A A2) => devStruct_k S nm (.agg #[.int .i64 S.ver, .slice A S.enums.length c, .slice A2 S.structs.length c2]) W ⟨A, c, A2, c2, rfl, h⟩ hf.sl hf.st
  unfold StK at cS
  generalize (fst_ St.name S.structs nm).getD st0 = sT at *
  generalize (fst_ St.name S.structs nm).isSome = ok at *
  have D1 := (Bx.new3 w 95 (.int .i64 S.ver) (.slice A S.enums.length c) (.slice A2 S.structs.length c2)).next (ab2 _ (Obj.cells #[.int .i64 6, .int .i64 s, .string (bs nm), .slice G e g] 29) (Obj.cells #[.int .i64 0, .int .i64 0, .string ⟨#[]⟩, .slice none 0 0, .slice none 0 0] 34))
  have D2 := (Bx.new4 (w.alloc (Obj.cells #[.int .i64 S.ver, .slice A S.enums.length c, .slice A2 S.structs.length c2] 95)) 29 (.int .i64 6) (.int .i64 s) (.string (bs nm)) (.slice G e g)).next (ab1 _ (Obj.cells #[.int .i64 0, .int .i64 0, .string ⟨#[]⟩, .slice none 0 0, .slice none 0 0] 34))
  have D3 := Bx.new5 ((w.alloc (Obj.cells #[.int .i64 S.ver, .slice A S.enums.length c, .slice A2 S.structs.length c2] 95)).alloc (Obj.cells #[.int .i64 6, .int .i64 s, .string (bs nm), .slice G e g] 29)) 34 (.int .i64 0) (.int .i64 0) (.string ⟨#[]⟩) (.slice none 0 0) (.slice none 0 0)
  have z1 : (w.alloc (Obj.cells #[.int .i64 S.ver, .slice A S.enums.length c, .slice A2 S.structs.length c2] 95)).heap.size = w.heap.size + 1 := by simp
  have z2 : ((w.alloc (Obj.cells #[.int .i64 S.ver, .slice A S.enums.length c, .slice A2 S.structs.length c2] 95)).alloc (Obj.cells #[.int .i64 6, .int .i64 s, .string (bs nm), .slice G e g] 29)).heap.size = w.heap.size + 1 + 1 := by simp
  have z3 : (((w.alloc (Obj.cells #[.int .i64 S.ver, .slice A S.enums.length c, .slice A2 S.structs.length c2] 95)).alloc (Obj.cells #[.int .i64 6, .int .i64 s, .string (bs nm), .slice G e g] 29)).alloc (Obj.cells #[.int .i64 0, .int .i64 0, .string ⟨#[]⟩, .slice none 0 0, .slice none 0 0] 34)).heap.size = w.heap.size + 1 + 1 + 1 := by simp
  rw [z1] at D2
  rw [z2] at D3
  have hab := ab3 w (Obj.cells #[.int .i64 S.ver, .slice A S.enums.length c, .slice A2 S.structs.length c2] 95) (Obj.cells #[.int .i64 6, .int .i64 s, .string (bs nm), .slice G e g] 29) (Obj.cells #[.int .i64 0, .int .i64 0, .string ⟨#[]⟩, .slice none 0 0, .slice none 0 0] 34)
  have HC := Lib.hid hC
  have HE := Lib.hid he
  have HHN := Lib.hid (And.intro hlen (And.intro hnum hpl))
  clear hC he hlen hnum hpl
  go_enter Tryz.func95, Tryz.ntmps95
  go_upto_region 1 with (fail)
  generalize (((w.alloc (Obj.cells #[.int .i64 S.ver, .slice A S.enums.length c, .slice A2 S.structs.length c2] 95)).alloc (Obj.cells #[.int .i64 6, .int .i64 s, .string (bs nm), .slice G e g] 29)).alloc (Obj.cells #[.int .i64 0, .int .i64 0, .string ⟨#[]⟩, .slice none 0 0, .slice none 0 0] 34)) = w0 at *
  have hz3 : w.heap.size + 1 + 1 < w0.heap.size := by omega
  clear z1 z2 z3
  have k0 := D1.c 0 rfl
  have k1 := D1.c 1 rfl
  have k2 := D1.c 2 rfl
  have lk := D1.lt
  have j2 := D2.c 2 rfl
  have lj := D2.lt
  have c1 := cS w0 (Sc.next hab hS)
  clear cS
  go_wp2_with fail
  refine c1.mono ?_
  rintro en w2 ⟨v2, rfl, hV2, hb2⟩
  obtain ⟨A3, c3, hv2, -⟩ := hV2 w2 (Kpl.refl _ _)
  subst hv2
  have HV := Lib.hid (fun W (k : Kpl w0.heap.size w2 W) => show Rw FdA 7 W sT.fields A3 by
    obtain ⟨A9, c9, e9, h9⟩ := hV2 W k
    injection e9 with e9
    injection e9 with e9
    injection e9 with _ e9
    injection e9 with e9
    injection e9 with e9
    subst e9
    exact h9)
  have hbx := ab1 w2 (Obj.cells #[.string (bs sT.name), .slice A3 sT.fields.length c3] 53)
  have hby := ab1 (w2.alloc (Obj.cells #[.string (bs sT.name), .slice A3 sT.fields.length c3] 53)) (Obj.cells #[.int .i64 6, .int .i64 0, .string ⟨#[]⟩, .slice none 0 0, .slice none 0 0] 34)
  have D7 := (Bx.new2 w2 53 (.string (bs sT.name)) (.slice A3 sT.fields.length c3)).next hby
  have D8 := Bx.new5 (w2.alloc (Obj.cells #[.string (bs sT.name), .slice A3 sT.fields.length c3] 53)) 34 (.int .i64 6) (.int .i64 0) (.string ⟨#[]⟩) (.slice none 0 0) (.slice none 0 0)
  have y1 : (w2.alloc (Obj.cells #[.string (bs sT.name), .slice A3 sT.fields.length c3] 53)).heap.size = w2.heap.size + 1 := by simp
  have y2 : ((w2.alloc (Obj.cells #[.string (bs sT.name), .slice A3 sT.fields.length c3] 53)).alloc (Obj.cells #[.int .i64 6, .int .i64 0, .string ⟨#[]⟩, .slice none 0 0, .slice none 0 0] 34)).heap.size = w2.heap.size + 1 + 1 := by simp
  rw [y1] at D8
  have E3 := D3.next hb2
  replace D1 := ((D1.next hb2).next hbx).next hby
  clear D3
  replace hab := Below.next hab (Below.next hb2 (Below.next hbx hby))
  have hz2 : w.heap.size + 1 + 1 < w2.heap.size := Nat.lt_of_lt_of_le hz3 hb2.size
  have K2 : Kpl (w.heap.size + 1 + 1) w2 ((w2.alloc (Obj.cells #[.string (bs sT.name), .slice A3 sT.fields.length c3] 53)).alloc (Obj.cells #[.int .i64 6, .int .i64 0, .string ⟨#[]⟩, .slice none 0 0, .slice none 0 0] 34)) := Kpl.of (Below.next hbx hby)
  clear k0 k1 k2 lk j2 lj c1 hV2 hb2 hbx hby D2 hS y1
  go_upto_region 3 with (fail)
  generalize (w2.alloc (Obj.cells #[.string (bs sT.name), .slice A3 sT.fields.length c3] 53)).alloc (Obj.cells #[.int .i64 6, .int .i64 0, .string ⟨#[]⟩, .slice none 0 0, .slice none 0 0] 34) = wg at *
  have cW := walk3_any (rV sT.fields ct) 144 (.pointer (some ⟨w2.heap.size, 0, none⟩)) (.pointer (some ⟨w.heap.size, 0, none⟩)) (.pointer (some ⟨w2.heap.size + 1, 0, none⟩)) b [] wg (JR S A A2 c c2 sT A3 c3 w2.heap.size w.heap.size (w2.heap.size + 1) (w.heap.size + 1 + 1) w w2) (by kernel_rfl) hb
    (fun g1 w1 h1 h2 h3 => ⟨Nat.le_refl _, by omega, by omega, by omega, h3, Nat.le_refl _, by omega, D7.next h2, D1.next h2, K2.trans (Kpl.of h2), Below.next hab h2, .slice none 0 0, [], D8.next h2, World.ownsRow_nil _ _ _ _, IL.nil _ _ _⟩)
    (fun g1 k1 s1 W W' h hg => JR.read h hg)
    (fun g1 k1 s1 n1 cc W l1 e1 hg1 hk1 hJ hr hn1 hcc => JR.visit S A A2 c c2 sT A3 c3 _ _ _ _ _ _ g1 k1 s1 n1 cc W l1 e1 ct (by omega) (fun W k => HV.out W (k.mono (by omega))) hn hfw hct (fun f hfm W hW A8 c8 hT => HC.out f hfm cc W hW hcc A8 c8 hT) hJ hr)
  generalize pv (rV sT.fields ct) b.length 0 b [] = R at *
  go_wp2_with fail
  refine cW.mono ?_
  rintro en w9 ⟨rfl, g1, k1, hJ⟩
  obtain ⟨h1, h2, h3, h4, h5, h6, h7, h8, h9, ha, hb9, v, xs, hx, hy, hz⟩ := hJ
  have D3 := E3.kpl ha (Nat.le_refl _)
  obtain ⟨l9, e9⟩ := R
  obtain rfl : e9 = 0 := HE.out.1
  obtain rfl : l9 = L := HE.out.2
  obtain ⟨Bv, nv, cv, rfl⟩ := own_slice2 hy
  obtain rfl : nv = l9.length := by obtain ⟨_, _, e⟩ := own_form hy; injection e
  have hq0 : (((0 : Nat) : Int) != 0) = false := rfl
  have hcR : l9.length ≤ cv ∨ l9.length = 0 := by
    rcases hy.2 with ⟨-, h⟩ | ⟨g9, cap, cur, h, -, -, h9, -⟩
    · exact .inr h
    · injection h with _ _ h; subst h; exact .inl h9
  have hgR : ∃ gR, 0 < l9.length → Bv = some ⟨gR, 0, none⟩ := by
    by_cases h0 : l9.length = 0
    · exact ⟨0, fun h => by omega⟩
    · obtain ⟨g9, h⟩ := own_some hy h0
      exact ⟨g9, fun _ => h⟩
  obtain ⟨gR, hgR⟩ := hgR
  have hRow : ∀ i (h : i < l9.length), EtA w9 (l9[i]'h) ⟨gR, i * 6, none⟩ := fun i h => by
    obtain rfl := hgR (by omega)
    obtain h0 | ⟨a9, e9, hr9⟩ := rowE_of hy rfl rfl (hz.mono fun j hj s hs => hs w9)
    · rw [h0] at h; simp at h
    · obtain rfl : a9 = ⟨gR, 0, none⟩ := by injection e9 with e9; exact e9.symm
      have := hr9 i h
      rwa [Addr.add_lit, Nat.zero_add] at this
  have cK := complete_all S A c A2 c2 sT.fields A3 c3 gR (if l9.length = 0 then 0 else cv) sT.fields.length (.slice Bv l9.length cv) l9 w9 (HV.out w9 (ha.mono (by omega))) rfl hn HHN.out.1 (by have hlen := HHN.out.1; split <;> omega) HHN.out.2.1 HHN.out.2.2
    (fun h => by have hlen := HHN.out.1; rw [hgR (by omega), hlen, if_neg (by omega)]) hRow
  have x4 := hx.c 4 rfl
  have lx := hx.lt
  have t1 := h8.c 1 rfl
  have lt := h8.lt
  have u0 := h9.c 0 rfl
  have u1 := h9.c 1 rfl
  have u2 := h9.c 2 rfl
  have lu := h9.lt
  have hz9 : w2.heap.size + 1 < w9.heap.size := hx.lt
  have hab := hb9
  clear hRow hgR hcR hz ha hb9 E3 HE HC HV cW D7 D8 D1 K2 HHN
  go_wp2_with fail
  refine cK.mono ?_
  rintro en wA ⟨v', xs', rfl, hO, hI, hbA⟩
  obtain ⟨Bn, nn, cn, rfl⟩ := own_slice2 hO
  obtain rfl : nn = l9.length := by obtain ⟨_, _, e⟩ := own_form hO; injection e
  replace hx := hx.next hbA
  replace D3 := D3.next hbA
  replace hab := Below.next hab hbA
  have hzA : w2.heap.size + 1 < wA.heap.size := Nat.lt_of_lt_of_le hz9 hbA.size
  clear x4 lx t1 lt u0 u1 u2 lu h8 h9 cK hbA
  have x4 := hx.c 4 rfl
  have xf := hx.f 4 rfl
  have lx := hx.lt
  have gs := gb_set1 wA ⟨w2.heap.size + 1, 4, none⟩ (.slice Bn l9.length cn)
  have hxB : Bx _ (w2.heap.size + 1) [.int .i64 6, .int .i64 0, .string ⟨#[]⟩, .slice none 0 0, .slice Bn l9.length cn] := hx.put1 4 (.slice Bn l9.length cn)
  have D3B := D3.gb gs (by show w.heap.size + 1 + 1 ≠ w2.heap.size + 1; omega)
  have habB : Below w.heap.size w (wA.setCell ⟨w2.heap.size + 1, 4, none⟩ (.slice Bn l9.length cn)) := hab.setCell (by show w.heap.size ≤ w2.heap.size + 1; omega) _
  have kB : Kpl w9.heap.size wA (wA.setCell ⟨w2.heap.size + 1, 4, none⟩ (.slice Bn l9.length cn)) := Kpl.gb gs (by show w2.heap.size + 1 < w9.heap.size; omega)
  have HOI := Lib.hid (And.intro hO hI)
  clear gs hO hI hx D3 hab
  go_upto_region 7 with (fail)
  clear x4 xf lx
  generalize wA.setCell ⟨w2.heap.size + 1, 4, none⟩ (.slice Bn l9.length cn) = wB at *
  have x0 := hxB.c 0 rfl
  have x1 := hxB.c 1 rfl
  have x2 := hxB.c 2 rfl
  have x3 := hxB.c 3 rfl
  have x4 := hxB.c 4 rfl
  have lx := hxB.lt
  have q0 := D3B.f 0 rfl
  have q1 := D3B.f 1 rfl
  have q2 := D3B.f 2 rfl
  have q3 := D3B.f 3 rfl
  have q4 := D3B.f 4 rfl
  have r0 := D3B.c 0 rfl
  have r1 := D3B.c 1 rfl
  have r2 := D3B.c 2 rfl
  have r3 := D3B.c 3 rfl
  have r4 := D3B.c 4 rfl
  have lr := D3B.lt
  have hfin := gb5 habB (b := w.heap.size + 1 + 1) (by omega) (.int .i64 6) (.int .i64 0) (.string ⟨#[]⟩) (.slice none 0 0) (.slice Bn l9.length cn)
  have hkF := kB.trans (Kpl.gb (hi := w9.heap.size) (gb_set5 wB (w.heap.size + 1 + 1) (.int .i64 6) (.int .i64 0) (.string ⟨#[]⟩) (.slice none 0 0) (.slice Bn l9.length cn)) (by omega))
  clear hxB D3B habB kB
  go_wp2_with fail
  refine bodyPost_ret (v := .tuple #[.agg #[.int .i64 6, .int .i64 0, .string ⟨#[]⟩, .slice none 0 0, .slice Bn l9.length cn], .int .i64 0]) (by simp [results, Tryz.results95, go_sem, r0, r1, r2, r3, r4]) rfl ?_
  exact ⟨⟨none, 0, Bn, cn⟩, rfl, nwV_row HOI.out.1 (by omega) hkF rfl HOI.out.2 6 0 [], hfin⟩
end Go.Proofs.YthfodpbecddheaaGreatDoor


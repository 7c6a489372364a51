/-
  The types of the law, as data. No conditions beyond those that each names.
-/
import Derived.Test.YthfodpbecddheaaGreatDoorQM22
import Derived.Test.YthfodpbecddheaaGreatDoorQM18
import Derived.Test.YthfodpbecddheaaGreatDoorQM10
import Derived.Deep.AppendLies
import Derived.Deep.RegionLaw
namespace Go.Proofs.YthfodpbecddheaaGreatDoor
open Go.RowKit
end Go.Proofs.YthfodpbecddheaaGreatDoor
/-
  The law's schemas and types: what they hold. No conditions beyond those that each names.
-/
namespace Go.Proofs.YthfodpbecddheaaGreatDoor
open Go.RowKit
end Go.Proofs.YthfodpbecddheaaGreatDoor
/-
  The zero value of a type as data, where no struct must hold a struct: that it is a value, and one of its type. No conditions beyond those that each names.
-/
namespace Go.Proofs.YthfodpbecddheaaGreatDoor
open Go.RowKit
end Go.Proofs.YthfodpbecddheaaGreatDoor
/-
  The developers' zero values, where no struct must hold a struct. No conditions beyond those that each names.
-/
namespace Go.Proofs.YthfodpbecddheaaGreatDoor
open Go.RowKit Go.Sort
/-- What reads whatever the memory holds: an entry whose value has no parts. -/
def Pn (x : Int × Vl) (s : Sb) : Prop := ∀ W : World, RdV W x.2 s
theorem wpList_pushP {w : World} {ops : Array Oper} {rest : List Oper} {o : Oper} {a : Act} {Q : Exit → Act → World → Prop} (hgd : o.guard = none) (sv xv : Operand)
    (ho : o.op = .call { callee := .builtin .append, args := #[sv, xv], argTypes := #[32, 32] }) (B : Nat) (v : Value) (l : List (Int × Vl)) (xs : List Value) (x : Int × Vl) (s : Sb) (g d : Nat) (hs : a.eval sv = v) (hx : a.eval xv = .slice (some ⟨g, 0, none⟩) 1 d)
    (hown : w.ownsRow B 94 6 v l.length xs) (hIL : IL 6 encE (fun _ x s => Pn x s) l xs) (hR : Pn x s) (hc : Bx w g (encE x s)) (hm : l.length ≤ 1100000) (hB : B ≤ w.heap.size)
    (h : ∀ v' xs' w', w'.ownsRow B 94 6 v' (l ++ [x]).length xs' → IL 6 encE (fun _ x s => Pn x s) (l ++ [x]) xs' → w.grownBy w' v.ownBlock → wpList Tryz.prog ops Q rest (a.put o.dst v') w') : wpList Tryz.prog ops Q (o :: rest) a w := by
  obtain ⟨i, hi, hz, hs5, hby⟩ := info_parts infoE
  refine wpList_append_own_at w hgd sv xv 32 ho B 94 i _ 6 88 Tryz.underlying32 hi hz hs5 hby rfl (by omega) v l.length xs hs hown ⟨g, 0, none⟩ 1 d (encE x s) hx rfl
    (by intro j u hj; rw [Addr.add_lit, Nat.zero_add]; exact (hc.at_ j u hj).1) (encE_one x s) (by simp only [maxLen]; omega) (by omega) hB ?_
  intro v' w' h1 h2 _ h4
  exact h v' _ w' (by rw [List.length_append]; exact h1) (hIL.snoc x s rfl hR) h2
/-- A struct's zero value out of a row of one's own, whatever becomes of elder memory. -/
theorem nwV_row {w wF : World} {lo hi n cap : Nat} {B : Option Addr} {l : List (Int × Vl)} {xs : List Value} (ho : w.ownsRow lo 94 6 (.slice B n cap) n xs) (hlo : hi ≤ lo) (hk : Kpl lo w wF) (hn : l.length = n) (h : IL 6 encE (fun _ x s => Pn x s) l xs) (k m : Int) (st : List UInt8) : NwV hi wF (.mk k m st [] l) ⟨none, 0, B, cap⟩ := fun w' hk' => by
  refine ⟨.inl rfl, ?_⟩
  by_cases h0 : n = 0
  · exact .inl (List.eq_nil_of_length_eq_zero (by show l.length = 0; omega))
  · obtain ⟨g, rfl⟩ := own_some ho h0
    have hg := ho.lt g rfl
    have hk2 : w'.heap[g]? = w.heap[g]? := by
      rw [hk'.blk g (by omega) (Nat.lt_of_lt_of_le hg.2 hk.size), hk.blk g hg.1 hg.2]
    exact rowE_of ho hk2 hn (h.mono fun j hj s hs => hs w')
theorem Kpl.own {lo : Nat} {wL wr w6 : World} {q : Option Nat} (k : Kpl lo wL wr) (hg : wr.grownBy w6 q) (hq : ∀ g, q = some g → wL.heap.size ≤ g) : Kpl lo wL w6 :=
  ⟨Nat.le_trans k.size hg.size, fun i h1 h2 => (hg.block i (Nat.lt_of_lt_of_le h2 k.size) (fun e => by have := hq i e.symm; omega)).trans (k.blk i h1 h2)⟩
end Go.Proofs.YthfodpbecddheaaGreatDoor
/-
  A struct's field read: what a walk's visitor does with it. No conditions beyond those that each names.
-/
namespace Go.Proofs.YthfodpbecddheaaGreatDoor
open Go.RowKit Go.Sort
theorem rowCell {w : World} {B : Nat} {e : TypeId} {g n cap j : Nat} {xs : List Value} (h : w.ownsRow B e 6 (.slice (some ⟨g, 0, none⟩) n cap) n xs) (hj : j < n * 6) : ∃ v, w.cell? ⟨g, j, none⟩ = some v := by
  rw [h.cellAt j hj]
  exact ⟨_, List.getElem?_eq_getElem (by rw [h.1]; exact hj)⟩
/-- Of old memory at most the block of q and block b were written. -/
structure Gr2 (w w' : World) (q : Option Nat) (b : Nat) : Prop where
  os : w'.os = w.os
  tape : w'.tape = w.tape
  output : w'.output = w.output
  size : w.heap.size ≤ w'.heap.size
  block : ∀ k, k < w.heap.size → some k ≠ q → k ≠ b → w'.heap[k]? = w.heap[k]?
theorem gr2_of {w w1 w2 w3 : World} {q r r' : Option Nat} {b : Nat} (h1 : w.grownBy w1 q) (h2 : w1.grownBy w2 r) (h3 : w2.grownBy w3 r') (hr : ∀ k, r = some k → k = b ∨ q = some k ∨ w.heap.size ≤ k) (hr' : ∀ k, r' = some k → k = b ∨ q = some k ∨ w.heap.size ≤ k) : Gr2 w w3 q b :=
  ⟨h3.os.trans (h2.os.trans h1.os), h3.tape.trans (h2.tape.trans h1.tape), h3.output.trans (h2.output.trans h1.output), Nat.le_trans h1.size (Nat.le_trans h2.size h3.size), fun k hk hq hb => by
    have n2 : some k ≠ r := fun e => by
      rcases hr k e.symm with h | h | h
      · exact hb h
      · exact hq h.symm
      · omega
    have n3 : some k ≠ r' := fun e => by
      rcases hr' k e.symm with h | h | h
      · exact hb h
      · exact hq h.symm
      · omega
    have s1 := h1.size
    have s2 := h2.size
    exact (h3.block k (by omega) n3).trans ((h2.block k (by omega) n2).trans (h1.block k hk hq))⟩
/-- The entries as they are behind a field. -/
def RcE (w : World) (q : Option Nat) (b4 B : Nat) (l : List (Int × Vl)) (w' : World) : Prop := ∃ v' xs', Bx w' b4 [.int .i64 6, .int .i64 0, .string ⟨#[]⟩, .slice none 0 0, v'] ∧ w'.ownsRow B 94 6 v' l.length xs' ∧ IL 6 encE (fun _ x s => Pn x s) l xs' ∧ Gr2 w w' q b4
theorem RcE.same {w w' : World} {b4 B : Nat} {l : List (Int × Vl)} {v : Value} {xs : List Value} (h4 : Bx w' b4 [.int .i64 6, .int .i64 0, .string ⟨#[]⟩, .slice none 0 0, v]) (hO : w'.ownsRow B 94 6 v l.length xs) (hI : IL 6 encE (fun _ x s => Pn x s) l xs) (hb : Below w.heap.size w w') : RcE w v.ownBlock b4 B l w' :=
  ⟨v, xs, h4, hO, hI, hb.os, hb.tape, hb.output, hb.size, fun k hk _ _ => hb.block k hk⟩
/-- What becomes of the entries, and the fault. -/
def rcS (o : Bool) (z : Prop) [Decidable z] (er : Nat) (l : List (Int × Vl)) (y : Int × Vl) : List (Int × Vl) × Nat := if er ≠ 0 then (l, er) else if o = false ∧ z then (l, 2) else (l ++ [y], 0)
set_option maxRecDepth 100000 in
set_option maxHeartbeats 8000000 in
theorem rcl_any (S : Sch) (A : Option Addr) (c : Nat) (A2 : Option Addr) (c2 : Nat) (b2 b3 b4 : Nat) (sT : St) (A3 : Option Addr) (c3 : Nat) (B : Nat) (vF : Value) (l : List (Int × Vl)) (xs : List Value) (y : Int) (f : Fd) (ct : List UInt8) (q n : Int) (x : List UInt8) (er : Nat) (w : World)
    (h2 : Bx w b2 [.string (bs sT.name), .slice A3 sT.fields.length c3]) (h3 : Bx w b3 [.int .i64 S.ver, .slice A S.enums.length c, .slice A2 S.structs.length c2]) (h4 : Bx w b4 [.int .i64 6, .int .i64 0, .string ⟨#[]⟩, .slice none 0 0, vF]) (hO : w.ownsRow B 94 6 vF l.length xs) (hI : IL 6 encE (fun _ x s => Pn x s) l xs) (hB : B ≤ w.heap.size) (hb4 : b4 < B) (hl : l.length ≤ 1000000)
    (hD : Rw FdA 7 w sT.fields A3) (hn : sT.fields.length ≤ 1000) (hfw : ∀ f ∈ sT.fields, fewT f.type = true) (hf : fst_ Fd.num sT.fields y = some f)
    (hC : ∀ W, Below w.heap.size w W → ∀ A8 c8, Rw TyA 4 W f.type.elem A8 → Calls Tryz.prog 45 #[.agg #[.int .i64 S.ver, .slice A S.enums.length c, .slice A2 S.structs.length c2], .agg #[.int .i64 f.type.kind, .int .i64 f.type.size, .string (bs f.type.name), .slice A8 f.type.elem.length c8], .string (bs ct)] W (Ib (.tuple #[.agg #[.int .i64 q, .int .i64 n, .string (bs x), .slice none 0 0, .slice none 0 0], .int .i64 (er : Int)]) W)) :
    Calls Tryz.prog 144 #[.int .i64 y, .string (bs ct), .pointer (some ⟨b2, 0, none⟩), .pointer (some ⟨b3, 0, none⟩), .pointer (some ⟨b4, 0, none⟩)] w (fun e w' => e = .returned (.int .i64 ((rcS f.opt (ct = zc f.type.kind) er l (y, .mk q n x [] [])).2 : Int)) ∧ RcE w vF.ownBlock b4 B (rcS f.opt (ct = zc f.type.kind) er l (y, .mk q n x [] [])).1 w') := by
  have hlow : ∀ g, vF.ownBlock = some g → B ≤ g := fun g e => (hO.lt g e).1
  have cF := devFieldOf_any sT y (.agg #[.string (bs sT.name), .slice A3 sT.fields.length c3]) w ⟨A3, c3, rfl, hD⟩ hn hfw
  rw [hf] at cF
  have d0 := h2.c 0 rfl
  have d1 := h2.c 1 rfl
  have ld := h2.lt
  obtain ⟨rr, hrr⟩ : ∃ rr, rcS f.opt (ct = zc f.type.kind) er l (y, .mk q n x [] []) = rr := ⟨_, rfl⟩
  rw [hrr]
  have HR := Lib.hid hrr
  clear hrr hn hfw hf hD
  go_enter Tryz.func144, Tryz.ntmps144
  go_wp2_with fail
  refine cF.mono ?_
  rintro e w1 ⟨vf, rfl, ⟨A8, c8, rfl, hTy⟩, hb1⟩
  have hbx := ab1 w1 (Obj.cells #[.int .i64 f.num, .string (bs f.name), .int .i64 f.type.kind, .int .i64 f.type.size, .string (bs f.type.name), .slice A8 f.type.elem.length c8, .bool f.opt] 57)
  have D8 := Bx.new7 w1 57 (.int .i64 f.num) (.string (bs f.name)) (.int .i64 f.type.kind) (.int .i64 f.type.size) (.string (bs f.type.name)) (.slice A8 f.type.elem.length c8) (.bool f.opt)
  have hab := Below.next hb1 hbx
  have HTy := Lib.hid (hTy.next fun x p => TyA.next hbx x p)
  clear hTy d0 d1 ld cF hb1 hbx
  go_upto_region 2 with (fail)
  generalize hz : w1.heap.size = z at *
  generalize w1.alloc (Obj.cells #[.int .i64 f.num, .string (bs f.name), .int .i64 f.type.kind, .int .i64 f.type.size, .string (bs f.type.name), .slice A8 f.type.elem.length c8, .bool f.opt] 57) = w2 at *
  clear hz w1
  replace h3 := h3.next hab
  have k0 := h3.c 0 rfl
  have k1 := h3.c 1 rfl
  have k2 := h3.c 2 rfl
  have lk := h3.lt
  have f2 := D8.c 2 rfl
  have f3 := D8.c 3 rfl
  have f4 := D8.c 4 rfl
  have f5 := D8.c 5 rfl
  have lf := D8.lt
  have cC := hC w2 hab A8 c8 HTy.out
  clear hC HTy
  go_wp2_with fail
  refine cC.mono ?_
  rintro e w3 ⟨rfl, hb3⟩
  have hbx := ab1 w3 (Obj.cells #[.int .i64 q, .int .i64 n, .string (bs x), .slice none 0 0, .slice none 0 0] 34)
  have D9 := Bx.new5 w3 34 (.int .i64 q) (.int .i64 n) (.string (bs x)) (.slice none 0 0) (.slice none 0 0)
  have hb5 := Below.next hb3 hbx
  replace hab := Below.next hab hb5
  replace D8 := D8.next hb5
  clear hb3 hbx hb5 k0 k1 k2 lk f2 f3 f4 f5 lf cC h3
  go_upto_region 5 with (fail)
  generalize hz9 : w3.heap.size = z9 at *
  generalize w3.alloc (Obj.cells #[.int .i64 q, .int .i64 n, .string (bs x), .slice none 0 0, .slice none 0 0] 34) = w4 at *
  clear hz9 w3 w2
  by_cases he : er = 0
  case neg =>
    have q0 : ((er : Int) != 0) = true := by simpa using he
    have HR2 := Lib.hid (show rr = (l, er) by rw [← HR.out]; unfold rcS; rw [if_pos he])
    clear HR he D8 D9 h2
    go_wp2_with fail
    go_ret
    rw [HR2.out]
    exact ⟨rfl, RcE.same (h4.next hab) (own_next hO hab) hI hab⟩
  case pos =>
  subst he
  have q0 : (((0 : Nat) : Int) != 0) = false := rfl
  have f0 := D8.c 0 rfl
  have f1 := D8.c 1 rfl
  have f2 := D8.c 2 rfl
  have f3 := D8.c 3 rfl
  have f4 := D8.c 4 rfl
  have f5 := D8.c 5 rfl
  have f6 := D8.c 6 rfl
  have lf := D8.lt
  have cO := isOmitted_any f.num f.name f.type.kind f.type.size f.type.name A8 f.type.elem.length c8 f.opt ct w4
  have HR3 := Lib.hid (show (!f.opt && decide (ct = zc f.type.kind)) = true → rr = (l, 2) by
    rw [← HR.out]; intro h; unfold rcS; rw [if_neg (by simp), if_pos (by simpa using h)])
  have HR4 := Lib.hid (show (!f.opt && decide (ct = zc f.type.kind)) = false → rr = (l ++ [(y, .mk q n x [] [])], 0) by
    rw [← HR.out]; intro h; unfold rcS; rw [if_neg (by simp), if_neg (by simpa using h)])
  clear HR
  obtain ⟨om, hom⟩ : ∃ om, (!f.opt && decide (ct = zc f.type.kind)) = om := ⟨_, rfl⟩
  rw [hom] at cO HR3 HR4
  clear hom
  go_wp2_with fail
  refine cO.mono ?_
  rintro e w5 ⟨rfl, hb5⟩
  replace D9 := D9.next hb5
  replace hab := Below.next hab hb5
  clear f0 f1 f2 f3 f4 f5 f6 lf cO D8 hb5 w4
  cases om
  case true =>
    have HR2 := Lib.hid (HR3.out rfl)
    clear HR3 HR4 D9 h2
    go_wp2_with fail
    go_ret
    rw [HR2.out]
    exact ⟨rfl, RcE.same (h4.next hab) (own_next hO hab) hI hab⟩
  case false =>
  have HR2 := Lib.hid (HR4.out rfl)
  clear HR3 HR4 h2
  replace h4 := h4.next hab
  replace hO := own_next hO hab
  have HG := Lib.hid (gbq_of hab vF.ownBlock)
  replace hB := Nat.le_trans hB hab.size
  clear hab
  have v4 := h4.c 4 rfl
  have l4 := h4.lt
  have u0 := D9.c 0 rfl
  have u1 := D9.c 1 rfl
  have u2 := D9.c 2 rfl
  have u3 := D9.c 3 rfl
  have u4 := D9.c 4 rfl
  have l9 := D9.lt
  obtain ⟨i, hi, hz, hs5, hby⟩ := info_parts infoE
  have hO6 := own_next hO (ab1 w5 (Obj.cells #[.int .i64 0, .int .i64 0, .int .i64 0, .string ⟨#[]⟩, .slice none 0 0, .slice none 0 0] 94))
  have hB6 : B ≤ (w5.alloc (Obj.cells #[.int .i64 0, .int .i64 0, .int .i64 0, .string ⟨#[]⟩, .slice none 0 0, .slice none 0 0] 94)).heap.size := Nat.le_trans hB (ab1 w5 (Obj.cells #[.int .i64 0, .int .i64 0, .int .i64 0, .string ⟨#[]⟩, .slice none 0 0, .slice none 0 0] 94)).size
  have hH : (w5.alloc (Obj.cells #[.int .i64 0, .int .i64 0, .int .i64 0, .string ⟨#[]⟩, .slice none 0 0, .slice none 0 0] 94)).heap.size = w5.heap.size + 1 := by simp
  have hN6 : ∀ j u, (encE (0, .mk 0 0 [] [] []) ⟨none, 0, none, 0⟩)[j]? = some u → (w5.alloc (Obj.cells #[.int .i64 0, .int .i64 0, .int .i64 0, .string ⟨#[]⟩, .slice none 0 0, .slice none 0 0] 94)).cell? ((⟨w5.heap.size, 0, none⟩ : Addr).add j) = some u := fun j u hj => by
    rw [Addr.add_lit, Nat.zero_add]
    exact ((Bx.new6 w5 94 (.int .i64 0) (.int .i64 0) (.int .i64 0) (.string ⟨#[]⟩) (.slice none 0 0) (.slice none 0 0)).at_ j u hj).1
  obtain ⟨Av, kv, cv, rfl⟩ := own_slice2 hO
  obtain rfl : kv = l.length := by obtain ⟨_, _, e⟩ := own_form hO; injection e
  have hm1 : l.length + 1 ≤ maxLen := by simp only [maxLen]; omega
  have hm2 : (l.length + 1) * 88 ≤ 140737488355328 := by omega
  have hneq : ∀ g, ((Value.slice Av l.length cv).ownBlock = some g ∨ g = w5.heap.size + 1) → b4 ≠ g := fun g h => by
    rcases h with h | h
    · have := hlow g h; omega
    · omega
  have hT : ∀ w1, (w5.alloc (Obj.cells #[.int .i64 0, .int .i64 0, .int .i64 0, .string ⟨#[]⟩, .slice none 0 0, .slice none 0 0] 94)).grownBy w1 (Value.slice Av l.length cv).ownBlock → Bx w1 b4 [.int .i64 6, .int .i64 0, .string ⟨#[]⟩, .slice none 0 0, .slice Av l.length cv] := fun w1 hg => (h4.next (ab1 w5 (Obj.cells #[.int .i64 0, .int .i64 0, .int .i64 0, .string ⟨#[]⟩, .slice none 0 0, .slice none 0 0] 94))).gbo hg (fun g e => by have := hlow g e; omega)
  have hIE : IL 6 encE (fun _ x s => Pn x s) (l ++ [(y, .mk q n x [] [])]) (putAt (xs ++ encE (0, .mk 0 0 [] [] []) ⟨none, 0, none, 0⟩) (l.length * 6) (encE (y, .mk q n x [] []) ⟨none, 0, none, 0⟩)) := by
    have h := (hI.snoc (0, .mk 0 0 [] [] []) ⟨none, 0, none, 0⟩ rfl (fun _ => ⟨.inl rfl, .inl rfl⟩)).put (Q := fun _ x s => Pn x s) (k := l.length) (by simp) (y, .mk q n x [] []) ⟨none, 0, none, 0⟩ rfl (fun _ _ _ _ h => h) (fun _ => ⟨.inl rfl, .inl rfl⟩)
    rwa [show (l ++ [((0 : Int), Vl.mk 0 0 [] [] [])]).set l.length (y, Vl.mk q n x [] []) = l ++ [(y, Vl.mk q n x [] [])] by simp] at h
  have hgw : w.grownBy (w5.alloc (Obj.cells #[.int .i64 0, .int .i64 0, .int .i64 0, .string ⟨#[]⟩, .slice none 0 0, .slice none 0 0] 94)) (Value.slice Av l.length cv).ownBlock := HG.out.trans (gbq_of (ab1 w5 (Obj.cells #[.int .i64 0, .int .i64 0, .int .i64 0, .string ⟨#[]⟩, .slice none 0 0, .slice none 0 0] 94)) _)
  have hsz5 : w.heap.size ≤ w5.heap.size := HG.out.size
  have HEE : ∀ g cap w1, w1.ownsRow B 94 6 (.slice (some ⟨g, 0, none⟩) (l.length + 1) cap) (l.length + 1) (xs ++ encE (0, .mk 0 0 [] [] []) ⟨none, 0, none, 0⟩) → (w5.alloc (Obj.cells #[.int .i64 0, .int .i64 0, .int .i64 0, .string ⟨#[]⟩, .slice none 0 0, .slice none 0 0] 94)).grownBy w1 (Value.slice Av l.length cv).ownBlock → ((Value.slice Av l.length cv).ownBlock = some g ∨ g = w5.heap.size + 1) →
      RcE w (Value.slice Av l.length cv).ownBlock b4 B (l ++ [(y, .mk q n x [] [])]) (((((((w1.setCell ⟨g, l.length * 6, none⟩ (.int .i64 y)).setCell ⟨g, l.length * 6 + 1, none⟩ (.int .i64 q)).setCell ⟨g, l.length * 6 + 2, none⟩ (.int .i64 n)).setCell ⟨g, l.length * 6 + 3, none⟩ (.string (bs x))).setCell ⟨g, l.length * 6 + 4, none⟩ (.slice none 0 0)).setCell ⟨g, l.length * 6 + 5, none⟩ (.slice none 0 0)).setCell ⟨b4, 4, none⟩ (.slice (some ⟨g, 0, none⟩) (l.length + 1) cap)) ∧ RcE w (Value.slice Av l.length cv).ownBlock b4 B (l ++ [(y, .mk q n x [] [])]) (((((((w1.setCell ⟨b4, 4, none⟩ (.slice (some ⟨g, 0, none⟩) (l.length + 1) cap)).setCell ⟨g, l.length * 6, none⟩ (.int .i64 y)).setCell ⟨g, l.length * 6 + 1, none⟩ (.int .i64 q)).setCell ⟨g, l.length * 6 + 2, none⟩ (.int .i64 n)).setCell ⟨g, l.length * 6 + 3, none⟩ (.string (bs x))).setCell ⟨g, l.length * 6 + 4, none⟩ (.slice none 0 0)).setCell ⟨g, l.length * 6 + 5, none⟩ (.slice none 0 0)) := fun g cap w1 hown hgrow hat => by
    have hne := hneq g hat
    have T5 := hT w1 hgrow
    have hlen : (l ++ [(y, Vl.mk q n x [] [])]).length = l.length + 1 := by simp
    have hr : ∀ k, some g = some k → k = b4 ∨ (Value.slice Av l.length cv).ownBlock = some k ∨ w.heap.size ≤ k := fun k e => by
      injection e with e
      subst e
      rcases hat with h | h
      · exact .inr (.inl h)
      · exact .inr (.inr (by omega))
    have hr' : ∀ k, some b4 = some k → k = b4 ∨ (Value.slice Av l.length cv).ownBlock = some k ∨ w.heap.size ≤ k := fun k e => by injection e with e; exact .inl e.symm
    have hgn : Value.ownBlock (.slice (some ⟨g, 0, none⟩) (l.length + 1) cap) ≠ some b4 := fun e => by injection e with e; exact hne e.symm
    constructor
    · have hst := storedN (encE (y, .mk q n x [] []) ⟨none, 0, none, 0⟩) hown (l.length * 6)
      have gs := gb_set1 (setCs w1 g (l.length * 6) (encE (y, .mk q n x [] []) ⟨none, 0, none, 0⟩)) ⟨b4, 4, none⟩ (.slice (some ⟨g, 0, none⟩) (l.length + 1) cap)
      exact ⟨(.slice (some ⟨g, 0, none⟩) (l.length + 1) cap), _, (T5.gb hst.2 hne).put1 4 _, by rw [hlen]; exact hst.1.kept gs (.inr hgn), hIE, gr2_of (hgw.trans hgrow) hst.2 gs hr hr'⟩
    · have gs := gb_set1 w1 ⟨b4, 4, none⟩ (.slice (some ⟨g, 0, none⟩) (l.length + 1) cap)
      have hst := storedN (encE (y, .mk q n x [] []) ⟨none, 0, none, 0⟩) (hown.kept gs (.inr hgn)) (l.length * 6)
      exact ⟨(.slice (some ⟨g, 0, none⟩) (l.length + 1) cap), _, (T5.put1 4 _).gb hst.2 hne, by rw [hlen]; exact hst.1, hIE, gr2_of (hgw.trans hgrow) gs hst.2 hr' hr⟩
  have hl1 : ((l.length : Nat) : Int) < ((l.length : Nat) : Int) + 1 := by omega
  clear hIE hgw hsz5 h4 hI
  go_upto_region 9 with (fail)
  go_region_law (first | (refine step_append_lies _ (by rfl) _ _ 32 (by rfl) B 94 i _ 6 88 Tryz.underlying32 hi hz hs5 hby rfl (by omega) _ l.length xs (by rfl) hO6 _ 1 _ (encE (0, .mk 0 0 [] [] []) ⟨none, 0, none, 0⟩) (by rfl) rfl hN6 (encE_one _ _) (by omega) hm1 hm2 hB6 _ hH ?_; intro g cap w1 hown hgrow0 hat hlt; have hgrow : (w5.alloc (Obj.cells #[.int .i64 0, .int .i64 0, .int .i64 0, .string ⟨#[]⟩, .slice none 0 0, .slice none 0 0] 94)).grownBy w1 (Value.slice Av l.length cv).ownBlock := ⟨hgrow0.os, hgrow0.tape, hgrow0.output, hgrow0.size, hgrow0.block⟩; clear hgrow0; have hne : b4 ≠ g := hneq g hat; have hne2 : ¬ g = b4 := fun e => hne e.symm; have T5 := hT w1 hgrow; have y4 := T5.c 4 rfl; have y5 := T5.f 4 rfl; have y6 := T5.lt; have f0 := hown.frozenAt (l.length * 6); have f1 := hown.frozenAt (l.length * 6 + 1); have f2 := hown.frozenAt (l.length * 6 + 2); have f3 := hown.frozenAt (l.length * 6 + 3); have f4 := hown.frozenAt (l.length * 6 + 4); have f5 := hown.frozenAt (l.length * 6 + 5); obtain ⟨u0, g0⟩ := rowCell hown (j := l.length * 6) (by omega); obtain ⟨u1, g1⟩ := rowCell hown (j := l.length * 6 + 1) (by omega); obtain ⟨u2, g2⟩ := rowCell hown (j := l.length * 6 + 2) (by omega); obtain ⟨u3, g3⟩ := rowCell hown (j := l.length * 6 + 3) (by omega); obtain ⟨u4, g4⟩ := rowCell hown (j := l.length * 6 + 4) (by omega); obtain ⟨u5, g5⟩ := rowCell hown (j := l.length * 6 + 5) (by omega); have HE := HEE g cap w1 hown hgrow hat))
  all_goals (clear f0 f1 f2 f3 f4 f5 g0 g1 g2 g3 g4 g5 y4 y5 y6; go_wp2_with fail; go_ret; rw [HR2.out]; refine ⟨rfl, ?_⟩; dsimp only; with_reducible first | exact HE.1 | exact HE.2)
end Go.Proofs.YthfodpbecddheaaGreatDoor


/-
  The type of a schema's struct; the content of a struct. No conditions beyond those that each names.
-/
import Derived.Test.YthfodpbecddheaaGreatDoorQM21
import Derived.Test.YthfodpbecddheaaGreatDoorQM17
import Derived.Test.YthfodpbecddheaaGreatDoorQM12
import Derived.Test.YthfodpbecddheaaGreatDoorQM10
namespace Go.Proofs.YthfodpbecddheaaGreatDoor
open Go.RowKit Go.Sort
/-- The fault of a name's type. -/
noncomputable def tyE (S : Sch) (nm : List UInt8) : Int := if chk S = 0 then (if (fst_ St.name S.structs nm).isSome then 0 else 6) else (chk S : Int)
/-- A name's type. -/
noncomputable def tyV (S : Sch) (nm : List UInt8) : Value := if tyE S nm = 0 then .agg #[.int .i64 6, .int .i64 0, .string (bs nm), .slice none 0 0] else .agg #[.int .i64 0, .int .i64 0, .string ⟨#[]⟩, .slice none 0 0]
/-- What a name's type is, by cases. -/
def TyOf (nm : List UInt8) (x : Nat) (ok : Bool) (re : Int) (rv : Value) : Prop := (x ≠ 0 → re = (x : Int) ∧ rv = .agg #[.int .i64 0, .int .i64 0, .string ⟨#[]⟩, .slice none 0 0]) ∧ (x = 0 → ok = false → re = 6 ∧ rv = .agg #[.int .i64 0, .int .i64 0, .string ⟨#[]⟩, .slice none 0 0]) ∧ (x = 0 → ok = true → re = 0 ∧ rv = .agg #[.int .i64 6, .int .i64 0, .string (bs nm), .slice none 0 0])
theorem tyOf_is (S : Sch) (nm : List UInt8) : TyOf nm (chk S) (fst_ St.name S.structs nm).isSome (tyE S nm) (tyV S nm) := by
  refine ⟨fun h => ?_, fun h h' => ?_, fun h h' => ?_⟩
  · have e : tyE S nm = (chk S : Int) := by unfold tyE; rw [if_neg h]
    refine ⟨e, ?_⟩
    unfold tyV; rw [if_neg (by rw [e]; omega)]
  · have e : tyE S nm = 6 := by unfold tyE; rw [if_pos h, h']; rfl
    refine ⟨e, ?_⟩
    unfold tyV; rw [if_neg (by rw [e]; omega)]
  · have e : tyE S nm = 0 := by unfold tyE; rw [if_pos h, if_pos h']
    refine ⟨e, ?_⟩
    unfold tyV; rw [if_pos e]
set_option maxRecDepth 100000 in
set_option maxHeartbeats 4000000 in
theorem typeOf_any (S : Sch) (nm : List UInt8) (v : Value) (w : World) (hf : Few9 S) (hB : FewB S) (hE : Env w) (hS : ScV w S v) :
    Calls Tryz.prog 42 #[v, .string (bs nm)] w (Ib (.tuple #[tyV S nm, .int .i64 (tyE S nm)]) w) := by
  have cC := fun W a (h1 : ScV W S a) (h2 : Env W) => check_any S hB a W h1 h2
  have cS := fun W a (h : ScV W S a) => devStruct_k S nm a W h hf.sl hf.st
  unfold StK at cS
  have HH := tyOf_is S nm
  generalize tyV S nm = rv at *
  generalize tyE S nm = re at *
  generalize (fst_ St.name S.structs nm).getD st0 = sT at *
  generalize (fst_ St.name S.structs nm).isSome = ok at *
  generalize chk S = x at *
  clear hf hB
  obtain ⟨A, c, A2, c2, rfl, hS⟩ := hS
  have D1 := (Bx.new3 w 25 (.int .i64 S.ver) (.slice A S.enums.length c) (.slice A2 S.structs.length c2)).next (ab1 _ (Obj.cells #[.int .i64 0, .int .i64 0, .string ⟨#[]⟩, .slice none 0 0] 29))
  have D2 := Bx.new4 (w.alloc (Obj.cells #[.int .i64 S.ver, .slice A S.enums.length c, .slice A2 S.structs.length c2] 25)) 29 (.int .i64 0) (.int .i64 0) (.string ⟨#[]⟩) (.slice none 0 0)
  have z1 : (w.alloc (Obj.cells #[.int .i64 S.ver, .slice A S.enums.length c, .slice A2 S.structs.length c2] 25)).heap.size = w.heap.size + 1 := by simp
  rw [z1] at D2
  have z3 : ((w.alloc (Obj.cells #[.int .i64 S.ver, .slice A S.enums.length c, .slice A2 S.structs.length c2] 25)).alloc (Obj.cells #[.int .i64 0, .int .i64 0, .string ⟨#[]⟩, .slice none 0 0] 29)).heap.size = w.heap.size + 1 + 1 := by simp
  have hab := ab2 w (Obj.cells #[.int .i64 S.ver, .slice A S.enums.length c, .slice A2 S.structs.length c2] 25) (Obj.cells #[.int .i64 0, .int .i64 0, .string ⟨#[]⟩, .slice none 0 0] 29)
  go_enter Tryz.func42, Tryz.ntmps42
  go_upto_region 1 with (fail)
  generalize ((w.alloc (Obj.cells #[.int .i64 S.ver, .slice A S.enums.length c, .slice A2 S.structs.length c2] 25)).alloc (Obj.cells #[.int .i64 0, .int .i64 0, .string ⟨#[]⟩, .slice none 0 0] 29)) = w0 at *
  have hz3 : w.heap.size + 1 < w0.heap.size := by omega
  clear z1 z3
  have k0 := D1.c 0 rfl
  have k1 := D1.c 1 rfl
  have k2 := D1.c 2 rfl
  have l1 := D1.lt
  have c1 := cC w0 _ ⟨A, c, A2, c2, rfl, Sc.next hab hS⟩ (hE.next hab)
  clear cC hE
  go_wp2_with fail
  refine c1.mono ?_
  rintro e w9 ⟨rfl, hb2⟩
  replace hz3 := Nat.lt_of_lt_of_le hz3 hb2.size
  replace D1 := D1.next hb2
  replace D2 := D2.next hb2
  replace hab := Below.next hab hb2
  clear hb2 k0 k1 k2 l1 c1
  by_cases hx : x = 0
  case neg =>
    have hx0 : ((x : Int) != 0) = true := by simpa using hx
    obtain ⟨rfl, rfl⟩ := HH.1 hx
    clear HH
    have q0 := D2.f 0 rfl
    have q1 := D2.f 1 rfl
    have q2 := D2.f 2 rfl
    have q3 := D2.f 3 rfl
    have r0 := D2.c 0 rfl
    have r1 := D2.c 1 rfl
    have r2 := D2.c 2 rfl
    have r3 := D2.c 3 rfl
    have l3 := D2.lt
    have hfin : Below w.heap.size w ((((w9.setCell ⟨w.heap.size + 1, 0, none⟩ (.int .i64 0)).setCell ⟨w.heap.size + 1, 1, none⟩ (.int .i64 0)).setCell ⟨w.heap.size + 1, 2, none⟩ (.string ⟨#[]⟩)).setCell ⟨w.heap.size + 1, 3, none⟩ (.slice none 0 0)) := hab.trans (bl_set4 _ _ _ _ (by omega) hab.size)
    clear D1 D2 cS hS
    go_wp2_with fail
    refine bodyPost_ret (v := .tuple #[.agg #[.int .i64 0, .int .i64 0, .string ⟨#[]⟩, .slice none 0 0], .int .i64 (x : Int)]) (by simp [results, Tryz.results42, go_sem, r0, r1, r2, r3]) rfl ?_
    exact ⟨rfl, hfin⟩
  case pos =>
    subst hx
    have hx0 : (((0 : Nat) : Int) != 0) = false := rfl
    have k0 := D1.c 0 rfl
    have k1 := D1.c 1 rfl
    have k2 := D1.c 2 rfl
    have l1 := D1.lt
    have c2' := cS w9 _ ⟨A, c, A2, c2, rfl, Sc.next hab hS⟩
    clear cS hS
    go_wp2_with fail
    refine c2'.mono ?_
    rintro en w3 ⟨v2, rfl, hV2, hb2⟩
    obtain ⟨A3, c3, rfl, -⟩ := hV2 w3 (Kpl.refl _ _)
    have hbx := ab1 w3 (Obj.cells #[.string (bs sT.name), .slice A3 sT.fields.length c3] 53)
    replace D2 := (D2.next hb2).next hbx
    replace hab := Below.next hab (Below.next hb2 hbx)
    replace hz3 : w.heap.size + 1 < (w3.alloc (Obj.cells #[.string (bs sT.name), .slice A3 sT.fields.length c3] 53)).heap.size := Nat.lt_of_lt_of_le hz3 (Nat.le_trans hb2.size hbx.size)
    clear k0 k1 k2 l1 c2' hV2 hb2 hbx D1 hx0
    go_upto_region 5 with (fail)
    generalize w3.alloc (Obj.cells #[.string (bs sT.name), .slice A3 sT.fields.length c3] 53) = w9 at *
    cases ok
    case false =>
      obtain ⟨rfl, rfl⟩ := HH.2.1 rfl rfl
      clear HH
      have q0 := D2.f 0 rfl
      have q1 := D2.f 1 rfl
      have q2 := D2.f 2 rfl
      have q3 := D2.f 3 rfl
      have r0 := D2.c 0 rfl
      have r1 := D2.c 1 rfl
      have r2 := D2.c 2 rfl
      have r3 := D2.c 3 rfl
      have l3 := D2.lt
      have hfin : Below w.heap.size w ((((w9.setCell ⟨w.heap.size + 1, 0, none⟩ (.int .i64 0)).setCell ⟨w.heap.size + 1, 1, none⟩ (.int .i64 0)).setCell ⟨w.heap.size + 1, 2, none⟩ (.string ⟨#[]⟩)).setCell ⟨w.heap.size + 1, 3, none⟩ (.slice none 0 0)) := hab.trans (bl_set4 _ _ _ _ (by omega) hab.size)
      have hfin2 : Below w.heap.size w ((((w9.setCell ⟨w.heap.size + 1, 0, none⟩ (.int .i64 0)).setCell ⟨w.heap.size + 1, 1, none⟩ (.int .i64 0)).setCell ⟨w.heap.size + 1, 2, none⟩ (.string ⟨#[]⟩)).setCell ⟨w.heap.size + 1, 3, none⟩ (.slice none 0 0)) := hfin
      clear D2
      go_wp2_with fail
      refine bodyPost_ret (v := .tuple #[.agg #[.int .i64 0, .int .i64 0, .string ⟨#[]⟩, .slice none 0 0], .int .i64 6]) (by simp [results, Tryz.results42, go_sem, r0, r1, r2, r3]) rfl ?_
      exact ⟨rfl, hfin⟩
    case true =>
      obtain ⟨rfl, rfl⟩ := HH.2.2 rfl rfl
      clear HH
      have q0 := D2.f 0 rfl
      have q1 := D2.f 1 rfl
      have q2 := D2.f 2 rfl
      have q3 := D2.f 3 rfl
      have r0 := D2.c 0 rfl
      have r1 := D2.c 1 rfl
      have r2 := D2.c 2 rfl
      have r3 := D2.c 3 rfl
      have l3 := D2.lt
      have hfin : Below w.heap.size w ((((w9.setCell ⟨w.heap.size + 1, 0, none⟩ (.int .i64 6)).setCell ⟨w.heap.size + 1, 1, none⟩ (.int .i64 0)).setCell ⟨w.heap.size + 1, 2, none⟩ (.string (bs nm))).setCell ⟨w.heap.size + 1, 3, none⟩ (.slice none 0 0)) := hab.trans (bl_set4 _ _ _ _ (by omega) hab.size)
      clear D2
      go_wp2_with fail
      refine bodyPost_ret (v := .tuple #[.agg #[.int .i64 6, .int .i64 0, .string (bs nm), .slice none 0 0], .int .i64 0]) (by simp [results, Tryz.results42, go_sem, r0, r1, r2, r3]) rfl ?_
      exact ⟨rfl, hfin⟩
end Go.Proofs.YthfodpbecddheaaGreatDoor
/-
  What the developers' Check answers. No conditions beyond those that each names.
-/
namespace Go.Proofs.YthfodpbecddheaaGreatDoor
open Go.RowKit
/-- What Check answers. -/
def vchk (S : Sch) (t : Ty) (v : Vl) : Int := if 6 < lv v then 9 else vck S t v
set_option maxRecDepth 100000 in
set_option maxHeartbeats 4000000 in
theorem devCheck_any (S : Sch) (t : Ty) (v : Vl) (a b u : Value) (w : World) (hf : Few9 S) (hlk : lok9 S) (hasc : ∀ t ∈ S.structs, AscD t.fields) (hlo : lok t) (hvo : vok v) (hS : ScV w S a) (hT : TyV w t b) (hV : VlV w v u) :
    Calls Tryz.prog 16 #[a, b, u] w (Ib (.int .i64 (vchk S t v)) w) := by
  have cL := fun W h => exceeds_any (SizeOf.sizeOf v + 1) v 6 u W (by omega) hvo (by decide) (hV.next h)
  obtain ⟨A, c, A2, c2, rfl, hS⟩ := hS
  obtain ⟨G, g, rfl, hG⟩ := hT
  have cW := fun W h => check_rec S hf hlk hasc (SizeOf.sizeOf v + 1) t v A c A2 c2 G g u W (by omega) hlo hvo (Sc.next h hS) (hG.next fun x p => TyA.next h x p) (hV.next h)
  obtain ⟨B, b1, B2, b2, rfl, -, -⟩ := hV
  obtain ⟨r, hr⟩ : ∃ r, vchk S t v = r := ⟨_, rfl⟩
  unfold vchk at hr
  show Calls _ _ _ _ (Ib (.int .i64 (vchk S t v)) w)
  rw [show vchk S t v = r from hr]
  obtain ⟨x, hx⟩ : ∃ x, vck S t v = x := ⟨_, rfl⟩
  rw [hx] at cW hr
  have cL : ∀ W, Below w.heap.size w W → Calls Tryz.prog 37 #[.agg #[.int .i64 v.kind, .int .i64 v.n, .string (bs v.s), .slice B v.l.length b1, .slice B2 v.f.length b2], .int .i64 6] W (Ib (.bool (decide (6 < lv v))) W) := cL
  obtain ⟨y, hy⟩ : ∃ y, decide (6 < lv v) = y := ⟨_, rfl⟩
  have hr : (if y = true then 9 else x) = r := by rw [← hr, ← hy]; simp
  rw [hy] at cL
  clear hx hy
  have hab := ab3 w (Obj.cells #[.int .i64 S.ver, .slice A S.enums.length c, .slice A2 S.structs.length c2] 25) (Obj.cells #[.int .i64 t.kind, .int .i64 t.size, .string (bs t.name), .slice G t.elem.length g] 29) (Obj.cells #[.int .i64 v.kind, .int .i64 v.n, .string (bs v.s), .slice B v.l.length b1, .slice B2 v.f.length b2] 34)
  have D1 := (Bx.new3 w 25 (.int .i64 S.ver) (.slice A S.enums.length c) (.slice A2 S.structs.length c2)).next (ab2 _ (Obj.cells #[.int .i64 t.kind, .int .i64 t.size, .string (bs t.name), .slice G t.elem.length g] 29) (Obj.cells #[.int .i64 v.kind, .int .i64 v.n, .string (bs v.s), .slice B v.l.length b1, .slice B2 v.f.length b2] 34))
  have D2 := (Bx.new4 (w.alloc (Obj.cells #[.int .i64 S.ver, .slice A S.enums.length c, .slice A2 S.structs.length c2] 25)) 29 (.int .i64 t.kind) (.int .i64 t.size) (.string (bs t.name)) (.slice G t.elem.length g)).next (ab1 _ (Obj.cells #[.int .i64 v.kind, .int .i64 v.n, .string (bs v.s), .slice B v.l.length b1, .slice B2 v.f.length b2] 34))
  have D3 := Bx.new5 ((w.alloc (Obj.cells #[.int .i64 S.ver, .slice A S.enums.length c, .slice A2 S.structs.length c2] 25)).alloc (Obj.cells #[.int .i64 t.kind, .int .i64 t.size, .string (bs t.name), .slice G t.elem.length g] 29)) 34 (.int .i64 v.kind) (.int .i64 v.n) (.string (bs v.s)) (.slice B v.l.length b1) (.slice B2 v.f.length b2)
  rw [show (w.alloc (Obj.cells #[.int .i64 S.ver, .slice A S.enums.length c, .slice A2 S.structs.length c2] 25)).heap.size = w.heap.size + 1 by simp] at D2
  rw [show ((w.alloc (Obj.cells #[.int .i64 S.ver, .slice A S.enums.length c, .slice A2 S.structs.length c2] 25)).alloc (Obj.cells #[.int .i64 t.kind, .int .i64 t.size, .string (bs t.name), .slice G t.elem.length g] 29)).heap.size = w.heap.size + 1 + 1 by simp] at D3
  go_enter Tryz.func16, Tryz.ntmps16
  go_wp2_with fail
  refine (cL _ hab).mono ?_
  rintro _ w1 ⟨rfl, hb1⟩
  replace D1 := D1.next hb1
  replace D2 := D2.next hb1
  replace D3 := D3.next hb1
  replace hab := Below.next hab hb1
  have cW2 := cW _ hab
  clear cL hb1 cW
  cases y
  case true =>
    have hr : (9 : Int) = r := by simpa using hr
    subst hr
    go_wp2_with fail
    go_ret
    exact ⟨rfl, hab⟩
  case false =>
    have hr : x = r := by simpa using hr
    subst hr
    have a0 := D1.c 0 rfl
    have a1 := D1.c 1 rfl
    have a2 := D1.c 2 rfl
    have t0 := D2.c 0 rfl
    have t1 := D2.c 1 rfl
    have t2 := D2.c 2 rfl
    have t3 := D2.c 3 rfl
    have v0 := D3.c 0 rfl
    have v1 := D3.c 1 rfl
    have v2 := D3.c 2 rfl
    have v3 := D3.c 3 rfl
    have v4 := D3.c 4 rfl
    clear D1 D2 D3
    go_wp2_with fail
    refine cW2.mono ?_
    rintro _ w2 ⟨rfl, hb2⟩
    go_wp2_with fail
    go_ret
    exact ⟨rfl, Below.next hab hb2⟩
end Go.Proofs.YthfodpbecddheaaGreatDoor
/-
  The content of a struct; Encode of a value that has its type. No conditions beyond those that each names.
-/
namespace Go.Proofs.YthfodpbecddheaaGreatDoor
open Go.RowKit Go.Sort
set_option maxRecDepth 100000 in
set_option maxHeartbeats 4000000 in
theorem content_struct (S : Sch) (A : Option Addr) (c : Nat) (A2 : Option Addr) (c2 : Nat) (s : Int) (nm : List UInt8) (G : Option Addr) (e g : Nat) (v : Vl) (B : Option Addr) (b : Nat) (D : Option Addr) (d : Nat) (w : World) (x : List UInt8)
    (h : ∀ W, Below w.heap.size w W → Calls Tryz.prog 90 #[.agg #[.int .i64 S.ver, .slice A S.enums.length c, .slice A2 S.structs.length c2], .agg #[.int .i64 6, .int .i64 s, .string (bs nm), .slice G e g], .agg #[.int .i64 v.kind, .int .i64 v.n, .string (bs v.s), .slice B v.l.length b, .slice D v.f.length d]] W (Ib (.string (bs x)) W)) :
    Calls Tryz.prog 43 #[.agg #[.int .i64 S.ver, .slice A S.enums.length c, .slice A2 S.structs.length c2], .agg #[.int .i64 6, .int .i64 s, .string (bs nm), .slice G e g], .agg #[.int .i64 v.kind, .int .i64 v.n, .string (bs v.s), .slice B v.l.length b, .slice D v.f.length d]] w (Ib (.string (bs x)) w) := by
  have hab := ab3 w (Obj.cells #[.int .i64 S.ver, .slice A S.enums.length c, .slice A2 S.structs.length c2] 90) (Obj.cells #[.int .i64 6, .int .i64 s, .string (bs nm), .slice G e g] 29) (Obj.cells #[.int .i64 v.kind, .int .i64 v.n, .string (bs v.s), .slice B v.l.length b, .slice D v.f.length d] 34)
  have cI := h _ hab
  clear h
  go_enter Tryz.func43, Tryz.ntmps43
  go_wp2_with fail
  refine cI.mono ?_
  rintro en w2 ⟨rfl, hb2⟩
  go_wp2_with fail
  go_ret
  exact ⟨rfl, Below.next hab hb2⟩
set_option maxRecDepth 100000 in
set_option maxHeartbeats 4000000 in
theorem encode_ok (S : Sch) (nm : List UInt8) (v : Vl) (a u : Value) (w : World) (x : List UInt8) (hf : Few9 S) (hB : FewB S) (hE : Env w) (hlk : lok9 S) (hasc : ∀ t ∈ S.structs, AscD t.fields) (hvo : vok v) (hty : tyE S nm = 0) (hck : vchk S ⟨6, 0, nm, []⟩ v = 0) (hx : x.length ≤ 2000) (hS : ScV w S a) (hV : VlV w v u)
    (h : ∀ W A c A2 c2 B b D d, ScV W S (.agg #[.int .i64 S.ver, .slice A S.enums.length c, .slice A2 S.structs.length c2]) → VlV W v (.agg #[.int .i64 v.kind, .int .i64 v.n, .string (bs v.s), .slice B v.l.length b, .slice D v.f.length d]) → Calls Tryz.prog 43 #[.agg #[.int .i64 S.ver, .slice A S.enums.length c, .slice A2 S.structs.length c2], .agg #[.int .i64 6, .int .i64 0, .string (bs nm), .slice none 0 0], .agg #[.int .i64 v.kind, .int .i64 v.n, .string (bs v.s), .slice B v.l.length b, .slice D v.f.length d]] W (Ib (.string (bs x)) W)) :
    Calls Tryz.prog 18 #[a, .string (bs nm), u] w (Ib (.tuple #[.string (bs x), .int .i64 0]) w) := by
  have cT := fun W a (h1 : ScV W S a) (h2 : Env W) => typeOf_any S nm a W hf hB h2 h1
  have cK := fun W a u (h1 : ScV W S a) (h3 : VlV W v u) => devCheck_any S ⟨6, 0, nm, []⟩ v a (.agg #[.int .i64 6, .int .i64 0, .string (bs nm), .slice none 0 0]) u W hf hlk hasc (by simp [lok, lok.loks]) hvo h1 ⟨none, 0, rfl, .inl rfl⟩ h3
  have hty2 : tyV S nm = .agg #[.int .i64 6, .int .i64 0, .string (bs nm), .slice none 0 0] := if_pos hty
  rw [hty, hty2] at cT
  rw [hck] at cK
  clear hf hB hlk hasc hvo hty hty2 hck
  obtain ⟨A, c, A2, c2, rfl, hS⟩ := hS
  obtain ⟨B, b, D, d, rfl, hV⟩ := hV
  have hS0 : ∀ W, Below w.heap.size w W → ScV W S (.agg #[.int .i64 S.ver, .slice A S.enums.length c, .slice A2 S.structs.length c2]) := fun W hb => ⟨A, c, A2, c2, rfl, Sc.next hb hS⟩
  have hV0 : ∀ W, Below w.heap.size w W → VlV W v (.agg #[.int .i64 v.kind, .int .i64 v.n, .string (bs v.s), .slice B v.l.length b, .slice D v.f.length d]) := fun W hb => VlV.next hb ⟨B, b, D, d, rfl, hV⟩
  have D1 := (Bx.new3 w 25 (.int .i64 S.ver) (.slice A S.enums.length c) (.slice A2 S.structs.length c2)).next (ab1 _ (Obj.cells #[.int .i64 v.kind, .int .i64 v.n, .string (bs v.s), .slice B v.l.length b, .slice D v.f.length d] 34))
  have D2 := Bx.new5 (w.alloc (Obj.cells #[.int .i64 S.ver, .slice A S.enums.length c, .slice A2 S.structs.length c2] 25)) 34 (.int .i64 v.kind) (.int .i64 v.n) (.string (bs v.s)) (.slice B v.l.length b) (.slice D v.f.length d)
  have z1 : (w.alloc (Obj.cells #[.int .i64 S.ver, .slice A S.enums.length c, .slice A2 S.structs.length c2] 25)).heap.size = w.heap.size + 1 := by simp
  rw [z1] at D2
  have hab := ab2 w (Obj.cells #[.int .i64 S.ver, .slice A S.enums.length c, .slice A2 S.structs.length c2] 25) (Obj.cells #[.int .i64 v.kind, .int .i64 v.n, .string (bs v.s), .slice B v.l.length b, .slice D v.f.length d] 34)
  have hq1 : ((bs x).size : Int) ≤ 2000 := by rw [bs_size]; omega
  clear hS hV z1 hx
  have HH := Lib.hid (And.intro hS0 (And.intro hV0 (And.intro h cK)))
  clear hS0 hV0 h cK
  go_enter Tryz.func18, Tryz.ntmps18
  go_upto_region 1 with (fail)
  generalize (w.alloc (Obj.cells #[.int .i64 S.ver, .slice A S.enums.length c, .slice A2 S.structs.length c2] 25)).alloc (Obj.cells #[.int .i64 v.kind, .int .i64 v.n, .string (bs v.s), .slice B v.l.length b, .slice D v.f.length d] 34) = w0 at *
  have k0 := D1.c 0 rfl
  have k1 := D1.c 1 rfl
  have k2 := D1.c 2 rfl
  have l1 := D1.lt
  have c1 := cT w0 _ (HH.out.1 _ hab) (hE.next hab)
  clear cT hE
  go_wp2_with fail
  refine c1.mono ?_
  rintro e w2 ⟨rfl, hb2⟩
  have D3 := Bx.new4 w2 29 (.int .i64 6) (.int .i64 0) (.string (bs nm)) (.slice none 0 0)
  have hbx := ab1 w2 (Obj.cells #[.int .i64 6, .int .i64 0, .string (bs nm), .slice none 0 0] 29)
  replace D1 := (D1.next hb2).next hbx
  replace D2 := (D2.next hb2).next hbx
  replace hab := Below.next hab (Below.next hb2 hbx)
  clear hb2 k0 k1 k2 l1 c1 hbx
  go_upto_region 2 with (fail)
  generalize hq : w2.heap.size = q at *
  generalize w2.alloc (Obj.cells #[.int .i64 6, .int .i64 0, .string (bs nm), .slice none 0 0] 29) = w3 at *
  clear hq w2 w0
  have k0 := D1.c 0 rfl
  have k1 := D1.c 1 rfl
  have k2 := D1.c 2 rfl
  have l1 := D1.lt
  have j0 := D2.c 0 rfl
  have j1 := D2.c 1 rfl
  have j2 := D2.c 2 rfl
  have j3 := D2.c 3 rfl
  have j4 := D2.c 4 rfl
  have l2 := D2.lt
  have i0 := D3.c 0 rfl
  have i1 := D3.c 1 rfl
  have i2 := D3.c 2 rfl
  have i3 := D3.c 3 rfl
  have l3 := D3.lt
  have c2' := HH.out.2.2.2 w3 _ _ (HH.out.1 _ hab) (HH.out.2.1 _ hab)
  go_wp2_with fail
  refine c2'.mono ?_
  rintro e w4 ⟨rfl, hb2⟩
  replace D1 := D1.next hb2
  replace D2 := D2.next hb2
  replace D3 := D3.next hb2
  replace hab := Below.next hab hb2
  clear hb2 k0 k1 k2 l1 j0 j1 j2 j3 j4 l2 i0 i1 i2 i3 l3 c2' w3
  have k0 := D1.c 0 rfl
  have k1 := D1.c 1 rfl
  have k2 := D1.c 2 rfl
  have l1 := D1.lt
  have j0 := D2.c 0 rfl
  have j1 := D2.c 1 rfl
  have j2 := D2.c 2 rfl
  have j3 := D2.c 3 rfl
  have j4 := D2.c 4 rfl
  have l2 := D2.lt
  have i0 := D3.c 0 rfl
  have i1 := D3.c 1 rfl
  have i2 := D3.c 2 rfl
  have i3 := D3.c 3 rfl
  have l3 := D3.lt
  have c3 := HH.out.2.2.1 w4 A c A2 c2 B b D d (HH.out.1 _ hab) (HH.out.2.1 _ hab)
  generalize bs x = X at *
  go_wp2_with fail
  refine c3.mono ?_
  rintro e w5 ⟨rfl, hb2⟩
  replace hab := Below.next hab hb2
  clear hb2 k0 k1 k2 l1 j0 j1 j2 j3 j4 l2 i0 i1 i2 i3 l3 c3 w4 D1 D2 D3
  have hq2 : decide ((X.size : Int) > 2000) = false := by simp; omega
  go_wp2_with fail
  refine bodyPost_ret (v := .tuple #[.string X, .int .i64 0]) (by simp [results, Tryz.results18, go_sem]) rfl ?_
  exact ⟨rfl, hab⟩
end Go.Proofs.YthfodpbecddheaaGreatDoor
/-
  The reader's boolean. No conditions beyond those that each names.
-/
namespace Go.Proofs.YthfodpbecddheaaGreatDoor
open Go.RowKit
set_option maxRecDepth 100000 in
set_option maxHeartbeats 4000000 in
theorem boolean_short (S : Sch) (A : Option Addr) (c : Nat) (A2 : Option Addr) (c2 : Nat) (w : World) :
    Calls Tryz.prog 92 #[.agg #[.int .i64 S.ver, .slice A S.enums.length c, .slice A2 S.structs.length c2], .string (bs [])] w (Ib (.tuple #[.agg #[.int .i64 0, .int .i64 0, .string ⟨#[]⟩, .slice none 0 0, .slice none 0 0], .int .i64 1]) w) := by
  have z1 : (w.alloc (Obj.cells #[.int .i64 S.ver, .slice A S.enums.length c, .slice A2 S.structs.length c2] 95)).heap.size = w.heap.size + 1 := by simp
  have D2 := Bx.new5 (w.alloc (Obj.cells #[.int .i64 S.ver, .slice A S.enums.length c, .slice A2 S.structs.length c2] 95)) 34 (.int .i64 0) (.int .i64 0) (.string ⟨#[]⟩) (.slice none 0 0) (.slice none 0 0)
  rw [z1] at D2
  have hab := ab2 w (Obj.cells #[.int .i64 S.ver, .slice A S.enums.length c, .slice A2 S.structs.length c2] 95) (Obj.cells #[.int .i64 0, .int .i64 0, .string ⟨#[]⟩, .slice none 0 0, .slice none 0 0] 34)
  go_enter Tryz.func92, Tryz.ntmps92
  go_upto_region 1 with (fail)
  generalize (w.alloc (Obj.cells #[.int .i64 S.ver, .slice A S.enums.length c, .slice A2 S.structs.length c2] 95)).alloc (Obj.cells #[.int .i64 0, .int .i64 0, .string ⟨#[]⟩, .slice none 0 0, .slice none 0 0] 34) = w9 at *
  clear z1
  have hT : (bs []).toList = [] := toList_bs []
  have q0 := D2.f 0 rfl
  have q1 := D2.f 1 rfl
  have q2 := D2.f 2 rfl
  have q3 := D2.f 3 rfl
  have q4 := D2.f 4 rfl
  have r0 := D2.c 0 rfl
  have r1 := D2.c 1 rfl
  have r2 := D2.c 2 rfl
  have r3 := D2.c 3 rfl
  have r4 := D2.c 4 rfl
  have lr := D2.lt
  have hfin := gb5 hab (b := w.heap.size + 1) (by omega) (.int .i64 0) (.int .i64 0) (.string ⟨#[]⟩) (.slice none 0 0) (.slice none 0 0)
  go_wp2_with fail
  refine bodyPost_ret (v := .tuple #[.agg #[.int .i64 0, .int .i64 0, .string ⟨#[]⟩, .slice none 0 0, .slice none 0 0], .int .i64 1]) (by simp [results, Tryz.results92, go_sem, r0, r1, r2, r3, r4]) rfl ?_
  exact ⟨rfl, hfin⟩
set_option maxRecDepth 100000 in
set_option maxHeartbeats 4000000 in
theorem boolean_0 (S : Sch) (A : Option Addr) (c : Nat) (A2 : Option Addr) (c2 : Nat) (w : World) :
    Calls Tryz.prog 92 #[.agg #[.int .i64 S.ver, .slice A S.enums.length c, .slice A2 S.structs.length c2], .string (bs [0])] w (Ib (.tuple #[.agg #[.int .i64 1, .int .i64 0, .string ⟨#[]⟩, .slice none 0 0, .slice none 0 0], .int .i64 0]) w) := by
  have z1 : (w.alloc (Obj.cells #[.int .i64 S.ver, .slice A S.enums.length c, .slice A2 S.structs.length c2] 95)).heap.size = w.heap.size + 1 := by simp
  have D2 := Bx.new5 (w.alloc (Obj.cells #[.int .i64 S.ver, .slice A S.enums.length c, .slice A2 S.structs.length c2] 95)) 34 (.int .i64 0) (.int .i64 0) (.string ⟨#[]⟩) (.slice none 0 0) (.slice none 0 0)
  rw [z1] at D2
  have hab := ab2 w (Obj.cells #[.int .i64 S.ver, .slice A S.enums.length c, .slice A2 S.structs.length c2] 95) (Obj.cells #[.int .i64 0, .int .i64 0, .string ⟨#[]⟩, .slice none 0 0, .slice none 0 0] 34)
  go_enter Tryz.func92, Tryz.ntmps92
  go_upto_region 1 with (fail)
  generalize (w.alloc (Obj.cells #[.int .i64 S.ver, .slice A S.enums.length c, .slice A2 S.structs.length c2] 95)).alloc (Obj.cells #[.int .i64 0, .int .i64 0, .string ⟨#[]⟩, .slice none 0 0, .slice none 0 0] 34) = w9 at *
  clear z1
  have hT : (bs [0]).toList = [0] := toList_bs [0]
  have hs : (bs [0]).size = 1 := rfl
  have hI : (bs [0])[0].toNat = 0 := rfl
  have hW : wrap64 (((0 : Nat)) : Int) = 0 := IntWalk.wrap64_in _ (by omega)
  have q0 := D2.f 0 rfl
  have q1 := D2.f 1 rfl
  have q2 := D2.f 2 rfl
  have q3 := D2.f 3 rfl
  have q4 := D2.f 4 rfl
  have r0 := D2.c 0 rfl
  have r1 := D2.c 1 rfl
  have r2 := D2.c 2 rfl
  have r3 := D2.c 3 rfl
  have r4 := D2.c 4 rfl
  have lr := D2.lt
  have hfin := gb5 hab (b := w.heap.size + 1) (by omega) (.int .i64 1) (.int .i64 0) (.string ⟨#[]⟩) (.slice none 0 0) (.slice none 0 0)
  go_wp2_with fail
  refine bodyPost_ret (v := .tuple #[.agg #[.int .i64 1, .int .i64 0, .string ⟨#[]⟩, .slice none 0 0, .slice none 0 0], .int .i64 0]) (by simp [results, Tryz.results92, go_sem, r0, r1, r2, r3, r4]) rfl ?_
  exact ⟨rfl, hfin⟩
set_option maxRecDepth 100000 in
set_option maxHeartbeats 4000000 in
theorem boolean_1 (S : Sch) (A : Option Addr) (c : Nat) (A2 : Option Addr) (c2 : Nat) (w : World) :
    Calls Tryz.prog 92 #[.agg #[.int .i64 S.ver, .slice A S.enums.length c, .slice A2 S.structs.length c2], .string (bs [1])] w (Ib (.tuple #[.agg #[.int .i64 1, .int .i64 1, .string ⟨#[]⟩, .slice none 0 0, .slice none 0 0], .int .i64 0]) w) := by
  have z1 : (w.alloc (Obj.cells #[.int .i64 S.ver, .slice A S.enums.length c, .slice A2 S.structs.length c2] 95)).heap.size = w.heap.size + 1 := by simp
  have D2 := Bx.new5 (w.alloc (Obj.cells #[.int .i64 S.ver, .slice A S.enums.length c, .slice A2 S.structs.length c2] 95)) 34 (.int .i64 0) (.int .i64 0) (.string ⟨#[]⟩) (.slice none 0 0) (.slice none 0 0)
  rw [z1] at D2
  have hab := ab2 w (Obj.cells #[.int .i64 S.ver, .slice A S.enums.length c, .slice A2 S.structs.length c2] 95) (Obj.cells #[.int .i64 0, .int .i64 0, .string ⟨#[]⟩, .slice none 0 0, .slice none 0 0] 34)
  go_enter Tryz.func92, Tryz.ntmps92
  go_upto_region 1 with (fail)
  generalize (w.alloc (Obj.cells #[.int .i64 S.ver, .slice A S.enums.length c, .slice A2 S.structs.length c2] 95)).alloc (Obj.cells #[.int .i64 0, .int .i64 0, .string ⟨#[]⟩, .slice none 0 0, .slice none 0 0] 34) = w9 at *
  clear z1
  have hT : (bs [1]).toList = [1] := toList_bs [1]
  have hs : (bs [1]).size = 1 := rfl
  have hI : (bs [1])[0].toNat = 1 := rfl
  have hW : wrap64 (((1 : Nat)) : Int) = 1 := IntWalk.wrap64_in _ (by omega)
  have q0 := D2.f 0 rfl
  have q1 := D2.f 1 rfl
  have q2 := D2.f 2 rfl
  have q3 := D2.f 3 rfl
  have q4 := D2.f 4 rfl
  have r0 := D2.c 0 rfl
  have r1 := D2.c 1 rfl
  have r2 := D2.c 2 rfl
  have r3 := D2.c 3 rfl
  have r4 := D2.c 4 rfl
  have lr := D2.lt
  have hfin := gb5 hab (b := w.heap.size + 1) (by omega) (.int .i64 1) (.int .i64 1) (.string ⟨#[]⟩) (.slice none 0 0) (.slice none 0 0)
  go_wp2_with fail
  refine bodyPost_ret (v := .tuple #[.agg #[.int .i64 1, .int .i64 1, .string ⟨#[]⟩, .slice none 0 0, .slice none 0 0], .int .i64 0]) (by simp [results, Tryz.results92, go_sem, r0, r1, r2, r3, r4]) rfl ?_
  exact ⟨rfl, hfin⟩
set_option maxRecDepth 100000 in
set_option maxHeartbeats 4000000 in
theorem boolean_bad (S : Sch) (A : Option Addr) (c : Nat) (A2 : Option Addr) (c2 : Nat) (b : List UInt8) (h0 : b ≠ []) (h1 : b ≠ [0]) (h2 : b ≠ [1]) (w : World) :
    Calls Tryz.prog 92 #[.agg #[.int .i64 S.ver, .slice A S.enums.length c, .slice A2 S.structs.length c2], .string (bs b)] w (Ib (.tuple #[.agg #[.int .i64 0, .int .i64 0, .string ⟨#[]⟩, .slice none 0 0, .slice none 0 0], .int .i64 2]) w) := by
  have z1 : (w.alloc (Obj.cells #[.int .i64 S.ver, .slice A S.enums.length c, .slice A2 S.structs.length c2] 95)).heap.size = w.heap.size + 1 := by simp
  have D2 := Bx.new5 (w.alloc (Obj.cells #[.int .i64 S.ver, .slice A S.enums.length c, .slice A2 S.structs.length c2] 95)) 34 (.int .i64 0) (.int .i64 0) (.string ⟨#[]⟩) (.slice none 0 0) (.slice none 0 0)
  rw [z1] at D2
  have hab := ab2 w (Obj.cells #[.int .i64 S.ver, .slice A S.enums.length c, .slice A2 S.structs.length c2] 95) (Obj.cells #[.int .i64 0, .int .i64 0, .string ⟨#[]⟩, .slice none 0 0, .slice none 0 0] 34)
  go_enter Tryz.func92, Tryz.ntmps92
  go_upto_region 1 with (fail)
  generalize (w.alloc (Obj.cells #[.int .i64 S.ver, .slice A S.enums.length c, .slice A2 S.structs.length c2] 95)).alloc (Obj.cells #[.int .i64 0, .int .i64 0, .string ⟨#[]⟩, .slice none 0 0, .slice none 0 0] 34) = w9 at *
  clear z1
  have hT : (bs b).toList = b := toList_bs b
  have n0 : b.isEmpty = false := by cases b with | nil => exact absurd rfl h0 | cons x l => rfl
  have n1 : (b == [0]) = false := by rw [beq_eq_false_iff_ne]; exact h1
  have n2 : (b == [1]) = false := by rw [beq_eq_false_iff_ne]; exact h2
  clear h0 h1 h2
  have q0 := D2.f 0 rfl
  have q1 := D2.f 1 rfl
  have q2 := D2.f 2 rfl
  have q3 := D2.f 3 rfl
  have q4 := D2.f 4 rfl
  have r0 := D2.c 0 rfl
  have r1 := D2.c 1 rfl
  have r2 := D2.c 2 rfl
  have r3 := D2.c 3 rfl
  have r4 := D2.c 4 rfl
  have lr := D2.lt
  have hfin := gb5 hab (b := w.heap.size + 1) (by omega) (.int .i64 0) (.int .i64 0) (.string ⟨#[]⟩) (.slice none 0 0) (.slice none 0 0)
  go_wp2_with fail
  refine bodyPost_ret (v := .tuple #[.agg #[.int .i64 0, .int .i64 0, .string ⟨#[]⟩, .slice none 0 0, .slice none 0 0], .int .i64 2]) (by simp [results, Tryz.results92, go_sem, r0, r1, r2, r3, r4]) rfl ?_
  exact ⟨rfl, hfin⟩
end Go.Proofs.YthfodpbecddheaaGreatDoor
/-
  The reader's number: whole numbers with a sign. No conditions beyond those that each names.
-/
namespace Go.Proofs.YthfodpbecddheaaGreatDoor
open Go.RowKit
/-- The fault of a number's content. -/
def rnE (S : Sch) (t : Ty) (l : List UInt8) (v : Vl) : Int := if eU l = 0 then (if rU l = [] then vchk S t v else 2) else (eU l : Int)
set_option maxRecDepth 100000 in
set_option maxHeartbeats 4000000 in
theorem number_int (S : Sch) (A : Option Addr) (c : Nat) (A2 : Option Addr) (c2 : Nat) (s : Int) (nm : List UInt8) (G : Option Addr) (el : List Ty) (g : Nat) (l : List UInt8) (w : World) (hf : Few9 S) (hlk : lok9 S) (hasc : ∀ t ∈ S.structs, AscD t.fields) (hlo : lok ⟨2, s, nm, el⟩) (hl : l.length ≤ 1000000) (hS : Sc w S A A2) (hG : Rw TyA 4 w el G) :
    Calls Tryz.prog 96 #[.agg #[.int .i64 S.ver, .slice A S.enums.length c, .slice A2 S.structs.length c2], .agg #[.int .i64 2, .int .i64 s, .string (bs nm), .slice G el.length g], .string (bs l)] w (Ib (.tuple #[.agg #[.int .i64 2, .int .i64 (uz (nU l)), .string ⟨#[]⟩, .slice none 0 0, .slice none 0 0], .int .i64 (rnE S ⟨2, s, nm, el⟩ l ⟨2, uz (nU l), [], [], []⟩)]) w) := by
  have cK := fun W (hb : Below w.heap.size w W) n => devCheck_any S ⟨2, s, nm, el⟩ ⟨2, n, [], [], []⟩ (.agg #[.int .i64 S.ver, .slice A S.enums.length c, .slice A2 S.structs.length c2]) (.agg #[.int .i64 2, .int .i64 s, .string (bs nm), .slice G el.length g]) (.agg #[.int .i64 2, .int .i64 n, .string ⟨#[]⟩, .slice none 0 0, .slice none 0 0]) W hf hlk hasc hlo (by simp [vok, vok.voks, vok.foks]) ⟨A, c, A2, c2, rfl, Sc.next hb hS⟩ ⟨G, g, rfl, hG.next fun x p => TyA.next hb x p⟩ ⟨none, 0, none, 0, rfl, .inl rfl, .inl rfl⟩
  have cI := fun q W (h : Rdr W q l 0) => ir_cast (rInt_any q l 0 W (by omega) h) (v' := .int .i64 (uz (nU l))) (l' := aL 0 (eU l) l (rU l)) (e' := eU l) (if_pos rfl) rfl rfl
  have hr0 : eU l = 0 → aL 0 (eU l) l (rU l) = rU l := fun h => by unfold aL; rw [if_pos ⟨rfl, h⟩]
  have e1 : eU l ≠ 0 → rnE S ⟨2, s, nm, el⟩ l ⟨2, uz (nU l), [], [], []⟩ = (eU l : Int) := fun h => if_neg h
  have e2 : eU l = 0 → rU l ≠ [] → rnE S ⟨2, s, nm, el⟩ l ⟨2, uz (nU l), [], [], []⟩ = 2 := fun h h' => by unfold rnE; rw [if_pos h, if_neg h']
  have e3 : eU l = 0 → rU l = [] → rnE S ⟨2, s, nm, el⟩ l ⟨2, uz (nU l), [], [], []⟩ = vchk S ⟨2, s, nm, el⟩ ⟨2, uz (nU l), [], [], []⟩ := fun h h' => by unfold rnE; rw [if_pos h, if_pos h']
  replace cK := fun W hb => cK W hb (uz (nU l))
  generalize vchk S ⟨2, s, nm, el⟩ ⟨2, uz (nU l), [], [], []⟩ = y at *
  generalize rnE S ⟨2, s, nm, el⟩ l ⟨2, uz (nU l), [], [], []⟩ = re at *
  generalize aL 0 (eU l) l (rU l) = l' at *
  generalize uz (nU l) = n at *
  generalize eU l = x at *
  generalize rU l = r at *
  have HH := Lib.hid (And.intro cK (And.intro hr0 (And.intro e1 (And.intro e2 e3))))
  clear cK hr0 e1 e2 e3 hf hlk hasc hlo hl hS hG
  have D1 := (Bx.new3 w 95 (.int .i64 S.ver) (.slice A S.enums.length c) (.slice A2 S.structs.length c2)).next (ab2 _ (Obj.cells #[.int .i64 2, .int .i64 s, .string (bs nm), .slice G el.length g] 29) (Obj.cells #[.int .i64 0, .int .i64 0, .string ⟨#[]⟩, .slice none 0 0, .slice none 0 0] 34))
  have D2 := (Bx.new4 (w.alloc (Obj.cells #[.int .i64 S.ver, .slice A S.enums.length c, .slice A2 S.structs.length c2] 95)) 29 (.int .i64 2) (.int .i64 s) (.string (bs nm)) (.slice G el.length g)).next (ab1 _ (Obj.cells #[.int .i64 0, .int .i64 0, .string ⟨#[]⟩, .slice none 0 0, .slice none 0 0] 34))
  have D3 := Bx.new5 ((w.alloc (Obj.cells #[.int .i64 S.ver, .slice A S.enums.length c, .slice A2 S.structs.length c2] 95)).alloc (Obj.cells #[.int .i64 2, .int .i64 s, .string (bs nm), .slice G el.length g] 29)) 34 (.int .i64 0) (.int .i64 0) (.string ⟨#[]⟩) (.slice none 0 0) (.slice none 0 0)
  have z1 : (w.alloc (Obj.cells #[.int .i64 S.ver, .slice A S.enums.length c, .slice A2 S.structs.length c2] 95)).heap.size = w.heap.size + 1 := by simp
  have z2 : ((w.alloc (Obj.cells #[.int .i64 S.ver, .slice A S.enums.length c, .slice A2 S.structs.length c2] 95)).alloc (Obj.cells #[.int .i64 2, .int .i64 s, .string (bs nm), .slice G el.length g] 29)).heap.size = w.heap.size + 1 + 1 := by simp
  have z3 : (((w.alloc (Obj.cells #[.int .i64 S.ver, .slice A S.enums.length c, .slice A2 S.structs.length c2] 95)).alloc (Obj.cells #[.int .i64 2, .int .i64 s, .string (bs nm), .slice G el.length g] 29)).alloc (Obj.cells #[.int .i64 0, .int .i64 0, .string ⟨#[]⟩, .slice none 0 0, .slice none 0 0] 34)).heap.size = w.heap.size + 1 + 1 + 1 := by simp
  rw [z1] at D2
  rw [z2] at D3
  have hab := ab3 w (Obj.cells #[.int .i64 S.ver, .slice A S.enums.length c, .slice A2 S.structs.length c2] 95) (Obj.cells #[.int .i64 2, .int .i64 s, .string (bs nm), .slice G el.length g] 29) (Obj.cells #[.int .i64 0, .int .i64 0, .string ⟨#[]⟩, .slice none 0 0, .slice none 0 0] 34)
  go_enter Tryz.func96, Tryz.ntmps96
  go_upto_region 1 with (fail)
  generalize (((w.alloc (Obj.cells #[.int .i64 S.ver, .slice A S.enums.length c, .slice A2 S.structs.length c2] 95)).alloc (Obj.cells #[.int .i64 2, .int .i64 s, .string (bs nm), .slice G el.length g] 29)).alloc (Obj.cells #[.int .i64 0, .int .i64 0, .string ⟨#[]⟩, .slice none 0 0, .slice none 0 0] 34)) = w0 at *
  have hz3 : w.heap.size + 1 + 1 < w0.heap.size := by omega
  clear z1 z2 z3
  have k2 := D2.c 0 rfl
  have l2 := D2.lt
  go_wp2_with fail
  refine (new_any l w0).mono ?_
  rintro e w2 ⟨q, rfl, hq0, hb2, hR⟩
  have hq2 := hR.lt
  have hbx := ab1 w2 (Obj.cells #[.int .i64 2, .int .i64 0, .string ⟨#[]⟩, .slice none 0 0, .slice none 0 0] 34)
  have D5 := Bx.new5 w2 34 (.int .i64 2) (.int .i64 0) (.string ⟨#[]⟩) (.slice none 0 0) (.slice none 0 0)
  replace D1 := (D1.next hb2).next hbx
  replace D2 := (D2.next hb2).next hbx
  replace D3 := (D3.next hb2).next hbx
  replace hab := Below.next hab (Below.next hb2 hbx)
  have hR3 := hR.next hbx
  clear k2 l2
  have k2 := ((D2.c 0 rfl : _))
  have k2' : w2.cell? ⟨w.heap.size + 1, 0, none⟩ = some (.int .i64 2) := by
    have h := k2
    rwa [hbx.cell (by show w.heap.size + 1 < w2.heap.size; omega)] at h
  clear k2
  go_upto_region 3 with (fail)
  generalize hz : w2.heap.size = z at *
  generalize w2.alloc (Obj.cells #[.int .i64 2, .int .i64 0, .string ⟨#[]⟩, .slice none 0 0, .slice none 0 0] 34) = w3 at *
  clear hb2 hbx k2' hR hz w2
  have k2 := D2.c 0 rfl
  have l2 := D2.lt
  have c1 := cI q w3 hR3
  clear cI
  go_upto_region 4 with (fail)
  go_wp2_with fail
  refine c1.mono ?_
  rintro e w4 ⟨rfl, hg, hR4⟩
  replace D1 := D1.gb hg (by omega)
  replace D2 := D2.gb hg (by omega)
  replace D3 := D3.gb hg (by omega)
  replace D5 := D5.gb hg (by omega)
  replace hab : Below w.heap.size w w4 := hab.grown hg hab.size (fun b e => by injection e with e; omega)
  clear hg k2 l2 c1 hR3 w3
  have v1 := D5.c 1 rfl
  have u1 := D5.f 1 rfl
  have lv := D5.lt
  have gs := gb_set1 w4 ⟨z, 1, none⟩ (.int .i64 n)
  replace D1 := D1.gb gs (by show w.heap.size ≠ z; omega)
  replace D2 := D2.gb gs (by show w.heap.size + 1 ≠ z; omega)
  replace D3 := D3.gb gs (by show w.heap.size + 1 + 1 ≠ z; omega)
  replace D5 : Bx _ z [.int .i64 2, .int .i64 n, .string ⟨#[]⟩, .slice none 0 0, .slice none 0 0] := D5.put1 1 (.int .i64 n)
  replace hab : Below w.heap.size w (w4.setCell ⟨z, 1, none⟩ (.int .i64 n)) := hab.setCell (by show w.heap.size ≤ z; omega) _
  replace hR4 := hR4.off gs (by show q ≠ z; omega)
  clear gs
  go_upto_region 6 with (fail)
  clear v1 u1 lv
  generalize w4.setCell ⟨z, 1, none⟩ (.int .i64 n) = w5 at *
  clear w4
  go_wp2_with fail
  refine (err_any q _ _ w5 hR4).mono ?_
  rintro e w6 ⟨rfl, rfl⟩
  have v0 := D5.c 0 rfl
  have v1 := D5.c 1 rfl
  have v2 := D5.c 2 rfl
  have v3 := D5.c 3 rfl
  have v4 := D5.c 4 rfl
  have v5 := D5.lt
  by_cases hx : x = 0
  case neg =>
    have hx0 : ((x : Int) != 0) = true := by simpa using hx
    obtain rfl := HH.out.2.2.1 hx
    clear HH
    have q0 := D3.f 0 rfl
    have q1 := D3.f 1 rfl
    have q2 := D3.f 2 rfl
    have q3 := D3.f 3 rfl
    have q4 := D3.f 4 rfl
    have r0 := D3.c 0 rfl
    have r1 := D3.c 1 rfl
    have r2 := D3.c 2 rfl
    have r3 := D3.c 3 rfl
    have r4 := D3.c 4 rfl
    have lr := D3.lt
    have hfin := gb5 hab (b := w.heap.size + 1 + 1) (by omega) (.int .i64 2) (.int .i64 n) (.string ⟨#[]⟩) (.slice none 0 0) (.slice none 0 0)
    go_wp2_with fail
    refine bodyPost_ret (v := .tuple #[.agg #[.int .i64 2, .int .i64 n, .string ⟨#[]⟩, .slice none 0 0, .slice none 0 0], .int .i64 (x : Int)]) (by simp [results, Tryz.results96, go_sem, r0, r1, r2, r3, r4]) rfl ?_
    exact ⟨rfl, hfin⟩
  case pos =>
    obtain rfl := HH.out.2.1 hx
    have e2 := HH.out.2.2.2.1 hx
    have e3 := HH.out.2.2.2.2 hx
    have HE := Lib.hid (And.intro HH.out.1 (And.intro e2 e3))
    clear HH e2 e3
    subst hx
    have hx0 : (((0 : Nat) : Int) != 0) = false := rfl
    go_wp2_with fail
    refine (left_any q _ _ w5 hR4).mono ?_
    rintro e w6 ⟨rfl, rfl⟩
    by_cases hr : l' = []
    case neg =>
      obtain rfl := HE.out.2.1 hr
      have hl0 : decide (0 < l'.length) = true := by
        cases l' with
        | nil => exact absurd rfl hr
        | cons a b => simp
      generalize l'.length = L at *
      clear HE hr
      have q0 := D3.f 0 rfl
      have q1 := D3.f 1 rfl
      have q2 := D3.f 2 rfl
      have q3 := D3.f 3 rfl
      have q4 := D3.f 4 rfl
      have r0 := D3.c 0 rfl
      have r1 := D3.c 1 rfl
      have r2 := D3.c 2 rfl
      have r3 := D3.c 3 rfl
      have r4 := D3.c 4 rfl
      have lr := D3.lt
      have hfin := gb5 hab (b := w.heap.size + 1 + 1) (by omega) (.int .i64 2) (.int .i64 n) (.string ⟨#[]⟩) (.slice none 0 0) (.slice none 0 0)
      go_wp2_with fail
      refine bodyPost_ret (v := .tuple #[.agg #[.int .i64 2, .int .i64 n, .string ⟨#[]⟩, .slice none 0 0, .slice none 0 0], .int .i64 2]) (by simp [results, Tryz.results96, go_sem, r0, r1, r2, r3, r4]) rfl ?_
      exact ⟨rfl, hfin⟩
    case pos =>
      obtain rfl := HE.out.2.2 hr
      subst hr
      have hl0 : decide (((([] : List UInt8).length : Nat) : Int) > 0) = false := rfl
      have k0 := D1.c 0 rfl
      have k1 := D1.c 1 rfl
      have k2 := D1.c 2 rfl
      have j0 := D2.c 0 rfl
      have j1 := D2.c 1 rfl
      have j2 := D2.c 2 rfl
      have j3 := D2.c 3 rfl
      have l3 := D3.lt
      go_upto_region 11 with (fail)
      refine wp_region_seqN (by kernel_rfl) (FF [(3, Fact.at_ w5 (.pointer (some ⟨w.heap.size, 0, none⟩))), (4, Fact.at_ w5 (.pointer (some ⟨w.heap.size + 1, 0, none⟩))), (9, Fact.at_ w5 (.pointer (some ⟨z, 0, none⟩))), (36, Fact.at_ w5 (.agg #[.int .i64 2, .int .i64 n, .string ⟨#[]⟩, .slice none 0 0, .slice none 0 0])), (37, Fact.at_ w5 (.pointer (some ⟨w.heap.size, 0, none⟩))), (38, Fact.at_ w5 (.agg #[.int .i64 S.ver, .slice A S.enums.length c, .slice A2 S.structs.length c2])), (39, Fact.at_ w5 (.agg #[.int .i64 2, .int .i64 s, .string (bs nm), .slice G el.length g])), (40, Fact.at_ w5 (.agg #[.int .i64 2, .int .i64 n, .string ⟨#[]⟩, .slice none 0 0, .slice none 0 0])), (41, Fact.at_ w5 (.int .i64 re))]) [3, 4, 9] [] 42 6 [36, 37, 38, 39, 40, 41] rfl (by kernel_rfl) (by kernel_rfl) (by decide) (by kernel_rfl) (by kernel_rfl) ?_ ?_ ?_
      · intro t9 ht9
        simp only [List.mem_cons, List.not_mem_nil, or_false] at ht9
        rcases ht9 with rfl | rfl | rfl
        · exact ⟨rfl, Below.refl _ _⟩
        · exact ⟨rfl, Below.refl _ _⟩
        · exact ⟨rfl, Below.refl _ _⟩
      · refine fcs ⟨Ob.new_ (at1 9 36 (.pointer (some ⟨z, 0, none⟩)) (.agg #[.int .i64 2, .int .i64 n, .string ⟨#[]⟩, .slice none 0 0, .slice none 0 0]) rfl (by first | exact .inl rfl | exact .inr ⟨_, _, _, rfl, rfl, by kernel_rfl, by decide, rfl⟩) (by kernel_rfl) rfl rfl (fun a9 W9 hb9 h9 => by have g0 := cell_next hb9 v0; have g1 := cell_next hb9 v1; have g2 := cell_next hb9 v2; have g3 := cell_next hb9 v3; have g4 := cell_next hb9 v4; simp [execOp, h9] <;> go_simp)) (by kernel_rfl), ?_⟩
        refine fcs ⟨Ob.new_ (at1 3 37 (.pointer (some ⟨w.heap.size, 0, none⟩)) (.pointer (some ⟨w.heap.size, 0, none⟩)) rfl (by first | exact .inl rfl | exact .inr ⟨_, _, _, rfl, rfl, by kernel_rfl, by decide, rfl⟩) (by kernel_rfl) rfl rfl (fun a9 W9 hb9 h9 => by simp [execOp, h9] <;> go_simp)) (by kernel_rfl), ?_⟩
        refine fcs ⟨Ob.new_ (at1 37 38 (.pointer (some ⟨w.heap.size, 0, none⟩)) (.agg #[.int .i64 S.ver, .slice A S.enums.length c, .slice A2 S.structs.length c2]) rfl (by first | exact .inl rfl | exact .inr ⟨_, _, _, rfl, rfl, by kernel_rfl, by decide, rfl⟩) (by kernel_rfl) rfl rfl (fun a9 W9 hb9 h9 => by have g0 := cell_next hb9 k0; have g1 := cell_next hb9 k1; have g2 := cell_next hb9 k2; simp [execOp, h9] <;> go_simp)) (by kernel_rfl), ?_⟩
        refine fcs ⟨Ob.new_ (at1 4 39 (.pointer (some ⟨w.heap.size + 1, 0, none⟩)) (.agg #[.int .i64 2, .int .i64 s, .string (bs nm), .slice G el.length g]) rfl (by first | exact .inl rfl | exact .inr ⟨_, _, _, rfl, rfl, by kernel_rfl, by decide, rfl⟩) (by kernel_rfl) rfl rfl (fun a9 W9 hb9 h9 => by have g0 := cell_next hb9 j0; have g1 := cell_next hb9 j1; have g2 := cell_next hb9 j2; have g3 := cell_next hb9 j3; simp [execOp, h9] <;> go_simp)) (by kernel_rfl), ?_⟩
        refine fcs ⟨Ob.new_ (at1 9 40 (.pointer (some ⟨z, 0, none⟩)) (.agg #[.int .i64 2, .int .i64 n, .string ⟨#[]⟩, .slice none 0 0, .slice none 0 0]) rfl (by first | exact .inl rfl | exact .inr ⟨_, _, _, rfl, rfl, by kernel_rfl, by decide, rfl⟩) (by kernel_rfl) rfl rfl (fun a9 W9 hb9 h9 => by have g0 := cell_next hb9 v0; have g1 := cell_next hb9 v1; have g2 := cell_next hb9 v2; have g3 := cell_next hb9 v3; have g4 := cell_next hb9 v4; simp [execOp, h9] <;> go_simp)) (by kernel_rfl), ?_⟩
        refine fcs ⟨Ob.new_ (atc3 16 38 39 40 41 (.agg #[.int .i64 S.ver, .slice A S.enums.length c, .slice A2 S.structs.length c2]) (.agg #[.int .i64 2, .int .i64 s, .string (bs nm), .slice G el.length g]) (.agg #[.int .i64 2, .int .i64 n, .string ⟨#[]⟩, .slice none 0 0, .slice none 0 0]) (.int .i64 re) _ rfl rfl (by first | exact .inl rfl | exact .inr ⟨_, _, _, rfl, rfl, by kernel_rfl, by decide, rfl⟩) (by kernel_rfl) (by kernel_rfl) (by kernel_rfl) rfl rfl rfl (by kernel_rfl) rfl (fun W9 hb9 => HE.out.1 W9 (Below.next hab hb9))) (by kernel_rfl), ?_⟩
        exact fnl
      intro vv wv hvv hbv _ _
      have hv36 := (hvv 36 (by decide)).1
      have hv37 := (hvv 37 (by decide)).1
      have hv38 := (hvv 38 (by decide)).1
      have hv39 := (hvv 39 (by decide)).1
      have hv40 := (hvv 40 (by decide)).1
      have hv41 := (hvv 41 (by decide)).1
      simp only [lay, List.foldl_cons, List.foldl_nil, List.setIfInBounds_toArray, List.set_cons_succ, List.set_cons_zero, List.drop_succ_cons, List.drop_zero, hv36, hv37, hv38, hv39, hv40, hv41]
      replace D3 := D3.next hbv
      replace hab := Below.next hab hbv
      clear hvv hv36 hv37 hv38 hv39 hv40 hv41 hbv k0 k1 k2 j0 j1 j2 j3 v0 v1 v2 v3 v4 v5 l3 hR4 D1 D2 D5 HE hl0 hx0
      have q0 := D3.f 0 rfl
      have q1 := D3.f 1 rfl
      have q2 := D3.f 2 rfl
      have q3 := D3.f 3 rfl
      have q4 := D3.f 4 rfl
      have r0 := D3.c 0 rfl
      have r1 := D3.c 1 rfl
      have r2 := D3.c 2 rfl
      have r3 := D3.c 3 rfl
      have r4 := D3.c 4 rfl
      have lr := D3.lt
      have hfin := gb5 hab (b := w.heap.size + 1 + 1) (by omega) (.int .i64 2) (.int .i64 n) (.string ⟨#[]⟩) (.slice none 0 0) (.slice none 0 0)
      go_wp2_with fail
      refine bodyPost_ret (v := .tuple #[.agg #[.int .i64 2, .int .i64 n, .string ⟨#[]⟩, .slice none 0 0, .slice none 0 0], .int .i64 re]) (by simp [results, Tryz.results96, go_sem, r0, r1, r2, r3, r4]) rfl ?_
      exact ⟨rfl, hfin⟩
end Go.Proofs.YthfodpbecddheaaGreatDoor
/-
  The reader's content: of booleans and numbers as their readers give it. No conditions beyond those that each names.
-/
namespace Go.Proofs.YthfodpbecddheaaGreatDoor
open Go.RowKit
set_option maxRecDepth 100000 in
set_option maxHeartbeats 4000000 in
/-- A boolean. -/
theorem rcontent_bool (S : Sch) (A : Option Addr) (c : Nat) (A2 : Option Addr) (c2 : Nat) (s : Int) (nm : List UInt8) (G : Option Addr) (e g : Nat) (b : List UInt8) (q n er : Int) (x : ByteArray) (w : World)
    (h : ∀ W, Below w.heap.size w W → Calls Tryz.prog 92 #[.agg #[.int .i64 S.ver, .slice A S.enums.length c, .slice A2 S.structs.length c2], .string (bs b)] W (Ib (.tuple #[.agg #[.int .i64 q, .int .i64 n, .string x, .slice none 0 0, .slice none 0 0], .int .i64 er]) W)) :
    Calls Tryz.prog 45 #[.agg #[.int .i64 S.ver, .slice A S.enums.length c, .slice A2 S.structs.length c2], .agg #[.int .i64 1, .int .i64 s, .string (bs nm), .slice G e g], .string (bs b)] w (Ib (.tuple #[.agg #[.int .i64 q, .int .i64 n, .string x, .slice none 0 0, .slice none 0 0], .int .i64 er]) w) := by
  have D1 := (Bx.new3 w 95 (.int .i64 S.ver) (.slice A S.enums.length c) (.slice A2 S.structs.length c2)).next (ab2 _ (Obj.cells #[.int .i64 1, .int .i64 s, .string (bs nm), .slice G e g] 29) (Obj.cells #[.int .i64 0, .int .i64 0, .string ⟨#[]⟩, .slice none 0 0, .slice none 0 0] 34))
  have D2 := (Bx.new4 (w.alloc (Obj.cells #[.int .i64 S.ver, .slice A S.enums.length c, .slice A2 S.structs.length c2] 95)) 29 (.int .i64 1) (.int .i64 s) (.string (bs nm)) (.slice G e g)).next (ab1 _ (Obj.cells #[.int .i64 0, .int .i64 0, .string ⟨#[]⟩, .slice none 0 0, .slice none 0 0] 34))
  have D3 := Bx.new5 ((w.alloc (Obj.cells #[.int .i64 S.ver, .slice A S.enums.length c, .slice A2 S.structs.length c2] 95)).alloc (Obj.cells #[.int .i64 1, .int .i64 s, .string (bs nm), .slice G e g] 29)) 34 (.int .i64 0) (.int .i64 0) (.string ⟨#[]⟩) (.slice none 0 0) (.slice none 0 0)
  have z1 : (w.alloc (Obj.cells #[.int .i64 S.ver, .slice A S.enums.length c, .slice A2 S.structs.length c2] 95)).heap.size = w.heap.size + 1 := by simp
  have z2 : ((w.alloc (Obj.cells #[.int .i64 S.ver, .slice A S.enums.length c, .slice A2 S.structs.length c2] 95)).alloc (Obj.cells #[.int .i64 1, .int .i64 s, .string (bs nm), .slice G e g] 29)).heap.size = w.heap.size + 1 + 1 := by simp
  rw [z1] at D2
  rw [z2] at D3
  have hab := ab3 w (Obj.cells #[.int .i64 S.ver, .slice A S.enums.length c, .slice A2 S.structs.length c2] 95) (Obj.cells #[.int .i64 1, .int .i64 s, .string (bs nm), .slice G e g] 29) (Obj.cells #[.int .i64 0, .int .i64 0, .string ⟨#[]⟩, .slice none 0 0, .slice none 0 0] 34)
  go_enter Tryz.func45, Tryz.ntmps45
  go_upto_region 1 with (fail)
  generalize (((w.alloc (Obj.cells #[.int .i64 S.ver, .slice A S.enums.length c, .slice A2 S.structs.length c2] 95)).alloc (Obj.cells #[.int .i64 1, .int .i64 s, .string (bs nm), .slice G e g] 29)).alloc (Obj.cells #[.int .i64 0, .int .i64 0, .string ⟨#[]⟩, .slice none 0 0, .slice none 0 0] 34)) = w0 at *
  clear z1 z2
  have k0 := D1.c 0 rfl
  have k1 := D1.c 1 rfl
  have k2 := D1.c 2 rfl
  have lk := D1.lt
  have j0 := D2.c 0 rfl
  have j1 := D2.c 1 rfl
  have j2 := D2.c 2 rfl
  have j3 := D2.c 3 rfl
  have lj := D2.lt
  have c1 := h w0 hab
  clear h
  go_wp2_with fail
  refine c1.mono ?_
  rintro e9 w9 ⟨rfl, hb2⟩
  replace D3 := D3.next hb2
  replace hab := Below.next hab hb2
  clear hb2 k0 k1 k2 lk j0 j1 j2 j3 lj c1 D1 D2
  have q0 := D3.f 0 rfl
  have q1 := D3.f 1 rfl
  have q2 := D3.f 2 rfl
  have q3 := D3.f 3 rfl
  have q4 := D3.f 4 rfl
  have r0 := D3.c 0 rfl
  have r1 := D3.c 1 rfl
  have r2 := D3.c 2 rfl
  have r3 := D3.c 3 rfl
  have r4 := D3.c 4 rfl
  have lr := D3.lt
  have hfin := gb5 hab (b := w.heap.size + 1 + 1) (by omega) (.int .i64 q) (.int .i64 n) (.string x) (.slice none 0 0) (.slice none 0 0)
  go_wp2_with fail
  refine bodyPost_ret (v := .tuple #[.agg #[.int .i64 q, .int .i64 n, .string x, .slice none 0 0, .slice none 0 0], .int .i64 er]) (by simp [results, Tryz.results45, go_sem, r0, r1, r2, r3, r4]) rfl ?_
  exact ⟨rfl, hfin⟩
set_option maxRecDepth 100000 in
set_option maxHeartbeats 4000000 in
/-- A number with a sign. -/
theorem rcontent_int (S : Sch) (A : Option Addr) (c : Nat) (A2 : Option Addr) (c2 : Nat) (s : Int) (nm : List UInt8) (G : Option Addr) (e g : Nat) (b : List UInt8) (q n er : Int) (x : ByteArray) (w : World)
    (h : ∀ W, Below w.heap.size w W → Calls Tryz.prog 96 #[.agg #[.int .i64 S.ver, .slice A S.enums.length c, .slice A2 S.structs.length c2], .agg #[.int .i64 2, .int .i64 s, .string (bs nm), .slice G e g], .string (bs b)] W (Ib (.tuple #[.agg #[.int .i64 q, .int .i64 n, .string x, .slice none 0 0, .slice none 0 0], .int .i64 er]) W)) :
    Calls Tryz.prog 45 #[.agg #[.int .i64 S.ver, .slice A S.enums.length c, .slice A2 S.structs.length c2], .agg #[.int .i64 2, .int .i64 s, .string (bs nm), .slice G e g], .string (bs b)] w (Ib (.tuple #[.agg #[.int .i64 q, .int .i64 n, .string x, .slice none 0 0, .slice none 0 0], .int .i64 er]) w) := by
  have D1 := (Bx.new3 w 95 (.int .i64 S.ver) (.slice A S.enums.length c) (.slice A2 S.structs.length c2)).next (ab2 _ (Obj.cells #[.int .i64 2, .int .i64 s, .string (bs nm), .slice G e g] 29) (Obj.cells #[.int .i64 0, .int .i64 0, .string ⟨#[]⟩, .slice none 0 0, .slice none 0 0] 34))
  have D2 := (Bx.new4 (w.alloc (Obj.cells #[.int .i64 S.ver, .slice A S.enums.length c, .slice A2 S.structs.length c2] 95)) 29 (.int .i64 2) (.int .i64 s) (.string (bs nm)) (.slice G e g)).next (ab1 _ (Obj.cells #[.int .i64 0, .int .i64 0, .string ⟨#[]⟩, .slice none 0 0, .slice none 0 0] 34))
  have D3 := Bx.new5 ((w.alloc (Obj.cells #[.int .i64 S.ver, .slice A S.enums.length c, .slice A2 S.structs.length c2] 95)).alloc (Obj.cells #[.int .i64 2, .int .i64 s, .string (bs nm), .slice G e g] 29)) 34 (.int .i64 0) (.int .i64 0) (.string ⟨#[]⟩) (.slice none 0 0) (.slice none 0 0)
  have z1 : (w.alloc (Obj.cells #[.int .i64 S.ver, .slice A S.enums.length c, .slice A2 S.structs.length c2] 95)).heap.size = w.heap.size + 1 := by simp
  have z2 : ((w.alloc (Obj.cells #[.int .i64 S.ver, .slice A S.enums.length c, .slice A2 S.structs.length c2] 95)).alloc (Obj.cells #[.int .i64 2, .int .i64 s, .string (bs nm), .slice G e g] 29)).heap.size = w.heap.size + 1 + 1 := by simp
  rw [z1] at D2
  rw [z2] at D3
  have hab := ab3 w (Obj.cells #[.int .i64 S.ver, .slice A S.enums.length c, .slice A2 S.structs.length c2] 95) (Obj.cells #[.int .i64 2, .int .i64 s, .string (bs nm), .slice G e g] 29) (Obj.cells #[.int .i64 0, .int .i64 0, .string ⟨#[]⟩, .slice none 0 0, .slice none 0 0] 34)
  go_enter Tryz.func45, Tryz.ntmps45
  go_upto_region 1 with (fail)
  generalize (((w.alloc (Obj.cells #[.int .i64 S.ver, .slice A S.enums.length c, .slice A2 S.structs.length c2] 95)).alloc (Obj.cells #[.int .i64 2, .int .i64 s, .string (bs nm), .slice G e g] 29)).alloc (Obj.cells #[.int .i64 0, .int .i64 0, .string ⟨#[]⟩, .slice none 0 0, .slice none 0 0] 34)) = w0 at *
  clear z1 z2
  have k0 := D1.c 0 rfl
  have k1 := D1.c 1 rfl
  have k2 := D1.c 2 rfl
  have lk := D1.lt
  have j0 := D2.c 0 rfl
  have j1 := D2.c 1 rfl
  have j2 := D2.c 2 rfl
  have j3 := D2.c 3 rfl
  have lj := D2.lt
  have c1 := h w0 hab
  clear h
  go_wp2_with fail
  refine c1.mono ?_
  rintro e9 w9 ⟨rfl, hb2⟩
  replace D3 := D3.next hb2
  replace hab := Below.next hab hb2
  clear hb2 k0 k1 k2 lk j0 j1 j2 j3 lj c1 D1 D2
  have q0 := D3.f 0 rfl
  have q1 := D3.f 1 rfl
  have q2 := D3.f 2 rfl
  have q3 := D3.f 3 rfl
  have q4 := D3.f 4 rfl
  have r0 := D3.c 0 rfl
  have r1 := D3.c 1 rfl
  have r2 := D3.c 2 rfl
  have r3 := D3.c 3 rfl
  have r4 := D3.c 4 rfl
  have lr := D3.lt
  have hfin := gb5 hab (b := w.heap.size + 1 + 1) (by omega) (.int .i64 q) (.int .i64 n) (.string x) (.slice none 0 0) (.slice none 0 0)
  go_wp2_with fail
  refine bodyPost_ret (v := .tuple #[.agg #[.int .i64 q, .int .i64 n, .string x, .slice none 0 0, .slice none 0 0], .int .i64 er]) (by simp [results, Tryz.results45, go_sem, r0, r1, r2, r3, r4]) rfl ?_
  exact ⟨rfl, hfin⟩
end Go.Proofs.YthfodpbecddheaaGreatDoor
/-
  The developers' Without, of any value. No conditions beyond those that each names.
-/
namespace Go.Proofs.YthfodpbecddheaaGreatDoor
open Go.RowKit Go.Shelf Go.Sort
end Go.Proofs.YthfodpbecddheaaGreatDoor
/-
  The reference's Without, of any value. No conditions beyond those that each names.
-/
namespace Go.Proofs.YthfodpbecddheaaGreatDoor
open Go.RowKit Go.Sort
theorem own_slice2 {w : World} {B : Nat} {e : TypeId} {z n : Nat} {v : Value} {xs : List Value} (h : w.ownsRow B e z v n xs) : ∃ A k c, v = .slice A k c := by
  rcases h.2 with ⟨h1, -⟩ | ⟨g, cap, cur, h1, -⟩
  · exact ⟨_, _, _, h1⟩
  · exact ⟨_, _, _, h1⟩
end Go.Proofs.YthfodpbecddheaaGreatDoor
/-
  The schemas and the types of the law, as data. No conditions beyond those that each names.
-/
namespace Go.Proofs.YthfodpbecddheaaGreatDoor
open Go.RowKit
def ScP (S : Sch) (w : World) (e : Ending) (w' : World) : Prop := ∃ v, e = .returned v ∧ ScV w' S v ∧ Below w.heap.size w w'
theorem heap_alloc_size (w : World) (o : Obj) : (w.alloc o).heap.size = w.heap.size + 1 := by simp
theorem heap_new (w : World) (o : Obj) : (w.alloc o).heap[w.heap.size]? = some o := by
  rw [show (w.alloc o).heap = w.heap.push o from rfl]
  exact Array.getElem?_push_size
theorem Bx.newA (w : World) (t : TypeId) (a : Array Value) : Bx (w.alloc (Obj.cells a t)) w.heap.size a.toList :=
  ⟨by simp, fun j v e => by
    have e2 : a[j]? = some v := by simpa using e
    have h1 := heap_new w (Obj.cells a t)
    refine ⟨?_, ?_⟩
    · unfold World.cell?
      simp only [h1]
      exact e2
    · unfold World.frozen?
      simp only [h1]
      simp⟩
end Go.Proofs.YthfodpbecddheaaGreatDoor


/-
  The developers' check of a struct. No conditions beyond those that each names.
-/
import Derived.Test.YtlebppjldoodgaaM15
import Derived.Test.YtlebppjldoodgaaM18
import Derived.Test.YtlebppjldoodgaaM17
namespace Go.Proofs.Ytlebppjldoodgaa
open Go.RowKit
def lok9 (S : Sch) : Prop := ∀ t ∈ S.structs, ∀ f ∈ t.fields, lok f.type
theorem fst_st0' {S : Sch} (x : List UInt8) : ((fst_ St.name S.structs x).getD st0) = st0 ∨ ((fst_ St.name S.structs x).getD st0) ∈ S.structs := by
  cases e : fst_ St.name S.structs x with
  | none => exact .inl rfl
  | some t => exact .inr (fst_mem e).1
theorem lok_fd {S : Sch} (h : lok9 S) (nm : List UInt8) (m : Int) : lok ((fst_ Fd.num ((fst_ St.name S.structs nm).getD st0).fields m).getD fd0).type := by
  cases e : fst_ Fd.num ((fst_ St.name S.structs nm).getD st0).fields m with
  | none => show lok (.mk 0 0 [] []); simp [lok, lok.loks]
  | some x =>
    rcases fst_st0' (S := S) nm with h0 | h0
    · rw [h0] at e; cases e
    · exact h _ h0 _ (fst_mem e).1
theorem asc_st {S : Sch} (h : ∀ t ∈ S.structs, AscD t.fields) (nm : List UInt8) : AscD ((fst_ St.name S.structs nm).getD st0).fields := by
  rcases fst_st0' (S := S) nm with h0 | h0
  · rw [h0]; exact List.Pairwise.nil
  · exact h _ h0
theorem few_st {S : Sch} (h : Few9 S) (nm : List UInt8) : ((fst_ St.name S.structs nm).getD st0).fields.length ≤ 1000 := by
  rcases fst_st0' (S := S) nm with h0 | h0
  · rw [h0]; decide
  · exact (h.st _ h0).1
set_option maxRecDepth 100000 in
set_option maxHeartbeats 8000000 in
theorem structure_any (S : Sch) (N : Nat) (hI : CkI S N) (A : Option Addr) (c : Nat) (A2 : Option Addr) (c2 : Nat) (k s : Int) (nm : List UInt8) (G : Option Addr) (g1 g2 : Nat) (q n : Int) (st : ByteArray) (B1 : Option Addr) (b1 b2 : Nat) (f : List (Int × Vl)) (B : Option Addr) (b : Nat) (w : World)
    (hf : Few9 S) (hlk : lok9 S) (hasc : ∀ t ∈ S.structs, AscD t.fields) (hl : ∀ i (h : i < f.length), SizeOf.sizeOf (f[i]'h).2 < N ∧ vok (f[i]'h).2) (hlen : f.length ≤ 9223372036854775807) (hS : Sc w S A A2) (hR : Rw EtA 6 w f B) :
    Calls Try.prog 59 #[.agg #[.int .i64 S.ver, .slice A S.enums.length c, .slice A2 S.structs.length c2, .int .i64 k, .int .i64 s, .string (bs nm), .slice G g1 g2], .agg #[.int .i64 q, .int .i64 n, .string st, .slice B1 b1 b2, .slice B f.length b]] w
      (Ib (.int .i64 (if shp ((fst_ St.name S.structs nm).getD st0).fields f = true then vck.vckf S ((fst_ St.name S.structs nm).getD st0).fields f else 13)) w) := by
  have cS := fun W h => devStruct_any S nm (.agg #[.int .i64 S.ver, .slice A S.enums.length c, .slice A2 S.structs.length c2]) W ⟨A, c, A2, c2, rfl, Sc.next h hS⟩ hf.sl hf.st
  have hL := lok_fd hlk nm
  have hA := asc_st hasc nm
  have hW := few_st hf nm
  unfold StO at cS
  obtain ⟨o, ho⟩ : ∃ o, (fst_ St.name S.structs nm).isSome = o := ⟨_, rfl⟩
  obtain ⟨sT, hsT⟩ : ∃ sT, (fst_ St.name S.structs nm).getD st0 = sT := ⟨_, rfl⟩
  rw [ho, hsT] at cS
  rw [hsT] at hA hW hL ⊢
  clear ho hsT
  obtain ⟨m, hm⟩ : ∃ m, f.length = m := ⟨_, rfl⟩
  have HM := Lib.hid hm
  have cM := fun A3 c3 W (h : Below w.heap.size w W) (hD : Rw FdA 7 W sT.fields A3) => match_any sT.fields f A3 c3 B b W hW hlen hD (hR.next fun x p => EtA.next h x p)
  unfold MtP at cM
  rw [mt_shape hA] at cM
  have hT := fun T (e : mt sT.fields f = some T) => mt_types hA e
  have hs1 : shp sT.fields f = true → ∃ T, mt sT.fields f = some T := fun h => by
    rw [← mt_shape hA] at h
    exact Option.isSome_iff_exists.1 h
  obtain ⟨p, hp⟩ : ∃ p, shp sT.fields f = p := ⟨_, rfl⟩
  rw [hp] at cM hs1 ⊢
  rw [hm] at cM hlen ⊢
  have HL := Lib.hid hl
  have HT := Lib.hid hT
  have HS1 := Lib.hid hs1
  clear hm hp hl hT hs1
  obtain ⟨r, hr⟩ : ∃ r, (if p = true then vck.vckf S sT.fields f else 13) = r := ⟨_, rfl⟩
  rw [hr]
  have HR0 := Lib.hid hr
  clear hr hA
  have D1 := (Bx.new7 w 55 (.int .i64 S.ver) (.slice A S.enums.length c) (.slice A2 S.structs.length c2) (.int .i64 k) (.int .i64 s) (.string (bs nm)) (.slice G g1 g2)).next (ab1 _ (Obj.cells #[.int .i64 q, .int .i64 n, .string st, .slice B1 b1 b2, .slice B m b] 25))
  have D2 := Bx.new5 (w.alloc (Obj.cells #[.int .i64 S.ver, .slice A S.enums.length c, .slice A2 S.structs.length c2, .int .i64 k, .int .i64 s, .string (bs nm), .slice G g1 g2] 55)) 25 (.int .i64 q) (.int .i64 n) (.string st) (.slice B1 b1 b2) (.slice B m b)
  rw [show (w.alloc (Obj.cells #[.int .i64 S.ver, .slice A S.enums.length c, .slice A2 S.structs.length c2, .int .i64 k, .int .i64 s, .string (bs nm), .slice G g1 g2] 55)).heap.size = w.heap.size + 1 by simp] at D2
  have hab := ab2 w (Obj.cells #[.int .i64 S.ver, .slice A S.enums.length c, .slice A2 S.structs.length c2, .int .i64 k, .int .i64 s, .string (bs nm), .slice G g1 g2] 55) (Obj.cells #[.int .i64 q, .int .i64 n, .string st, .slice B1 b1 b2, .slice B m b] 25)
  go_enter Try.func59, Try.ntmps59
  go_wp2_with fail
  refine (cS _ hab).mono ?_
  rintro e w2 ⟨v2, rfl, hV2, hb2⟩
  obtain ⟨A3, c3, rfl, hD⟩ := hV2
  have hbx := ab1 w2 (Obj.cells #[.string (bs sT.name), .slice A3 sT.fields.length c3] 64)
  have cM2 := cM A3 c3 _ (Below.next hab (Below.next hb2 hbx)) (hD.next fun x p => FdA.next hbx)
  replace D1 := (D1.next hb2).next hbx
  replace D2 := (D2.next hb2).next hbx
  replace hab := Below.next hab (Below.next hb2 hbx)
  clear cS cM hb2 hbx hD
  have y4 := D2.c 4 rfl
  go_wp2_with fail
  refine cM2.mono ?_
  rintro e w3 ⟨AT, nT, cT, rfl, hb3, hTT⟩
  replace D1 := D1.next hb3
  replace D2 := D2.next hb3
  replace hab := Below.next hab hb3
  clear cM2 hb3 y4
  cases p
  case false =>
    have hr : (13 : Int) = r := by have := HR0.out; simpa using this
    subst hr
    go_wp2_with fail
    go_ret
    exact ⟨rfl, hab⟩
  case true =>
  have HR : Hid (vck.vckf S sT.fields f = r) := Lib.hid (by have := HR0.out; simpa using this)
  clear HR0
  obtain ⟨T, hTe⟩ := HS1.out rfl
  obtain ⟨rfl, hRT⟩ := hTT T hTe
  have hTf := HT.out T hTe
  have hTl : T.length = m := by rw [hTf, List.length_map]; exact HM.out
  rw [hTl]
  have HTF := Lib.hid hTf
  have HTL := Lib.hid hTl
  have HRT := Lib.hid hRT
  have HD1 := Lib.hid D1
  clear hTT hTe hTf hTl hRT HT HS1 D1
  have y4 := D2.c 4 rfl
  have H0 : Hid (vck.vckf S sT.fields (f.take 0) = 0) := Lib.hid (by rw [List.take_zero, vck.vckf])
  go_wp2_with fail
  go_loopw [34] (fun i wr => ∃ kk : Nat, kk ≤ m ∧ i = .int .i64 (kk : Int) ∧ Hid (vck.vckf S sT.fields (f.take kk) = 0) ∧ Hid (Rw TyA 4 wr T AT) ∧ Hid (Bx wr w.heap.size [.int .i64 S.ver, .slice A S.enums.length c, .slice A2 S.structs.length c2, .int .i64 k, .int .i64 s, .string (bs nm), .slice G g1 g2]) ∧ Below w.heap.size w wr) (fun i _ => m - (intOf i).toNat)
  case atStart => exact ⟨0, by omega, rfl, H0, HRT, HD1, hab⟩
  case round =>
    obtain ⟨kk, hkk, rfl, HK, HRw, HX, hb⟩ := hrel
    clear H0 HRT HD1 hab y4 D2
    by_cases hlt : kk < m
    · have hk1 := Lib.hid hlt
      have hkl : kk < f.length := by rw [HM.out]; exact hlt
      have hkT : kk < T.length := by rw [HTL.out]; exact hlt
      obtain ⟨b', rfl, hE⟩ := hR.get hkl
      obtain ⟨s', x0, x1, x2, x3, x4, x5, hrd⟩ := (EtA.next hb _ _ hE).sb
      have hblk' : (b'.add (kk * 6)).block < wr.heap.size := blk_lt x0
      obtain ⟨aT, rfl, hTy⟩ := HRw.out.get hkT
      obtain ⟨hs1, hs2⟩ := HL.out kk hkl
      have hTk : T[kk]'hkT = ((fst_ Fd.num sT.fields (f[kk]'hkl).1).getD fd0).type := by
        have := HTF.out
        subst this
        rw [List.getElem_map]
      have hu : lok (T[kk]'hkT) := by rw [hTk]; exact hL _
      have HN := Lib.hid (fun (h0 : vck S (T[kk]'hkT) (f[kk]'hkl).2 = 0) => show vck.vckf S sT.fields (f.take (kk + 1)) = 0 by rw [vckf_at hkl HK.out, ← hTk]; exact h0)
      have HE := Lib.hid (fun (h0 : vck S (T[kk]'hkT) (f[kk]'hkl).2 ≠ 0) => show vck S (T[kk]'hkT) (f[kk]'hkl).2 = r by rw [← HR.out, vckf_stop hkl HK.out (by rw [← hTk]; exact h0), hTk])
      clear hTk
      generalize T[kk]'hkT = t at *
      generalize (f[kk]'hkl).2 = x at *
      generalize (f[kk]'hkl).1 = y at *
      obtain ⟨z, hz⟩ : ∃ z, vck S t x = z := ⟨_, rfl⟩
      obtain ⟨e0, e1, e2, A4, c4, e3, hVe⟩ := hTy.cells
      have hblkT : (aT.add (kk * 4)).block < wr.heap.size := blk_lt e0
      have cR0 := fun W (h : Below wr.heap.size wr W) => hI t x A c A2 c2 A4 c4 (.agg (encV x s').toArray) W hs1 hu hs2 (Sc.next (Below.next hb h) hS) (hVe.next fun x p => TyA.next h x p) (rdV_iff.2 ⟨s', rfl, hrd.next h⟩)
      rw [hz] at cR0 HN HE
      obtain ⟨ge, hge⟩ : ∃ ge, wr.heap.size = ge := ⟨_, rfl⟩
      have X0 := Bx.new6 wr 72 (.int .i64 y) (.int .i64 x.kind) (.int .i64 x.n) (.string (bs x.s)) (.slice s'.A x.l.length s'.c) (.slice s'.B x.f.length s'.d)
      have hbE := ab1 wr (Obj.cells #[.int .i64 y, .int .i64 x.kind, .int .i64 x.n, .string (bs x.s), .slice s'.A x.l.length s'.c, .slice s'.B x.f.length s'.d] 72)
      have X1 := HX.out.next hbE
      have hb4 := Below.next hb hbE
      have HRw2 := Lib.hid (HRw.out.next fun x p => TyA.next hbE x p)
      clear HK hz hE hrd hs1 hs2 hu hTy hVe
      go_upto_region 8 with (fail)
      have e0 := cell_next hbE e0
      have e1 := cell_next hbE e1
      have e2 := cell_next hbE e2
      have e3 := cell_next hbE e3
      have cR : ∀ W, Below (wr.alloc (Obj.cells #[.int .i64 y, .int .i64 x.kind, .int .i64 x.n, .string (bs x.s), .slice s'.A x.l.length s'.c, .slice s'.B x.f.length s'.d] 72)).heap.size (wr.alloc (Obj.cells #[.int .i64 y, .int .i64 x.kind, .int .i64 x.n, .string (bs x.s), .slice s'.A x.l.length s'.c, .slice s'.B x.f.length s'.d] 72)) W → Calls Try.prog 28 #[.agg #[.int .i64 S.ver, .slice A S.enums.length c, .slice A2 S.structs.length c2, .int .i64 t.kind, .int .i64 t.size, .string (bs t.name), .slice A4 t.elem.length c4], (.agg #[.int .i64 x.kind, .int .i64 x.n, .string (bs x.s), .slice s'.A x.l.length s'.c, .slice s'.B x.f.length s'.d])] W (Ib (.int .i64 z) W) := fun W h => cR0 W (Below.next hbE h)
      rw [hge] at X0
      clear cR0
      generalize wr.alloc (Obj.cells #[.int .i64 y, .int .i64 x.kind, .int .i64 x.n, .string (bs x.s), .slice s'.A x.l.length s'.c, .slice s'.B x.f.length s'.d] 72) = w4 at *
      have x1 := X0.c 1 rfl
      have x2 := X0.c 2 rfl
      have x3 := X0.c 3 rfl
      have x4 := X0.c 4 rfl
      have x5 := X0.c 5 rfl
      have i0 := X1.c 0 rfl
      have i1 := X1.c 1 rfl
      have i2 := X1.c 2 rfl
      have hlt := hk1.out
      try rw [hge]
      refine wp_region_on (by kernel_rfl) (FF [(2, Fact.at_ w4 (.pointer (some ⟨w.heap.size, 0, none⟩))), (7, Fact.at_ w4 (.slice (some aT) m cT)), (9, Fact.at_ w4 (.int .i64 (kk : Int))), (10, Fact.at_ w4 (.pointer (some ⟨ge, 0, none⟩))), (39, Fact.at_ w4 (.pointer (some ⟨w.heap.size, 0, none⟩))), (40, Fact.at_ w4 (.agg #[.int .i64 S.ver, .slice A S.enums.length c, .slice A2 S.structs.length c2])), (41, Fact.at_ w4 (.slice (some aT) m cT)), (42, Fact.at_ w4 (.int .i64 (kk : Int))), (43, Fact.at_ w4 (.pointer (some (aT.add (kk * 4))))), (44, Fact.at_ w4 (.agg #[.int .i64 t.kind, .int .i64 t.size, .string (bs t.name), .slice A4 t.elem.length c4])), (45, Fact.at_ w4 (.agg #[.int .i64 S.ver, .slice A S.enums.length c, .slice A2 S.structs.length c2, .int .i64 t.kind, .int .i64 t.size, .string (bs t.name), .slice A4 t.elem.length c4])), (46, Fact.at_ w4 (.pointer (some ⟨ge, 1, none⟩))), (47, Fact.at_ w4 (.agg #[.int .i64 x.kind, .int .i64 x.n, .string (bs x.s), .slice s'.A x.l.length s'.c, .slice s'.B x.f.length s'.d])), (48, Fact.at_ w4 (.int .i64 z)), (11, Fact.at_ w4 (.int .i64 z))]) [2, 7, 9, 10] 53 [39, 40, 41, 42, 43, 44, 45, 46, 47, 48, 11] rfl (by kernel_rfl) (by kernel_rfl) ?_ ?_ ?_
      · intro t9 ht9
        simp only [List.mem_cons, List.not_mem_nil, or_false] at ht9
        rcases ht9 with rfl | rfl | rfl | rfl
        · exact ⟨rfl, Below.refl _ _⟩
        · exact ⟨rfl, Below.refl _ _⟩
        · exact ⟨rfl, Below.refl _ _⟩
        · exact ⟨rfl, Below.refl _ _⟩
      · refine fcs ⟨at1 2 39 (.pointer (some ⟨w.heap.size, 0, none⟩)) (.pointer (some ⟨w.heap.size, 0, none⟩)) rfl (by first | exact .inl rfl | exact .inr ⟨_, _, _, rfl, rfl, by kernel_rfl, by decide, rfl⟩) (by kernel_rfl) rfl rfl (fun a9 W9 hb9 h9 => by simp [execOp, h9] <;> go_simp), ?_⟩
        refine fcs ⟨at1 39 40 (.pointer (some ⟨w.heap.size, 0, none⟩)) (.agg #[.int .i64 S.ver, .slice A S.enums.length c, .slice A2 S.structs.length c2]) rfl (by first | exact .inl rfl | exact .inr ⟨_, _, _, rfl, rfl, by kernel_rfl, by decide, rfl⟩) (by kernel_rfl) rfl rfl (fun a9 W9 hb9 h9 => by have g0 := cell_next hb9 i0; have g1 := cell_next hb9 i1; have g2 := cell_next hb9 i2; simp [execOp, h9] <;> go_simp), ?_⟩
        refine fcs ⟨atcopy 7 41 (.slice (some aT) m cT) (.inl rfl) rfl (by first | exact .inl rfl | exact .inr ⟨_, _, _, rfl, rfl, by kernel_rfl, by decide, rfl⟩) (by kernel_rfl) rfl rfl, ?_⟩
        refine fcs ⟨atcopy 9 42 (.int .i64 (kk : Int)) (.inl rfl) rfl (by first | exact .inl rfl | exact .inr ⟨_, _, _, rfl, rfl, by kernel_rfl, by decide, rfl⟩) (by kernel_rfl) rfl rfl, ?_⟩
        refine fcs ⟨at2 41 42 43 (.slice (some aT) m cT) (.int .i64 (kk : Int)) (.pointer (some (aT.add (kk * 4)))) rfl (by first | exact .inl rfl | exact .inr ⟨_, _, _, rfl, rfl, by kernel_rfl, by decide, rfl⟩) (by kernel_rfl) (by kernel_rfl) rfl rfl rfl (fun a9 W9 hb9 h9 h8 => by simp [execOp, h9, h8] <;> go_simp), ?_⟩
        refine fcs ⟨at1 43 44 (.pointer (some (aT.add (kk * 4)))) (.agg #[.int .i64 t.kind, .int .i64 t.size, .string (bs t.name), .slice A4 t.elem.length c4]) rfl (by first | exact .inl rfl | exact .inr ⟨_, _, _, rfl, rfl, by kernel_rfl, by decide, rfl⟩) (by kernel_rfl) rfl rfl (fun a9 W9 hb9 h9 => by have g0 := cell_next hb9 e0; have g1 := cell_next hb9 e1; have g2 := cell_next hb9 e2; have g3 := cell_next hb9 e3; simp [execOp, h9] <;> go_simp), ?_⟩
        refine fcs ⟨at2 40 44 45 (.agg #[.int .i64 S.ver, .slice A S.enums.length c, .slice A2 S.structs.length c2]) (.agg #[.int .i64 t.kind, .int .i64 t.size, .string (bs t.name), .slice A4 t.elem.length c4]) (.agg #[.int .i64 S.ver, .slice A S.enums.length c, .slice A2 S.structs.length c2, .int .i64 t.kind, .int .i64 t.size, .string (bs t.name), .slice A4 t.elem.length c4]) rfl (by first | exact .inl rfl | exact .inr ⟨_, _, _, rfl, rfl, by kernel_rfl, by decide, rfl⟩) (by kernel_rfl) (by kernel_rfl) rfl rfl rfl (fun a9 W9 hb9 h9 h8 => by simp [execOp, h9, h8] <;> go_simp), ?_⟩
        refine fcs ⟨at1 10 46 (.pointer (some ⟨ge, 0, none⟩)) (.pointer (some ⟨ge, 1, none⟩)) rfl (by first | exact .inl rfl | exact .inr ⟨_, _, _, rfl, rfl, by kernel_rfl, by decide, rfl⟩) (by kernel_rfl) rfl rfl (fun a9 W9 hb9 h9 => by simp [execOp, h9] <;> go_simp), ?_⟩
        refine fcs ⟨at1 46 47 (.pointer (some ⟨ge, 1, none⟩)) (.agg #[.int .i64 x.kind, .int .i64 x.n, .string (bs x.s), .slice s'.A x.l.length s'.c, .slice s'.B x.f.length s'.d]) rfl (by first | exact .inl rfl | exact .inr ⟨_, _, _, rfl, rfl, by kernel_rfl, by decide, rfl⟩) (by kernel_rfl) rfl rfl (fun a9 W9 hb9 h9 => by have g0 := cell_next hb9 x1; have g1 := cell_next hb9 x2; have g2 := cell_next hb9 x3; have g3 := cell_next hb9 x4; have g4 := cell_next hb9 x5; simp [execOp, h9] <;> go_simp), ?_⟩
        refine fcs ⟨atc2 28 45 47 48 (.agg #[.int .i64 S.ver, .slice A S.enums.length c, .slice A2 S.structs.length c2, .int .i64 t.kind, .int .i64 t.size, .string (bs t.name), .slice A4 t.elem.length c4]) (.agg #[.int .i64 x.kind, .int .i64 x.n, .string (bs x.s), .slice s'.A x.l.length s'.c, .slice s'.B x.f.length s'.d]) (.int .i64 z) _ rfl rfl (by first | exact .inl rfl | exact .inr ⟨_, _, _, rfl, rfl, by kernel_rfl, by decide, rfl⟩) (by kernel_rfl) (by kernel_rfl) rfl rfl (by kernel_rfl) rfl (fun W9 hb9 => cR W9 hb9), ?_⟩
        refine fcs ⟨atcopy 48 11 (.int .i64 z) (.inr rfl) rfl (by first | exact .inl rfl | exact .inr ⟨_, _, _, rfl, rfl, by kernel_rfl, by decide, rfl⟩) (by kernel_rfl) rfl rfl, ?_⟩
        exact fnl
      intro vv wv hvv hbv
      have hv11 : vv 11 = (.int .i64 z) := (hvv 11 (by decide)).1
      simp only [lay, List.foldl_cons, List.foldl_nil, List.setIfInBounds_toArray, List.set_cons_succ, List.set_cons_zero, hv11]
      have X2 := X1.next hbv
      have hb5 := Below.next hb4 hbv
      have HRw3 := Lib.hid (HRw2.out.next fun x p => TyA.next hbv x p)
      clear hvv e0 e1 e2 e3 x1 x2 x3 x4 x5 i0 i1 i2 cR X0 X1 hbE
      by_cases h0 : z = 0
      · have HN2 := Lib.hid (HN.out h0)
        subst h0
        clear HN HE
        go_wp2_with fail
        go_roundw
        case rel => exact ⟨kk + 1, hk1.out, by go_num, HN2, HRw3, Lib.hid X2, hb5⟩
        case measure => have := hk1.out; simp [intOf]; omega
      · have HE2 := HE.out h0
        have qz : (z != 0) = true := by simpa using h0
        subst HE2
        clear HN HE h0
        go_wp2_with fail
        go_ret
        exact ⟨rfl, hb5⟩
    · obtain rfl : kk = m := by omega
      have hr0 : r = 0 := by rw [← HR.out, ← HK.out, ← HM.out, List.take_length]
      subst hr0
      clear HK
      go_wp2_with fail
      go_ret
      exact ⟨rfl, hb⟩
end Go.Proofs.Ytlebppjldoodgaa
/-
  The developers' check, kind by kind. No conditions beyond those that each names.
-/
namespace Go.Proofs.Ytlebppjldoodgaa
open Go.RowKit
set_option maxRecDepth 100000 in
set_option maxHeartbeats 8000000 in
theorem check1_any (ver : Int) (E : Option Addr) (e1 e2 : Nat) (F : Option Addr) (f1 f2 : Nat) (s : Int) (nm : ByteArray) (G : Option Addr) (g1 g2 : Nat) (q n : Int) (st : List UInt8) (A : Option Addr) (a1 a2 : Nat) (B : Option Addr) (b1 b2 : Nat) (r : Int) (w : World)
    (cA : ∀ W, Below w.heap.size w W → Calls Try.prog 53 #[.agg #[.int .i64 ver, .slice E e1 e2, .slice F f1 f2, .int .i64 1, .int .i64 s, .string nm, .slice G g1 g2], .agg #[.int .i64 q, .int .i64 n, .string (bs st), .slice A a1 a2, .slice B b1 b2], .func (.func 54) #[.agg #[.int .i64 ver, .slice E e1 e2, .slice F f1 f2, .int .i64 1, .int .i64 s, .string nm, .slice G g1 g2]] #[]] W (Ib (.int .i64 r) W)) :
    Calls Try.prog 28 #[.agg #[.int .i64 ver, .slice E e1 e2, .slice F f1 f2, .int .i64 1, .int .i64 s, .string nm, .slice G g1 g2], .agg #[.int .i64 q, .int .i64 n, .string (bs st), .slice A a1 a2, .slice B b1 b2]] w (Ib (.int .i64 r) w) := by
  have D1 := (Bx.new7 w 55 (.int .i64 ver) (.slice E e1 e2) (.slice F f1 f2) (.int .i64 1) (.int .i64 s) (.string nm) (.slice G g1 g2)).next (ab1 _ (Obj.cells #[.int .i64 q, .int .i64 n, .string (bs st), .slice A a1 a2, .slice B b1 b2] 25))
  have D2 := Bx.new5 (w.alloc (Obj.cells #[.int .i64 ver, .slice E e1 e2, .slice F f1 f2, .int .i64 1, .int .i64 s, .string nm, .slice G g1 g2] 55)) 25 (.int .i64 q) (.int .i64 n) (.string (bs st)) (.slice A a1 a2) (.slice B b1 b2)
  have hab := ab2 w (Obj.cells #[.int .i64 ver, .slice E e1 e2, .slice F f1 f2, .int .i64 1, .int .i64 s, .string nm, .slice G g1 g2] 55) (Obj.cells #[.int .i64 q, .int .i64 n, .string (bs st), .slice A a1 a2, .slice B b1 b2] 25)
  rw [show (w.alloc (Obj.cells #[.int .i64 ver, .slice E e1 e2, .slice F f1 f2, .int .i64 1, .int .i64 s, .string nm, .slice G g1 g2] 55)).heap.size = w.heap.size + 1 by simp] at D2
  have i0 := D1.c 0 rfl
  have i1 := D1.c 1 rfl
  have i2 := D1.c 2 rfl
  have i3 := D1.c 3 rfl
  have i4 := D1.c 4 rfl
  have i5 := D1.c 5 rfl
  have i6 := D1.c 6 rfl
  have j0 := D2.c 0 rfl
  have j1 := D2.c 1 rfl
  have j2 := D2.c 2 rfl
  have j3 := D2.c 3 rfl
  have j4 := D2.c 4 rfl
  clear D1 D2
  go_enter Try.func28, Try.ntmps28
  go_wp2_with fail
  refine (cA _ hab).mono ?_
  rintro e w2 ⟨rfl, hb2⟩
  go_wp2_with fail
  go_ret
  exact ⟨rfl, Below.next hab hb2⟩
set_option maxRecDepth 100000 in
set_option maxHeartbeats 8000000 in
theorem check2_any (ver : Int) (E : Option Addr) (e1 e2 : Nat) (F : Option Addr) (f1 f2 : Nat) (s : Int) (nm : ByteArray) (G : Option Addr) (g1 g2 : Nat) (q n : Int) (st : List UInt8) (A : Option Addr) (a1 a2 : Nat) (B : Option Addr) (b1 b2 : Nat) (r : Int) (w : World)
    (cA : ∀ W, Below w.heap.size w W → Calls Try.prog 53 #[.agg #[.int .i64 ver, .slice E e1 e2, .slice F f1 f2, .int .i64 2, .int .i64 s, .string nm, .slice G g1 g2], .agg #[.int .i64 q, .int .i64 n, .string (bs st), .slice A a1 a2, .slice B b1 b2], .func (.func 55) #[.agg #[.int .i64 ver, .slice E e1 e2, .slice F f1 f2, .int .i64 2, .int .i64 s, .string nm, .slice G g1 g2]] #[]] W (Ib (.int .i64 r) W)) :
    Calls Try.prog 28 #[.agg #[.int .i64 ver, .slice E e1 e2, .slice F f1 f2, .int .i64 2, .int .i64 s, .string nm, .slice G g1 g2], .agg #[.int .i64 q, .int .i64 n, .string (bs st), .slice A a1 a2, .slice B b1 b2]] w (Ib (.int .i64 r) w) := by
  have D1 := (Bx.new7 w 55 (.int .i64 ver) (.slice E e1 e2) (.slice F f1 f2) (.int .i64 2) (.int .i64 s) (.string nm) (.slice G g1 g2)).next (ab1 _ (Obj.cells #[.int .i64 q, .int .i64 n, .string (bs st), .slice A a1 a2, .slice B b1 b2] 25))
  have D2 := Bx.new5 (w.alloc (Obj.cells #[.int .i64 ver, .slice E e1 e2, .slice F f1 f2, .int .i64 2, .int .i64 s, .string nm, .slice G g1 g2] 55)) 25 (.int .i64 q) (.int .i64 n) (.string (bs st)) (.slice A a1 a2) (.slice B b1 b2)
  have hab := ab2 w (Obj.cells #[.int .i64 ver, .slice E e1 e2, .slice F f1 f2, .int .i64 2, .int .i64 s, .string nm, .slice G g1 g2] 55) (Obj.cells #[.int .i64 q, .int .i64 n, .string (bs st), .slice A a1 a2, .slice B b1 b2] 25)
  rw [show (w.alloc (Obj.cells #[.int .i64 ver, .slice E e1 e2, .slice F f1 f2, .int .i64 2, .int .i64 s, .string nm, .slice G g1 g2] 55)).heap.size = w.heap.size + 1 by simp] at D2
  have i0 := D1.c 0 rfl
  have i1 := D1.c 1 rfl
  have i2 := D1.c 2 rfl
  have i3 := D1.c 3 rfl
  have i4 := D1.c 4 rfl
  have i5 := D1.c 5 rfl
  have i6 := D1.c 6 rfl
  have j0 := D2.c 0 rfl
  have j1 := D2.c 1 rfl
  have j2 := D2.c 2 rfl
  have j3 := D2.c 3 rfl
  have j4 := D2.c 4 rfl
  clear D1 D2
  go_enter Try.func28, Try.ntmps28
  go_wp2_with fail
  refine (cA _ hab).mono ?_
  rintro e w2 ⟨rfl, hb2⟩
  go_wp2_with fail
  go_ret
  exact ⟨rfl, Below.next hab hb2⟩
set_option maxRecDepth 100000 in
set_option maxHeartbeats 8000000 in
theorem check3_any (ver : Int) (E : Option Addr) (e1 e2 : Nat) (F : Option Addr) (f1 f2 : Nat) (s : Int) (nm : ByteArray) (G : Option Addr) (g1 g2 : Nat) (q n : Int) (st : List UInt8) (A : Option Addr) (a1 a2 : Nat) (B : Option Addr) (b1 b2 : Nat) (r : Int) (w : World)
    (cA : ∀ W, Below w.heap.size w W → Calls Try.prog 53 #[.agg #[.int .i64 ver, .slice E e1 e2, .slice F f1 f2, .int .i64 3, .int .i64 s, .string nm, .slice G g1 g2], .agg #[.int .i64 q, .int .i64 n, .string (bs st), .slice A a1 a2, .slice B b1 b2], .func (.func 56) #[.agg #[.int .i64 ver, .slice E e1 e2, .slice F f1 f2, .int .i64 3, .int .i64 s, .string nm, .slice G g1 g2]] #[]] W (Ib (.int .i64 r) W)) :
    Calls Try.prog 28 #[.agg #[.int .i64 ver, .slice E e1 e2, .slice F f1 f2, .int .i64 3, .int .i64 s, .string nm, .slice G g1 g2], .agg #[.int .i64 q, .int .i64 n, .string (bs st), .slice A a1 a2, .slice B b1 b2]] w (Ib (.int .i64 r) w) := by
  have D1 := (Bx.new7 w 55 (.int .i64 ver) (.slice E e1 e2) (.slice F f1 f2) (.int .i64 3) (.int .i64 s) (.string nm) (.slice G g1 g2)).next (ab1 _ (Obj.cells #[.int .i64 q, .int .i64 n, .string (bs st), .slice A a1 a2, .slice B b1 b2] 25))
  have D2 := Bx.new5 (w.alloc (Obj.cells #[.int .i64 ver, .slice E e1 e2, .slice F f1 f2, .int .i64 3, .int .i64 s, .string nm, .slice G g1 g2] 55)) 25 (.int .i64 q) (.int .i64 n) (.string (bs st)) (.slice A a1 a2) (.slice B b1 b2)
  have hab := ab2 w (Obj.cells #[.int .i64 ver, .slice E e1 e2, .slice F f1 f2, .int .i64 3, .int .i64 s, .string nm, .slice G g1 g2] 55) (Obj.cells #[.int .i64 q, .int .i64 n, .string (bs st), .slice A a1 a2, .slice B b1 b2] 25)
  rw [show (w.alloc (Obj.cells #[.int .i64 ver, .slice E e1 e2, .slice F f1 f2, .int .i64 3, .int .i64 s, .string nm, .slice G g1 g2] 55)).heap.size = w.heap.size + 1 by simp] at D2
  have i0 := D1.c 0 rfl
  have i1 := D1.c 1 rfl
  have i2 := D1.c 2 rfl
  have i3 := D1.c 3 rfl
  have i4 := D1.c 4 rfl
  have i5 := D1.c 5 rfl
  have i6 := D1.c 6 rfl
  have j0 := D2.c 0 rfl
  have j1 := D2.c 1 rfl
  have j2 := D2.c 2 rfl
  have j3 := D2.c 3 rfl
  have j4 := D2.c 4 rfl
  clear D1 D2
  go_enter Try.func28, Try.ntmps28
  go_wp2_with fail
  refine (cA _ hab).mono ?_
  rintro e w2 ⟨rfl, hb2⟩
  go_wp2_with fail
  go_ret
  exact ⟨rfl, Below.next hab hb2⟩
set_option maxRecDepth 100000 in
set_option maxHeartbeats 8000000 in
theorem check4_any (ver : Int) (E : Option Addr) (e1 e2 : Nat) (F : Option Addr) (f1 f2 : Nat) (s : Int) (nm : ByteArray) (G : Option Addr) (g1 g2 : Nat) (q n : Int) (st : List UInt8) (A : Option Addr) (a1 a2 : Nat) (B : Option Addr) (b1 b2 : Nat) (r : Int) (w : World)
    (cA : ∀ W, Below w.heap.size w W → Calls Try.prog 53 #[.agg #[.int .i64 ver, .slice E e1 e2, .slice F f1 f2, .int .i64 4, .int .i64 s, .string nm, .slice G g1 g2], .agg #[.int .i64 q, .int .i64 n, .string (bs st), .slice A a1 a2, .slice B b1 b2], .func (.func 57) #[.agg #[.int .i64 ver, .slice E e1 e2, .slice F f1 f2, .int .i64 4, .int .i64 s, .string nm, .slice G g1 g2]] #[]] W (Ib (.int .i64 r) W)) :
    Calls Try.prog 28 #[.agg #[.int .i64 ver, .slice E e1 e2, .slice F f1 f2, .int .i64 4, .int .i64 s, .string nm, .slice G g1 g2], .agg #[.int .i64 q, .int .i64 n, .string (bs st), .slice A a1 a2, .slice B b1 b2]] w (Ib (.int .i64 r) w) := by
  have D1 := (Bx.new7 w 55 (.int .i64 ver) (.slice E e1 e2) (.slice F f1 f2) (.int .i64 4) (.int .i64 s) (.string nm) (.slice G g1 g2)).next (ab1 _ (Obj.cells #[.int .i64 q, .int .i64 n, .string (bs st), .slice A a1 a2, .slice B b1 b2] 25))
  have D2 := Bx.new5 (w.alloc (Obj.cells #[.int .i64 ver, .slice E e1 e2, .slice F f1 f2, .int .i64 4, .int .i64 s, .string nm, .slice G g1 g2] 55)) 25 (.int .i64 q) (.int .i64 n) (.string (bs st)) (.slice A a1 a2) (.slice B b1 b2)
  have hab := ab2 w (Obj.cells #[.int .i64 ver, .slice E e1 e2, .slice F f1 f2, .int .i64 4, .int .i64 s, .string nm, .slice G g1 g2] 55) (Obj.cells #[.int .i64 q, .int .i64 n, .string (bs st), .slice A a1 a2, .slice B b1 b2] 25)
  rw [show (w.alloc (Obj.cells #[.int .i64 ver, .slice E e1 e2, .slice F f1 f2, .int .i64 4, .int .i64 s, .string nm, .slice G g1 g2] 55)).heap.size = w.heap.size + 1 by simp] at D2
  have i0 := D1.c 0 rfl
  have i1 := D1.c 1 rfl
  have i2 := D1.c 2 rfl
  have i3 := D1.c 3 rfl
  have i4 := D1.c 4 rfl
  have i5 := D1.c 5 rfl
  have i6 := D1.c 6 rfl
  have j0 := D2.c 0 rfl
  have j1 := D2.c 1 rfl
  have j2 := D2.c 2 rfl
  have j3 := D2.c 3 rfl
  have j4 := D2.c 4 rfl
  clear D1 D2
  go_enter Try.func28, Try.ntmps28
  go_wp2_with fail
  refine (cA _ hab).mono ?_
  rintro e w2 ⟨rfl, hb2⟩
  go_wp2_with fail
  go_ret
  exact ⟨rfl, Below.next hab hb2⟩
set_option maxRecDepth 100000 in
set_option maxHeartbeats 8000000 in
theorem check5_any (ver : Int) (E : Option Addr) (e1 e2 : Nat) (F : Option Addr) (f1 f2 : Nat) (s : Int) (nm : ByteArray) (G : Option Addr) (g1 g2 : Nat) (q n : Int) (st : List UInt8) (A : Option Addr) (a1 a2 : Nat) (B : Option Addr) (b1 b2 : Nat) (r : Int) (w : World)
    (cA : ∀ W, Below w.heap.size w W → Calls Try.prog 53 #[.agg #[.int .i64 ver, .slice E e1 e2, .slice F f1 f2, .int .i64 5, .int .i64 s, .string nm, .slice G g1 g2], .agg #[.int .i64 q, .int .i64 n, .string (bs st), .slice A a1 a2, .slice B b1 b2], .func (.func 58) #[.agg #[.int .i64 ver, .slice E e1 e2, .slice F f1 f2, .int .i64 5, .int .i64 s, .string nm, .slice G g1 g2]] #[]] W (Ib (.int .i64 r) W)) :
    Calls Try.prog 28 #[.agg #[.int .i64 ver, .slice E e1 e2, .slice F f1 f2, .int .i64 5, .int .i64 s, .string nm, .slice G g1 g2], .agg #[.int .i64 q, .int .i64 n, .string (bs st), .slice A a1 a2, .slice B b1 b2]] w (Ib (.int .i64 r) w) := by
  have D1 := (Bx.new7 w 55 (.int .i64 ver) (.slice E e1 e2) (.slice F f1 f2) (.int .i64 5) (.int .i64 s) (.string nm) (.slice G g1 g2)).next (ab1 _ (Obj.cells #[.int .i64 q, .int .i64 n, .string (bs st), .slice A a1 a2, .slice B b1 b2] 25))
  have D2 := Bx.new5 (w.alloc (Obj.cells #[.int .i64 ver, .slice E e1 e2, .slice F f1 f2, .int .i64 5, .int .i64 s, .string nm, .slice G g1 g2] 55)) 25 (.int .i64 q) (.int .i64 n) (.string (bs st)) (.slice A a1 a2) (.slice B b1 b2)
  have hab := ab2 w (Obj.cells #[.int .i64 ver, .slice E e1 e2, .slice F f1 f2, .int .i64 5, .int .i64 s, .string nm, .slice G g1 g2] 55) (Obj.cells #[.int .i64 q, .int .i64 n, .string (bs st), .slice A a1 a2, .slice B b1 b2] 25)
  rw [show (w.alloc (Obj.cells #[.int .i64 ver, .slice E e1 e2, .slice F f1 f2, .int .i64 5, .int .i64 s, .string nm, .slice G g1 g2] 55)).heap.size = w.heap.size + 1 by simp] at D2
  have i0 := D1.c 0 rfl
  have i1 := D1.c 1 rfl
  have i2 := D1.c 2 rfl
  have i3 := D1.c 3 rfl
  have i4 := D1.c 4 rfl
  have i5 := D1.c 5 rfl
  have i6 := D1.c 6 rfl
  have j0 := D2.c 0 rfl
  have j1 := D2.c 1 rfl
  have j2 := D2.c 2 rfl
  have j3 := D2.c 3 rfl
  have j4 := D2.c 4 rfl
  clear D1 D2
  go_enter Try.func28, Try.ntmps28
  go_wp2_with fail
  refine (cA _ hab).mono ?_
  rintro e w2 ⟨rfl, hb2⟩
  go_wp2_with fail
  go_ret
  exact ⟨rfl, Below.next hab hb2⟩
set_option maxRecDepth 100000 in
set_option maxHeartbeats 8000000 in
theorem check6_any (ver : Int) (E : Option Addr) (e1 e2 : Nat) (F : Option Addr) (f1 f2 : Nat) (s : Int) (nm : ByteArray) (G : Option Addr) (g1 g2 : Nat) (q n : Int) (st : List UInt8) (A : Option Addr) (a1 a2 : Nat) (B : Option Addr) (b1 b2 : Nat) (r : Int) (w : World)
    (cA : ∀ W, Below w.heap.size w W → Calls Try.prog 53 #[.agg #[.int .i64 ver, .slice E e1 e2, .slice F f1 f2, .int .i64 6, .int .i64 s, .string nm, .slice G g1 g2], .agg #[.int .i64 q, .int .i64 n, .string (bs st), .slice A a1 a2, .slice B b1 b2], .func (.func 59) #[.agg #[.int .i64 ver, .slice E e1 e2, .slice F f1 f2, .int .i64 6, .int .i64 s, .string nm, .slice G g1 g2]] #[]] W (Ib (.int .i64 r) W)) :
    Calls Try.prog 28 #[.agg #[.int .i64 ver, .slice E e1 e2, .slice F f1 f2, .int .i64 6, .int .i64 s, .string nm, .slice G g1 g2], .agg #[.int .i64 q, .int .i64 n, .string (bs st), .slice A a1 a2, .slice B b1 b2]] w (Ib (.int .i64 r) w) := by
  have D1 := (Bx.new7 w 55 (.int .i64 ver) (.slice E e1 e2) (.slice F f1 f2) (.int .i64 6) (.int .i64 s) (.string nm) (.slice G g1 g2)).next (ab1 _ (Obj.cells #[.int .i64 q, .int .i64 n, .string (bs st), .slice A a1 a2, .slice B b1 b2] 25))
  have D2 := Bx.new5 (w.alloc (Obj.cells #[.int .i64 ver, .slice E e1 e2, .slice F f1 f2, .int .i64 6, .int .i64 s, .string nm, .slice G g1 g2] 55)) 25 (.int .i64 q) (.int .i64 n) (.string (bs st)) (.slice A a1 a2) (.slice B b1 b2)
  have hab := ab2 w (Obj.cells #[.int .i64 ver, .slice E e1 e2, .slice F f1 f2, .int .i64 6, .int .i64 s, .string nm, .slice G g1 g2] 55) (Obj.cells #[.int .i64 q, .int .i64 n, .string (bs st), .slice A a1 a2, .slice B b1 b2] 25)
  rw [show (w.alloc (Obj.cells #[.int .i64 ver, .slice E e1 e2, .slice F f1 f2, .int .i64 6, .int .i64 s, .string nm, .slice G g1 g2] 55)).heap.size = w.heap.size + 1 by simp] at D2
  have i0 := D1.c 0 rfl
  have i1 := D1.c 1 rfl
  have i2 := D1.c 2 rfl
  have i3 := D1.c 3 rfl
  have i4 := D1.c 4 rfl
  have i5 := D1.c 5 rfl
  have i6 := D1.c 6 rfl
  have j0 := D2.c 0 rfl
  have j1 := D2.c 1 rfl
  have j2 := D2.c 2 rfl
  have j3 := D2.c 3 rfl
  have j4 := D2.c 4 rfl
  clear D1 D2
  go_enter Try.func28, Try.ntmps28
  go_wp2_with fail
  refine (cA _ hab).mono ?_
  rintro e w2 ⟨rfl, hb2⟩
  go_wp2_with fail
  go_ret
  exact ⟨rfl, Below.next hab hb2⟩
set_option maxRecDepth 100000 in
set_option maxHeartbeats 8000000 in
theorem check7_any (ver : Int) (E : Option Addr) (e1 e2 : Nat) (F : Option Addr) (f1 f2 : Nat) (s : Int) (nm : ByteArray) (G : Option Addr) (g1 g2 : Nat) (q n : Int) (st : List UInt8) (A : Option Addr) (a1 a2 : Nat) (B : Option Addr) (b1 b2 : Nat) (r : Int) (w : World)
    (cA : ∀ W, Below w.heap.size w W → Calls Try.prog 53 #[.agg #[.int .i64 ver, .slice E e1 e2, .slice F f1 f2, .int .i64 7, .int .i64 s, .string nm, .slice G g1 g2], .agg #[.int .i64 q, .int .i64 n, .string (bs st), .slice A a1 a2, .slice B b1 b2], .func (.func 60) #[.agg #[.int .i64 ver, .slice E e1 e2, .slice F f1 f2, .int .i64 7, .int .i64 s, .string nm, .slice G g1 g2]] #[]] W (Ib (.int .i64 r) W)) :
    Calls Try.prog 28 #[.agg #[.int .i64 ver, .slice E e1 e2, .slice F f1 f2, .int .i64 7, .int .i64 s, .string nm, .slice G g1 g2], .agg #[.int .i64 q, .int .i64 n, .string (bs st), .slice A a1 a2, .slice B b1 b2]] w (Ib (.int .i64 r) w) := by
  have D1 := (Bx.new7 w 55 (.int .i64 ver) (.slice E e1 e2) (.slice F f1 f2) (.int .i64 7) (.int .i64 s) (.string nm) (.slice G g1 g2)).next (ab1 _ (Obj.cells #[.int .i64 q, .int .i64 n, .string (bs st), .slice A a1 a2, .slice B b1 b2] 25))
  have D2 := Bx.new5 (w.alloc (Obj.cells #[.int .i64 ver, .slice E e1 e2, .slice F f1 f2, .int .i64 7, .int .i64 s, .string nm, .slice G g1 g2] 55)) 25 (.int .i64 q) (.int .i64 n) (.string (bs st)) (.slice A a1 a2) (.slice B b1 b2)
  have hab := ab2 w (Obj.cells #[.int .i64 ver, .slice E e1 e2, .slice F f1 f2, .int .i64 7, .int .i64 s, .string nm, .slice G g1 g2] 55) (Obj.cells #[.int .i64 q, .int .i64 n, .string (bs st), .slice A a1 a2, .slice B b1 b2] 25)
  rw [show (w.alloc (Obj.cells #[.int .i64 ver, .slice E e1 e2, .slice F f1 f2, .int .i64 7, .int .i64 s, .string nm, .slice G g1 g2] 55)).heap.size = w.heap.size + 1 by simp] at D2
  have i0 := D1.c 0 rfl
  have i1 := D1.c 1 rfl
  have i2 := D1.c 2 rfl
  have i3 := D1.c 3 rfl
  have i4 := D1.c 4 rfl
  have i5 := D1.c 5 rfl
  have i6 := D1.c 6 rfl
  have j0 := D2.c 0 rfl
  have j1 := D2.c 1 rfl
  have j2 := D2.c 2 rfl
  have j3 := D2.c 3 rfl
  have j4 := D2.c 4 rfl
  clear D1 D2
  go_enter Try.func28, Try.ntmps28
  go_wp2_with fail
  refine (cA _ hab).mono ?_
  rintro e w2 ⟨rfl, hb2⟩
  go_wp2_with fail
  go_ret
  exact ⟨rfl, Below.next hab hb2⟩
set_option maxRecDepth 100000 in
set_option maxHeartbeats 8000000 in
theorem checko_any (ver : Int) (E : Option Addr) (e1 e2 : Nat) (F : Option Addr) (f1 f2 : Nat) (k : Int) (s : Int) (nm : ByteArray) (G : Option Addr) (g1 g2 : Nat) (q n : Int) (st : List UInt8) (A : Option Addr) (a1 a2 : Nat) (B : Option Addr) (b1 b2 : Nat) (w : World) (k1 : k ≠ 1) (k2 : k ≠ 2) (k3 : k ≠ 3) (k4 : k ≠ 4) (k5 : k ≠ 5) (k6 : k ≠ 6) (k7 : k ≠ 7) :
    Calls Try.prog 28 #[.agg #[.int .i64 ver, .slice E e1 e2, .slice F f1 f2, .int .i64 k, .int .i64 s, .string nm, .slice G g1 g2], .agg #[.int .i64 q, .int .i64 n, .string (bs st), .slice A a1 a2, .slice B b1 b2]] w (Ib (.int .i64 13) w) := by
  have D1 := (Bx.new7 w 55 (.int .i64 ver) (.slice E e1 e2) (.slice F f1 f2) (.int .i64 k) (.int .i64 s) (.string nm) (.slice G g1 g2)).next (ab1 _ (Obj.cells #[.int .i64 q, .int .i64 n, .string (bs st), .slice A a1 a2, .slice B b1 b2] 25))
  have D2 := Bx.new5 (w.alloc (Obj.cells #[.int .i64 ver, .slice E e1 e2, .slice F f1 f2, .int .i64 k, .int .i64 s, .string nm, .slice G g1 g2] 55)) 25 (.int .i64 q) (.int .i64 n) (.string (bs st)) (.slice A a1 a2) (.slice B b1 b2)
  have hab := ab2 w (Obj.cells #[.int .i64 ver, .slice E e1 e2, .slice F f1 f2, .int .i64 k, .int .i64 s, .string nm, .slice G g1 g2] 55) (Obj.cells #[.int .i64 q, .int .i64 n, .string (bs st), .slice A a1 a2, .slice B b1 b2] 25)
  rw [show (w.alloc (Obj.cells #[.int .i64 ver, .slice E e1 e2, .slice F f1 f2, .int .i64 k, .int .i64 s, .string nm, .slice G g1 g2] 55)).heap.size = w.heap.size + 1 by simp] at D2
  have i0 := D1.c 0 rfl
  have i1 := D1.c 1 rfl
  have i2 := D1.c 2 rfl
  have i3 := D1.c 3 rfl
  have i4 := D1.c 4 rfl
  have i5 := D1.c 5 rfl
  have i6 := D1.c 6 rfl
  have j0 := D2.c 0 rfl
  have j1 := D2.c 1 rfl
  have j2 := D2.c 2 rfl
  have j3 := D2.c 3 rfl
  have j4 := D2.c 4 rfl
  clear D1 D2
  have q1 : (k == 1) = false := by simpa using k1
  have q2 : (k == 2) = false := by simpa using k2
  have q3 : (k == 3) = false := by simpa using k3
  have q4 : (k == 4) = false := by simpa using k4
  have q5 : (k == 5) = false := by simpa using k5
  have q6 : (k == 6) = false := by simpa using k6
  have q7 : (k == 7) = false := by simpa using k7
  clear k1 k2 k3 k4 k5 k6 k7
  go_enter Try.func28, Try.ntmps28
  go_wp2_with fail
  go_ret
  exact ⟨rfl, hab⟩
end Go.Proofs.Ytlebppjldoodgaa
/-
  The developers' check of a value, whatever its kind. No conditions beyond those that each names.
-/
namespace Go.Proofs.Ytlebppjldoodgaa
open Go.RowKit
/-- The first error behind the tests of the kind. -/
def inr_ (S : Sch) (t : Ty) (k n : Int) (s : List UInt8) (l : List Vl) (f : List (Int × Vl)) : Int :=
  if (decide (k ≠ 6) || shp (fds S t) f) = false then 13 else
    if rgd S t n = false then 4 else
    if fits t s.length l.length = false then 3 else
    fex (vck.vckl S (t.elem.headD (.mk 0 0 [] [])) l) (vck.vckf S (fds S t) f)
theorem vck_gate {S : Sch} {t : Ty} {k n : Int} {s : List UInt8} {l : List Vl} {f : List (Int × Vl)} {r : Int} (h : right S t = true → k = t.kind → pur k n s l.length f.length = true → r = inr_ S t k n s l f) :
    (if right S t = true ∧ k = t.kind ∧ pur k n s l.length f.length = true then r else 13) = vck S t (.mk k n s l f) := by
  rw [vck]
  by_cases h1 : right S t = true
  · by_cases h2 : k = t.kind
    · by_cases h3 : pur k n s l.length f.length = true
      · rw [if_pos ⟨h1, h2, h3⟩, h h1 h2 h3, h1, h3, decide_eq_true h2, inr_]
        simp only [Bool.true_and, Bool.and_true]
      · rw [if_neg (fun x => h3 x.2.2)]
        have h3 : pur k n s l.length f.length = false := by simpa using h3
        rw [h3]
        simp
    · rw [if_neg (fun x => h2 x.2.1), decide_eq_false h2]
      simp
  · rw [if_neg (fun x => h1 x.1)]
    have h1 : right S t = false := by simpa using h1
    rw [h1]
    simp
theorem fex_r (a : Int) : fex a 0 = a := by unfold fex; split <;> simp [*]
theorem fex_l (a : Int) : fex 0 a = a := fex_zero rfl
theorem pur_l {k n : Int} {s : List UInt8} {l : List Vl} {b : Nat} (h : pur k n s l.length b = true) (hk : k ≠ 5) : l = [] := by
  unfold pur at h
  simp only [Bool.and_eq_true, Bool.or_eq_true, decide_eq_true_eq] at h
  rcases h.2.1 with h | h
  · exact absurd h hk
  · exact List.eq_nil_of_length_eq_zero h
theorem pur_f {k n : Int} {s : List UInt8} {a : Nat} {f : List (Int × Vl)} (h : pur k n s a f.length = true) (hk : k ≠ 6) : f = [] := by
  unfold pur at h
  simp only [Bool.and_eq_true, Bool.or_eq_true, decide_eq_true_eq] at h
  rcases h.2.2.1 with h | h
  · exact absurd h hk
  · exact List.eq_nil_of_length_eq_zero h
theorem inr_plain {S : Sch} {t : Ty} {k n : Int} {s : List UInt8} {l : List Vl} {f : List (Int × Vl)} (hp : pur k n s l.length f.length = true) (h5 : k ≠ 5) (h6 : k ≠ 6) :
    inr_ S t k n s l f = if rgd S t n = false then 4 else if fits t s.length 0 = false then 3 else 0 := by
  obtain rfl := pur_l hp h5
  obtain rfl := pur_f hp h6
  unfold inr_
  rw [decide_eq_true h6, vck.vckl, vck.vckf]
  simp [fex]
theorem fits_no {t : Ty} {a b : Nat} (h4 : t.kind ≠ 4) (h5 : t.kind ≠ 5) : fits t a b = true := by
  unfold fits
  exact decide_eq_true ⟨fun h => absurd h h4, fun h => absurd h h5⟩
theorem rgd_no {S : Sch} {t : Ty} {n : Int} (h1 : t.kind ≠ 1) (h2 : t.kind ≠ 2) (h3 : t.kind ≠ 3) (h7 : t.kind ≠ 7) : rgd S t n = true := by
  unfold rgd
  rw [if_neg h1, if_neg h2, if_neg h3, if_neg h7]
theorem ite_dec (p : Prop) [Decidable p] (q : Bool) (h : q = decide p) (a b : Int) : (if p then a else b) = if q = false then b else a := by
  subst h
  by_cases hp : p <;> simp [hp]
theorem right_two {S : Sch} {s : Int} {nm : List UInt8} {e : List Ty} (h : right S (.mk 2 s nm e) = true) : s = 8 ∨ s = 16 ∨ s = 32 ∨ s = 64 := by
  rw [right_eq] at h
  simp [szOk] at h
  omega
theorem right_three {S : Sch} {s : Int} {nm : List UInt8} {e : List Ty} (h : right S (.mk 3 s nm e) = true) : s = 8 ∨ s = 16 ∨ s = 32 := by
  rw [right_eq] at h
  simp [szOk] at h
  omega
theorem right_none {S : Sch} {k s : Int} {nm : List UInt8} {e : List Ty} (k1 : k ≠ 1) (k2 : k ≠ 2) (k3 : k ≠ 3) (k4 : k ≠ 4) (k5 : k ≠ 5) (k6 : k ≠ 6) (k7 : k ≠ 7) : right S (.mk k s nm e) = false := by
  rw [right_eq]
  simp [szOk, k1, k2, k3, k4, k5, k6, k7]
set_option maxRecDepth 100000 in
set_option maxHeartbeats 8000000 in
theorem check_rec (S : Sch) (hf : Few9 S) (hlk : lok9 S) (hasc : ∀ t ∈ S.structs, AscD t.fields) : ∀ N, CkI S N := by
  intro N
  induction N with
  | zero => intro t v A c A2 c2 G g u w hN; omega
  | succ N ih =>
    intro t v A c A2 c2 G g u w hN hlo hvo hS hG hV
    have cP := fun W (h : Below w.heap.size w W) => permits_any _ S t (.agg #[.int .i64 S.ver, .slice A S.enums.length c, .slice A2 S.structs.length c2]) (.agg #[.int .i64 t.kind, .int .i64 t.size, .string (bs t.name), .slice G t.elem.length g]) W (Nat.lt_succ_self _) hf hlo ⟨A, c, A2, c2, rfl, Sc.next h hS⟩ ⟨G, g, rfl, hG.next fun x p => TyA.next h x p⟩
    obtain ⟨B, b, B2, b2, rfl, hL, hF⟩ := hV
    have hvo2 := vok_iff.1 hvo
    have hlL : ∀ i (h : i < v.l.length), SizeOf.sizeOf (v.l[i]'h) < N ∧ vok (v.l[i]'h) := fun i h => ⟨by have := size_l (t := v) h; omega, hvo2.2.1.2 _ (List.getElem_mem h)⟩
    have hfF : ∀ i (h : i < v.f.length), SizeOf.sizeOf (v.f[i]'h).2 < N ∧ vok (v.f[i]'h).2 := fun i h => ⟨by have := size_f (t := v) h; omega, hvo2.2.2.2 _ (List.getElem_mem h)⟩
    obtain ⟨k, s, nm, e⟩ := t
    obtain ⟨q, n, st, l, f⟩ := v
    have hll : l.length ≤ 9223372036854775807 := hvo2.2.1.1
    have hfl : f.length ≤ 9223372036854775807 := hvo2.2.2.1
    simp only [Ty.kind, Ty.size, Ty.name, Ty.elem] at cP hG
    simp only [Vl.l, Vl.f] at hL hF hlL hfF
    by_cases k1 : k = 1
    · subst k1
      have hA := fun W h => admit_boolean S.ver A S.enums.length c A2 S.structs.length c2 1 s (bs nm) G e.length g q n st B l.length b B2 f.length b2 (right S (.mk 1 s nm e)) (if rgd S (.mk 1 s nm e) n = false then 4 else 0) W (fun W' h' => cP W' (Below.next h h')) (fun _ _ _ W' _ => by
        have h := boolean_any S.ver A S.enums.length c A2 S.structs.length c2 1 s (bs nm) G e.length g q n (bs st) B l.length b B2 f.length b2 W'
        rwa [ite_dec _ (rgd S (.mk 1 s nm e) n) (by unfold rgd; rw [if_pos (by rfl)]; exact decide_eq_decide.2 (by omega)) 0 4] at h)
      have hE := vck_gate (S := S) (t := (.mk 1 s nm e)) (k := q) (n := n) (s := st) (l := l) (f := f) (r := if rgd S (.mk 1 s nm e) n = false then 4 else 0) (fun h1 h2 h3 => by
        have h2 : q = 1 := h2
        rw [inr_plain h3 (by omega) (by omega), fits_no (t := .mk 1 s nm e) (show (1 : Int) ≠ 4 by decide) (show (1 : Int) ≠ 5 by decide)]
        simp)
      show Calls _ _ _ _ (Ib (.int .i64 (vck S (.mk 1 s nm e) (.mk q n st l f))) w)
      rw [← hE]
      exact check1_any S.ver A S.enums.length c A2 S.structs.length c2 s (bs nm) G e.length g q n st B l.length b B2 f.length b2 _ w hA
    by_cases k2 : k = 2
    · subst k2
      have hA := fun W h => admit_signed S.ver A S.enums.length c A2 S.structs.length c2 2 s (bs nm) G e.length g q n st B l.length b B2 f.length b2 (right S (.mk 2 s nm e)) (if rgd S (.mk 2 s nm e) n = false then 4 else 0) W (fun W' h' => cP W' (Below.next h h')) (fun hp _ _ W' _ => by
        rcases right_two hp with rfl | rfl | rfl | rfl
        · exact (by have h := signed8_any S.ver A S.enums.length c A2 S.structs.length c2 2 (bs nm) G e.length g q n (bs st) B l.length b B2 f.length b2 W'; rwa [ite_dec _ (rgd S (.mk 2 8 nm e) n) (by unfold rgd; rw [if_neg (by show ¬ (2 : Int) = 1; decide), if_pos (by rfl)]; exact decide_eq_decide.2 (by rw [show (2 : Int) ^ ((Ty.mk 2 8 nm e).size.toNat - 1) = 128 from rfl]; omega)) 0 4] at h)
        · exact (by have h := signed16_any S.ver A S.enums.length c A2 S.structs.length c2 2 (bs nm) G e.length g q n (bs st) B l.length b B2 f.length b2 W'; rwa [ite_dec _ (rgd S (.mk 2 16 nm e) n) (by unfold rgd; rw [if_neg (by show ¬ (2 : Int) = 1; decide), if_pos (by rfl)]; exact decide_eq_decide.2 (by rw [show (2 : Int) ^ ((Ty.mk 2 16 nm e).size.toNat - 1) = 32768 from rfl]; omega)) 0 4] at h)
        · exact (by have h := signed32_any S.ver A S.enums.length c A2 S.structs.length c2 2 (bs nm) G e.length g q n (bs st) B l.length b B2 f.length b2 W'; rwa [ite_dec _ (rgd S (.mk 2 32 nm e) n) (by unfold rgd; rw [if_neg (by show ¬ (2 : Int) = 1; decide), if_pos (by rfl)]; exact decide_eq_decide.2 (by rw [show (2 : Int) ^ ((Ty.mk 2 32 nm e).size.toNat - 1) = 2147483648 from rfl]; omega)) 0 4] at h)
        · exact (by have h := signed64_any S.ver A S.enums.length c A2 S.structs.length c2 2 (bs nm) G e.length g q n (bs st) B l.length b B2 f.length b2 W'; rwa [ite_dec _ (rgd S (.mk 2 64 nm e) n) (by unfold rgd; rw [if_neg (by show ¬ (2 : Int) = 1; decide), if_pos (by rfl)]; exact decide_eq_decide.2 (by rw [show (2 : Int) ^ ((Ty.mk 2 64 nm e).size.toNat - 1) = 9223372036854775808 from rfl]; omega)) 0 4] at h))
      have hE := vck_gate (S := S) (t := (.mk 2 s nm e)) (k := q) (n := n) (s := st) (l := l) (f := f) (r := if rgd S (.mk 2 s nm e) n = false then 4 else 0) (fun h1 h2 h3 => by
        have h2 : q = 2 := h2
        rw [inr_plain h3 (by omega) (by omega), fits_no (t := .mk 2 s nm e) (show (2 : Int) ≠ 4 by decide) (show (2 : Int) ≠ 5 by decide)]
        simp)
      show Calls _ _ _ _ (Ib (.int .i64 (vck S (.mk 2 s nm e) (.mk q n st l f))) w)
      rw [← hE]
      exact check2_any S.ver A S.enums.length c A2 S.structs.length c2 s (bs nm) G e.length g q n st B l.length b B2 f.length b2 _ w hA
    by_cases k3 : k = 3
    · subst k3
      have hA := fun W h => admit_unsigned S.ver A S.enums.length c A2 S.structs.length c2 3 s (bs nm) G e.length g q n st B l.length b B2 f.length b2 (right S (.mk 3 s nm e)) (if rgd S (.mk 3 s nm e) n = false then 4 else 0) W (fun W' h' => cP W' (Below.next h h')) (fun hp _ _ W' _ => by
        rcases right_three hp with rfl | rfl | rfl
        · exact (by have h := unsigned8_any S.ver A S.enums.length c A2 S.structs.length c2 3 (bs nm) G e.length g q n (bs st) B l.length b B2 f.length b2 W'; rwa [ite_dec _ (rgd S (.mk 3 8 nm e) n) (by unfold rgd; rw [if_neg (by show ¬ (3 : Int) = 1; decide), if_neg (by show ¬ (3 : Int) = 2; decide), if_pos (by rfl)]; exact decide_eq_decide.2 (by rw [show (2 : Int) ^ ((Ty.mk 3 8 nm e).size.toNat) = 256 from rfl]; omega)) 0 4] at h)
        · exact (by have h := unsigned16_any S.ver A S.enums.length c A2 S.structs.length c2 3 (bs nm) G e.length g q n (bs st) B l.length b B2 f.length b2 W'; rwa [ite_dec _ (rgd S (.mk 3 16 nm e) n) (by unfold rgd; rw [if_neg (by show ¬ (3 : Int) = 1; decide), if_neg (by show ¬ (3 : Int) = 2; decide), if_pos (by rfl)]; exact decide_eq_decide.2 (by rw [show (2 : Int) ^ ((Ty.mk 3 16 nm e).size.toNat) = 65536 from rfl]; omega)) 0 4] at h)
        · exact (by have h := unsigned32_any S.ver A S.enums.length c A2 S.structs.length c2 3 (bs nm) G e.length g q n (bs st) B l.length b B2 f.length b2 W'; rwa [ite_dec _ (rgd S (.mk 3 32 nm e) n) (by unfold rgd; rw [if_neg (by show ¬ (3 : Int) = 1; decide), if_neg (by show ¬ (3 : Int) = 2; decide), if_pos (by rfl)]; exact decide_eq_decide.2 (by rw [show (2 : Int) ^ ((Ty.mk 3 32 nm e).size.toNat) = 4294967296 from rfl]; omega)) 0 4] at h))
      have hE := vck_gate (S := S) (t := (.mk 3 s nm e)) (k := q) (n := n) (s := st) (l := l) (f := f) (r := if rgd S (.mk 3 s nm e) n = false then 4 else 0) (fun h1 h2 h3 => by
        have h2 : q = 3 := h2
        rw [inr_plain h3 (by omega) (by omega), fits_no (t := .mk 3 s nm e) (show (3 : Int) ≠ 4 by decide) (show (3 : Int) ≠ 5 by decide)]
        simp)
      show Calls _ _ _ _ (Ib (.int .i64 (vck S (.mk 3 s nm e) (.mk q n st l f))) w)
      rw [← hE]
      exact check3_any S.ver A S.enums.length c A2 S.structs.length c2 s (bs nm) G e.length g q n st B l.length b B2 f.length b2 _ w hA
    by_cases k4 : k = 4
    · subst k4
      have hA := fun W h => admit_text S.ver A S.enums.length c A2 S.structs.length c2 4 s (bs nm) G e.length g q n st B l.length b B2 f.length b2 (right S (.mk 4 s nm e)) (if fits (.mk 4 s nm e) st.length 0 = false then 3 else 0) W (fun W' h' => cP W' (Below.next h h')) (fun _ _ _ W' _ => by
        have h := text_any S.ver A S.enums.length c A2 S.structs.length c2 4 s (bs nm) G e.length g q n st B l.length b B2 f.length b2 W'
        rwa [ite_dec _ (fits (.mk 4 s nm e) st.length 0) (by unfold fits; exact decide_eq_decide.2 ⟨fun h => h.1 rfl, fun h => ⟨fun _ => h, fun h => absurd h (by show ¬ (4 : Int) = 5; decide)⟩⟩) 0 3] at h)
      have hE := vck_gate (S := S) (t := (.mk 4 s nm e)) (k := q) (n := n) (s := st) (l := l) (f := f) (r := if fits (.mk 4 s nm e) st.length 0 = false then 3 else 0) (fun h1 h2 h3 => by
        have h2 : q = 4 := h2
        rw [inr_plain h3 (by omega) (by omega), rgd_no (t := .mk 4 s nm e) (show (4 : Int) ≠ 1 by decide) (show (4 : Int) ≠ 2 by decide) (show (4 : Int) ≠ 3 by decide) (show (4 : Int) ≠ 7 by decide)]
        simp)
      show Calls _ _ _ _ (Ib (.int .i64 (vck S (.mk 4 s nm e) (.mk q n st l f))) w)
      rw [← hE]
      exact check4_any S.ver A S.enums.length c A2 S.structs.length c2 s (bs nm) G e.length g q n st B l.length b B2 f.length b2 _ w hA
    by_cases k5 : k = 5
    · subst k5
      have hA := fun W h => admit_list S.ver A S.enums.length c A2 S.structs.length c2 5 s (bs nm) G e.length g q n st B l.length b B2 f.length b2 (right S (.mk 5 s nm e)) (if fits (.mk 5 s nm e) st.length l.length = false then 3 else vck.vckl S (e.headD (.mk 0 0 [] [])) l) W (fun W' h' => cP W' (Below.next h h')) (fun hp _ _ W' hW => by
        obtain ⟨-, x, rfl, -⟩ := right_list hp
        have h := list_any S N ih A c A2 c2 5 s (bs nm) x G g q n (bs st) l B b B2 f.length b2 W' hlL hll (lok_get (t := .mk 5 s nm [x]) hlo (i := 0) (by show 0 < 1; omega)) (Sc.next (Below.next h hW) hS) (hG.next fun x p => TyA.next (Below.next h hW) x p) (hL.next fun x p => VlA.next (Below.next h hW) x p)
        rwa [ite_dec _ (fits (.mk 5 s nm [x]) st.length l.length) (by unfold fits; exact decide_eq_decide.2 ⟨fun h => h.2 rfl, fun h => ⟨fun h => absurd h (by show ¬ (5 : Int) = 4; decide), fun _ => h⟩⟩) (vck.vckl S x l) 3] at h)
      have hE := vck_gate (S := S) (t := (.mk 5 s nm e)) (k := q) (n := n) (s := st) (l := l) (f := f) (r := if fits (.mk 5 s nm e) st.length l.length = false then 3 else vck.vckl S (e.headD (.mk 0 0 [] [])) l) (fun h1 h2 h3 => by
        have h2 : q = 5 := h2
        obtain rfl := pur_f h3 (by omega)
        subst h2
        unfold inr_
        rw [rgd_no (t := .mk 5 s nm e) (show (5 : Int) ≠ 1 by decide) (show (5 : Int) ≠ 2 by decide) (show (5 : Int) ≠ 3 by decide) (show (5 : Int) ≠ 7 by decide), vck.vckf, fex_r]
        rfl)
      show Calls _ _ _ _ (Ib (.int .i64 (vck S (.mk 5 s nm e) (.mk q n st l f))) w)
      rw [← hE]
      exact check5_any S.ver A S.enums.length c A2 S.structs.length c2 s (bs nm) G e.length g q n st B l.length b B2 f.length b2 _ w hA
    by_cases k6 : k = 6
    · subst k6
      have hA := fun W h => admit_structure S.ver A S.enums.length c A2 S.structs.length c2 6 s (bs nm) G e.length g q n st B l.length b B2 f.length b2 (right S (.mk 6 s nm e)) (if shp (fds S (.mk 6 s nm e)) f = true then vck.vckf S (fds S (.mk 6 s nm e)) f else 13) W (fun W' h' => cP W' (Below.next h h')) (fun _ _ _ W' hW => structure_any S N ih A c A2 c2 6 s nm G e.length g q n (bs st) B l.length b f B2 b2 W' hf hlk hasc hfF hfl (Sc.next (Below.next h hW) hS) (hF.next fun x p => EtA.next (Below.next h hW) x p))
      have hE := vck_gate (S := S) (t := (.mk 6 s nm e)) (k := q) (n := n) (s := st) (l := l) (f := f) (r := if shp (fds S (.mk 6 s nm e)) f = true then vck.vckf S (fds S (.mk 6 s nm e)) f else 13) (fun h1 h2 h3 => by
        have h2 : q = 6 := h2
        obtain rfl := pur_l h3 (by omega)
        subst h2
        unfold inr_
        rw [rgd_no (t := .mk 6 s nm e) (show (6 : Int) ≠ 1 by decide) (show (6 : Int) ≠ 2 by decide) (show (6 : Int) ≠ 3 by decide) (show (6 : Int) ≠ 7 by decide), fits_no (t := .mk 6 s nm e) (show (6 : Int) ≠ 4 by decide) (show (6 : Int) ≠ 5 by decide), vck.vckl, fex_l]
        cases shp (fds S (.mk 6 s nm e)) f <;> simp)
      show Calls _ _ _ _ (Ib (.int .i64 (vck S (.mk 6 s nm e) (.mk q n st l f))) w)
      rw [← hE]
      exact check6_any S.ver A S.enums.length c A2 S.structs.length c2 s (bs nm) G e.length g q n st B l.length b B2 f.length b2 _ w hA
    by_cases k7 : k = 7
    · subst k7
      have hA := fun W h => admit_enum S.ver A S.enums.length c A2 S.structs.length c2 7 s (bs nm) G e.length g q n st B l.length b B2 f.length b2 (right S (.mk 7 s nm e)) (if rgd S (.mk 7 s nm e) n = false then 4 else 0) W (fun W' h' => cP W' (Below.next h h')) (fun _ _ _ W' hW => by
        have h := enum_any S A A2 c c2 7 s nm G e.length g q n (bs st) B l.length b B2 f.length b2 W' hf (Sc.next (Below.next h hW) hS)
        rwa [ite_dec _ (rgd S (.mk 7 s nm e) n) (by unfold rgd; rw [if_neg (by show ¬ (7 : Int) = 1; decide), if_neg (by show ¬ (7 : Int) = 2; decide), if_neg (by show ¬ (7 : Int) = 3; decide), if_pos (by rfl)]; simp [Ty.name]) 0 4] at h)
      have hE := vck_gate (S := S) (t := (.mk 7 s nm e)) (k := q) (n := n) (s := st) (l := l) (f := f) (r := if rgd S (.mk 7 s nm e) n = false then 4 else 0) (fun h1 h2 h3 => by
        have h2 : q = 7 := h2
        rw [inr_plain h3 (by omega) (by omega), fits_no (t := .mk 7 s nm e) (show (7 : Int) ≠ 4 by decide) (show (7 : Int) ≠ 5 by decide)]
        simp)
      show Calls _ _ _ _ (Ib (.int .i64 (vck S (.mk 7 s nm e) (.mk q n st l f))) w)
      rw [← hE]
      exact check7_any S.ver A S.enums.length c A2 S.structs.length c2 s (bs nm) G e.length g q n st B l.length b B2 f.length b2 _ w hA
    have hE : vck S (.mk k s nm e) (.mk q n st l f) = 13 := by
      rw [vck, right_none k1 k2 k3 k4 k5 k6 k7]
      simp
    rw [hE]
    exact checko_any S.ver A S.enums.length c A2 S.structs.length c2 k s (bs nm) G e.length g q n st B l.length b B2 f.length b2 w k1 k2 k3 k4 k5 k6 k7
end Go.Proofs.Ytlebppjldoodgaa

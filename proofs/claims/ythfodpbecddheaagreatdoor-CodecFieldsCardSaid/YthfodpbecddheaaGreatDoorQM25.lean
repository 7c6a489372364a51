/-
  The law's example: its encoding, and what two strings are decoded to. No conditions beyond those that each names.
-/
import Derived.Test.YthfodpbecddheaaGreatDoorQM24
import Derived.Test.YthfodpbecddheaaGreatDoorQM08
import Derived.Test.YthfodpbecddheaaGreatDoorQM12
import Derived.Test.YthfodpbecddheaaGreatDoorQM04
import Derived.RegionTactic
import Derived.BigRegion
import Derived.Test.YthfodpbecddheaaGreatDoorQM13
import Derived.Test.YthfodpbecddheaaGreatDoorQM03
import Derived.Lib.LaidU8
import Derived.Lib.LaidTab
import Derived.Stop.LaidErr
import Derived.MakeChecks
import Derived.Deep.Slices
import Derived.WideKeyArgs
import Derived.ChangeMaps5
namespace Go.Proofs.YthfodpbecddheaaGreatDoor
open Go.RowKit Go.Sort
def bEx : List UInt8 := [1, 1, 3, 2, 1, 1]
def gEx : List UInt8 := [1, 1, 0]
theorem scv_in {w : World} {S : Sch} {A A2 : Option Addr} {c c2 : Nat} (h : ScV w S (.agg #[.int .i64 S.ver, .slice A S.enums.length c, .slice A2 S.structs.length c2])) : Sc w S A A2 := by
  obtain ⟨A', c', A2', c2', e, hs⟩ := h
  injection e with e
  injection e with e
  injection e with e1 e
  injection e with e2 e
  injection e with e3 e
  injection e2 with e2
  injection e3 with e3
  rw [e2, e3]
  exact hs
theorem vlv_in {w : World} {v : Vl} {B D : Option Addr} {b d : Nat} (h : VlV w v (.agg #[.int .i64 v.kind, .int .i64 v.n, .string (bs v.s), .slice B v.l.length b, .slice D v.f.length d])) : Rw EtA 6 w v.f D := by
  obtain ⟨B', b', D', d', e, h1, h2⟩ := h
  injection e with e
  injection e with e
  injection e with e1 e
  injection e with e2 e
  injection e with e3 e
  injection e with e4 e
  injection e with e5 e
  injection e5 with e5
  rw [e5]
  exact h2
/-- What the reader's content of the example's fields is. -/
def ctX (f : Fd) (cc : List UInt8) : Vl × Nat :=
  if f.type.kind = 1 then (if cc = [] then (.mk 0 0 [] [] [], 1) else if cc = [0] then (.mk 1 0 [] [] [], 0) else if cc = [1] then (.mk 1 1 [] [] [], 0) else (.mk 0 0 [] [] [], 2))
  else (.mk 2 (uz (nU cc)) [] [] [], (rnE schEx f.type cc (.mk 2 (uz (nU cc)) [] [] [])).toNat)
theorem ctX_pl (f : Fd) (cc : List UInt8) : ((ctX f cc).1).l = [] ∧ ((ctX f cc).1).f = [] := by
  unfold ctX
  split
  · split
    · exact ⟨rfl, rfl⟩
    · split
      · exact ⟨rfl, rfl⟩
      · split
        · exact ⟨rfl, rfl⟩
        · exact ⟨rfl, rfl⟩
  · exact ⟨rfl, rfl⟩
theorem vchk_nn (S : Sch) (t : Ty) (n : Int) : 0 ≤ vchk S t (.mk 2 n [] [] []) := by
  unfold vchk
  split
  · decide
  · rw [vck]
    split
    · decide
    · split
      · decide
      · split
        · decide
        · rw [vck.vckl, vck.vckf]; decide
theorem rnE_nn (S : Sch) (t : Ty) (l : List UInt8) (n : Int) : 0 ≤ rnE S t l (.mk 2 n [] [] []) := by
  unfold rnE
  split
  · split
    · exact vchk_nn S t n
    · decide
  · omega
def fdX : Fd := ⟨1, [120], false, .mk 2 32 [] []⟩
def fdY : Fd := ⟨2, [111, 110], false, .mk 1 0 [] []⟩
theorem ctX_x (cc : List UInt8) : (ctX fdX cc).1 = .mk 2 (uz (nU cc)) [] [] [] ∧ (((ctX fdX cc).2 : Nat) : Int) = rnE schEx ⟨2, 32, [], []⟩ cc (.mk 2 (uz (nU cc)) [] [] []) := by
  unfold ctX
  rw [if_neg (by decide)]
  exact ⟨rfl, Int.toNat_of_nonneg (rnE_nn _ _ _ _)⟩
set_option maxRecDepth 100000 in
theorem ctX_C (w : World) (A : Option Addr) (c : Nat) (A2 : Option Addr) (c2 : Nat) (hS : Sc w schEx A A2) : ∀ f ∈ ((fst_ St.name schEx.structs [80]).getD st0).fields, ∀ cc W, Below w.heap.size w W → cc.length ≤ 1000000 → ∀ A8 c8, Rw TyA 4 W f.type.elem A8 → Calls Tryz.prog 45 #[.agg #[.int .i64 schEx.ver, .slice A schEx.enums.length c, .slice A2 schEx.structs.length c2], .agg #[.int .i64 f.type.kind, .int .i64 f.type.size, .string (bs f.type.name), .slice A8 f.type.elem.length c8], .string (bs cc)] W (Ib (.tuple #[.agg #[.int .i64 (ctX f cc).1.kind, .int .i64 (ctX f cc).1.n, .string (bs (ctX f cc).1.s), .slice none 0 0, .slice none 0 0], .int .i64 ((ctX f cc).2 : Int)]) W) := by
  intro f hf cc W hb hcc A8 c8 h8
  have hf : f ∈ [fdX, fdY] := hf
  simp only [List.mem_cons, List.not_mem_nil, or_false] at hf
  rcases hf with rfl | rfl
  · have h := rcontent_int schEx A c A2 c2 32 [] A8 0 c8 cc 2 (uz (nU cc)) (rnE schEx ⟨2, 32, [], []⟩ cc (.mk 2 (uz (nU cc)) [] [] [])) ⟨#[]⟩ W (fun W' hb' => number_int schEx A c A2 c2 32 [] A8 [] c8 cc W' few_ex lok_ex asc_ex (by simp [lok, lok.loks]) hcc (Sc.next hb' (Sc.next hb hS)) (.inl rfl))
    obtain ⟨e1, e2⟩ := ctX_x cc
    rw [e1, e2]
    exact h
  · have e1 : ctX fdY cc = if cc = [] then (.mk 0 0 [] [] [], 1) else if cc = [0] then (.mk 1 0 [] [] [], 0) else if cc = [1] then (.mk 1 1 [] [] [], 0) else (.mk 0 0 [] [] [], 2) := if_pos rfl
    by_cases h0 : cc = []
    · rw [e1, if_pos h0]
      subst h0
      exact rcontent_bool schEx A c A2 c2 0 [] A8 0 c8 [] 0 0 1 ⟨#[]⟩ W (fun W' _ => boolean_short schEx A c A2 c2 W')
    · rw [if_neg h0] at e1
      by_cases h1 : cc = [0]
      · rw [e1, if_pos h1]
        subst h1
        exact rcontent_bool schEx A c A2 c2 0 [] A8 0 c8 [0] 1 0 0 ⟨#[]⟩ W (fun W' _ => boolean_0 schEx A c A2 c2 W')
      · rw [if_neg h1] at e1
        by_cases h2 : cc = [1]
        · rw [e1, if_pos h2]
          subst h2
          exact rcontent_bool schEx A c A2 c2 0 [] A8 0 c8 [1] 1 1 0 ⟨#[]⟩ W (fun W' _ => boolean_1 schEx A c A2 c2 W')
        · rw [e1, if_neg h2]
          exact rcontent_bool schEx A c A2 c2 0 [] A8 0 c8 cc 0 0 2 ⟨#[]⟩ W (fun W' _ => boolean_bad schEx A c A2 c2 cc h0 h1 h2 W')
theorem pvX : pv (rV stEx.fields ctX) 6 0 bEx [] = (vEx.f, 0) := by kernel_rfl
theorem pvG : (pv (rV stEx.fields ctX) 3 0 gEx []).2 = 2 := by decide +kernel
theorem dec_ex (a : Value) (w : World) (hE : Env w) (hS : ScV w schEx a) : Calls Tryz.prog 21 #[a, .string (bs [80]), .string (bs bEx)] w (RdW vEx 0 w) :=
  decode_ok schEx [80] bEx a vEx w few_ex few_exB hE tyE_ex (by decide) hS fun W A c A2 c2 h =>
    rcontent_struct schEx A c A2 c2 0 [80] none 0 0 bEx vEx 0 W fun W' hb =>
      rstruct_ok schEx A c A2 c2 0 [80] none 0 0 bEx ctX W' few_ex (by decide) (Sc.next hb (scv_in h)) ctX_pl vEx.f ⟨congrArg Prod.snd pvX, congrArg Prod.fst pvX⟩ rfl
        (fun i h1 h2 => by
          match i, h1, h2 with
          | 0, _, _ => rfl
          | 1, _, _ => rfl)
        (fun x hx => by
          have hx : x ∈ [((1 : Int), Vl.mk 2 (-2) [] [] []), (2, .mk 1 1 [] [] [])] := hx
          simp only [List.mem_cons, List.not_mem_nil, or_false] at hx
          rcases hx with rfl | rfl
          · exact ⟨rfl, rfl⟩
          · exact ⟨rfl, rfl⟩)
        (ctX_C W' A c A2 c2 (Sc.next hb (scv_in h)))
theorem dec_bad (a : Value) (w : World) (hE : Env w) (hS : ScV w schEx a) : Calls Tryz.prog 21 #[a, .string (bs [80]), .string (bs gEx)] w (Ib (.tuple #[.agg #[.int .i64 0, .int .i64 0, .string ⟨#[]⟩, .slice none 0 0, .slice none 0 0], .int .i64 2]) w) :=
  decode_fault schEx [80] gEx a 2 w few_ex few_exB hE tyE_ex (by decide) hS (by decide) fun W A c A2 c2 h =>
    rcontent_fault schEx A c A2 c2 0 [80] none 0 0 gEx 2 W fun W' hb =>
      rstruct_fault schEx A c A2 c2 0 [80] none 0 0 gEx ctX W' few_ex (by decide) (Sc.next hb (scv_in h)) ctX_pl 2 pvG (by decide) (ctX_C W' A c A2 c2 (Sc.next hb (scv_in h)))
/-- The numbers and the contents of the example's fields. -/
def nfX (i : Nat) : Nat := i + 1
def cwX (i : Nat) : List UInt8 := if i = 0 then [3] else [1]
theorem uvX3 : uv (zz (-2)) = [3] := by decide +kernel
theorem uvX1 : uv 1 = [1] := by decide +kernel
theorem gatX : gat (wpi schEx [80] vEx nfX cwX) 2 0 [] = bEx := by decide +kernel
theorem enc_ex (a u : Value) (w : World) (hE : Env w) (hS : ScV w schEx a) (hV : VlV w vEx u) : Calls Tryz.prog 18 #[a, .string (bs [80]), u] w (Ib (.tuple #[.string (bs bEx), .int .i64 0]) w) :=
  encode_ok schEx [80] vEx a u w bEx few_ex few_exB hE lok_ex asc_ex (by simp [vEx, vok, vok.voks, vok.foks]) tyE_ex vchk_ex (by decide) hS hV fun W A c A2 c2 B b D d h1 h2 =>
    content_struct schEx A c A2 c2 0 [80] none 0 0 vEx B b D d W bEx fun W' hb => by
      have h := wstruct_any schEx A c A2 c2 0 [80] none 0 0 vEx B b D d W' nfX cwX few_ex (Sc.next hb (scv_in h1)) ((vlv_in h2).next fun x p => EtA.next hb x p) (by decide)
        (fun i hi => by
          match i, hi with
          | 0, _ => exact ⟨rfl, by decide, by decide⟩
          | 1, _ => exact ⟨rfl, by decide, by decide⟩)
        (fun i hi W8 A8 c8 s' => by
          match i, hi with
          | 0, _ =>
            have h9 := content_int schEx A c A2 c2 32 [] A8 0 c8 2 (-2) [] s'.A 0 s'.c s'.B 0 s'.d W8 (by decide) (by decide)
            rw [uvX3] at h9
            exact h9
          | 1, _ =>
            have h9 := content_uint schEx A c A2 c2 1 0 [] A8 0 c8 1 1 [] s'.A 0 s'.c s'.B 0 s'.d W8 (.inl rfl) (by decide)
            rw [uvX1] at h9
            exact h9)
      rw [show vEx.f.length = 2 from rfl, gatX] at h
      exact h
end Go.Proofs.YthfodpbecddheaaGreatDoor
/-
  The law's example. No conditions beyond those that each names.
-/
namespace Go.Proofs.YthfodpbecddheaaGreatDoor
open Go.RowKit
set_option maxRecDepth 100000 in
set_option maxHeartbeats 8000000 in
theorem awake11_any (w : World) (hE : Env w) : Calls Tryz.prog 20 #[] w (Ib (.bool true) w) := by
  have hvo : vok vEx := by simp [vEx, vok, vok.voks, vok.foks]
  have cS := example11_any w
  have cE := fun W a u h1 h2 h3 => enc_ex a u W h1 h2 h3
  have cD := fun W a h1 h2 => dec_ex a W h1 h2
  have cG := fun W a h1 h2 => dec_bad a W h1 h2
  have cQ := fun W a b h1 h2 => refEqual_any vEx vEx a b W hvo hvo h1 h2
  rw [cm_self] at cQ
  unfold RdW at cD
  have sb : ((bs bEx).toList == [1, 1, 3, 2, 1, 1]) = true := by rw [toList_bs]; rfl
  go_enter Tryz.func20, Tryz.ntmps20
  go_wp2_with fail
  refine cS.mono ?_
  rintro e w1 ⟨a, rfl, ⟨A, c, A2, c2, rfl, hS⟩, hab⟩
  clear cS hvo
  have B1 := Bx.newA w1 25 #[.int .i64 schEx.ver, .slice A schEx.enums.length c, .slice A2 schEx.structs.length c2]
  have hbx := ab1 w1 (Obj.cells #[.int .i64 schEx.ver, .slice A schEx.enums.length c, .slice A2 schEx.structs.length c2] 25)
  go_upto_region 2 with (fail)
  generalize w1.alloc (Obj.cells #[.int .i64 schEx.ver, .slice A schEx.enums.length c, .slice A2 schEx.structs.length c2] 25) = w2 at *
  replace hS := Sc.next hbx hS
  replace hab := Below.next hab hbx
  generalize w1.heap.size = n1 at *
  clear hbx w1
  have B2 := Bx.newA w2 94 #[.int .i64 1, .int .i64 2, .int .i64 (-2), .string ⟨#[]⟩, .slice none 0 0, .slice none 0 0, .int .i64 2, .int .i64 1, .int .i64 1, .string ⟨#[]⟩, .slice none 0 0, .slice none 0 0]
  have hbx := ab1 w2 (Obj.cells #[.int .i64 1, .int .i64 2, .int .i64 (-2), .string ⟨#[]⟩, .slice none 0 0, .slice none 0 0, .int .i64 2, .int .i64 1, .int .i64 1, .string ⟨#[]⟩, .slice none 0 0, .slice none 0 0] 94)
  have z2 : (w2.alloc (Obj.cells #[.int .i64 1, .int .i64 2, .int .i64 (-2), .string ⟨#[]⟩, .slice none 0 0, .slice none 0 0, .int .i64 2, .int .i64 1, .int .i64 1, .string ⟨#[]⟩, .slice none 0 0, .slice none 0 0] 94)).heap.size = w2.heap.size + 1 := by rw [heap_alloc_size]
  have hby := ab1 (w2.alloc (Obj.cells #[.int .i64 1, .int .i64 2, .int .i64 (-2), .string ⟨#[]⟩, .slice none 0 0, .slice none 0 0, .int .i64 2, .int .i64 1, .int .i64 1, .string ⟨#[]⟩, .slice none 0 0, .slice none 0 0] 94)) (Obj.cells #[.int .i64 6, .int .i64 0, .string ⟨#[]⟩, .slice none 0 0, .slice (some ⟨w2.heap.size, 0, none⟩) 2 2] 34)
  have B3 := Bx.newA (w2.alloc (Obj.cells #[.int .i64 1, .int .i64 2, .int .i64 (-2), .string ⟨#[]⟩, .slice none 0 0, .slice none 0 0, .int .i64 2, .int .i64 1, .int .i64 1, .string ⟨#[]⟩, .slice none 0 0, .slice none 0 0] 94)) 34 #[.int .i64 6, .int .i64 0, .string ⟨#[]⟩, .slice none 0 0, .slice (some ⟨w2.heap.size, 0, none⟩) 2 2]
  rw [z2] at B3
  go_upto_region 3 with (fail)
  generalize (w2.alloc (Obj.cells #[.int .i64 1, .int .i64 2, .int .i64 (-2), .string ⟨#[]⟩, .slice none 0 0, .slice none 0 0, .int .i64 2, .int .i64 1, .int .i64 1, .string ⟨#[]⟩, .slice none 0 0, .slice none 0 0] 94)).alloc (Obj.cells #[.int .i64 6, .int .i64 0, .string ⟨#[]⟩, .slice none 0 0, .slice (some ⟨w2.heap.size, 0, none⟩) 2 2] 34) = w3 at *
  clear z2
  replace B1 := (B1.next hbx).next hby
  replace B2 := B2.next hby
  replace hS := Sc.next (Below.next hbx hby) hS
  replace hab := Below.next hab (Below.next hbx hby)
  generalize w2.heap.size = n2 at *
  clear hbx hby
  have hV : ∀ W, Below w3.heap.size w3 W → VlV W vEx (.agg #[.int .i64 6, .int .i64 0, .string ⟨#[]⟩, .slice none 0 0, .slice (some ⟨n2, 0, none⟩) 2 2]) := fun W hb => by
    refine VlV.next hb ⟨none, 0, some ⟨n2, 0, none⟩, 2, rfl, .inl rfl, ?_⟩
    refine rw_cons.2 ⟨_, rfl, ⟨B2.c 0 rfl, ?_⟩, rw_cons.2 ⟨_, rfl, ⟨B2.c 6 rfl, ?_⟩, .inl rfl⟩⟩
    · show VlA w3 (.mk 2 (-2) [] [] []) _
      rw [VlA]
      exact ⟨B2.c 1 rfl, B2.c 2 rfl, B2.c 3 rfl, ⟨none, 0, B2.c 4 rfl, by rw [VlS]; trivial⟩, none, 0, B2.c 5 rfl, by rw [EtS]; trivial⟩
    · show VlA w3 (.mk 1 1 [] [] []) _
      rw [VlA]
      exact ⟨B2.c 7 rfl, B2.c 8 rfl, B2.c 9 rfl, ⟨none, 0, B2.c 10 rfl, by rw [VlS]; trivial⟩, none, 0, B2.c 11 rfl, by rw [EtS]; trivial⟩
  have hS : ∀ W, Below w3.heap.size w3 W → ScV W schEx (.agg #[.int .i64 schEx.ver, .slice A schEx.enums.length c, .slice A2 schEx.structs.length c2]) := fun W hb => ⟨A, c, A2, c2, rfl, Sc.next hb hS⟩
  have hE3 : ∀ W, Below w3.heap.size w3 W → Env W := fun W hb => hE.next (Below.next hab hb)
  clear B2
  have f0 := B1.c 0 rfl
  have f1 := B1.c 1 rfl
  have f2 := B1.c 2 rfl
  have fl := B1.lt
  have g0 := B3.c 0 rfl
  have g1 := B3.c 1 rfl
  have g2 := B3.c 2 rfl
  have g3 := B3.c 3 rfl
  have g4 := B3.c 4 rfl
  have gl := B3.lt
  have c1 := cE w3 _ _ (hE3 _ (Below.refl _ _)) (hS _ (Below.refl _ _)) (hV _ (Below.refl _ _))
  clear cE
  go_wp2_with fail
  refine c1.mono ?_
  rintro e w4 ⟨rfl, hb4⟩
  clear c1 f0 f1 f2 fl g0 g1 g2 g3 g4 gl
  replace B1 := B1.next hb4
  replace B3 := B3.next hb4
  have f0 := B1.c 0 rfl
  have f1 := B1.c 1 rfl
  have f2 := B1.c 2 rfl
  have fl := B1.lt
  have c1 := cD w4 _ (hE3 _ hb4) (hS _ hb4)
  clear cD
  go_wp2_with fail
  refine c1.mono ?_
  rintro e w5 ⟨s1, rfl, hN, hb5⟩
  clear c1 f0 f1 f2 fl
  have hRd := hN.rd
  have hbx := ab1 w5 (Obj.cells #[.int .i64 vEx.kind, .int .i64 vEx.n, .string (bs vEx.s), .slice s1.A vEx.l.length s1.c, .slice s1.B vEx.f.length s1.d] 34)
  have B5 := Bx.newA w5 34 #[.int .i64 vEx.kind, .int .i64 vEx.n, .string (bs vEx.s), .slice s1.A vEx.l.length s1.c, .slice s1.B vEx.f.length s1.d]
  replace hb4 := Below.next hb4 (Below.next hb5 hbx)
  replace B1 := (B1.next hb5).next hbx
  replace B3 := (B3.next hb5).next hbx
  go_upto_region 5 with (fail)
  generalize w5.alloc (Obj.cells #[.int .i64 vEx.kind, .int .i64 vEx.n, .string (bs vEx.s), .slice s1.A vEx.l.length s1.c, .slice s1.B vEx.f.length s1.d] 34) = w6 at *
  replace hRd := hRd.next hbx
  generalize w5.heap.size = n5 at *
  have f0 := B1.c 0 rfl
  have f1 := B1.c 1 rfl
  have f2 := B1.c 2 rfl
  have fl := B1.lt
  have c1 := cG w6 _ (hE3 _ hb4) (hS _ hb4)
  clear cG hb5 hbx
  go_wp2_with fail
  refine c1.mono ?_
  rintro e w7 ⟨rfl, hb7⟩
  clear c1 f0 f1 f2 fl B1
  have hbx := ab1 w7 (Obj.cells #[.int .i64 0, .int .i64 0, .string ⟨#[]⟩, .slice none 0 0, .slice none 0 0] 34)
  replace hb4 := Below.next hb4 (Below.next hb7 hbx)
  replace B3 := (B3.next hb7).next hbx
  replace B5 := (B5.next hb7).next hbx
  replace hRd := (hRd.next hb7).next hbx
  go_upto_region 6 with (fail)
  generalize w7.alloc (Obj.cells #[.int .i64 0, .int .i64 0, .string ⟨#[]⟩, .slice none 0 0, .slice none 0 0] 34) = w8 at *
  clear hb7 hbx
  have g0 := B3.c 0 rfl
  have g1 := B3.c 1 rfl
  have g2 := B3.c 2 rfl
  have g3 := B3.c 3 rfl
  have g4 := B3.c 4 rfl
  have gl := B3.lt
  have h0 := B5.c 0 rfl
  have h1 := B5.c 1 rfl
  have h2 := B5.c 2 rfl
  have h3 := B5.c 3 rfl
  have h4 := B5.c 4 rfl
  have hl := B5.lt
  have c1 := cQ w8 _ _ (rdV_iff.2 ⟨s1, rfl, hRd⟩) (hV _ hb4)
  clear cQ
  go_wp2_with fail
  refine c1.mono ?_
  rintro e w9 ⟨rfl, hb9⟩
  clear c1
  go_wp2_with fail
  go_ret
  exact ⟨rfl, Below.next hab (Below.next hb4 hb9)⟩
end Go.Proofs.YthfodpbecddheaaGreatDoor
/-
  The reference's next: one field of a sequence. No conditions beyond those that each names.
-/
namespace Go.Proofs.YthfodpbecddheaaGreatDoor
open Go.RowKit
/-- How many bytes a field takes. -/
def kF (l : List UInt8) : Nat := kU l + kU (rF l) + nU (rF l)
set_option maxRecDepth 100000 in
set_option maxHeartbeats 4000000 in
theorem next_e1 (S : List UInt8) (a a1 n last e1 : Nat) (w : World) (h1 : e1 ≠ 0) (cS : ∀ W, Calls Tryz.prog 105 #[.agg #[.string (bs S), .int .i64 (a : Int), .int .i64 0], .int .i64 2147483647] W (Ib (.tuple #[.agg #[.string (bs S), .int .i64 (a1 : Int), .int .i64 (e1 : Int)], .int .i64 (n : Int)]) W)) :
    Calls Tryz.prog 51 #[.string (bs S), .int .i64 (a : Int), .int .i64 (last : Int)] w (Ib (.tuple #[.agg #[.int .i64 0, .string ⟨#[]⟩], .int .i64 0, .int .i64 (e1 : Int)]) w) := by
  have q1 : ((e1 : Int) != 0) = true := by simpa using h1
  have hab := ab1 w (Obj.cells #[.int .i64 0, .string ⟨#[]⟩] 64)
  have B6 := Bx.new2 w 64 (.int .i64 0) (.string ⟨#[]⟩)
  have hz : w.heap.size < (w.alloc (Obj.cells #[.int .i64 0, .string ⟨#[]⟩] 64)).heap.size := by simp
  go_enter Tryz.func51, Tryz.ntmps51
  go_upto_region 1 with (fail)
  generalize w.alloc (Obj.cells #[.int .i64 0, .string ⟨#[]⟩] 64) = w1 at *
  go_wp2_with fail
  refine (cS w1).mono ?_
  rintro en w2 ⟨rfl, hb2⟩
  replace B6 := B6.next hb2
  replace hab := Below.next hab hb2
  have hz2 : w.heap.size < w2.heap.size := Nat.lt_of_lt_of_le hz hb2.size
  have C9 := Bx.new3 w2 137 (.string (bs S)) (.int .i64 (a1 : Int)) (.int .i64 (e1 : Int))
  have hbx := ab1 w2 (Obj.cells #[.string (bs S), .int .i64 (a1 : Int), .int .i64 (e1 : Int)] 137)
  replace B6 := B6.next hbx
  replace hab := Below.next hab hbx
  clear hb2 hbx hz cS
  go_upto_region 2 with (fail)
  generalize w2.alloc (Obj.cells #[.string (bs S), .int .i64 (a1 : Int), .int .i64 (e1 : Int)] 137) = w3 at *
  generalize w2.heap.size = b9 at *
  have v2 := C9.c 2 rfl
  have l9 := C9.lt
  have q0 := B6.f 0 rfl
  have q2 := B6.f 1 rfl
  have p0 := B6.c 0 rfl
  have p1 := B6.c 1 rfl
  have l6 := B6.lt
  go_wp2_with fail
  go_region
  go_wp2_with fail
  refine bodyPost_ret (v := .tuple #[.agg #[.int .i64 0, .string ⟨#[]⟩], .int .i64 0, .int .i64 (e1 : Int)]) (by simp [results, Tryz.results51, go_sem, p0, p1]) rfl ?_
  exact ⟨rfl, below_drewN ((hab.setCell (p := ⟨w.heap.size, 0, none⟩) (Nat.le_refl _) _).setCell (p := ⟨w.heap.size, 1, none⟩) (Nat.le_refl _) _) 1⟩
set_option maxRecDepth 100000 in
set_option maxHeartbeats 4000000 in
theorem next_e2 (S : List UInt8) (a a1 n last : Nat) (w : World) (h1 : n ≤ last) (cS : ∀ W, Calls Tryz.prog 105 #[.agg #[.string (bs S), .int .i64 (a : Int), .int .i64 0], .int .i64 2147483647] W (Ib (.tuple #[.agg #[.string (bs S), .int .i64 (a1 : Int), .int .i64 0], .int .i64 (n : Int)]) W)) :
    Calls Tryz.prog 51 #[.string (bs S), .int .i64 (a : Int), .int .i64 (last : Int)] w (Ib (.tuple #[.agg #[.int .i64 0, .string ⟨#[]⟩], .int .i64 0, .int .i64 2]) w) := by
  have d1 : decide (n ≤ last) = true := decide_eq_true h1
  clear h1
  have hab := ab1 w (Obj.cells #[.int .i64 0, .string ⟨#[]⟩] 64)
  have B6 := Bx.new2 w 64 (.int .i64 0) (.string ⟨#[]⟩)
  have hz : w.heap.size < (w.alloc (Obj.cells #[.int .i64 0, .string ⟨#[]⟩] 64)).heap.size := by simp
  go_enter Tryz.func51, Tryz.ntmps51
  go_upto_region 1 with (fail)
  generalize w.alloc (Obj.cells #[.int .i64 0, .string ⟨#[]⟩] 64) = w1 at *
  go_wp2_with fail
  refine (cS w1).mono ?_
  rintro en w2 ⟨rfl, hb2⟩
  replace B6 := B6.next hb2
  replace hab := Below.next hab hb2
  have hz2 : w.heap.size < w2.heap.size := Nat.lt_of_lt_of_le hz hb2.size
  have C9 := Bx.new3 w2 137 (.string (bs S)) (.int .i64 (a1 : Int)) (.int .i64 0)
  have hbx := ab1 w2 (Obj.cells #[.string (bs S), .int .i64 (a1 : Int), .int .i64 0] 137)
  replace B6 := B6.next hbx
  replace hab := Below.next hab hbx
  clear hb2 hbx hz cS
  go_upto_region 2 with (fail)
  generalize w2.alloc (Obj.cells #[.string (bs S), .int .i64 (a1 : Int), .int .i64 0] 137) = w3 at *
  generalize w2.heap.size = b9 at *
  have v2 := C9.c 2 rfl
  have l9 := C9.lt
  have q0 := B6.f 0 rfl
  have q2 := B6.f 1 rfl
  have p0 := B6.c 0 rfl
  have p1 := B6.c 1 rfl
  have l6 := B6.lt
  go_wp2_with fail
  refine bodyPost_ret (v := .tuple #[.agg #[.int .i64 0, .string ⟨#[]⟩], .int .i64 0, .int .i64 2]) (by simp [results, Tryz.results51, go_sem, p0, p1]) rfl ?_
  exact ⟨rfl, (hab.setCell (p := ⟨w.heap.size, 0, none⟩) (Nat.le_refl _) _).setCell (p := ⟨w.heap.size, 1, none⟩) (Nat.le_refl _) _⟩
set_option maxRecDepth 100000 in
set_option maxHeartbeats 4000000 in
theorem next_e3 (S : List UInt8) (a a1 a2 n k last e2 : Nat) (w : World) (h1 : last < n) (h2 : e2 ≠ 0) (cS : ∀ W, Calls Tryz.prog 105 #[.agg #[.string (bs S), .int .i64 (a : Int), .int .i64 0], .int .i64 2147483647] W (Ib (.tuple #[.agg #[.string (bs S), .int .i64 (a1 : Int), .int .i64 0], .int .i64 (n : Int)]) W)) (cU : ∀ W, Calls Tryz.prog 106 #[.agg #[.string (bs S), .int .i64 (a1 : Int), .int .i64 0]] W (Ib (.tuple #[.agg #[.string (bs S), .int .i64 (a2 : Int), .int .i64 (e2 : Int)], .int .u64 (k : Int)]) W)) :
    Calls Tryz.prog 51 #[.string (bs S), .int .i64 (a : Int), .int .i64 (last : Int)] w (Ib (.tuple #[.agg #[.int .i64 0, .string ⟨#[]⟩], .int .i64 0, .int .i64 (e2 : Int)]) w) := by
  have d1 : decide (n ≤ last) = false := decide_eq_false (by omega)
  have q2' : ((e2 : Int) != 0) = true := by simpa using h2
  clear h1 h2
  have hab := ab1 w (Obj.cells #[.int .i64 0, .string ⟨#[]⟩] 64)
  have B6 := Bx.new2 w 64 (.int .i64 0) (.string ⟨#[]⟩)
  have hz : w.heap.size < (w.alloc (Obj.cells #[.int .i64 0, .string ⟨#[]⟩] 64)).heap.size := by simp
  go_enter Tryz.func51, Tryz.ntmps51
  go_upto_region 1 with (fail)
  generalize w.alloc (Obj.cells #[.int .i64 0, .string ⟨#[]⟩] 64) = w1 at *
  go_wp2_with fail
  refine (cS w1).mono ?_
  rintro en w2 ⟨rfl, hb2⟩
  replace B6 := B6.next hb2
  replace hab := Below.next hab hb2
  have hz2 : w.heap.size < w2.heap.size := Nat.lt_of_lt_of_le hz hb2.size
  have C9 := Bx.new3 w2 137 (.string (bs S)) (.int .i64 (a1 : Int)) (.int .i64 0)
  have hbx := ab1 w2 (Obj.cells #[.string (bs S), .int .i64 (a1 : Int), .int .i64 0] 137)
  replace B6 := B6.next hbx
  replace hab := Below.next hab hbx
  clear hb2 hbx hz cS
  go_upto_region 2 with (fail)
  generalize w2.alloc (Obj.cells #[.string (bs S), .int .i64 (a1 : Int), .int .i64 0] 137) = w3 at *
  generalize w2.heap.size = b9 at *
  have v2 := C9.c 2 rfl
  have l9 := C9.lt
  have v0 := C9.c 0 rfl
  have v1 := C9.c 1 rfl
  have g0 := C9.f 0 rfl
  have g1 := C9.f 1 rfl
  have g2 := C9.f 2 rfl
  go_wp2_with fail
  refine (cU w3).mono ?_
  rintro en w4 ⟨rfl, hb4⟩
  replace B6 := B6.next hb4
  replace C9 := C9.next hb4
  replace hab := Below.next hab hb4
  have hst := gb_set3 w4 b9 (.string (bs S)) (.int .i64 (a2 : Int)) (.int .i64 (e2 : Int))
  have D9 := C9.put3 (.string (bs S)) (.int .i64 (a2 : Int)) (.int .i64 (e2 : Int))
  have D6 := B6.gb hst (by omega)
  have hab5 := ((hab.setCell (p := ⟨b9, 0, none⟩) (Nat.le_of_lt hz2) (.string (bs S))).setCell (p := ⟨b9, 1, none⟩) (Nat.le_of_lt hz2) (.int .i64 (a2 : Int))).setCell (p := ⟨b9, 2, none⟩) (Nat.le_of_lt hz2) (.int .i64 (e2 : Int))
  clear v0 v1 v2 g0 g1 g2 l9 cU hb4 hst
  have g0 := C9.f 0 rfl
  have g1 := C9.f 1 rfl
  have g2 := C9.f 2 rfl
  have v0 := C9.c 0 rfl
  have v1 := C9.c 1 rfl
  have v2 := C9.c 2 rfl
  have l9 := C9.lt
  go_upto_region 7 with (fail)
  generalize ((w4.setCell ⟨b9, 0, none⟩ (.string (bs S))).setCell ⟨b9, 1, none⟩ (.int .i64 (a2 : Int))).setCell ⟨b9, 2, none⟩ (.int .i64 (e2 : Int)) = w5 at *
  clear v0 v1 v2 g0 g1 g2 l9 B6 C9 hab
  have v0 := D9.c 0 rfl
  have v1 := D9.c 1 rfl
  have v2 := D9.c 2 rfl
  have l9 := D9.lt
  have q0 := D6.f 0 rfl
  have q2 := D6.f 1 rfl
  have p0 := D6.c 0 rfl
  have p1 := D6.c 1 rfl
  have l6 := D6.lt
  go_wp2_with fail
  go_region
  go_wp2_with fail
  refine bodyPost_ret (v := .tuple #[.agg #[.int .i64 0, .string ⟨#[]⟩], .int .i64 0, .int .i64 (e2 : Int)]) (by simp [results, Tryz.results51, go_sem, p0, p1]) rfl ?_
  exact ⟨rfl, below_drewN ((hab5.setCell (p := ⟨w.heap.size, 0, none⟩) (Nat.le_refl _) _).setCell (p := ⟨w.heap.size, 1, none⟩) (Nat.le_refl _) _) 1⟩
set_option maxRecDepth 100000 in
set_option maxHeartbeats 4000000 in
theorem next_e4 (S : List UInt8) (a a1 a2 n k last lf : Nat) (w : World) (h1 : last < n) (h2 : lf < k) (hl : lf ≤ 9223372036854775807) (cS : ∀ W, Calls Tryz.prog 105 #[.agg #[.string (bs S), .int .i64 (a : Int), .int .i64 0], .int .i64 2147483647] W (Ib (.tuple #[.agg #[.string (bs S), .int .i64 (a1 : Int), .int .i64 0], .int .i64 (n : Int)]) W)) (cU : ∀ W, Calls Tryz.prog 106 #[.agg #[.string (bs S), .int .i64 (a1 : Int), .int .i64 0]] W (Ib (.tuple #[.agg #[.string (bs S), .int .i64 (a2 : Int), .int .i64 0], .int .u64 (k : Int)]) W)) (cL : ∀ W, Calls Tryz.prog 107 #[.agg #[.string (bs S), .int .i64 (a2 : Int), .int .i64 0]] W (Ib (.int .i64 (lf : Int)) W)) :
    Calls Tryz.prog 51 #[.string (bs S), .int .i64 (a : Int), .int .i64 (last : Int)] w (Ib (.tuple #[.agg #[.int .i64 0, .string ⟨#[]⟩], .int .i64 0, .int .i64 1]) w) := by
  have d1 : decide (n ≤ last) = false := decide_eq_false (by omega)
  have d2 : decide (lf < k) = true := decide_eq_true h2
  have wu := wr_u hl
  clear h1 h2 hl
  have hab := ab1 w (Obj.cells #[.int .i64 0, .string ⟨#[]⟩] 64)
  have B6 := Bx.new2 w 64 (.int .i64 0) (.string ⟨#[]⟩)
  have hz : w.heap.size < (w.alloc (Obj.cells #[.int .i64 0, .string ⟨#[]⟩] 64)).heap.size := by simp
  go_enter Tryz.func51, Tryz.ntmps51
  go_upto_region 1 with (fail)
  generalize w.alloc (Obj.cells #[.int .i64 0, .string ⟨#[]⟩] 64) = w1 at *
  go_wp2_with fail
  refine (cS w1).mono ?_
  rintro en w2 ⟨rfl, hb2⟩
  replace B6 := B6.next hb2
  replace hab := Below.next hab hb2
  have hz2 : w.heap.size < w2.heap.size := Nat.lt_of_lt_of_le hz hb2.size
  have C9 := Bx.new3 w2 137 (.string (bs S)) (.int .i64 (a1 : Int)) (.int .i64 0)
  have hbx := ab1 w2 (Obj.cells #[.string (bs S), .int .i64 (a1 : Int), .int .i64 0] 137)
  replace B6 := B6.next hbx
  replace hab := Below.next hab hbx
  clear hb2 hbx hz cS
  go_upto_region 2 with (fail)
  generalize w2.alloc (Obj.cells #[.string (bs S), .int .i64 (a1 : Int), .int .i64 0] 137) = w3 at *
  generalize w2.heap.size = b9 at *
  have v2 := C9.c 2 rfl
  have l9 := C9.lt
  have v0 := C9.c 0 rfl
  have v1 := C9.c 1 rfl
  have g0 := C9.f 0 rfl
  have g1 := C9.f 1 rfl
  have g2 := C9.f 2 rfl
  go_wp2_with fail
  refine (cU w3).mono ?_
  rintro en w4 ⟨rfl, hb4⟩
  replace B6 := B6.next hb4
  replace C9 := C9.next hb4
  replace hab := Below.next hab hb4
  have hst := gb_set3 w4 b9 (.string (bs S)) (.int .i64 (a2 : Int)) (.int .i64 0)
  have D9 := C9.put3 (.string (bs S)) (.int .i64 (a2 : Int)) (.int .i64 0)
  have D6 := B6.gb hst (by omega)
  have hab5 := ((hab.setCell (p := ⟨b9, 0, none⟩) (Nat.le_of_lt hz2) (.string (bs S))).setCell (p := ⟨b9, 1, none⟩) (Nat.le_of_lt hz2) (.int .i64 (a2 : Int))).setCell (p := ⟨b9, 2, none⟩) (Nat.le_of_lt hz2) (.int .i64 0)
  clear v0 v1 v2 g0 g1 g2 l9 cU hb4 hst
  have g0 := C9.f 0 rfl
  have g1 := C9.f 1 rfl
  have g2 := C9.f 2 rfl
  have v0 := C9.c 0 rfl
  have v1 := C9.c 1 rfl
  have v2 := C9.c 2 rfl
  have l9 := C9.lt
  go_upto_region 7 with (fail)
  generalize ((w4.setCell ⟨b9, 0, none⟩ (.string (bs S))).setCell ⟨b9, 1, none⟩ (.int .i64 (a2 : Int))).setCell ⟨b9, 2, none⟩ (.int .i64 0) = w5 at *
  clear v0 v1 v2 g0 g1 g2 l9 B6 C9 hab
  have v0 := D9.c 0 rfl
  have v1 := D9.c 1 rfl
  have v2 := D9.c 2 rfl
  have l9 := D9.lt
  have q0 := D6.f 0 rfl
  have q2 := D6.f 1 rfl
  have p0 := D6.c 0 rfl
  have p1 := D6.c 1 rfl
  have l6 := D6.lt
  go_wp2_with fail
  refine (cL w5).mono ?_
  rintro en w6 ⟨rfl, hb6⟩
  clear p0 p1 q0 q2 l6 v0 v1 v2 l9
  replace D6 := D6.next hb6
  replace D9 := D9.next hb6
  have hab := Below.next hab5 hb6
  have q0 := D6.f 0 rfl
  have q2 := D6.f 1 rfl
  have p0 := D6.c 0 rfl
  have p1 := D6.c 1 rfl
  have l6 := D6.lt
  go_wp2_with fail
  refine bodyPost_ret (v := .tuple #[.agg #[.int .i64 0, .string ⟨#[]⟩], .int .i64 0, .int .i64 1]) (by simp [results, Tryz.results51, go_sem, p0, p1]) rfl ?_
  exact ⟨rfl, (hab.setCell (p := ⟨w.heap.size, 0, none⟩) (Nat.le_refl _) _).setCell (p := ⟨w.heap.size, 1, none⟩) (Nat.le_refl _) _⟩
set_option maxRecDepth 100000 in
set_option maxHeartbeats 4000000 in
theorem next_ok (S : List UInt8) (a a1 a2 n k last lf : Nat) (w : World) (h1 : last < n) (h2 : k ≤ lf) (hl : S.length ≤ 1000000) (hlf : a2 + lf = S.length) (cS : ∀ W, Calls Tryz.prog 105 #[.agg #[.string (bs S), .int .i64 (a : Int), .int .i64 0], .int .i64 2147483647] W (Ib (.tuple #[.agg #[.string (bs S), .int .i64 (a1 : Int), .int .i64 0], .int .i64 (n : Int)]) W)) (cU : ∀ W, Calls Tryz.prog 106 #[.agg #[.string (bs S), .int .i64 (a1 : Int), .int .i64 0]] W (Ib (.tuple #[.agg #[.string (bs S), .int .i64 (a2 : Int), .int .i64 0], .int .u64 (k : Int)]) W)) (cL : ∀ W, Calls Tryz.prog 107 #[.agg #[.string (bs S), .int .i64 (a2 : Int), .int .i64 0]] W (Ib (.int .i64 (lf : Int)) W)) :
    Calls Tryz.prog 51 #[.string (bs S), .int .i64 (a : Int), .int .i64 (last : Int)] w (Ib (.tuple #[.agg #[.int .i64 (n : Int), .string (bs ((S.drop a2).take k))], .int .i64 ((a2 + k : Nat) : Int), .int .i64 0]) w) := by
  have d1 : decide (n ≤ last) = false := decide_eq_false (by omega)
  have d2 : decide (lf < k) = false := decide_eq_false (by omega)
  have wu := wr_u (k := lf) (by omega)
  have wi := wr_i (k := k) (by omega)
  have ww : wrap64 ((a2 : Int) + (k : Int)) = ((a2 + k : Nat) : Int) := by unfold wrap64; omega
  have hs : (a2 + k) ≤ (bs S).size := by rw [bs_size]; omega
  have hx : (bs S).extract a2 (a2 + k) = bs ((S.drop a2).take k) := by rw [bs_slice, List.drop_take]; congr 1; congr 1; omega
  clear h1
  have hab := ab1 w (Obj.cells #[.int .i64 0, .string ⟨#[]⟩] 64)
  have B6 := Bx.new2 w 64 (.int .i64 0) (.string ⟨#[]⟩)
  have hz : w.heap.size < (w.alloc (Obj.cells #[.int .i64 0, .string ⟨#[]⟩] 64)).heap.size := by simp
  go_enter Tryz.func51, Tryz.ntmps51
  go_upto_region 1 with (fail)
  generalize w.alloc (Obj.cells #[.int .i64 0, .string ⟨#[]⟩] 64) = w1 at *
  go_wp2_with fail
  refine (cS w1).mono ?_
  rintro en w2 ⟨rfl, hb2⟩
  replace B6 := B6.next hb2
  replace hab := Below.next hab hb2
  have hz2 : w.heap.size < w2.heap.size := Nat.lt_of_lt_of_le hz hb2.size
  have C9 := Bx.new3 w2 137 (.string (bs S)) (.int .i64 (a1 : Int)) (.int .i64 0)
  have hbx := ab1 w2 (Obj.cells #[.string (bs S), .int .i64 (a1 : Int), .int .i64 0] 137)
  replace B6 := B6.next hbx
  replace hab := Below.next hab hbx
  clear hb2 hbx hz cS
  go_upto_region 2 with (fail)
  generalize w2.alloc (Obj.cells #[.string (bs S), .int .i64 (a1 : Int), .int .i64 0] 137) = w3 at *
  generalize w2.heap.size = b9 at *
  have v2 := C9.c 2 rfl
  have l9 := C9.lt
  have v0 := C9.c 0 rfl
  have v1 := C9.c 1 rfl
  have g0 := C9.f 0 rfl
  have g1 := C9.f 1 rfl
  have g2 := C9.f 2 rfl
  go_wp2_with fail
  refine (cU w3).mono ?_
  rintro en w4 ⟨rfl, hb4⟩
  replace B6 := B6.next hb4
  replace C9 := C9.next hb4
  replace hab := Below.next hab hb4
  have hst := gb_set3 w4 b9 (.string (bs S)) (.int .i64 (a2 : Int)) (.int .i64 0)
  have D9 := C9.put3 (.string (bs S)) (.int .i64 (a2 : Int)) (.int .i64 0)
  have D6 := B6.gb hst (by omega)
  have hab5 := ((hab.setCell (p := ⟨b9, 0, none⟩) (Nat.le_of_lt hz2) (.string (bs S))).setCell (p := ⟨b9, 1, none⟩) (Nat.le_of_lt hz2) (.int .i64 (a2 : Int))).setCell (p := ⟨b9, 2, none⟩) (Nat.le_of_lt hz2) (.int .i64 0)
  clear v0 v1 v2 g0 g1 g2 l9 cU hb4 hst
  have g0 := C9.f 0 rfl
  have g1 := C9.f 1 rfl
  have g2 := C9.f 2 rfl
  have v0 := C9.c 0 rfl
  have v1 := C9.c 1 rfl
  have v2 := C9.c 2 rfl
  have l9 := C9.lt
  go_upto_region 7 with (fail)
  generalize ((w4.setCell ⟨b9, 0, none⟩ (.string (bs S))).setCell ⟨b9, 1, none⟩ (.int .i64 (a2 : Int))).setCell ⟨b9, 2, none⟩ (.int .i64 0) = w5 at *
  clear v0 v1 v2 g0 g1 g2 l9 B6 C9 hab
  have v0 := D9.c 0 rfl
  have v1 := D9.c 1 rfl
  have v2 := D9.c 2 rfl
  have l9 := D9.lt
  go_wp2_with fail
  refine (cL w5).mono ?_
  rintro en w6 ⟨rfl, hb6⟩
  clear v0 v1 v2 l9
  replace D6 := D6.next hb6
  replace D9 := D9.next hb6
  have hab := Below.next hab5 hb6
  have v1 := D9.c 1 rfl
  have l9 := D9.lt
  have q0 := D6.f 0 rfl
  have q2 := D6.f 1 rfl
  have p0 := D6.c 0 rfl
  have p1 := D6.c 1 rfl
  have l6 := D6.lt
  go_wp2_with fail
  go_region
  go_wp2_with fail
  refine bodyPost_ret (v := .tuple #[.agg #[.int .i64 (n : Int), .string (bs ((S.drop a2).take k))], .int .i64 ((a2 : Int) + (k : Int)), .int .i64 0]) (by simp [results, Tryz.results51, go_sem, p0, p1]) rfl ?_
  exact ⟨rfl, below_drewN ((hab.setCell (p := ⟨w.heap.size, 0, none⟩) (Nat.le_refl _) _).setCell (p := ⟨w.heap.size, 1, none⟩) (Nat.le_refl _) _) 1⟩
theorem kU_drop {S : List UInt8} {a : Nat} (h : eU (S.drop a) = 0) : rU (S.drop a) = S.drop (a + kU (S.drop a)) := by
  rw [rU_eq h, List.drop_drop]
theorem next_err (S : List UInt8) (a last e : Nat) (w : World) (hS : S.length ≤ 1000000) (ha : a ≤ S.length) (he : eF last (S.drop a) = e) (h0 : e ≠ 0) :
    Calls Tryz.prog 51 #[.string (bs S), .int .i64 (a : Int), .int .i64 (last : Int)] w (Ib (.tuple #[.agg #[.int .i64 0, .string ⟨#[]⟩], .int .i64 0, .int .i64 (e : Int)]) w) := by
  have cS := fun W => refS_any S a 0 2147483647 W (by omega) ha (by decide) (by decide)
  unfold rs at cS
  by_cases h1 : eN4 (S.drop a) = 0
  · obtain ⟨k1, k2, k3, k4⟩ := rF_ok h1
    have k5 := kU_drop k3
    have hk := kU_len k3
    rw [List.length_drop] at hk
    have e0 : eS 2147483647 4 (S.drop a) = 0 := h1
    rw [e0] at cS
    have ap : aP 0 0 a (kU (S.drop a)) = a + kU (S.drop a) := by unfold aP; rw [if_pos ⟨rfl, rfl⟩]
    rw [ap] at cS
    have hn : (if (0 : Nat) = 0 then nS 2147483647 (S.drop a) else 0) = nF (S.drop a) := by rw [if_pos rfl]; rfl
    rw [hn] at cS
    unfold eF at he
    rw [h1, if_neg (fun h => h rfl)] at he
    by_cases h2 : nF (S.drop a) ≤ last
    · rw [if_pos h2] at he
      subst he
      exact next_e2 S a _ _ last w h2 cS
    · rw [if_neg h2] at he
      have cU := fun W => refU_any S (a + kU (S.drop a)) 0 W (by omega) (by omega)
      unfold rs at cU
      rw [k1, k5] at he
      unfold eC at he
      by_cases h3 : eU (S.drop (a + kU (S.drop a))) = 0
      · rw [if_neg (fun h => h h3)] at he
        have k6 := kU_drop h3
        have hk2 := kU_len h3
        rw [List.length_drop] at hk2
        rw [h3] at cU
        have ap2 : aP 0 0 (a + kU (S.drop a)) (kU (S.drop (a + kU (S.drop a)))) = a + kU (S.drop a) + kU (S.drop (a + kU (S.drop a))) := by unfold aP; rw [if_pos ⟨rfl, rfl⟩]
        rw [ap2] at cU
        rw [k6, List.length_drop] at he
        by_cases h4 : S.length - (a + kU (S.drop a) + kU (S.drop (a + kU (S.drop a)))) < nU (S.drop (a + kU (S.drop a)))
        · rw [if_pos h4] at he
          subst he
          have cL := fun W => refLeft_any S (a + kU (S.drop a) + kU (S.drop (a + kU (S.drop a)))) 0 W (by omega) (by omega)
          unfold rs at cL
          exact next_e4 S a _ _ _ (nU (S.drop (a + kU (S.drop a)))) last _ w (by omega) h4 (by omega) cS (fun W => by have := cU W; rwa [if_pos rfl] at this) cL
        · rw [if_neg h4] at he
          exact absurd he.symm h0
      · rw [if_pos h3] at he
        rw [he] at cU h3
        exact next_e3 S a _ _ _ _ last e w (by omega) h3 cS cU
  · unfold eF at he
    rw [if_pos h1] at he
    have e0 : eS 2147483647 4 (S.drop a) = e := he
    rw [e0] at cS
    exact next_e1 S a _ _ last e w h0 cS
theorem next_go (S : List UInt8) (a last : Nat) (w : World) (hS : S.length ≤ 1000000) (ha : a ≤ S.length) (he : eF last (S.drop a) = 0) :
    Calls Tryz.prog 51 #[.string (bs S), .int .i64 (a : Int), .int .i64 (last : Int)] w (Ib (.tuple #[.agg #[.int .i64 (nF (S.drop a) : Int), .string (bs (cF (S.drop a)))], .int .i64 ((a + kF (S.drop a) : Nat) : Int), .int .i64 0]) w) ∧ tF (S.drop a) = S.drop (a + kF (S.drop a)) ∧ a + kF (S.drop a) ≤ S.length ∧ last < nF (S.drop a) := by
  have cS := fun W => refS_any S a 0 2147483647 W (by omega) ha (by decide) (by decide)
  unfold rs at cS
  unfold eF at he
  by_cases h1 : eN4 (S.drop a) = 0
  case neg => rw [if_pos h1] at he; exact absurd he h1
  obtain ⟨k1, k2, k3, k4⟩ := rF_ok h1
  have k5 := kU_drop k3
  have hk := kU_len k3
  rw [List.length_drop] at hk
  have e0 : eS 2147483647 4 (S.drop a) = 0 := h1
  rw [e0] at cS
  have ap : aP 0 0 a (kU (S.drop a)) = a + kU (S.drop a) := by unfold aP; rw [if_pos ⟨rfl, rfl⟩]
  rw [ap] at cS
  have hn : (if (0 : Nat) = 0 then nS 2147483647 (S.drop a) else 0) = nF (S.drop a) := by rw [if_pos rfl]; rfl
  rw [hn] at cS
  rw [h1, if_neg (fun h => h rfl)] at he
  by_cases h2 : nF (S.drop a) ≤ last
  case pos => rw [if_pos h2] at he; cases he
  rw [if_neg h2] at he
  have cU := fun W => refU_any S (a + kU (S.drop a)) 0 W (by omega) (by omega)
  unfold rs at cU
  have hec := he
  rw [k1, k5] at he
  unfold eC at he
  by_cases h3 : eU (S.drop (a + kU (S.drop a))) = 0
  case neg => rw [if_pos h3] at he; exact absurd he h3
  rw [if_neg (fun h => h h3)] at he
  have k6 := kU_drop h3
  have hk2 := kU_len h3
  rw [List.length_drop] at hk2
  rw [h3] at cU
  have ap2 : aP 0 0 (a + kU (S.drop a)) (kU (S.drop (a + kU (S.drop a)))) = a + kU (S.drop a) + kU (S.drop (a + kU (S.drop a))) := by unfold aP; rw [if_pos ⟨rfl, rfl⟩]
  rw [ap2] at cU
  rw [k6, List.length_drop] at he
  by_cases h4 : S.length - (a + kU (S.drop a) + kU (S.drop (a + kU (S.drop a)))) < nU (S.drop (a + kU (S.drop a)))
  case pos => rw [if_pos h4] at he; cases he
  have cL := fun W => refLeft_any S (a + kU (S.drop a) + kU (S.drop (a + kU (S.drop a)))) 0 W (by omega) (by omega)
  unfold rs at cL
  have hR : rF (S.drop a) = S.drop (a + kU (S.drop a)) := by rw [k1, k5]
  have hkF : a + kF (S.drop a) = a + kU (S.drop a) + kU (S.drop (a + kU (S.drop a))) + nU (S.drop (a + kU (S.drop a))) := by unfold kF; rw [hR]; omega
  have hc : cF (S.drop a) = (S.drop (a + kU (S.drop a) + kU (S.drop (a + kU (S.drop a))))).take (nU (S.drop (a + kU (S.drop a)))) := by
    unfold cF cC
    rw [hec, if_pos rfl, hR, k6]
  have ht : tF (S.drop a) = S.drop (a + kF (S.drop a)) := by
    unfold tF tC
    rw [hec, if_pos rfl, hkF, hR, k6, List.drop_drop]
  refine ⟨?_, ht, by omega, by omega⟩
  rw [hc, hkF]
  exact next_ok S a _ _ _ _ last _ w (by omega) (by omega) hS (by omega) cS (fun W => by have := cU W; rwa [if_pos rfl] at this) cL
end Go.Proofs.YthfodpbecddheaaGreatDoor
/-
  The reference's Parts: the fields of a sequence. No conditions beyond those that each names.
-/
namespace Go.Proofs.YthfodpbecddheaaGreatDoor
open Go.RowKit
/-- Fields as cells. -/
def pC (l : List (Nat × List UInt8)) : List Value := l.flatMap fun p => [.int .i64 (p.1 : Int), .string (bs p.2)]
theorem pC_snoc (l : List (Nat × List UInt8)) (p : Nat × List UInt8) : pC (l ++ [p]) = pC l ++ [.int .i64 (p.1 : Int), .string (bs p.2)] := by simp [pC]
theorem pC_at : ∀ {l : List (Nat × List UInt8)} {i : Nat} (hi : i < l.length), (pC l)[i * 2]? = some (.int .i64 ((l[i]'hi).1 : Int)) ∧ (pC l)[i * 2 + 1]? = some (.string (bs (l[i]'hi).2))
  | p :: l, 0, _ => ⟨rfl, rfl⟩
  | p :: l, i + 1, hi => by
    have := pC_at (l := l) (i := i) (by simpa using hi)
    have e : (i + 1) * 2 = i * 2 + 1 + 1 := by omega
    rw [e]
    exact this
/-- A field at p. -/
def PtA (w : World) (x : Nat × List UInt8) (p : Addr) : Prop := w.cell? p = some (.int .i64 (x.1 : Int)) ∧ w.cell? (nx1 p 1) = some (.string (bs x.2))
theorem PtA.next {w w' : World} (hb : Below w.heap.size w w') (x : Nat × List UInt8) (p : Addr) (h : PtA w x p) : PtA w' x p := ⟨cell_next hb h.1, cell_next hb h.2⟩
def OwP (B : Nat) (w : World) (v : Value) (l : List (Nat × List UInt8)) : Prop := w.ownsRow B 64 2 v l.length (pC l)
theorem OwP.nil (B : Nat) (w : World) : OwP B w (.slice none 0 0) [] := World.ownsRow_nil _ _ _ _
theorem OwP.rw_ {B : Nat} {w : World} {v : Value} {l : List (Nat × List UInt8)} (h : OwP B w v l) : ∃ A c, v = .slice A l.length c ∧ Rw PtA 2 w l A := by
  obtain ⟨A, c, rfl⟩ := own_form h
  refine ⟨A, c, rfl, ?_⟩
  by_cases h0 : l.length = 0
  · exact .inl (List.eq_nil_of_length_eq_zero h0)
  · obtain ⟨g, rfl⟩ := own_some h h0
    refine .inr ⟨_, rfl, fun i hi => ?_⟩
    obtain ⟨h1, h2⟩ := pC_at hi
    rw [Addr.add_lit, Nat.zero_add]
    refine ⟨?_, ?_⟩
    · rw [World.ownsRow.cellAt h _ (by omega)]; exact h1
    · show w.cell? ⟨g, i * 2 + 1, none⟩ = _
      rw [World.ownsRow.cellAt h _ (by omega)]; exact h2
theorem infoP : (Tryz.prog.info? 64).map (fun i => (i.zero, i.size, i.bytes)) = some (some (.agg #[.int .i64 0, .string ⟨#[]⟩]), 2, 24) := by kernel_rfl
theorem wpList_pushPt {w : World} {ops : Array Oper} {rest : List Oper} {o : Oper} {a : Act} {Q : Exit → Act → World → Prop} (hgd : o.guard = none) (s x : Operand)
    (ho : o.op = .call { callee := .builtin .append, args := #[s, x], argTypes := #[60, 60] }) (B : Nat) (v : Value) (l : List (Nat × List UInt8)) (b : Nat × List UInt8) (g d : Nat) (hs : a.eval s = v) (hx : a.eval x = .slice (some ⟨g, 0, none⟩) 1 d)
    (hown : OwP B w v l) (hc : Bx w g [.int .i64 (b.1 : Int), .string (bs b.2)]) (hm : l.length ≤ 100000) (hB : B ≤ w.heap.size)
    (h : ∀ v' w', OwP B w' v' (l ++ [b]) → w.grownBy w' v.ownBlock → wpList Tryz.prog ops Q rest (a.put o.dst v') w') : wpList Tryz.prog ops Q (o :: rest) a w := by
  obtain ⟨i, hi, hz, hs5, hby⟩ := info_parts infoP
  refine wpList_append_own_at w hgd s x 60 ho B 64 i _ 2 24 Tryz.underlying60 hi hz hs5 hby rfl (by omega) v l.length (pC l) hs hown ⟨g, 0, none⟩ 1 d [.int .i64 (b.1 : Int), .string (bs b.2)] hx rfl
    (by intro j u hj; rw [Addr.add_lit, Nat.zero_add]; exact (hc.at_ j u hj).1) (by simp [Value.oneCell']) (by simp only [maxLen]; omega) (by omega) hB ?_
  intro v' w' h1 h2 _ _
  refine h v' w' ?_ h2
  unfold OwP
  rw [pC_snoc, List.length_append]
  exact h1
def PtP (b : List UInt8) (w : World) (e : Ending) (w' : World) : Prop := ∃ A c, e = .returned (.tuple #[.slice A (pts b).1.length c, .int .i64 ((pts b).2 : Int)]) ∧ Rw PtA 2 w' (pts b).1 A ∧ Below w.heap.size w w'
set_option maxRecDepth 100000 in
set_option maxHeartbeats 4000000 in
theorem parts_any (b : List UInt8) (w : World) (hb : b.length ≤ 9223372036854775807) : Calls Tryz.prog 27 #[.string (bs b)] w (PtP b w) := by
  by_cases h : 2000 < b.length
  · have d0 : decide ((2000 : Int) < ((bs b).size : Int)) = true := decide_eq_true (by rw [bs_size]; omega)
    have h0 := pts_long h
    clear h
    go_enter Tryz.func27, Tryz.ntmps27
    go_wp2_with fail
    refine bodyPost_ret (v := .tuple #[.slice none 0 0, .int .i64 3]) (by simp [results, Tryz.results27, go_sem]) rfl ?_
    unfold PtP
    rw [h0]
    exact ⟨none, 0, rfl, .inl rfl, Below.refl _ _⟩
  · have d0 : decide ((2000 : Int) < ((bs b).size : Int)) = false := decide_eq_false (by rw [bs_size]; omega)
    have hb2 : b.length ≤ 2000 := by omega
    have H := Lib.hid h
    obtain ⟨R, hR⟩ : ∃ R, prt b.length 0 b = R := ⟨_, rfl⟩
    have hRl : R.1.length ≤ 2000 := by rw [← hR]; have := prt_len b.length 0 b; omega
    have HR := Lib.hid hR
    clear h hR hb
    have H0 : Hid (([] : List (Nat × List UInt8)) ++ (prt b.length 0 (b.drop 0)).1 = R.1 ∧ (prt b.length 0 (b.drop 0)).2 = R.2) := Lib.hid (by rw [List.drop_zero, HR.out]; exact ⟨rfl, rfl⟩)
    go_enter Tryz.func27, Tryz.ntmps27
    go_wp2_with fail
    go_loopw [4, 5, 6] (fun v la i wr => ∃ (N last a : Nat) (l : List (Nat × List UInt8)), la = .int .i64 (last : Int) ∧ i = .int .i64 (a : Int) ∧ a ≤ b.length ∧ Hid (b.length - a ≤ N) ∧ Hid (l ++ (prt N last (b.drop a)).1 = R.1 ∧ (prt N last (b.drop a)).2 = R.2) ∧ Hid (OwP w.heap.size wr v l) ∧ Below w.heap.size w wr) (fun _ _ i _ => b.length - (intOf i).toNat)
    case atStart => exact ⟨b.length, 0, 0, [], rfl, rfl, Nat.zero_le _, Lib.hid (by omega), H0, Lib.hid (OwP.nil _ _), Below.refl _ _⟩
    case round =>
      obtain ⟨N, last, a, l, rfl, rfl, ha, HN, HP, HO, hb3⟩ := hrel
      clear H0
      have hll : l.length ≤ 2000 := by
        have := congrArg List.length HP.out.1
        rw [List.length_append] at this
        omega
      by_cases hlt : a < b.length
      · have hne : b.drop a ≠ [] := fun e => by have := congrArg List.length e; rw [List.length_drop, List.length_nil] at this; omega
        obtain ⟨N', rfl⟩ : ∃ N', N = N' + 1 := ⟨N - 1, by have := HN.out; omega⟩
        have d1 : decide (a < (bs b).size) = true := decide_eq_true (by rw [bs_size]; exact hlt)
        obtain ⟨e, he⟩ : ∃ e, eF last (b.drop a) = e := ⟨_, rfl⟩
        by_cases h0 : e = 0
        · subst h0
          obtain ⟨c1, k1, k2, k3⟩ := next_go b a last wr (by omega) ha he
          have hp := prt_go (N := N') hne he
          rw [hp] at HP
          have HP2 := Lib.hid (show (l ++ [(nF (b.drop a), cF (b.drop a))]) ++ (prt N' (nF (b.drop a)) (b.drop (a + kF (b.drop a)))).1 = R.1 ∧ (prt N' (nF (b.drop a)) (b.drop (a + kF (b.drop a)))).2 = R.2 by
            have := HP.out
            rw [k1] at this
            simpa using this)
          have hlt2 : (tF (b.drop a)).length < (b.drop a).length := tF_lt (by
            unfold eF at he
            by_cases h1 : eN4 (b.drop a) = 0
            · exact h1
            · rw [if_pos h1] at he; exact absurd he h1) hne
          rw [k1, List.length_drop, List.length_drop] at hlt2
          have HN2 := Lib.hid (show b.length - (a + kF (b.drop a)) ≤ N' by have := HN.out; omega)
          have HLT := Lib.hid (show a < a + kF (b.drop a) by omega)
          clear hp HP he hlt2 hne HN k1 k3
          generalize nF (b.drop a) = n at *
          generalize cF (b.drop a) = c at *
          generalize a + kF (b.drop a) = a' at *
          go_wp2_with fail
          refine c1.mono ?_
          rintro en w2 ⟨rfl, hb4⟩
          have hbx := ab2 w2 (Obj.cells #[.int .i64 (n : Int), .string (bs c)] 64) (Obj.cells #[.int .i64 (n : Int), .string (bs c)] 64)
          have hbx1 := ab1 w2 (Obj.cells #[.int .i64 (n : Int), .string (bs c)] 64)
          have hO2 := own_next HO.out (Below.next hb4 hbx)
          have B7 := Bx.new2 w2 64 (.int .i64 (n : Int)) (.string (bs c))
          have B8 := Bx.new2 (w2.alloc (Obj.cells #[.int .i64 (n : Int), .string (bs c)] 64)) 64 (.int .i64 (n : Int)) (.string (bs c))
          have z1 : (w2.alloc (Obj.cells #[.int .i64 (n : Int), .string (bs c)] 64)).heap.size = w2.heap.size + 1 := by simp
          rw [z1] at B8
          have hb5 := Below.next hb3 (Below.next hb4 hbx)
          have hBs := hb5.size
          have hl6 := World.ownsRow.lt HO.out
          have hZ : w2.heap.size + 1 < ((w2.alloc (Obj.cells #[.int .i64 (n : Int), .string (bs c)] 64)).alloc (Obj.cells #[.int .i64 (n : Int), .string (bs c)] 64)).heap.size := by simp
          replace B7 := B7.next (ab1 _ (Obj.cells #[.int .i64 (n : Int), .string (bs c)] 64))
          obtain ⟨Av, cv, rfl⟩ := own_form HO.out
          have hlB : ∀ g, (Value.slice Av l.length cv).ownBlock = some g → w.heap.size ≤ g ∧ g < w2.heap.size := fun g e => ⟨(hl6 g e).1, Nat.lt_of_lt_of_le (hl6 g e).2 hb4.size⟩
          clear hl6 HO hbx hbx1 c1 z1 hb4
          have hl100 : l.length ≤ 100000 := by omega
          go_wp2_with (at_builtin; refine wpList_pushPt rfl (.tmp 28) (.tmp 30) rfl w.heap.size _ l (n, c) (w2.heap.size + 1) 1 rfl rfl hO2 B8 hl100 hBs ?_; intro v' w6 ho6 hg6; obtain ⟨A6, c6, rfl⟩ := own_form ho6; have T7 := B7.gbo hg6 (fun g hg e => by have := (hlB g hg).2; omega); have y0 := T7.c 0 rfl; have y1 := T7.lt)
          go_roundw
          case rel => exact ⟨N', n, a', l ++ [(n, c)], rfl, rfl, k2, HN2, HP2, Lib.hid (by have := ho6; rw [List.length_append] at this; exact this), hb5.grown hg6 hb5.size fun b e => (hlB b e).1⟩
          case measure => have := HLT.out; simp [intOf]; omega
        · have cE := next_err b a last e wr (by omega) ha he h0
          have hp := prt_err (N := N') hne (by rw [he]; exact h0)
          rw [hp, he] at HP
          have HE := Lib.hid (pts_err (e := e) H.out (by rw [HR.out]; exact HP.out.2.symm) h0)
          have q0 : ((e : Int) != 0) = true := by simpa using h0
          clear hp HP he h0 hne HN HO
          go_wp2_with fail
          refine cE.mono ?_
          rintro en w2 ⟨rfl, hb4⟩
          go_wp2_with fail
          refine bodyPost_ret (v := .tuple #[.slice none 0 0, .int .i64 (e : Int)]) (by simp [results, Tryz.results27, go_sem]) rfl ?_
          unfold PtP
          rw [HE.out]
          exact ⟨none, 0, rfl, .inl rfl, Below.next hb3 (Below.next hb4 (ab1 _ _))⟩
      · have hae : a = b.length := by omega
        have d1 : decide (a < (bs b).size) = false := decide_eq_false (by rw [bs_size]; exact hlt)
        have hdr : b.drop a = [] := List.drop_eq_nil_of_le (by omega)
        rw [hdr, prt_nil, List.append_nil] at HP
        have hp := pts_ok H.out (by rw [HR.out]; exact HP.out.2.symm)
        rw [HR.out] at hp
        have HE := Lib.hid (show (pts b).1 = l ∧ (pts b).2 = 0 by rw [hp]; exact ⟨HP.out.1.symm, HP.out.2.symm⟩)
        obtain ⟨A, c, rfl, hRw⟩ := OwP.rw_ HO.out
        clear hp HP hdr hae hlt HN HO
        go_wp2_with fail
        refine bodyPost_ret (v := .tuple #[.slice A l.length c, .int .i64 0]) (by simp [results, Tryz.results27, go_sem]) rfl ?_
        unfold PtP
        rw [HE.out.1, HE.out.2]
        exact ⟨A, c, rfl, hRw, hb3⟩
end Go.Proofs.YthfodpbecddheaaGreatDoor
/-
  The law of a sequence's fields. No conditions beyond those that each names.
-/
namespace Go.Proofs.YthfodpbecddheaaGreatDoor
open Go.RowKit
theorem nums_at {b : List UInt8} {k : Nat} (h : k < (nums b).length) (h' : k < (pts b).1.length) : (nums b)[k]'h = (((pts b).1[k]'h').1 : Int) := by
  simp only [nums, List.getElem_map]
theorem fnd_nums (b : List UInt8) (z : Int) : wnt z (pts b).1 (pts b).1.length = fnd z (pts b).1 [] ∧ wnh z (pts b).1 (pts b).1.length = (nums b).contains z := wnt_end z _
set_option maxRecDepth 100000 in
set_option maxHeartbeats 8000000 in
theorem fields_law11 (b : List UInt8) (z : Int) (w : World) (hb : b.length ≤ 9223372036854775807) (hE : Env w) :
    Calls Tryz.prog 9 #[.string (bs b), .int .i64 z] w (Ib (.bool true) w) := by
  have hnl : (nums b).length = (pts b).1.length := by unfold nums; rw [List.length_map]
  have hpl := pts_len b
  have cF := cFields_any b w hb
  have cP := fun W => parts_any b W hb
  have cR := fun W y => cRaw_any b y W hb
  have HPW := Lib.hid (pts_pw b)
  have HND := Lib.hid (fnd_nums b z)
  have HNA := Lib.hid (fun k h h' => @nums_at b k h h')
  have HNL := Lib.hid hnl
  have cA := fun W (h : Env W) => awake11_any W h
  unfold FnP at cF
  unfold PtP at cP
  generalize nums b = ns at *
  obtain ⟨m, hm⟩ : ∃ m, (pts b).1 = m := ⟨_, rfl⟩
  rw [hm] at hnl hpl cP cR HPW HND HNA HNL
  rw [hnl] at cF
  clear hm
  generalize (pts b).2 = er at *
  obtain ⟨n, hn⟩ : ∃ n, m.length = n := ⟨_, rfl⟩
  have HN := Lib.hid hn
  rw [hn] at cF cP hpl
  clear hn hnl
  have q0 : ((n : Int) != (n : Int)) = false := by simp
  have q1 : ((er : Int) != (er : Int)) = false := by simp
  go_enter Tryz.func9, Tryz.ntmps9
  go_wp2_with fail
  refine cF.mono ?_
  rintro e w1 ⟨A, c, rfl, hRn, hb1⟩
  clear cF
  have c1 := cP w1
  go_wp2_with fail
  refine c1.mono ?_
  rintro e w2 ⟨A2, c2, rfl, hRm, hb2⟩
  clear c1 cP
  replace hRn := hRn.next (fun _ _ => TyI.next hb2)
  have c1 := cR w2 z
  have HB := Lib.hid (Below.next hb1 hb2)
  clear hb1 hb2
  go_wp2_with fail
  refine c1.mono ?_
  rintro e w3 ⟨rfl, hb3⟩
  clear c1
  replace hRn := hRn.next (fun _ _ => TyI.next hb3)
  replace hRm := hRm.next (fun x p => PtA.next hb3 x p)
  have HB := Lib.hid (Below.next HB.out hb3)
  clear hb3
  obtain ⟨R, hR⟩ : ∃ R, fnd z m [] = R := ⟨_, rfl⟩
  obtain ⟨H, hH⟩ : ∃ H, ns.contains z = H := ⟨_, rfl⟩
  have HRR := Lib.hid (And.intro hR hH)
  rw [hR, hH]
  clear hR hH
  go_wp2_with fail
  go_loopw [11, 12, 13] (fun s t i wr => ∃ (k : Nat) (x : List UInt8) (y : Bool), k ≤ n ∧ s = .string (bs x) ∧ t = .bool y ∧ i = .int .i64 (k : Int) ∧ Hid (wnt z m k = x ∧ wnh z m k = y) ∧ Below w3.heap.size w3 wr) (fun _ _ i _ => n - (intOf i).toNat)
  case atStart => exact ⟨0, [], false, by omega, rfl, rfl, rfl, Lib.hid ⟨rfl, rfl⟩, Below.refl _ _⟩
  case round =>
    obtain ⟨k, x, y, hk, rfl, rfl, rfl, HK, hb⟩ := hrel
    by_cases hlt : k < n
    · have hk1 := Lib.hid hlt
      have hkm : k < m.length := by rw [HN.out]; exact hlt
      have hkn : k < ns.length := by rw [HNL.out]; exact hkm
      obtain ⟨a, rfl, hA⟩ := (hRn.next fun _ _ => TyI.next hb).get hkn
      rw [Nat.mul_one] at hA
      have hA : wr.cell? (a.add k) = some (.int .i64 (ns[k]'hkn)) := hA
      rw [HNA.out k hkn hkm] at hA
      obtain ⟨a2, rfl, hp0, hp1⟩ := (hRm.next fun x p => PtA.next hb x p).get hkm
      have cR1 := fun W => cR W ((m[k]'hkm).1 : Int)
      rw [fnd_at HPW.out k hkm] at cR1
      have hct : ns.contains ((m[k]'hkm).1 : Int) = true := by
        rw [List.contains_iff_mem, ← HNA.out k hkn hkm]
        exact List.getElem_mem hkn
      rw [hct] at cR1
      have HY := Lib.hid (fun (h : ((m[k]'hkm).1 : Int) = z) => wnt_yes hkm h)
      have HO := Lib.hid (fun (h : ¬ ((m[k]'hkm).1 : Int) = z) => wnt_no hkm h)
      clear hct
      generalize m[k]'hkm = p at *
      have hbl1 : (a.add k).block < wr.heap.size := blk_lt hA
      have hbl2 : (a2.add (k * 2)).block < wr.heap.size := blk_lt hp0
      have q2 : ((p.1 : Int) != (p.1 : Int)) = false := by simp
      go_upto_region 10 with (fail)
      go_quiet (fail)
      have hbq : Below wr.heap.size wr (wr.drewN nq) := below_drewN (Below.refl _ _) nq
      replace hA := cell_next hbq hA
      replace hp0 := cell_next hbq hp0
      replace hp1 := cell_next hbq hp1
      replace hb := Below.next hb hbq
      clear hbq hbl1 hbl2
      generalize wr.drewN nq = w4 at *
      have hbl1 : (a.add k).block < w4.heap.size := blk_lt hA
      have hbl2 : (a2.add (k * 2)).block < w4.heap.size := blk_lt hp0
      have c1 := cR1 w4
      clear cR1
      have sx := sn_t p.2
      by_cases hz : (p.1 : Int) = z
      · have q3 : ((p.1 : Int) == z) = true := by simpa using hz
        have HK2 := Lib.hid (HY.out hz)
        clear HY HO hz HK
        go_wp2_with fail
        refine c1.mono ?_
        rintro e w5 ⟨rfl, hb5⟩
        replace hp1 := cell_next hb5 hp1
        replace hb := Below.next hb hb5
        clear hbl1 hbl2 hA hp0 c1 hb5
        have hbl2 : (nx1 (a2.add (k * 2)) 1).block < w5.heap.size := blk_lt hp1
        have hbl3 : (a2.add (k * 2)).block < w5.heap.size := hbl2
        go_wp2_with fail
        go_roundw
        case rel => exact ⟨k + 1, p.2, true, hk1.out, rfl, rfl, by go_num, HK2, hb⟩
        case measure => simp [intOf]; omega
      · have q3 : ((p.1 : Int) == z) = false := by simpa using hz
        have HK2 := Lib.hid (show wnt z m (k + 1) = x ∧ wnh z m (k + 1) = y from ⟨(HO.out hz).1.trans HK.out.1, (HO.out hz).2.trans HK.out.2⟩)
        clear HY HO hz HK
        go_wp2_with fail
        refine c1.mono ?_
        rintro e w5 ⟨rfl, hb5⟩
        replace hp1 := cell_next hb5 hp1
        replace hb := Below.next hb hb5
        clear hbl1 hbl2 hA hp0 c1 hb5
        have hbl2 : (nx1 (a2.add (k * 2)) 1).block < w5.heap.size := blk_lt hp1
        have hbl3 : (a2.add (k * 2)).block < w5.heap.size := hbl2
        go_wp2_with fail
        go_roundw
        case rel => exact ⟨k + 1, x, y, hk1.out, rfl, rfl, by go_num, HK2, hb⟩
        case measure => simp [intOf]; omega
    · obtain rfl : k = n := by omega
      have h3 := HND.out
      rw [HN.out] at h3
      obtain ⟨rfl, rfl⟩ : x = R ∧ y = H := ⟨HK.out.1.symm.trans (h3.1.trans HRR.out.1), HK.out.2.symm.trans (h3.2.trans HRR.out.2)⟩
      have c1 := cA wr (hE.next (Below.next HB.out hb))
      have sx := sq_t x
      have sy : (y == y) = true := by simp
      clear h3 HND HRR HK HNA HNL HPW HN cR hRn hRm cA
      go_wp2_with fail
      refine c1.mono ?_
      rintro e w5 ⟨rfl, hb5⟩
      clear c1
      go_wp2_with fail
      go_ret
      exact ⟨rfl, Below.next HB.out (Below.next hb hb5)⟩
end Go.Proofs.YthfodpbecddheaaGreatDoor
/-
  The library's variables out of the row's own condition. No conditions beyond the row's own.
-/
namespace Go.Proofs.YthfodpbecddheaaGreatDoor
open Go.ChangeShapes Go.WideShapes Go.ChangeAt Go.RowKit Go.Lib
theorem rowErr11 (u : TypeId) (h : Tryz.prog.typeName? 3 u = some "*errors.errorString") : u = 305 := by
  have star : "*" ++ "errors.errorString" = "*errors.errorString" := by decide
  exact typeName_ptr_named (nm := "errors.errorString") (by rw [star]; kernel_rfl) (by kernel_rfl) (by decide) u (by rw [star]; exact h)
/-- The rows' list of variables. -/
def laidRows11 : List (String × DataW Unit) := [("math/bits.deBruijn32tab", Rows.laid_math_bits_deBruijn32tab), ("math/bits.deBruijn64tab", Rows.laid_math_bits_deBruijn64tab), ("internal/strconv.uint64pow10", Rows.laid_internal_strconv_uint64pow10), ("unicode/utf8.acceptRanges", Rows.laid_unicode_utf8_acceptRanges), ("strconv.ErrRange", Rows.laid_strconv_ErrRange), ("strconv.ErrSyntax", Rows.laid_strconv_ErrSyntax), ("unicode/utf8.first", Rows.laid_unicode_utf8_first)]
theorem env_laid11 {w : World} (hl : laidMetH Tryz.prog laidRows11 w) : Env w := by
  rw [MakeChecks.laidMetH_plain _ _ _ (by kernel_rfl)] at hl
  have ht := tabIs_of_head (zs := pow10Tab) (g := 0) (t := 284) (e := 102) (n := 20) (by kernel_rfl) (by kernel_rfl) Tryz.underlying284 Tryz.underlying102 (by kernel_rfl) (by kernel_rfl) hl.tail.tail
  obtain ⟨a, s, hv, -, -, -⟩ := laid_sentinel hl.tail.tail.tail.tail (g := 2) (ti := 245) (tp := 305) (te := 307) (ts := 9) (by kernel_rfl) (by kernel_rfl) Tryz.underlying245 rowErr11 Tryz.underlying305 Tryz.underlying307 rfl rfl Tryz.underlying9 (by kernel_rfl) (by kernel_rfl)
  exact ⟨⟨_, _, hv⟩, ht⟩
theorem fields11_row (s : ByteArray) (z : Int) (w : World) (h : s.size ≤ 9223372036854775807) (_h1 : -9223372036854775808 ≤ z) (_h2 : z ≤ 9223372036854775807) (hl : laidMetH Tryz.prog laidRows11 w) :
    Calls Tryz.prog 9 #[.string s, .int .i64 z] w (Ib (.bool true) w) := by
  rw [bs_of s]
  exact fields_law11 s.data.toList z w (by simpa using h) (env_laid11 hl)
end Go.Proofs.YthfodpbecddheaaGreatDoor


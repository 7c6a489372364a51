/-
  The reference's zero values, where no struct must hold a struct. No conditions beyond those that each names.
-/
import Derived.Test.YthfodpbecddheaaGreatDoorQM18
import Derived.Test.YthfodpbecddheaaGreatDoorQM16
import Derived.Test.YthfodpbecddheaaGreatDoorQM12
import Derived.Test.YthfodpbecddheaaGreatDoorQM07
namespace Go.Proofs.YthfodpbecddheaaGreatDoor
open Go.RowKit Go.Sort
set_option maxRecDepth 100000 in
set_option maxHeartbeats 4000000 in
theorem refZero_plain (S : Sch) (t : Ty) (m : Int) (v u : Value) (w : World) (hf : Few9 S) (hlo : lok t) (hm : 1 ≤ m) (hm2 : m ≤ 20) (hr : right S t = true) (h6 : t.kind ≠ 6) (hS : ScV w S v) (hT : TyV w t u) :
    Calls Tryz.prog 35 #[v, u, .int .i64 m] w (Ib (.agg #[.int .i64 t.kind, .int .i64 0, .string ⟨#[]⟩, .slice none 0 0, .slice none 0 0]) w) := by
  have cP := fun W a b (h1 : ScV W S a) (h2 : TyV W t b) => permitted_any S t a b W hf.sl hf.el hlo h1 h2
  rw [hr] at cP
  clear hf hlo hr
  obtain ⟨A, c, A2, c2, rfl, hS⟩ := hS
  obtain ⟨G, g, rfl, hG⟩ := hT
  have D1 := (Bx.new3 w 25 (.int .i64 S.ver) (.slice A S.enums.length c) (.slice A2 S.structs.length c2)).next (ab2 _ (Obj.cells #[.int .i64 t.kind, .int .i64 t.size, .string (bs t.name), .slice G t.elem.length g] 29) (Obj.cells #[.int .i64 0, .int .i64 0, .string ⟨#[]⟩, .slice none 0 0, .slice none 0 0] 34))
  have D2 := (Bx.new4 (w.alloc (Obj.cells #[.int .i64 S.ver, .slice A S.enums.length c, .slice A2 S.structs.length c2] 25)) 29 (.int .i64 t.kind) (.int .i64 t.size) (.string (bs t.name)) (.slice G t.elem.length g)).next (ab1 _ (Obj.cells #[.int .i64 0, .int .i64 0, .string ⟨#[]⟩, .slice none 0 0, .slice none 0 0] 34))
  have D3 := Bx.new5 ((w.alloc (Obj.cells #[.int .i64 S.ver, .slice A S.enums.length c, .slice A2 S.structs.length c2] 25)).alloc (Obj.cells #[.int .i64 t.kind, .int .i64 t.size, .string (bs t.name), .slice G t.elem.length g] 29)) 34 (.int .i64 0) (.int .i64 0) (.string ⟨#[]⟩) (.slice none 0 0) (.slice none 0 0)
  have z1 : (w.alloc (Obj.cells #[.int .i64 S.ver, .slice A S.enums.length c, .slice A2 S.structs.length c2] 25)).heap.size = w.heap.size + 1 := by simp
  have z2 : ((w.alloc (Obj.cells #[.int .i64 S.ver, .slice A S.enums.length c, .slice A2 S.structs.length c2] 25)).alloc (Obj.cells #[.int .i64 t.kind, .int .i64 t.size, .string (bs t.name), .slice G t.elem.length g] 29)).heap.size = w.heap.size + 1 + 1 := by simp
  have z3 : (((w.alloc (Obj.cells #[.int .i64 S.ver, .slice A S.enums.length c, .slice A2 S.structs.length c2] 25)).alloc (Obj.cells #[.int .i64 t.kind, .int .i64 t.size, .string (bs t.name), .slice G t.elem.length g] 29)).alloc (Obj.cells #[.int .i64 0, .int .i64 0, .string ⟨#[]⟩, .slice none 0 0, .slice none 0 0] 34)).heap.size = w.heap.size + 1 + 1 + 1 := by simp
  rw [z1] at D2
  rw [z2] at D3
  have hab := ab3 w (Obj.cells #[.int .i64 S.ver, .slice A S.enums.length c, .slice A2 S.structs.length c2] 25) (Obj.cells #[.int .i64 t.kind, .int .i64 t.size, .string (bs t.name), .slice G t.elem.length g] 29) (Obj.cells #[.int .i64 0, .int .i64 0, .string ⟨#[]⟩, .slice none 0 0, .slice none 0 0] 34)
  go_enter Tryz.func35, Tryz.ntmps35
  go_upto_region 1 with (fail)
  generalize (((w.alloc (Obj.cells #[.int .i64 S.ver, .slice A S.enums.length c, .slice A2 S.structs.length c2] 25)).alloc (Obj.cells #[.int .i64 t.kind, .int .i64 t.size, .string (bs t.name), .slice G t.elem.length g] 29)).alloc (Obj.cells #[.int .i64 0, .int .i64 0, .string ⟨#[]⟩, .slice none 0 0, .slice none 0 0] 34)) = w0 at *
  have hz3 : w.heap.size + 1 + 1 < w0.heap.size := by omega
  clear z1 z2 z3
  have d6 : (t.kind != 6) = true := by simpa using h6
  have d1 : decide (m < 1) = false := decide_eq_false (by omega)
  clear h6
  have k0 := D1.c 0 rfl
  have k1 := D1.c 1 rfl
  have k2 := D1.c 2 rfl
  have l1 := D1.lt
  have j0 := D2.c 0 rfl
  have j1 := D2.c 1 rfl
  have j2 := D2.c 2 rfl
  have j3 := D2.c 3 rfl
  have l2 := D2.lt
  have c1 := cP w0 _ _ ⟨A, c, A2, c2, rfl, Sc.next hab hS⟩ ⟨G, g, rfl, hG.next fun x p => TyA.next hab x p⟩
  clear cP hS hG D1
  go_wp2_with fail
  refine c1.mono ?_
  rintro e w2 ⟨rfl, hb2⟩
  have hz2 : w.heap.size + 1 + 1 < w2.heap.size := Nat.lt_of_lt_of_le hz3 hb2.size
  replace D2 := D2.next hb2
  replace D3 := D3.next hb2
  replace hab := Below.next hab hb2
  clear hb2
  clear k0 k1 k2 l1 j0 j1 j2 j3 l2 c1
  have k0 := D2.c 0 rfl
  have lk := D2.lt
  have hbx := ab1 w2 (Obj.cells #[.int .i64 t.kind, .int .i64 0, .string ⟨#[]⟩, .slice none 0 0, .slice none 0 0] 34)
  have E5 := Bx.new5 w2 34 (.int .i64 t.kind) (.int .i64 0) (.string ⟨#[]⟩) (.slice none 0 0) (.slice none 0 0)
  have z4 : w.heap.size + 1 + 1 < w2.heap.size := hz2
  replace D2 := D2.next hbx
  replace D3 := D3.next hbx
  replace hab := Below.next hab hbx
  clear hbx hz2
  go_upto_region 4 with (fail)
  generalize w2.alloc (Obj.cells #[.int .i64 t.kind, .int .i64 0, .string ⟨#[]⟩, .slice none 0 0, .slice none 0 0] 34) = w3 at *
  clear k0 lk
  have k0 := D2.c 0 rfl
  have lk := D2.lt
  have q0 := D3.f 0 rfl
  have q1 := D3.f 1 rfl
  have q2 := D3.f 2 rfl
  have q3 := D3.f 3 rfl
  have q4 := D3.f 4 rfl
  have r0 := D3.c 0 rfl
  have r1 := D3.c 1 rfl
  have r2 := D3.c 2 rfl
  have r3 := D3.c 3 rfl
  have r4 := D3.c 4 rfl
  have l3 := D3.lt
  have e0 := E5.c 0 rfl
  have e1 := E5.c 1 rfl
  have e2 := E5.c 2 rfl
  have e3 := E5.c 3 rfl
  have e4 := E5.c 4 rfl
  have l5 := E5.lt
  have hfin := gb5 hab (b := w.heap.size + 1 + 1) (by omega) (.int .i64 t.kind) (.int .i64 0) (.string ⟨#[]⟩) (.slice none 0 0) (.slice none 0 0)
  clear D2 D3 E5
  go_wp2_with fail
  refine bodyPost_ret (v := .agg #[.int .i64 t.kind, .int .i64 0, .string ⟨#[]⟩, .slice none 0 0, .slice none 0 0]) (by simp [results, Tryz.results35, go_sem, r0, r1, r2, r3, r4]) rfl ?_
  exact ⟨rfl, hfin⟩
set_option maxRecDepth 100000 in
set_option maxHeartbeats 8000000 in
theorem refZero_struct (S : Sch) (s : Int) (nm : List UInt8) (e : List Ty) (m : Int) (v u : Value) (w : World) (hf : Few9 S) (hlk : lok9 S) (hlo : lok (.mk 6 s nm e)) (hm : 2 ≤ m) (hm2 : m ≤ 20) (hr : right S (.mk 6 s nm e) = true) (hp : pls S (.mk 6 s nm e) = true) (hS : ScV w S v) (hT : TyV w (.mk 6 s nm e) u) :
    Calls Tryz.prog 35 #[v, u, .int .i64 m] w (ReW (.mk 6 0 [] [] (zf (fds S (.mk 6 s nm e)))) w) := by
  have hW : (fds S (.mk 6 s nm e)).length ≤ 1000 := few_st hf nm
  have hP := fun (f : Fd) (hm : f ∈ fds S (.mk 6 s nm e)) (ho : f.opt = false) => pls_at hp hm ho
  have cS := fun A c A2 c2 W (hb0 : Below w.heap.size w W) (h : Sc w S A A2) => r9Struct_k S nm (.agg #[.int .i64 S.ver, .slice A S.enums.length c, .slice A2 S.structs.length c2]) w W hb0 ⟨A, c, A2, c2, rfl, h⟩ hf.sl
  have cR := fun W a b (h1 : ScV W S a) (h2 : TyV W (.mk 6 s nm e) b) => permitted_any S (.mk 6 s nm e) a b W hf.sl hf.el hlo h1 h2
  rw [hr] at cR
  have hK : ∀ f ∈ fds S (.mk 6 s nm e), lok f.type := fun f hff => by
    rcases fst_st0' (S := S) nm with h0 | h0
    · have hff : f ∈ ((fst_ St.name S.structs nm).getD st0).fields := hff
      rw [h0] at hff; cases hff
    · exact hlk _ h0 f hff
  have HP := Lib.hid (fun (f : Fd) (hx : f ∈ fds S (.mk 6 s nm e)) (ho : f.opt = false) => And.intro (hP f hx ho) (hK f hx))
  unfold StK at cS
  obtain ⟨o, ho⟩ : ∃ o, (fst_ St.name S.structs nm).isSome = o := ⟨_, rfl⟩
  obtain ⟨sT, hsT⟩ : ∃ sT, (fst_ St.name S.structs nm).getD st0 = sT := ⟨_, rfl⟩
  have hfd : fds S (.mk 6 s nm e) = sT.fields := by rw [← hsT]; rfl
  rw [ho, hsT] at cS
  rw [hfd] at HP hW ⊢
  have HF := Lib.hid hf
  clear ho hsT hfd hp hf hP hK hlo hlk hr
  obtain ⟨n, hn⟩ : ∃ n, sT.fields.length = n := ⟨_, rfl⟩
  have HN := Lib.hid hn
  rw [hn] at hW
  clear hn
  obtain ⟨A, c, A2, c2, rfl, hS⟩ := hS
  obtain ⟨G, g, rfl, hG⟩ := TyV.mk_.1 hT
  have D1 := (Bx.new3 w 25 (.int .i64 S.ver) (.slice A S.enums.length c) (.slice A2 S.structs.length c2)).next (ab2 _ (Obj.cells #[.int .i64 6, .int .i64 s, .string (bs nm), .slice G e.length g] 29) (Obj.cells #[.int .i64 0, .int .i64 0, .string ⟨#[]⟩, .slice none 0 0, .slice none 0 0] 34))
  have D2 := (Bx.new4 (w.alloc (Obj.cells #[.int .i64 S.ver, .slice A S.enums.length c, .slice A2 S.structs.length c2] 25)) 29 (.int .i64 6) (.int .i64 s) (.string (bs nm)) (.slice G e.length g)).next (ab1 _ (Obj.cells #[.int .i64 0, .int .i64 0, .string ⟨#[]⟩, .slice none 0 0, .slice none 0 0] 34))
  have D3 := Bx.new5 ((w.alloc (Obj.cells #[.int .i64 S.ver, .slice A S.enums.length c, .slice A2 S.structs.length c2] 25)).alloc (Obj.cells #[.int .i64 6, .int .i64 s, .string (bs nm), .slice G e.length g] 29)) 34 (.int .i64 0) (.int .i64 0) (.string ⟨#[]⟩) (.slice none 0 0) (.slice none 0 0)
  have z1 : (w.alloc (Obj.cells #[.int .i64 S.ver, .slice A S.enums.length c, .slice A2 S.structs.length c2] 25)).heap.size = w.heap.size + 1 := by simp
  have z2 : ((w.alloc (Obj.cells #[.int .i64 S.ver, .slice A S.enums.length c, .slice A2 S.structs.length c2] 25)).alloc (Obj.cells #[.int .i64 6, .int .i64 s, .string (bs nm), .slice G e.length g] 29)).heap.size = w.heap.size + 1 + 1 := by simp
  have z3 : (((w.alloc (Obj.cells #[.int .i64 S.ver, .slice A S.enums.length c, .slice A2 S.structs.length c2] 25)).alloc (Obj.cells #[.int .i64 6, .int .i64 s, .string (bs nm), .slice G e.length g] 29)).alloc (Obj.cells #[.int .i64 0, .int .i64 0, .string ⟨#[]⟩, .slice none 0 0, .slice none 0 0] 34)).heap.size = w.heap.size + 1 + 1 + 1 := by simp
  rw [z1] at D2
  rw [z2] at D3
  have hab := ab3 w (Obj.cells #[.int .i64 S.ver, .slice A S.enums.length c, .slice A2 S.structs.length c2] 25) (Obj.cells #[.int .i64 6, .int .i64 s, .string (bs nm), .slice G e.length g] 29) (Obj.cells #[.int .i64 0, .int .i64 0, .string ⟨#[]⟩, .slice none 0 0, .slice none 0 0] 34)
  go_enter Tryz.func35, Tryz.ntmps35
  go_upto_region 1 with (fail)
  generalize (((w.alloc (Obj.cells #[.int .i64 S.ver, .slice A S.enums.length c, .slice A2 S.structs.length c2] 25)).alloc (Obj.cells #[.int .i64 6, .int .i64 s, .string (bs nm), .slice G e.length g] 29)).alloc (Obj.cells #[.int .i64 0, .int .i64 0, .string ⟨#[]⟩, .slice none 0 0, .slice none 0 0] 34)) = w0 at *
  have hz3 : w.heap.size + 1 + 1 < w0.heap.size := by omega
  clear z1 z2 z3
  have d1 : decide (m < 1) = false := decide_eq_false (by omega)
  have k0 := D1.c 0 rfl
  have k1 := D1.c 1 rfl
  have k2 := D1.c 2 rfl
  have l1 := D1.lt
  have j0 := D2.c 0 rfl
  have j1 := D2.c 1 rfl
  have j2 := D2.c 2 rfl
  have j3 := D2.c 3 rfl
  have l2 := D2.lt
  have c1 := cR w0 _ _ ⟨A, c, A2, c2, rfl, Sc.next hab hS⟩ ⟨G, g, rfl, hG.next fun x p => TyA.next hab x p⟩
  clear cR hG
  go_wp2_with fail
  refine c1.mono ?_
  rintro e' w2 ⟨rfl, hb2⟩
  replace D1 := D1.next hb2
  replace D2 := D2.next hb2
  replace D3 := D3.next hb2
  replace hab := Below.next hab hb2
  have z4 : w.heap.size + 1 + 1 < w2.heap.size := Nat.lt_of_lt_of_le hz3 hb2.size
  clear k0 k1 k2 l1 j0 j1 j2 j3 l2 c1 hb2
  have k0 := D2.c 0 rfl
  have lk := D2.lt
  have E5 := Bx.new5 w2 34 (.int .i64 6) (.int .i64 0) (.string ⟨#[]⟩) (.slice none 0 0) (.slice none 0 0)
  have hbx := ab1 w2 (Obj.cells #[.int .i64 6, .int .i64 0, .string ⟨#[]⟩, .slice none 0 0, .slice none 0 0] 34)
  replace D1 := D1.next hbx
  replace D2 := D2.next hbx
  replace D3 := D3.next hbx
  replace hab := Below.next hab hbx
  have hz5 : w2.heap.size < (w2.alloc (Obj.cells #[.int .i64 6, .int .i64 0, .string ⟨#[]⟩, .slice none 0 0, .slice none 0 0] 34)).heap.size := by simp
  clear hbx
  go_upto_region 4 with (fail)
  generalize w2.alloc (Obj.cells #[.int .i64 6, .int .i64 0, .string ⟨#[]⟩, .slice none 0 0, .slice none 0 0] 34) = w3 at *
  generalize w2.heap.size = b5 at *
  clear k0 lk
  have k0 := D2.c 0 rfl
  have k2 := D2.c 2 rfl
  have s0 := D1.c 0 rfl
  have s1 := D1.c 1 rfl
  have s2 := D1.c 2 rfl
  have lk := D2.lt
  have ls := D1.lt
  have c2' := cS A c A2 c2 w3 hab hS
  clear cS
  go_wp2_with fail
  refine c2'.mono ?_
  rintro e' w4 ⟨v4, rfl, hV4, hb4⟩
  obtain ⟨A3, c3, hv4, -⟩ := hV4 w4 (Below.next hab hb4)
  subst hv4
  have HV := Lib.hid (fun W (k : Below w.heap.size w W) => show Rw FdA 7 W sT.fields A3 by
    obtain ⟨A9, c9, e9, h9⟩ := hV4 W k
    injection e9 with e9
    injection e9 with e9
    injection e9 with _ e9
    injection e9 with e9
    injection e9 with e9
    subst e9
    exact h9)
  rw [HN.out]
  have hbx := ab1 w4 (Obj.cells #[.string (bs sT.name), .slice A3 n c3] 53)
  have E6 := Bx.new2 w4 53 (.string (bs sT.name)) (.slice A3 n c3)
  replace D1 := (D1.next hb4).next hbx
  replace D3 := (D3.next hb4).next hbx
  replace E5 := (E5.next hb4).next hbx
  have hz6 : b5 < w4.heap.size := Nat.lt_of_lt_of_le hz5 hb4.size
  have hz7 : w4.heap.size < (w4.alloc (Obj.cells #[.string (bs sT.name), .slice A3 n c3] 53)).heap.size := by simp
  replace hab := Below.next hab (Below.next hb4 hbx)
  clear c2' hb4 hbx k0 k2 s0 s1 s2 lk ls D2 hV4 hz5
  have HL0 := Lib.hid (show ([] : List (Int × Vl)) = zf (sT.fields.take 0) by simp [zf])
  go_upto_region 8 with (fail)
  generalize w4.alloc (Obj.cells #[.string (bs sT.name), .slice A3 n c3] 53) = wL at *
  generalize w4.heap.size = b6 at *
  go_loopw [10] (fun i wr => ∃ (k : Nat) (vE : Value) (l : List (Int × Vl)) (xs : List Value), k ≤ n ∧ i = .int .i64 (k : Int) ∧ Hid (l = zf (sT.fields.take k)) ∧ Hid (wr.ownsRow wL.heap.size 94 6 vE l.length xs) ∧ Hid (IL 6 encE (fun _ x s => Pn x s) l xs) ∧ Bx wr w.heap.size [.int .i64 S.ver, .slice A S.enums.length c, .slice A2 S.structs.length c2] ∧ Bx wr (w.heap.size + 1 + 1) [.int .i64 0, .int .i64 0, .string ⟨#[]⟩, .slice none 0 0, .slice none 0 0] ∧ Bx wr b5 [.int .i64 6, .int .i64 0, .string ⟨#[]⟩, .slice none 0 0, vE] ∧ Bx wr b6 [.string (bs sT.name), .slice A3 n c3] ∧ Below w.heap.size w wr ∧ Hid (wL.heap.size ≤ wr.heap.size)) (fun i _ => n - (intOf i).toNat)
  case atStart => exact ⟨0, .slice none 0 0, [], [], by omega, rfl, HL0, Lib.hid (World.ownsRow_nil _ _ _ _), Lib.hid (IL.nil _ _ _), D1, D3, E5, E6, hab, Lib.hid (Nat.le_refl _)⟩
  case round =>
    clear HL0 D1 D3 E5 E6 hab
    obtain ⟨k, vE, l, xs, hk, rfl, HL, HO, HI, C1, C3, E5, E6, hb, HK⟩ := hrel
    have l1 := C1.lt
    have l5 := E5.lt
    have l6 := E6.lt
    have h1 := E6.c 1 rfl
    by_cases hlt : k < n
    · have hk1 := Lib.hid hlt
      have hkd : k < sT.fields.length := by rw [HN.out]; exact hlt
      have hll : l.length ≤ 1000 := by
        rw [HL.out]
        refine Nat.le_trans (zf_len _) ?_
        rw [List.length_take]
        omega
      obtain ⟨a, rfl, hA⟩ := (HV.out wr hb).get hkd
      obtain ⟨x0, x1, x2, x3, x4, ⟨A4, c4, x5, hEt⟩, x6⟩ := hA
      have hblk : (a.add (k * 7)).block < wr.heap.size := blk_lt x0
      have HOpt := Lib.hid (fun (ho : (sT.fields[k]'hkd).opt = true) => zf_opt hkd ho)
      have HMust := Lib.hid (fun (ho : (sT.fields[k]'hkd).opt = false) => zf_must hkd ho)
      have HX := Lib.hid (HP.out (sT.fields[k]'hkd) (List.getElem_mem hkd))
      generalize sT.fields[k]'hkd = x at *
      by_cases hopt : x.opt = true
      · have HL2 := Lib.hid (show l = zf (sT.fields.take (k + 1)) by rw [HL.out, HOpt.out hopt])
        rw [hopt] at x6
        clear HOpt HMust HX HL hopt
        go_wp2_with fail
        go_roundw
        case rel => exact ⟨k + 1, vE, l, xs, hk1.out, by go_num, HL2, HO, HI, C1, C3, E5, E6, hb, HK⟩
        case measure => have := hk1.out; simp [intOf]; omega
      · have hopt : x.opt = false := by simpa using hopt
        have HL2 := Lib.hid (show l ++ [ze x] = zf (sT.fields.take (k + 1)) by rw [HL.out, HMust.out hopt])
        have hx6 := (HX.out hopt).1
        have hxl := (HX.out hopt).2
        rw [hopt] at x6
        clear HOpt HMust HX HL hopt
        go_upto_region 11 with (fail)
        have s0 := C1.c 0 rfl
        have s1 := C1.c 1 rfl
        have s2 := C1.c 2 rfl
        have e4 := E5.c 4 rfl
        have wm : IntKind.i64.wrap (m - 1) = m - 1 := IntWalk.i64_in _ (by omega)
        have cP := fun W (h : Below wr.heap.size wr W) => refZero_plain S x.type (m - 1) (.agg #[.int .i64 S.ver, .slice A S.enums.length c, .slice A2 S.structs.length c2]) (.agg #[.int .i64 x.type.kind, .int .i64 x.type.size, .string (bs x.type.name), .slice A4 x.type.elem.length c4]) W HF.out hxl (by omega) (by omega) hx6.1 hx6.2 ⟨A, c, A2, c2, rfl, Sc.next (Below.next hb h) hS⟩ ⟨A4, c4, rfl, hEt.next fun x p => TyA.next h x p⟩
        refine wp_region_seqN (by kernel_rfl) (FF [(2, Fact.at_ wr (.int .i64 m)), (3, Fact.at_ wr (.pointer (some ⟨w.heap.size, 0, none⟩))), (7, Fact.at_ wr (.pointer (some ⟨b5, 0, none⟩))), (8, Fact.at_ wr (.pointer (some ⟨b6, 0, none⟩))), (10, Fact.at_ wr (.int .i64 (k : Int))), (48, Fact.at_ wr (.pointer (some ⟨b5, 4, none⟩))), (49, Fact.at_ wr vE), (50, Fact.at_ wr (.pointer (some ⟨b6, 1, none⟩))), (51, Fact.at_ wr (.slice (some a) n c3)), (52, Fact.at_ wr (.int .i64 (k : Int))), (53, Fact.at_ wr (.pointer (some (a.add (k * 7))))), (54, Fact.at_ wr (.pointer (some (a.add (k * 7))))), (55, Fact.at_ wr (.int .i64 x.num)), (56, Fact.at_ wr (.agg #[.int .i64 S.ver, .slice A S.enums.length c, .slice A2 S.structs.length c2])), (57, Fact.at_ wr (.pointer (some ⟨b6, 1, none⟩))), (58, Fact.at_ wr (.slice (some a) n c3)), (59, Fact.at_ wr (.int .i64 (k : Int))), (60, Fact.at_ wr (.pointer (some (a.add (k * 7))))), (61, Fact.at_ wr (.pointer (some ⟨(a.add (k * 7)).block, (a.add (k * 7)).off + 2, none⟩))), (62, Fact.at_ wr (.agg #[.int .i64 x.type.kind, .int .i64 x.type.size, .string (bs x.type.name), .slice A4 x.type.elem.length c4])), (63, Fact.at_ wr (.int .i64 m)), (64, Fact.at_ wr (.int .i64 (m - 1))), (65, Fact.at_ wr (.agg #[.int .i64 x.type.kind, .int .i64 0, .string ⟨#[]⟩, .slice none 0 0, .slice none 0 0])), (66, Fact.at_ wr (.agg #[.int .i64 x.num, .int .i64 x.type.kind, .int .i64 0, .string ⟨#[]⟩, .slice none 0 0, .slice none 0 0])), (67, FNb [.int .i64 x.num, .int .i64 x.type.kind, .int .i64 0, .string ⟨#[]⟩, .slice none 0 0, .slice none 0 0] wr)]) [2, 3, 7, 8, 10] [] 71 20 [48, 49, 50, 51, 52, 53, 54, 55, 56, 57, 58, 59, 60, 61, 62, 63, 64, 65, 66, 67] rfl (by kernel_rfl) (by kernel_rfl) (by decide) (by kernel_rfl) (by kernel_rfl) ?_ ?_ ?_
        · intro t9 ht9
          simp only [List.mem_cons, List.not_mem_nil, or_false] at ht9
          rcases ht9 with rfl | rfl | rfl | rfl | rfl
          · exact ⟨rfl, Below.refl _ _⟩
          · exact ⟨rfl, Below.refl _ _⟩
          · exact ⟨rfl, Below.refl _ _⟩
          · exact ⟨rfl, Below.refl _ _⟩
          · exact ⟨rfl, Below.refl _ _⟩
        · refine fcs ⟨Ob.new_ (at1 7 48 (.pointer (some ⟨b5, 0, none⟩)) (.pointer (some ⟨b5, 4, none⟩)) rfl (by first | exact .inl rfl | exact .inr ⟨_, _, _, rfl, rfl, by kernel_rfl, by decide, rfl⟩) (by kernel_rfl) rfl rfl (fun a9 W9 hb9 h9 => by simp [execOp, h9] <;> go_simp)) (by kernel_rfl), ?_⟩
          refine fcs ⟨Ob.new_ (at1 48 49 (.pointer (some ⟨b5, 4, none⟩)) vE rfl (by first | exact .inl rfl | exact .inr ⟨_, _, _, rfl, rfl, by kernel_rfl, by decide, rfl⟩) (by kernel_rfl) rfl rfl (fun a9 W9 hb9 h9 => by have g0 := cell_next hb9 e4; simp [execOp, h9] <;> go_simp)) (by kernel_rfl), ?_⟩
          refine fcs ⟨Ob.new_ (at1 8 50 (.pointer (some ⟨b6, 0, none⟩)) (.pointer (some ⟨b6, 1, none⟩)) rfl (by first | exact .inl rfl | exact .inr ⟨_, _, _, rfl, rfl, by kernel_rfl, by decide, rfl⟩) (by kernel_rfl) rfl rfl (fun a9 W9 hb9 h9 => by simp [execOp, h9] <;> go_simp)) (by kernel_rfl), ?_⟩
          refine fcs ⟨Ob.new_ (at1 50 51 (.pointer (some ⟨b6, 1, none⟩)) (.slice (some a) n c3) rfl (by first | exact .inl rfl | exact .inr ⟨_, _, _, rfl, rfl, by kernel_rfl, by decide, rfl⟩) (by kernel_rfl) rfl rfl (fun a9 W9 hb9 h9 => by have g0 := cell_next hb9 h1; simp [execOp, h9] <;> go_simp)) (by kernel_rfl), ?_⟩
          refine fcs ⟨Ob.new_ (atcopy 10 52 (.int .i64 (k : Int)) (.inl rfl) rfl (by first | exact .inl rfl | exact .inr ⟨_, _, _, rfl, rfl, by kernel_rfl, by decide, rfl⟩) (by kernel_rfl) rfl rfl) (by kernel_rfl), ?_⟩
          refine fcs ⟨Ob.new_ (at2 51 52 53 (.slice (some a) n c3) (.int .i64 (k : Int)) (.pointer (some (a.add (k * 7)))) rfl (by first | exact .inl rfl | exact .inr ⟨_, _, _, rfl, rfl, by kernel_rfl, by decide, rfl⟩) (by kernel_rfl) (by kernel_rfl) rfl rfl rfl (fun a9 W9 hb9 h9 h8 => by simp [execOp, h9, h8] <;> go_simp)) (by kernel_rfl), ?_⟩
          refine fcs ⟨Ob.new_ (at1 53 54 (.pointer (some (a.add (k * 7)))) (.pointer (some (a.add (k * 7)))) rfl (by first | exact .inl rfl | exact .inr ⟨_, _, _, rfl, rfl, by kernel_rfl, by decide, rfl⟩) (by kernel_rfl) rfl rfl (fun a9 W9 hb9 h9 => by simp [execOp, h9] <;> go_simp)) (by kernel_rfl), ?_⟩
          refine fcs ⟨Ob.new_ (at1 54 55 (.pointer (some (a.add (k * 7)))) (.int .i64 x.num) rfl (by first | exact .inl rfl | exact .inr ⟨_, _, _, rfl, rfl, by kernel_rfl, by decide, rfl⟩) (by kernel_rfl) rfl rfl (fun a9 W9 hb9 h9 => by have g0 := cell_next hb9 x0; simp [execOp, h9] <;> go_simp)) (by kernel_rfl), ?_⟩
          refine fcs ⟨Ob.new_ (at1 3 56 (.pointer (some ⟨w.heap.size, 0, none⟩)) (.agg #[.int .i64 S.ver, .slice A S.enums.length c, .slice A2 S.structs.length c2]) rfl (by first | exact .inl rfl | exact .inr ⟨_, _, _, rfl, rfl, by kernel_rfl, by decide, rfl⟩) (by kernel_rfl) rfl rfl (fun a9 W9 hb9 h9 => by have g0 := cell_next hb9 s0; have g1 := cell_next hb9 s1; have g2 := cell_next hb9 s2; simp [execOp, h9] <;> go_simp)) (by kernel_rfl), ?_⟩
          refine fcs ⟨Ob.new_ (at1 8 57 (.pointer (some ⟨b6, 0, none⟩)) (.pointer (some ⟨b6, 1, none⟩)) rfl (by first | exact .inl rfl | exact .inr ⟨_, _, _, rfl, rfl, by kernel_rfl, by decide, rfl⟩) (by kernel_rfl) rfl rfl (fun a9 W9 hb9 h9 => by simp [execOp, h9] <;> go_simp)) (by kernel_rfl), ?_⟩
          refine fcs ⟨Ob.new_ (at1 57 58 (.pointer (some ⟨b6, 1, none⟩)) (.slice (some a) n c3) rfl (by first | exact .inl rfl | exact .inr ⟨_, _, _, rfl, rfl, by kernel_rfl, by decide, rfl⟩) (by kernel_rfl) rfl rfl (fun a9 W9 hb9 h9 => by have g0 := cell_next hb9 h1; simp [execOp, h9] <;> go_simp)) (by kernel_rfl), ?_⟩
          refine fcs ⟨Ob.new_ (atcopy 10 59 (.int .i64 (k : Int)) (.inl rfl) rfl (by first | exact .inl rfl | exact .inr ⟨_, _, _, rfl, rfl, by kernel_rfl, by decide, rfl⟩) (by kernel_rfl) rfl rfl) (by kernel_rfl), ?_⟩
          refine fcs ⟨Ob.new_ (at2 58 59 60 (.slice (some a) n c3) (.int .i64 (k : Int)) (.pointer (some (a.add (k * 7)))) rfl (by first | exact .inl rfl | exact .inr ⟨_, _, _, rfl, rfl, by kernel_rfl, by decide, rfl⟩) (by kernel_rfl) (by kernel_rfl) rfl rfl rfl (fun a9 W9 hb9 h9 h8 => by simp [execOp, h9, h8] <;> go_simp)) (by kernel_rfl), ?_⟩
          refine fcs ⟨Ob.new_ (at1 60 61 (.pointer (some (a.add (k * 7)))) (.pointer (some ⟨(a.add (k * 7)).block, (a.add (k * 7)).off + 2, none⟩)) rfl (by first | exact .inl rfl | exact .inr ⟨_, _, _, rfl, rfl, by kernel_rfl, by decide, rfl⟩) (by kernel_rfl) rfl rfl (fun a9 W9 hb9 h9 => by simp [execOp, h9] <;> go_simp)) (by kernel_rfl), ?_⟩
          refine fcs ⟨Ob.new_ (at1 61 62 (.pointer (some ⟨(a.add (k * 7)).block, (a.add (k * 7)).off + 2, none⟩)) (.agg #[.int .i64 x.type.kind, .int .i64 x.type.size, .string (bs x.type.name), .slice A4 x.type.elem.length c4]) rfl (by first | exact .inl rfl | exact .inr ⟨_, _, _, rfl, rfl, by kernel_rfl, by decide, rfl⟩) (by kernel_rfl) rfl rfl (fun a9 W9 hb9 h9 => by have g0 := cell_next hb9 x2; have g1 := cell_next hb9 x3; have g2 := cell_next hb9 x4; have g3 := cell_next hb9 x5; simp [execOp, h9] <;> go_simp)) (by kernel_rfl), ?_⟩
          refine fcs ⟨Ob.new_ (atcopy 2 63 (.int .i64 m) (.inl rfl) rfl (by first | exact .inl rfl | exact .inr ⟨_, _, _, rfl, rfl, by kernel_rfl, by decide, rfl⟩) (by kernel_rfl) rfl rfl) (by kernel_rfl), ?_⟩
          refine fcs ⟨Ob.new_ (at1 63 64 (.int .i64 m) (.int .i64 (m - 1)) rfl (by first | exact .inl rfl | exact .inr ⟨_, _, _, rfl, rfl, by kernel_rfl, by decide, rfl⟩) (by kernel_rfl) rfl rfl (fun a9 W9 hb9 h9 => by simp [execOp, h9] <;> go_simp)) (by kernel_rfl), ?_⟩
          refine fcs ⟨Ob.new_ (atc3 35 56 62 64 65 (.agg #[.int .i64 S.ver, .slice A S.enums.length c, .slice A2 S.structs.length c2]) (.agg #[.int .i64 x.type.kind, .int .i64 x.type.size, .string (bs x.type.name), .slice A4 x.type.elem.length c4]) (.int .i64 (m - 1)) (.agg #[.int .i64 x.type.kind, .int .i64 0, .string ⟨#[]⟩, .slice none 0 0, .slice none 0 0]) _ rfl rfl (by first | exact .inl rfl | exact .inr ⟨_, _, _, rfl, rfl, by kernel_rfl, by decide, rfl⟩) (by kernel_rfl) (by kernel_rfl) (by kernel_rfl) rfl rfl rfl (by kernel_rfl) rfl (fun W9 hb9 => cP W9 hb9)) (by kernel_rfl), ?_⟩
          refine fcs ⟨Ob.new_ (at2 55 65 66 (.int .i64 x.num) (.agg #[.int .i64 x.type.kind, .int .i64 0, .string ⟨#[]⟩, .slice none 0 0, .slice none 0 0]) (.agg #[.int .i64 x.num, .int .i64 x.type.kind, .int .i64 0, .string ⟨#[]⟩, .slice none 0 0, .slice none 0 0]) rfl (by first | exact .inl rfl | exact .inr ⟨_, _, _, rfl, rfl, by kernel_rfl, by decide, rfl⟩) (by kernel_rfl) (by kernel_rfl) rfl rfl rfl (fun a9 W9 hb9 h9 h8 => by simp [execOp, h9, h8] <;> go_simp)) (by kernel_rfl), ?_⟩
          refine fcs ⟨Ob.new_ (at_val (W0 := wr) (by first | exact .inl rfl | exact .inr ⟨_, _, _, rfl, rfl, by kernel_rfl, by decide, rfl⟩) (fun a9 W9 hf9 => by have p66 := hf9 66 (by kernel_rfl); have h9 : a9.eval (.tmp 66) = (.agg #[.int .i64 x.num, .int .i64 x.type.kind, .int .i64 0, .string ⟨#[]⟩, .slice none 0 0, .slice none 0 0]) := p66.1; exact ⟨.slice (some ⟨W9.heap.size, 0, none⟩) 1 1, W9.alloc (Obj.cells #[.int .i64 x.num, .int .i64 x.type.kind, .int .i64 0, .string ⟨#[]⟩, .slice none 0 0, .slice none 0 0] 94), by simp [execOp, h9] <;> go_simp, ab1 _ _, fun s hs => by injection hs with hs; subst hs; exact ⟨W9.heap.size, rfl, Bx.new6 _ _ _ _ _ _ _ _, p66.2.size, upG p66.2 (ab1 _ _)⟩⟩)) (by kernel_rfl), ?_⟩
          exact fnl
        intro vv wv hvv hbv _ _
        have hv49 : vv 49 = vE := (hvv 49 (by decide)).1
        simp only [lay, List.foldl_cons, List.foldl_nil, List.setIfInBounds_toArray, List.set_cons_succ, List.set_cons_zero, hv49, List.drop_succ_cons, List.drop_zero]
        obtain ⟨gb, e67, hBb, -, -⟩ := hvv 67 (by decide)
        simp only [e67]
        have C1' := C1.next hbv
        have C3' := C3.next hbv
        have E5' := E5.next hbv
        have E6' := E6.next hbv
        have hb2 := Below.next hb hbv
        have hO3 := own_next HO.out hbv
        have hZ2 : wL.heap.size ≤ wv.heap.size := Nat.le_trans HK.out hbv.size
        have hI2 := HI.out
        have hne1 : ∀ g, vE.ownBlock = some g → wL.heap.size ≤ g := fun g e => (hO3.lt g e).1
        clear hvv e67 s0 s1 s2 e4 x0 x2 x3 x4 x5 x6 x1 cP C1 C3 E5 E6 HO HI hblk hEt HK l1 l5 l6 h1 wm hxl
        go_wp2_with (at_builtin; refine wpList_pushP rfl (.tmp 49) (.tmp 67) rfl wL.heap.size vE l xs (ze x) ⟨none, 0, none, 0⟩ gb 1 rfl rfl hO3 hI2 (pn_ze x _) hBb (by omega) hZ2 ?_; intro v' xs' w6 hO6 hI6 hg'; obtain ⟨Bv, nv, cv, rfl⟩ := own_slice2 hO6; have T5 := E5'.gbo hg' (fun g hg e => by have := hne1 g hg; omega); have y4 := T5.c 4 rfl; have y5 := T5.f 4 rfl; have y6 := T5.lt)
        go_roundw
        case rel =>
          have gs := gb_set1 w6 ⟨b5, 4, none⟩ (.slice Bv nv cv)
          have hne4 : Value.ownBlock (.slice Bv nv cv) ≠ some b5 := fun e => by have := (hO6.lt _ e).1; omega
          exact ⟨k + 1, .slice Bv nv cv, l ++ [ze x], xs', hk1.out, by go_num, HL2, Lib.hid (hO6.kept gs (.inr hne4)), Lib.hid hI6, (C1'.gbo hg' (fun g hg e => by have := hne1 g hg; omega)).gb gs (by show w.heap.size ≠ b5; omega), (C3'.gbo hg' (fun g hg e => by have := hne1 g hg; omega)).gb gs (by show w.heap.size + 1 + 1 ≠ b5; omega), T5.put1 4 _, (E6'.gbo hg' (fun g hg e => by have := hne1 g hg; omega)).gb gs (by show b6 ≠ b5; omega), (hb2.grown hg' hb2.size (fun b e => by have := hne1 b e; omega)).setCell (by show w.heap.size ≤ b5; omega) _, Lib.hid (Nat.le_trans hZ2 (Nat.le_trans hg'.size gs.size))⟩
        case measure => have := hk1.out; simp [intOf]; omega
    · obtain rfl : k = n := by omega
      obtain ⟨Bv, nv, cv, rfl⟩ := own_slice2 HO.out
      obtain rfl : nv = l.length := by obtain ⟨_, _, e⟩ := own_form HO.out; injection e
      obtain ⟨nv, hnv⟩ : ∃ nv, l.length = nv := ⟨_, rfl⟩
      rw [hnv] at HO E5
      have HNV := Lib.hid hnv
      have HL2 := Lib.hid (show zf sT.fields = l by rw [HL.out, ← HN.out, List.take_length])
      clear hnv HL
      have s0 := E5.c 0 rfl
      have s1 := E5.c 1 rfl
      have s2 := E5.c 2 rfl
      have s3 := E5.c 3 rfl
      have s4 := E5.c 4 rfl
      have q0 := C3.f 0 rfl
      have q1 := C3.f 1 rfl
      have q2 := C3.f 2 rfl
      have q3 := C3.f 3 rfl
      have q4 := C3.f 4 rfl
      have r0 := C3.c 0 rfl
      have r1 := C3.c 1 rfl
      have r2 := C3.c 2 rfl
      have r3 := C3.c 3 rfl
      have r4 := C3.c 4 rfl
      have l3 := C3.lt
      have hfin := gb5 hb (b := w.heap.size + 1 + 1) (by omega) (.int .i64 6) (.int .i64 0) (.string ⟨#[]⟩) (.slice none 0 0) (.slice Bv nv cv)
      have hKF := Kpl.gb (hi := wL.heap.size) (gb_set5 wr (w.heap.size + 1 + 1) (.int .i64 6) (.int .i64 0) (.string ⟨#[]⟩) (.slice none 0 0) (.slice Bv nv cv)) (by omega)
      go_wp2_with fail
      refine bodyPost_ret (v := .agg #[.int .i64 6, .int .i64 0, .string ⟨#[]⟩, .slice none 0 0, .slice Bv nv cv]) (by simp [results, Tryz.results35, go_sem, r0, r1, r2, r3, r4]) rfl ?_
      generalize (((((wr.setCell ⟨w.heap.size + 1 + 1, 0, none⟩ (.int .i64 6)).setCell ⟨w.heap.size + 1 + 1, 1, none⟩ (.int .i64 0)).setCell ⟨w.heap.size + 1 + 1, 2, none⟩ (.string ⟨#[]⟩)).setCell ⟨w.heap.size + 1 + 1, 3, none⟩ (.slice none 0 0)).setCell ⟨w.heap.size + 1 + 1, 4, none⟩ (.slice Bv nv cv)) = wF at *
      rw [HL2.out]
      refine ⟨⟨none, 0, Bv, cv⟩, ?_, nwV_row HO.out (by omega) hKF HNV.out HI.out 6 0 [], hfin⟩
      show Ending.returned _ = Ending.returned (.agg #[.int .i64 6, .int .i64 0, .string ⟨#[]⟩, .slice none 0 0, .slice Bv l.length cv])
      rw [HNV.out]
end Go.Proofs.YthfodpbecddheaaGreatDoor
/-
  The reference's sizes of schemas: Few. No conditions beyond those that each names.
-/
namespace Go.Proofs.YthfodpbecddheaaGreatDoor
open Go.RowKit
def shortN (x : List UInt8) : Bool := decide (x.length ≤ 40)
def fewE (x : En) : Bool := shortN x.name && (decide (x.names.length ≤ 18) && (decide (x.nums.length ≤ 18) && x.names.all shortN))
def fewF (f : Fd) : Bool := shortN f.name && fewT f.type
def fewS (t : St) : Bool := shortN t.name && (decide (t.fields.length ≤ 18) && t.fields.all fewF)
def few (S : Sch) : Bool := decide (S.enums.length ≤ 18) && (decide (S.structs.length ≤ 18) && (S.enums.all fewE && S.structs.all fewS))
theorem all_next {α : Type} {p : α → Bool} {l : List α} {k : Nat} (hI : ∀ j (h : j < l.length), j < k → p (l[j]'h) = true) (hk : k < l.length) (e : p (l[k]'hk) = true) : ∀ j (h : j < l.length), j < k + 1 → p (l[j]'h) = true := fun j h hj => by
  by_cases hjk : j < k
  · exact hI j h hjk
  · obtain rfl : j = k := by omega
    exact e
end Go.Proofs.YthfodpbecddheaaGreatDoor
/-
  Which schemas are too long: the reference's and the developers' test. No conditions beyond those that each names.
-/
namespace Go.Proofs.YthfodpbecddheaaGreatDoor
open Go.RowKit
set_option maxRecDepth 100000 in
set_option maxHeartbeats 4000000 in
theorem isLong_any (S : Sch) (v : Value) (w : World) (r : Bool) (hr : r = true ↔ longS S) (hn : S.enums.length ≤ 1000) (hm : S.structs.length ≤ 1000) (hv : ScV w S v) :
    Calls Tryz.prog 58 #[v] w (Ib (.bool r) w) := by
  obtain ⟨A, c, A2, c2, rfl, hS⟩ := hv
  have hSe := hS.en
  have hSs := hS.st
  clear hS
  unfold longS at hr
  obtain ⟨n, hn2⟩ : ∃ n, S.enums.length = n := ⟨_, rfl⟩
  obtain ⟨m, hm2⟩ : ∃ m, S.structs.length = m := ⟨_, rfl⟩
  have HN := Lib.hid hn2
  have HM := Lib.hid hm2
  rw [hn2] at hn hr ⊢
  rw [hm2] at hm hr ⊢
  clear hn2 hm2
  have hB := Bx.new3 w 25 (.int .i64 S.ver) (.slice A n c) (.slice A2 m c2)
  by_cases h1 : 16 < n + m
  · obtain rfl := hr.2 (.inl h1)
    have d1 : decide ((16 : Int) < (n : Int) + (m : Int)) = true := by rw [decide_eq_true_eq]; omega
    clear hr h1
    go_enter Tryz.func58, Tryz.ntmps58
    go_wp2_with fail
    go_ret
    exact ⟨rfl, ab1 _ _⟩
  · have d1 : decide ((16 : Int) < (n : Int) + (m : Int)) = false := by rw [decide_eq_false_iff_not]; omega
    have HR := Lib.hid hr
    clear hr
    go_enter Tryz.func58, Tryz.ntmps58
    go_wp2_with fail
    go_loopw [18] (fun i wr => ∃ k : Nat, k ≤ n ∧ i = .int .i64 (k : Int) ∧ Hid (∀ j (h : j < S.enums.length), j < k → decide ((S.enums[j]'h).names.length ≤ 16) = true) ∧ Bx wr w.heap.size [.int .i64 S.ver, .slice A n c, .slice A2 m c2] ∧ Below w.heap.size w wr) (fun i _ => n - (intOf i).toNat)
    case atStart => exact ⟨0, by omega, rfl, Lib.hid fun j _ h => by omega, hB, ab1 _ _⟩
    case round =>
      obtain ⟨k, hk, rfl, hI, hBr, hb⟩ := hrel
      have b1 := hBr.c 1 rfl
      have b2 := hBr.c 2 rfl
      clear hB
      by_cases hlt : k < n
      · obtain ⟨a, rfl, hA⟩ := hSe.get (i := k) (by rw [HN.out]; exact hlt)
        obtain ⟨e0, ⟨A3, c3, e1, -⟩, A4, c4, e2, -⟩ := hA.next hb
        have hblk : (a.add (k * 3)).block < wr.heap.size := blk_lt e0
        have hx : ¬ (S.enums[k]'(by rw [HN.out]; exact hlt)).names.length ≤ 16 → r = true := fun e => HR.out.2 (.inr (.inl ⟨_, List.getElem_mem (by rw [HN.out]; exact hlt), by omega⟩))
        have hy := fun e => all_next (p := fun x : En => decide (x.names.length ≤ 16)) hI.out (k := k) (by rw [HN.out]; exact hlt) e
        generalize S.enums[k]'(by rw [HN.out]; exact hlt) = x at *
        by_cases g : x.names.length ≤ 16
        · have d5 : decide ((16 : Int) < (x.names.length : Int)) = false := by rw [decide_eq_false_iff_not]; omega
          have E := Lib.hid (hy (decide_eq_true g))
          clear hx hy hI g hA
          go_wp2_with fail
          go_roundw
          case rel => exact ⟨k + 1, by omega, by go_num, E, hBr.next (ab1 _ _), Below.next hb (ab1 _ _)⟩
          case measure => simp [intOf]; omega
        · have d5 : decide ((16 : Int) < (x.names.length : Int)) = true := by rw [decide_eq_true_eq]; omega
          obtain rfl := hx g
          clear hx hy hI g hA
          go_wp2_with fail
          go_ret
          exact ⟨rfl, Below.next hb (ab1 _ _)⟩
      · obtain rfl : k = n := by omega
        have H1 := Lib.hid (show ∀ x ∈ S.enums, ¬ 16 < x.names.length by
          intro x hx
          obtain ⟨j, hj, rfl⟩ := List.mem_iff_getElem.1 hx
          have := hI.out j hj (by rw [← HN.out]; exact hj)
          rw [decide_eq_true_eq] at this
          omega)
        clear hI
        go_wp2_with fail
        rename World => wo
        go_loopw [30] (fun i wr => ∃ y : Nat, y ≤ m ∧ i = .int .i64 (y : Int) ∧ Hid (∀ j (h : j < S.structs.length), j < y → decide ((S.structs[j]'h).fields.length ≤ 16) = true) ∧ Bx wr w.heap.size [.int .i64 S.ver, .slice A k c, .slice A2 m c2] ∧ Below w.heap.size w wr) (fun i _ => m - (intOf i).toNat)
        case atStart => exact ⟨0, by omega, rfl, Lib.hid fun j _ h => by omega, hBr, hb⟩
        case round =>
          obtain ⟨k2, hk2, rfl, hI, hBr2, hb2⟩ := hrel
          have b1 := hBr2.c 1 rfl
          have b2 := hBr2.c 2 rfl
          clear hBr
          by_cases hlt2 : k2 < m
          · obtain ⟨a, rfl, hA⟩ := hSs.get (i := k2) (by rw [HM.out]; exact hlt2)
            obtain ⟨e0, A3, c3, e1, -⟩ := hA.next hb2
            have hblk : (a.add (k2 * 2)).block < wr.heap.size := blk_lt e0
            have hx : ¬ (S.structs[k2]'(by rw [HM.out]; exact hlt2)).fields.length ≤ 16 → r = true := fun e => HR.out.2 (.inr (.inr ⟨_, List.getElem_mem (by rw [HM.out]; exact hlt2), by omega⟩))
            have hy := fun e => all_next (p := fun x : St => decide (x.fields.length ≤ 16)) hI.out (k := k2) (by rw [HM.out]; exact hlt2) e
            generalize S.structs[k2]'(by rw [HM.out]; exact hlt2) = x at *
            by_cases g : x.fields.length ≤ 16
            · have d5 : decide ((16 : Int) < (x.fields.length : Int)) = false := by rw [decide_eq_false_iff_not]; omega
              have E := Lib.hid (hy (decide_eq_true g))
              clear hx hy hI g hA
              go_wp2_with fail
              go_roundw
              case rel => exact ⟨k2 + 1, by omega, by go_num, E, hBr2.next (ab1 _ _), Below.next hb2 (ab1 _ _)⟩
              case measure => simp [intOf]; omega
            · have d5 : decide ((16 : Int) < (x.fields.length : Int)) = true := by rw [decide_eq_true_eq]; omega
              obtain rfl := hx g
              clear hx hy hI g hA
              go_wp2_with fail
              go_ret
              exact ⟨rfl, Below.next hb2 (ab1 _ _)⟩
          · obtain rfl : k2 = m := by omega
            obtain rfl : r = false := by
              rw [Bool.eq_false_iff]
              intro h
              rcases HR.out.1 h with h | ⟨x, hx, h⟩ | ⟨x, hx, h⟩
              · omega
              · exact H1.out x hx h
              · obtain ⟨j, hj, rfl⟩ := List.mem_iff_getElem.1 hx
                have := hI.out j hj (by rw [← HM.out]; exact hj)
                rw [decide_eq_true_eq] at this
                omega
            clear hI
            go_wp2_with fail
            go_ret
            exact ⟨rfl, hb2⟩
end Go.Proofs.YthfodpbecddheaaGreatDoor
/-
  Maps keyed by names, with whatever elements. No conditions beyond those that each names.
-/
namespace Go.Proofs.YthfodpbecddheaaGreatDoor
open Go.RowKit Go.Maps
/-- How an element reads: as itself. -/
def Rv (v : Value) : Option (DataW Value × List MemPlace) := some (.held v, [])
theorem strK : Keyed Tryz.prog 9 := string_keyed Tryz.underlying9
/-- Block b is a map of at most n names, in which f finds. -/
structure Mp (w : World) (b n : Nat) (f : List UInt8 → Option Value) (D : DataW Value) : Prop where
  own : w.ownsMap Tryz.prog 9 Rv b n D
  has_ : ∀ x, Maps.has D (.string x) = (f x).isSome
  at_ : ∀ x z, D.atKey (.string x) z = match f x with | some v => .held v | none => z
theorem Mp.lt {w : World} {b n : Nat} {f : List UInt8 → Option Value} {D : DataW Value} (h : Mp w b n f D) : b < w.heap.size := h.own.lt
theorem Mp.next {w w' : World} {b n : Nat} {f : List UInt8 → Option Value} {D : DataW Value} (h : Mp w b n f D) (hb : Below w.heap.size w w') : Mp w' b n f D := by
  refine ⟨?_, h.has_, h.at_⟩
  obtain ⟨es, clock, e, r⟩ := h.own
  exact ⟨es, clock, (hb.block b h.lt).trans e, r⟩
theorem Mp.kept {w w' : World} {b n : Nat} {f : List UInt8 → Option Value} {D : DataW Value} {row : Option Nat} (h : Mp w b n f D) (hg : w.grownBy w' row) (hne : some b ≠ row) : Mp w' b n f D := ⟨h.own.kept hg hne, h.has_, h.at_⟩
theorem Mp.made (w : World) : Mp (w.alloc (.map #[] 0)) w.heap.size 0 (fun _ => none) (.map []) :=
  ⟨World.ownsMap_made _ _ _ _, fun _ => rfl, fun _ _ => rfl⟩
theorem key_of {x : List UInt8} (hx : x.length ≤ 9223372036854775807) : keyOf Tryz.prog 9 (.string (bs x)) = some (.string x) :=
  Go.WideMaps.keyOf_string_mk Tryz.underlying9 (s := bs x) (by show x.length ≤ maxLen; simp only [maxLen]; omega)
/-- The map with one name more. -/
def putF (f : List UInt8 → Option Value) (x : List UInt8) (v : Value) : List UInt8 → Option Value := fun y => if y = x then some v else f y
theorem Mp.put_ {w w' : World} {b n : Nat} {f : List UInt8 → Option Value} {D : DataW Value} (h : Mp w b n f D) {x : List UInt8} (hx : x.length ≤ 9223372036854775807) {v : Value} (ho : w'.ownsMap Tryz.prog 9 Rv b (n + 1) (D.put (.string x) (.held v))) : Mp w' b (n + 1) (putF f x v) (D.put (.string x) (.held v)) := by
  have hk : WideAt.IsKeyLit (.string x) := by
    have := strK.key (key_of hx)
    exact this
  have hm : IsMap D := h.own.isMap
  refine ⟨ho, fun y => ?_, fun y z => ?_⟩
  · unfold putF
    by_cases e : y = x
    · subst e; rw [if_pos rfl, has_put_same hm hk]; rfl
    · rw [if_neg e, has_put_other (by intro h; cases h; exact e rfl), h.has_]
  · unfold putF
    by_cases e : y = x
    · subst e; rw [if_pos rfl, atKey_put_same hm hk]
    · rw [if_neg e, atKey_put_other (by intro h; cases h; exact e rfl), h.at_]
section
variable (w : World) {ops : Array Oper} {rest : List Oper} {o : Oper} {a : Act} {Q : Exit → Act → World → Prop}
/-- m[x]. -/
theorem wpList_look (hg : o.guard = none) (m x : Operand) (t e : TypeId) (hop : o.op = Op.lookup t m x false) (ht : Tryz.prog.underlying t = some (.map 9 e)) {z : Value} (hz : (zeroValue e).run Tryz.prog w = .ok z w) {b n : Nat} {f : List UInt8 → Option Value} {D : DataW Value}
    (hM : Mp w b n f D) (hm : a.eval m = .map (some b)) {k : List UInt8} (hk : k.length ≤ 9223372036854775807) (hx : a.eval x = .string (bs k))
    (hK : wpList Tryz.prog ops Q rest (a.put o.dst ((f k).getD z)) w) : wpList Tryz.prog ops Q (o :: rest) a w := by
  refine wpList_plain hg fun K' hK' => ?_
  obtain ⟨v, ps, hrun, hv⟩ := hM.own.lookup strK ht hz (zd := .held z) (zp := []) rfl (key_of hk)
  have e : v = (f k).getD z := by
    rw [hM.at_] at hv
    cases h : f k with
    | none => rw [h] at hv; cases hv; rfl
    | some u => rw [h] at hv; cases hv; rfl
  unfold Oper.wp
  simp [execOp, hop, hm, hx, hrun, Result.andThen]
  rw [e]
  exact hK' _ _ hK
/-- v, ok := m[x]. -/
theorem wpList_look_ok (hg : o.guard = none) (m x : Operand) (t e : TypeId) (hop : o.op = Op.lookup t m x true) (ht : Tryz.prog.underlying t = some (.map 9 e)) {z : Value} (hz : (zeroValue e).run Tryz.prog w = .ok z w) {b n : Nat} {f : List UInt8 → Option Value} {D : DataW Value}
    (hM : Mp w b n f D) (hm : a.eval m = .map (some b)) {k : List UInt8} (hk : k.length ≤ 9223372036854775807) (hx : a.eval x = .string (bs k))
    (hK : wpList Tryz.prog ops Q rest (a.put o.dst (.tuple #[(f k).getD z, .bool (f k).isSome])) w) : wpList Tryz.prog ops Q (o :: rest) a w := by
  refine wpList_lookup_own_ok w hg m x t hop 9 e strK ht Rv hz (.held z) [] rfl b n D hm hM.own _ _ hx (key_of hk) fun v ps hv => ?_
  have e : v = (f k).getD z := by
    rw [hM.at_] at hv
    cases h : f k with
    | none => rw [h] at hv; cases hv; rfl
    | some u => rw [h] at hv; cases hv; rfl
  rw [e, hM.has_]
  exact hK
/-- m[x] = v. -/
theorem wpList_put (hg : o.guard = none) (m x v : Operand) (t e : TypeId) (hop : o.op = Op.mapUpdate t m x v) (ht : Tryz.prog.underlying t = some (.map 9 e)) {b n : Nat} {f : List UInt8 → Option Value} {D : DataW Value}
    (hM : Mp w b n f D) (hn : n ≤ 1000000) (hm : a.eval m = .map (some b)) {k : List UInt8} (hk : k.length ≤ 9223372036854775807) (hx : a.eval x = .string (bs k)) {u : Value} (hv : a.eval v = u)
    (hK : ∀ w', Mp w' b (n + 1) (putF f k u) (D.put (.string k) (.held u)) → w.grownBy w' (some b) → wpList Tryz.prog ops Q rest (a.put o.dst undef) w') : wpList Tryz.prog ops Q (o :: rest) a w :=
  wpList_mapUpdate_own w hg m x v t hop 9 e strK ht Rv b n D hm hM.own (by simp only [maxLen]; omega) _ _ _ hx hv (key_of hk) (.held u) [] rfl fun w' h1 h2 => hK w' (hM.put_ hk h1) h2
end
theorem Below.ofGrown {B : Nat} {w w' : World} {b : Nat} (hg : w.grownBy w' (some b)) (hB : B ≤ b) (hs : B ≤ w.heap.size) : Below B w w' := (Below.refl _ _).grown hg hs (fun k hk => by cases hk; exact hB)
end Go.Proofs.YthfodpbecddheaaGreatDoor


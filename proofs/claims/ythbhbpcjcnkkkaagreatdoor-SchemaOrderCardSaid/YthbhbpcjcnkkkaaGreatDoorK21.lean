/-
  Structs and enumerations described by the reference. No conditions beyond those that each names.
-/
import Derived.Test.YthbhbpcjcnkkkaaGreatDoorK20
import Derived.Test.YthbhbpcjcnkkkaaGreatDoorK16
import Derived.Test.YthbhbpcjcnkkkaaGreatDoorK19
namespace Go.Proofs.YthbhbpcjcnkkkaaGreatDoor
open Go.RowKit Go.Maps
set_option maxRecDepth 100000 in
set_option maxHeartbeats 8000000 in
theorem refDescribeS_any (S : Sch) (hO : Okk S) (hP : Parts S) (x : List UInt8) (e : List Fd) (hc : fst_ St.name S.structs x = some ⟨x, e⟩) (hL : (dst ⟨x, e⟩).length ≤ 100000) (v : Value) (w : World) (hv : ScV w S v) :
    Calls Tryz.prog 59 #[v, .string (bs x)] w (Ib (.string (bs (dst ⟨x, e⟩))) w) := by
  have hv0 := hv
  obtain ⟨A, c, A2, c2, rfl, hS⟩ := hv
  clear hS
  obtain ⟨n, hn⟩ : ∃ n, S.enums.length = n := ⟨_, rfl⟩
  obtain ⟨m, hm⟩ : ∃ m, S.structs.length = m := ⟨_, rfl⟩
  have HN := Lib.hid hn
  have HM := Lib.hid hm
  have hnn := hO.nn
  rw [hn, hm] at hv0 hnn ⊢
  have hab := ab1 w (Obj.cells #[.int .i64 S.ver, .slice A n c, .slice A2 m c2] 25)
  have hv1 := hv0.next hab
  have B0 := Bx.new3 w 25 (.int .i64 S.ver) (.slice A n c) (.slice A2 m c2)
  have cS := refStruct_any S x _ _ hv1 (by rw [HM.out]; omega)
  unfold StO at cS
  rw [hc] at cS
  have htm := (fst_mem hc).1
  have hf : ∀ f ∈ e, right S f.type = true ∧ 1 ≤ f.num ∧ f.num ≤ 127 := fun f hf => ⟨hO.rt _ htm f hf, (hP.inF htm hf).2⟩
  have hdl : dst ⟨x, e⟩ = uv 6 ++ (txt x ++ (uv e.length ++ dfds e)) := rfl
  rw [hdl] at hL ⊢
  clear hdl
  have hnl : x.length ≤ (txt x).length := by unfold txt; rw [List.length_append]; omega
  obtain ⟨q, hq⟩ : ∃ q, e.length = q := ⟨_, rfl⟩
  have HQ := Lib.hid hq
  have hq9 : q ≤ (dfds e).length := by rw [← hq]; exact dfds_ge e
  rw [hq] at hL ⊢
  simp only [List.length_append] at hL
  have c6 := fun W => refCount_any 6 W (by omega) (by omega)
  rw [show cnt 6 = uv 6 from cnt_nat 6 (by decide)] at c6
  have ct := fun W => refText_any x W (by omega)
  have c4 := fun W => refCount_any (q : Int) W (by omega) (by omega)
  rw [cnt_nat q (by omega)] at c4
  generalize uv 6 = u6 at *
  generalize txt x = tn at *
  generalize uv q = cl at *
  obtain ⟨D, hD⟩ : ∃ D, ((u6 ++ tn) ++ cl) = D := ⟨_, rfl⟩
  have hDl : D.length + (dfds e).length ≤ 100000 := by rw [← hD]; simp only [List.length_append]; omega
  have hfin : u6 ++ (tn ++ (cl ++ dfds e)) = D ++ dfds e := by rw [← hD]; simp only [List.append_assoc]
  rw [hfin]
  have hn1 := fun W => refCount_any 1 W (by decide) (by decide)
  have hn0 := fun W => refCount_any 0 W (by decide) (by decide)
  rw [cnt_one] at hn1
  rw [cnt_zero] at hn0
  clear hfin hnl hc htm hn hm hv1 hq
  go_enter Tryz.func59, Tryz.ntmps59
  go_wp2_with fail
  refine cS.mono ?_
  rintro e8 w2 ⟨u, rfl, ⟨A3, c3, hue0, hR⟩, hb2⟩
  have hR : Rw FdA 7 w2 e A3 := hR
  have hue : u = .agg #[.string (bs x), .slice A3 e.length c3] := hue0
  clear hue0
  rw [HQ.out] at hue
  subst hue
  have hbw := Below.next hab hb2
  have hal2 := ab1 w2 (Obj.cells #[.string (bs x), .slice A3 q c3] 32)
  have G1 := Bx.new2 w2 32 (.string (bs x)) (.slice A3 q c3)
  clear cS B0
  go_upto_region 3 with (fail)
  have hbw1 := Below.next hbw hal2
  generalize w2.alloc (Obj.cells #[.string (bs x), .slice A3 q c3] 32) = W1 at *
  obtain ⟨g1, hg1⟩ : ∃ g1, w2.heap.size = g1 := ⟨_, rfl⟩
  rw [hg1] at G1 ⊢
  have p1 := G1.c 1 rfl
  have p4 := G1.lt
  have cTx := ct
  refine wp_region_on (by kernel_rfl) (FF [(1, Fact.at_ W1 (.string (bs x))), (5, Fact.at_ W1 (.pointer (some ⟨g1, 0, none⟩))), (21, Fact.at_ W1 (.string (bs u6))), (22, Fact.at_ W1 (.string (bs x))), (23, Fact.at_ W1 (.string (bs tn))), (24, Fact.at_ W1 (.string (bs (u6 ++ tn)))), (25, Fact.at_ W1 (.pointer (some ⟨g1, 1, none⟩))), (26, Fact.at_ W1 (.slice A3 q c3)), (27, Fact.at_ W1 (.int .i64 (q : Int))), (28, Fact.at_ W1 (.string (bs cl))), (29, Fact.at_ W1 (.string (bs ((u6 ++ tn) ++ cl)))), (7, Fact.at_ W1 (.string (bs ((u6 ++ tn) ++ cl))))]) [1, 5] 102 [21, 22, 23, 24, 25, 26, 27, 28, 29, 7] rfl (by kernel_rfl) (by kernel_rfl) ?_ ?_ ?_
  · intro t9 ht9
    simp only [List.mem_cons, List.not_mem_nil, or_false] at ht9
    rcases ht9 with rfl | rfl
    · exact ⟨rfl, Below.refl _ _⟩
    · exact ⟨rfl, Below.refl _ _⟩
  · refine fcs ⟨at_enter (W0 := W1) (by first | exact .inl rfl | exact .inr ⟨_, _, _, rfl, rfl, by kernel_rfl, by decide, rfl⟩) (fun a9 W9 hf9 => by have hb9 := (hf9 1 (by kernel_rfl)).2; exact ⟨84, #[.int .i64 6], by simpa [execOp, resolve, Act.eval] using run_invoke (by kernel_rfl) _ W9, (c6 W9).mono fun e w' ⟨e1, e2⟩ => ⟨_, e1, e2, fun s hs => by injection hs with hs; subst hs; exact ⟨rfl, upG hb9 e2⟩⟩⟩), ?_⟩
    refine fcs ⟨atcopy 1 22 (.string (bs x)) (.inl rfl) rfl (by first | exact .inl rfl | exact .inr ⟨_, _, _, rfl, rfl, by kernel_rfl, by decide, rfl⟩) (by kernel_rfl) rfl rfl, ?_⟩
    refine fcs ⟨atc1 85 22 23 (.string (bs x)) (.string (bs tn)) _ rfl rfl (by first | exact .inl rfl | exact .inr ⟨_, _, _, rfl, rfl, by kernel_rfl, by decide, rfl⟩) (by kernel_rfl) rfl (by kernel_rfl) rfl (fun W9 hb9 => cTx W9), ?_⟩
    refine fcs ⟨atcat 21 23 24 u6 tn rfl rfl (by first | exact .inl rfl | exact .inr ⟨_, _, _, rfl, rfl, by kernel_rfl, by decide, rfl⟩) (by kernel_rfl) (by kernel_rfl) rfl rfl rfl (by simp only [List.length_append]; omega), ?_⟩
    refine fcs ⟨at1 5 25 (.pointer (some ⟨g1, 0, none⟩)) (.pointer (some ⟨g1, 1, none⟩)) rfl (by first | exact .inl rfl | exact .inr ⟨_, _, _, rfl, rfl, by kernel_rfl, by decide, rfl⟩) (by kernel_rfl) rfl rfl (fun a9 W9 hb9 h9 => by simp [execOp, h9] <;> go_simp), ?_⟩
    refine fcs ⟨at1 25 26 (.pointer (some ⟨g1, 1, none⟩)) (.slice A3 q c3) rfl (by first | exact .inl rfl | exact .inr ⟨_, _, _, rfl, rfl, by kernel_rfl, by decide, rfl⟩) (by kernel_rfl) rfl rfl (fun a9 W9 hb9 h9 => by have g0 := cell_next hb9 p1; simp [execOp, h9] <;> go_simp), ?_⟩
    refine fcs ⟨at1 26 27 (.slice A3 q c3) (.int .i64 (q : Int)) rfl (by first | exact .inl rfl | exact .inr ⟨_, _, _, rfl, rfl, by kernel_rfl, by decide, rfl⟩) (by kernel_rfl) rfl rfl (fun a9 W9 hb9 h9 => by exact len_op 26 Tryz.underlying30 rfl h9), ?_⟩
    refine fcs ⟨atc1 84 27 28 (.int .i64 (q : Int)) (.string (bs cl)) _ rfl rfl (by first | exact .inl rfl | exact .inr ⟨_, _, _, rfl, rfl, by kernel_rfl, by decide, rfl⟩) (by kernel_rfl) rfl (by kernel_rfl) rfl (fun W9 hb9 => c4 W9), ?_⟩
    refine fcs ⟨atcat 24 28 29 (u6 ++ tn) cl rfl rfl (by first | exact .inl rfl | exact .inr ⟨_, _, _, rfl, rfl, by kernel_rfl, by decide, rfl⟩) (by kernel_rfl) (by kernel_rfl) rfl rfl rfl (by simp only [List.length_append]; omega), ?_⟩
    refine fcs ⟨atcopy 29 7 (.string (bs ((u6 ++ tn) ++ cl))) (.inr rfl) rfl (by first | exact .inl rfl | exact .inr ⟨_, _, _, rfl, rfl, by kernel_rfl, by decide, rfl⟩) (by kernel_rfl) rfl rfl, ?_⟩
    exact fnl
  intro vv wv hvv hbv
  have hv7 : vv 7 = (.string (bs ((u6 ++ tn) ++ cl))) := (hvv 7 (by decide)).1
  rw [hD] at hv7
  simp only [lay, List.foldl_cons, List.foldl_nil, List.setIfInBounds_toArray, List.set_cons_succ, List.set_cons_zero, hv7]
  have G2 := G1.next hbv
  have hb2' := Below.next hbw1 hbv
  have hR2 : Rw FdA 7 wv e A3 := hR.next fun _ _ => FdA.next (Below.next hal2 hbv)
  have hq10 : q ≤ 100000 := by omega
  clear hvv cTx ct c4 c6 p1 p4 hD hL G1 hR hal2 hbv hbw1 hbw hb2
  go_wp2_with fail
  go_loopw [7, 8] (fun a_ i_ wr => ∃ j : Nat, j ≤ q ∧ i_ = .int .i64 (j : Int) ∧ a_ = .string (bs (D ++ dfds (e.take j))) ∧ Bx wr g1 [.string (bs x), .slice A3 q c3] ∧ Below wv.heap.size wv wr) (fun _ i_ _ => q - (intOf i_).toNat)
  case atStart => exact ⟨0, by omega, rfl, by rw [List.take_zero, dfds, List.append_nil], G2, Below.refl _ _⟩
  case round =>
    clear G2
    obtain ⟨j, hj, rfl, rfl, R1, hbx⟩ := hrel
    have p1 := R1.c 1 rfl
    have p4 := R1.lt
    by_cases hlt : j < q
    · have hje : j < e.length := by rw [HQ.out]; exact hlt
      obtain ⟨a4, rfl, hA4⟩ := hR2.get hje
      have htm := List.getElem_mem hje
      have hsn := dfds_snoc hje
      obtain ⟨A5, c5, e0, e1, e2, e3, e4, e5, e6, -, hV⟩ := hA4.val
      have hlx := dfds_take_le e (j + 1)
      obtain ⟨hfr, hf1, hf2⟩ := hf _ htm
      generalize e[j]'hje = f at *
      replace e0 := cell_next hbx e0
      replace e1 := cell_next hbx e1
      replace e2 := cell_next hbx e2
      replace e3 := cell_next hbx e3
      replace e4 := cell_next hbx e4
      replace e5 := cell_next hbx e5
      replace e6 := cell_next hbx e6
      have hblk : (a4.add (j * 7)).block < wr.heap.size := blk_lt e0
      rw [hsn, List.length_append] at hlx
      have hdf : dfd f = cnt f.num ++ (txt f.name ++ (dt f.type ++ [if f.opt then 1 else 0])) := rfl
      have hfn : f.name.length ≤ (txt f.name).length := by unfold txt; rw [List.length_append]; omega
      have hly : (dfd f).length = (cnt f.num).length + ((txt f.name).length + ((dt f.type).length + 1)) := by rw [hdf]; simp only [List.length_append, List.length_cons, List.length_nil]
      have hX2 : (D ++ dfds (e.take j)).length ≤ 100000 := by rw [List.length_append]; omega
      have hsum : (D ++ dfds (e.take j)).length + (dfd f).length ≤ 100000 := by rw [List.length_append]; omega
      have c7 := fun W => refCount_any f.num W (by omega) (by omega)
      have c8 := fun W => refText_any f.name W (by omega)
      have c9 := fun W (h : Below wr.heap.size wr W) => refDescribeType_any (SizeOf.sizeOf f.type + 1) S f.type _ W (Nat.lt_succ_self _) hfr (by omega) (hV.next (Below.next hbx h))
      have hres : ((((D ++ dfds (e.take j)) ++ cnt f.num) ++ txt f.name) ++ dt f.type) ++ [if f.opt then 1 else 0] = D ++ dfds (e.take (j + 1)) := by rw [hsn, hdf]; simp only [List.append_assoc]
      generalize cnt f.num = fc at *
      generalize txt f.name = ft at *
      generalize dt f.type = fd at *
      generalize f.num = fnum at *
      generalize f.name = fnm at *
      generalize f.type.kind = tk at *
      generalize f.type.size = ts at *
      generalize f.type.name = tnm at *
      generalize f.type.elem.length = te at *
      generalize f.opt = fo at *
      generalize D ++ dfds (e.take j) = X at *
      obtain ⟨Z, hZ⟩ : ∃ Z, D ++ dfds (e.take (j + 1)) = Z := ⟨_, rfl⟩
      rw [hZ] at hres
      have hal := ab1 wr (Obj.cells #[.int .i64 fnum, .string (bs fnm), .int .i64 tk, .int .i64 ts, .string (bs tnm), .slice A5 te c5, .bool fo] 47)
      have B5 := Bx.new7 wr 47 (.int .i64 fnum) (.string (bs fnm)) (.int .i64 tk) (.int .i64 ts) (.string (bs tnm)) (.slice A5 te c5) (.bool fo)
      clear hA4 hsn hlx hdf htm hf1 hf2 hfr hfn hDl
      go_upto_region 8 with (fail)
      have c9n := fun W (h : Below (wr.alloc (Obj.cells #[.int .i64 fnum, .string (bs fnm), .int .i64 tk, .int .i64 ts, .string (bs tnm), .slice A5 te c5, .bool fo] 47)).heap.size (wr.alloc (Obj.cells #[.int .i64 fnum, .string (bs fnm), .int .i64 tk, .int .i64 ts, .string (bs tnm), .slice A5 te c5, .bool fo] 47)) W) => c9 W (Below.next hal h)
      have hbal := Below.next hbx hal
      have R2 := R1.next hal
      generalize wr.alloc (Obj.cells #[.int .i64 fnum, .string (bs fnm), .int .i64 tk, .int .i64 ts, .string (bs tnm), .slice A5 te c5, .bool fo] 47) = W1 at *
      clear c9 e0 e1 e2 e3 e4 e5 e6 hblk p1 p4 R1
      have c9 := c9n
      clear c9n
      obtain ⟨b5, hb5⟩ : ∃ b5, wr.heap.size = b5 := ⟨_, rfl⟩
      rw [hb5] at B5 ⊢
      have r0 := B5.c 0 rfl
      have r1 := B5.c 1 rfl
      have r2 := B5.c 2 rfl
      have r3 := B5.c 3 rfl
      have r4 := B5.c 4 rfl
      have r5 := B5.c 5 rfl
      have rl := B5.lt
      obtain ⟨Y, hY⟩ : ∃ Y, (((X ++ fc) ++ ft) ++ fd) = Y := ⟨_, rfl⟩
      refine wp_region_seqN (by kernel_rfl) (FF [(7, Fact.at_ W1 (.string (bs X))), (9, Fact.at_ W1 (.pointer (some ⟨b5, 0, none⟩))), (42, Fact.at_ W1 (.string (bs X))), (43, Fact.at_ W1 (.pointer (some ⟨b5, 0, none⟩))), (44, Fact.at_ W1 (.int .i64 fnum)), (45, Fact.at_ W1 (.string (bs fc))), (46, Fact.at_ W1 (.string (bs (X ++ fc)))), (47, Fact.at_ W1 (.pointer (some ⟨b5, 1, none⟩))), (48, Fact.at_ W1 (.string (bs fnm))), (49, Fact.at_ W1 (.string (bs ft))), (50, Fact.at_ W1 (.string (bs ((X ++ fc) ++ ft)))), (51, Fact.at_ W1 (.pointer (some ⟨b5, 2, none⟩))), (52, Fact.at_ W1 (.agg #[.int .i64 tk, .int .i64 ts, .string (bs tnm), .slice A5 te c5])), (53, Fact.at_ W1 (.string (bs fd))), (54, Fact.at_ W1 (.string (bs (((X ++ fc) ++ ft) ++ fd))))]) [7, 9] [] 102 13 [42, 43, 44, 45, 46, 47, 48, 49, 50, 51, 52, 53, 54] rfl (by kernel_rfl) (by kernel_rfl) (by decide) (by kernel_rfl) (by kernel_rfl) ?_ ?_ ?_
      · intro t9 ht9
        simp only [List.mem_cons, List.not_mem_nil, or_false] at ht9
        rcases ht9 with rfl | rfl
        · exact ⟨rfl, Below.refl _ _⟩
        · exact ⟨rfl, Below.refl _ _⟩
      · refine fcs ⟨Ob.new_ (atcopy 7 42 (.string (bs X)) (.inl rfl) rfl (by first | exact .inl rfl | exact .inr ⟨_, _, _, rfl, rfl, by kernel_rfl, by decide, rfl⟩) (by kernel_rfl) rfl rfl) (by kernel_rfl), ?_⟩
        refine fcs ⟨Ob.new_ (at1 9 43 (.pointer (some ⟨b5, 0, none⟩)) (.pointer (some ⟨b5, 0, none⟩)) rfl (by first | exact .inl rfl | exact .inr ⟨_, _, _, rfl, rfl, by kernel_rfl, by decide, rfl⟩) (by kernel_rfl) rfl rfl (fun a9 W9 hb9 h9 => by simp [execOp, h9] <;> go_simp)) (by kernel_rfl), ?_⟩
        refine fcs ⟨Ob.new_ (at1 43 44 (.pointer (some ⟨b5, 0, none⟩)) (.int .i64 fnum) rfl (by first | exact .inl rfl | exact .inr ⟨_, _, _, rfl, rfl, by kernel_rfl, by decide, rfl⟩) (by kernel_rfl) rfl rfl (fun a9 W9 hb9 h9 => by have g0 := cell_next hb9 r0; simp [execOp, h9] <;> go_simp)) (by kernel_rfl), ?_⟩
        refine fcs ⟨Ob.new_ (atc1 84 44 45 (.int .i64 fnum) (.string (bs fc)) _ rfl rfl (by first | exact .inl rfl | exact .inr ⟨_, _, _, rfl, rfl, by kernel_rfl, by decide, rfl⟩) (by kernel_rfl) rfl (by kernel_rfl) rfl (fun W9 hb9 => c7 W9)) (by kernel_rfl), ?_⟩
        refine fcs ⟨Ob.new_ (atcat 42 45 46 X fc rfl rfl (by first | exact .inl rfl | exact .inr ⟨_, _, _, rfl, rfl, by kernel_rfl, by decide, rfl⟩) (by kernel_rfl) (by kernel_rfl) rfl rfl rfl (by simp only [List.length_append]; omega)) (by kernel_rfl), ?_⟩
        refine fcs ⟨Ob.new_ (at1 9 47 (.pointer (some ⟨b5, 0, none⟩)) (.pointer (some ⟨b5, 1, none⟩)) rfl (by first | exact .inl rfl | exact .inr ⟨_, _, _, rfl, rfl, by kernel_rfl, by decide, rfl⟩) (by kernel_rfl) rfl rfl (fun a9 W9 hb9 h9 => by simp [execOp, h9] <;> go_simp)) (by kernel_rfl), ?_⟩
        refine fcs ⟨Ob.new_ (at1 47 48 (.pointer (some ⟨b5, 1, none⟩)) (.string (bs fnm)) rfl (by first | exact .inl rfl | exact .inr ⟨_, _, _, rfl, rfl, by kernel_rfl, by decide, rfl⟩) (by kernel_rfl) rfl rfl (fun a9 W9 hb9 h9 => by have g0 := cell_next hb9 r1; simp [execOp, h9] <;> go_simp)) (by kernel_rfl), ?_⟩
        refine fcs ⟨Ob.new_ (atc1 85 48 49 (.string (bs fnm)) (.string (bs ft)) _ rfl rfl (by first | exact .inl rfl | exact .inr ⟨_, _, _, rfl, rfl, by kernel_rfl, by decide, rfl⟩) (by kernel_rfl) rfl (by kernel_rfl) rfl (fun W9 hb9 => c8 W9)) (by kernel_rfl), ?_⟩
        refine fcs ⟨Ob.new_ (atcat 46 49 50 (X ++ fc) ft rfl rfl (by first | exact .inl rfl | exact .inr ⟨_, _, _, rfl, rfl, by kernel_rfl, by decide, rfl⟩) (by kernel_rfl) (by kernel_rfl) rfl rfl rfl (by simp only [List.length_append]; omega)) (by kernel_rfl), ?_⟩
        refine fcs ⟨Ob.new_ (at1 9 51 (.pointer (some ⟨b5, 0, none⟩)) (.pointer (some ⟨b5, 2, none⟩)) rfl (by first | exact .inl rfl | exact .inr ⟨_, _, _, rfl, rfl, by kernel_rfl, by decide, rfl⟩) (by kernel_rfl) rfl rfl (fun a9 W9 hb9 h9 => by simp [execOp, h9] <;> go_simp)) (by kernel_rfl), ?_⟩
        refine fcs ⟨Ob.new_ (at1 51 52 (.pointer (some ⟨b5, 2, none⟩)) (.agg #[.int .i64 tk, .int .i64 ts, .string (bs tnm), .slice A5 te c5]) rfl (by first | exact .inl rfl | exact .inr ⟨_, _, _, rfl, rfl, by kernel_rfl, by decide, rfl⟩) (by kernel_rfl) rfl rfl (fun a9 W9 hb9 h9 => by have g2 := cell_next hb9 r2; have g3 := cell_next hb9 r3; have g4 := cell_next hb9 r4; have g5 := cell_next hb9 r5; simp [execOp, h9] <;> go_simp)) (by kernel_rfl), ?_⟩
        refine fcs ⟨Ob.new_ (atc1 86 52 53 (.agg #[.int .i64 tk, .int .i64 ts, .string (bs tnm), .slice A5 te c5]) (.string (bs fd)) _ rfl rfl (by first | exact .inl rfl | exact .inr ⟨_, _, _, rfl, rfl, by kernel_rfl, by decide, rfl⟩) (by kernel_rfl) rfl (by kernel_rfl) rfl (fun W9 hb9 => c9 W9 hb9)) (by kernel_rfl), ?_⟩
        refine fcs ⟨Ob.new_ (atcat 50 53 54 ((X ++ fc) ++ ft) fd rfl rfl (by first | exact .inl rfl | exact .inr ⟨_, _, _, rfl, rfl, by kernel_rfl, by decide, rfl⟩) (by kernel_rfl) (by kernel_rfl) rfl rfl rfl (by simp only [List.length_append]; omega)) (by kernel_rfl), ?_⟩
        exact fnl
      intro vv wv hvv hbv _ _
      have hv54 : vv 54 = (.string (bs (((X ++ fc) ++ ft) ++ fd))) := (hvv 54 (by decide)).1
      rw [hY] at hv54
      simp only [lay, List.foldl_cons, List.foldl_nil, List.setIfInBounds_toArray, List.set_cons_succ, List.set_cons_zero, hv54, List.drop_succ_cons, List.drop_zero]
      have B6 := B5.next hbv
      have hb6 := Below.next hbal hbv
      have R3 := R2.next hbv
      have r6 := B6.c 6 rfl
      have rl6 := B6.lt
      have k2 : (bs Y).size ≤ 100000 := by show Y.length ≤ 100000; rw [← hY]; simp only [List.length_append]; omega
      have k3 : (bs [1]).size = 1 := rfl
      have k4 : (bs [0]).size = 1 := rfl
      rw [hY] at hres
      clear hvv c7 c8 c9 r0 r1 r2 r3 r4 r5 rl B5 hY hsum hX2 hly R2
      cases fo
      · have k1 : bs Y ++ bs [0] = bs Z := by rw [bs_append, ← hres]; rfl
        go_wp2_with fail
        refine (hn0 _).mono ?_
        rintro e w7 ⟨rfl, hb7⟩
        go_wp2_with fail
        go_roundw
        case rel => exact ⟨j + 1, by omega, by go_num, by rw [hZ], R3.next hb7, Below.next hb6 hb7⟩
        case measure => simp [intOf]; omega
      · have k1 : bs Y ++ bs [1] = bs Z := by rw [bs_append, ← hres]; rfl
        go_wp2_with fail
        refine (hn1 _).mono ?_
        rintro e w7 ⟨rfl, hb7⟩
        go_wp2_with fail
        go_roundw
        case rel => exact ⟨j + 1, by omega, by go_num, by rw [hZ], R3.next hb7, Below.next hb6 hb7⟩
        case measure => simp [intOf]; omega
    · obtain rfl : j = q := by omega
      have hE := Lib.hid (show D ++ dfds (e.take j) = D ++ dfds e by rw [← HQ.out, List.take_length])
      go_wp2_with fail
      go_ret
      exact ⟨by rw [hE.out]; rfl, Below.next hb2' hbx⟩
set_option maxRecDepth 100000 in
set_option maxHeartbeats 8000000 in
theorem refDescribeE_any (S : Sch) (hO : Okk S) (hP : Parts S) (x : List UInt8) (e : List (List UInt8)) (l : List Int) (hc : fst_ St.name S.structs x = none) (hce : fst_ En.name S.enums x = some ⟨x, e, l⟩) (hL : (den ⟨x, e, l⟩).length ≤ 100000) (v : Value) (w : World) (hv : ScV w S v) :
    Calls Tryz.prog 59 #[v, .string (bs x)] w (Ib (.string (bs (den ⟨x, e, l⟩))) w) := by
  have hv0 := hv
  obtain ⟨A, c, A2, c2, rfl, hS⟩ := hv
  clear hS
  obtain ⟨n, hn⟩ : ∃ n, S.enums.length = n := ⟨_, rfl⟩
  obtain ⟨m, hm⟩ : ∃ m, S.structs.length = m := ⟨_, rfl⟩
  have HN := Lib.hid hn
  have HM := Lib.hid hm
  have hnn := hO.nn
  rw [hn, hm] at hv0 hnn ⊢
  have hab := ab1 w (Obj.cells #[.int .i64 S.ver, .slice A n c, .slice A2 m c2] 25)
  have hv1 := hv0.next hab
  have B0 := Bx.new3 w 25 (.int .i64 S.ver) (.slice A n c) (.slice A2 m c2)
  have cS := refStruct_any S x _ _ hv1 (by rw [HM.out]; omega)
  have cE := fun W (h : Below (w.alloc (Obj.cells #[.int .i64 S.ver, .slice A n c, .slice A2 m c2] 25)).heap.size (w.alloc (Obj.cells #[.int .i64 S.ver, .slice A n c, .slice A2 m c2] 25)) W) => refEnum_any S x _ W (hv1.next h) (by rw [HN.out]; omega)
  unfold StO at cS
  unfold EnO at cE
  rw [hc] at cS
  rw [hce] at cE
  have htm := (fst_mem hce).1
  obtain ⟨hf0, hf⟩ : l.length = e.length ∧ ∀ k ∈ l, 0 ≤ k ∧ k ≤ 127 := hP.inE htm
  have hdl : den ⟨x, e, l⟩ = uv 7 ++ (txt x ++ (uv e.length ++ dns e l)) := rfl
  rw [hdl] at hL ⊢
  clear hdl
  have hnl : x.length ≤ (txt x).length := by unfold txt; rw [List.length_append]; omega
  have hq9 : e.length ≤ (dns e l).length := dns_ge hf0
  have hfl := dns_len2 hf0 e.length rfl
  obtain ⟨q, hq⟩ : ∃ q, e.length = q := ⟨_, rfl⟩
  have HQ := Lib.hid hq
  have hq2 := hf0.trans hq
  have HQ2 := Lib.hid hq2
  rw [hq] at hL hq9 hfl ⊢
  simp only [List.length_append] at hL
  have c6 := fun W => refCount_any 7 W (by omega) (by omega)
  rw [show cnt 7 = uv 7 from cnt_nat 7 (by decide)] at c6
  have ct := fun W => refText_any x W (by omega)
  have c4' := fun W => refCount_any (q : Int) W (by omega) (by omega)
  rw [cnt_nat q (by omega)] at c4'
  generalize uv 7 = u6 at *
  generalize txt x = tn at *
  generalize uv q = cl at *
  obtain ⟨D, hD⟩ : ∃ D, ((u6 ++ tn) ++ cl) = D := ⟨_, rfl⟩
  have hDl : D.length + (dns e l).length ≤ 100000 := by rw [← hD]; simp only [List.length_append]; omega
  have hfin : u6 ++ (tn ++ (cl ++ dns e l)) = D ++ dns e l := by rw [← hD]; simp only [List.append_assoc]
  rw [hfin]
  have HFL := Lib.hid hfl
  clear hfin hnl hc hce htm hn hm hv1 hfl hf0 hq hq2
  go_enter Tryz.func59, Tryz.ntmps59
  go_wp2_with fail
  refine cS.mono ?_
  rintro e8 w2 ⟨u, rfl, ⟨A3, c3, rfl, -⟩, hb2⟩
  have B2 := B0.next hb2
  have s0 := B2.c 0 rfl
  have s1 := B2.c 1 rfl
  have s2 := B2.c 2 rfl
  have l1 := B2.lt
  have hbw := Below.next hab hb2
  have hal2 := ab1 w2 (Obj.cells #[.string (bs st0.name), .slice A3 st0.fields.length c3] 32)
  clear cS B0
  go_wp2_with fail
  refine (cE _ (Below.next hb2 hal2)).mono ?_
  rintro e8 w3 ⟨u, rfl, ⟨A5, c5, A4, c4, hue0, hR, hR2⟩, hb3⟩
  have hR : Rw TyN 1 w3 e A5 := hR
  have hR2 : Rw TyI 1 w3 l A4 := hR2
  have hue : u = .agg #[.string (bs x), .slice A5 e.length c5, .slice A4 l.length c4] := hue0
  clear hue0
  rw [HQ.out, HQ2.out] at hue
  subst hue
  have hbw3 := Below.next (Below.next hbw hal2) hb3
  have hal3 := ab1 w3 (Obj.cells #[.string (bs x), .slice A5 q c5, .slice A4 q c4] 38)
  have G1 := Bx.new3 w3 38 (.string (bs x)) (.slice A5 q c5) (.slice A4 q c4)
  clear cE s0 s1 s2 l1 B2
  go_upto_region 14 with (fail)
  have hbw1 := Below.next hbw3 hal3
  generalize w3.alloc (Obj.cells #[.string (bs x), .slice A5 q c5, .slice A4 q c4] 38) = W1 at *
  obtain ⟨g1, hg1⟩ : ∃ g1, w3.heap.size = g1 := ⟨_, rfl⟩
  rw [hg1] at G1 ⊢
  have p1 := G1.c 1 rfl
  have p4 := G1.lt
  have cTx := ct
  have c4n := c4'
  refine wp_region_on (by kernel_rfl) (FF [(1, Fact.at_ W1 (.string (bs x))), (10, Fact.at_ W1 (.pointer (some ⟨g1, 0, none⟩))), (70, Fact.at_ W1 (.string (bs u6))), (71, Fact.at_ W1 (.string (bs x))), (72, Fact.at_ W1 (.string (bs tn))), (73, Fact.at_ W1 (.string (bs (u6 ++ tn)))), (74, Fact.at_ W1 (.pointer (some ⟨g1, 1, none⟩))), (75, Fact.at_ W1 (.slice A5 q c5)), (76, Fact.at_ W1 (.int .i64 (q : Int))), (77, Fact.at_ W1 (.string (bs cl))), (78, Fact.at_ W1 (.string (bs ((u6 ++ tn) ++ cl)))), (12, Fact.at_ W1 (.string (bs ((u6 ++ tn) ++ cl))))]) [1, 10] 102 [70, 71, 72, 73, 74, 75, 76, 77, 78, 12] rfl (by kernel_rfl) (by kernel_rfl) ?_ ?_ ?_
  · intro t9 ht9
    simp only [List.mem_cons, List.not_mem_nil, or_false] at ht9
    rcases ht9 with rfl | rfl
    · exact ⟨rfl, Below.refl _ _⟩
    · exact ⟨rfl, Below.refl _ _⟩
  · refine fcs ⟨at_enter (W0 := W1) (by first | exact .inl rfl | exact .inr ⟨_, _, _, rfl, rfl, by kernel_rfl, by decide, rfl⟩) (fun a9 W9 hf9 => by have hb9 := (hf9 1 (by kernel_rfl)).2; exact ⟨84, #[.int .i64 7], by simpa [execOp, resolve, Act.eval] using run_invoke (by kernel_rfl) _ W9, (c6 W9).mono fun e w' ⟨e1, e2⟩ => ⟨_, e1, e2, fun s hs => by injection hs with hs; subst hs; exact ⟨rfl, upG hb9 e2⟩⟩⟩), ?_⟩
    refine fcs ⟨atcopy 1 71 (.string (bs x)) (.inl rfl) rfl (by first | exact .inl rfl | exact .inr ⟨_, _, _, rfl, rfl, by kernel_rfl, by decide, rfl⟩) (by kernel_rfl) rfl rfl, ?_⟩
    refine fcs ⟨atc1 85 71 72 (.string (bs x)) (.string (bs tn)) _ rfl rfl (by first | exact .inl rfl | exact .inr ⟨_, _, _, rfl, rfl, by kernel_rfl, by decide, rfl⟩) (by kernel_rfl) rfl (by kernel_rfl) rfl (fun W9 hb9 => cTx W9), ?_⟩
    refine fcs ⟨atcat 70 72 73 u6 tn rfl rfl (by first | exact .inl rfl | exact .inr ⟨_, _, _, rfl, rfl, by kernel_rfl, by decide, rfl⟩) (by kernel_rfl) (by kernel_rfl) rfl rfl rfl (by simp only [List.length_append]; omega), ?_⟩
    refine fcs ⟨at1 10 74 (.pointer (some ⟨g1, 0, none⟩)) (.pointer (some ⟨g1, 1, none⟩)) rfl (by first | exact .inl rfl | exact .inr ⟨_, _, _, rfl, rfl, by kernel_rfl, by decide, rfl⟩) (by kernel_rfl) rfl rfl (fun a9 W9 hb9 h9 => by simp [execOp, h9] <;> go_simp), ?_⟩
    refine fcs ⟨at1 74 75 (.pointer (some ⟨g1, 1, none⟩)) (.slice A5 q c5) rfl (by first | exact .inl rfl | exact .inr ⟨_, _, _, rfl, rfl, by kernel_rfl, by decide, rfl⟩) (by kernel_rfl) rfl rfl (fun a9 W9 hb9 h9 => by have g0 := cell_next hb9 p1; simp [execOp, h9] <;> go_simp), ?_⟩
    refine fcs ⟨at1 75 76 (.slice A5 q c5) (.int .i64 (q : Int)) rfl (by first | exact .inl rfl | exact .inr ⟨_, _, _, rfl, rfl, by kernel_rfl, by decide, rfl⟩) (by kernel_rfl) rfl rfl (fun a9 W9 hb9 h9 => by exact len_op 75 Tryz.underlying35 rfl h9), ?_⟩
    refine fcs ⟨atc1 84 76 77 (.int .i64 (q : Int)) (.string (bs cl)) _ rfl rfl (by first | exact .inl rfl | exact .inr ⟨_, _, _, rfl, rfl, by kernel_rfl, by decide, rfl⟩) (by kernel_rfl) rfl (by kernel_rfl) rfl (fun W9 hb9 => c4n W9), ?_⟩
    refine fcs ⟨atcat 73 77 78 (u6 ++ tn) cl rfl rfl (by first | exact .inl rfl | exact .inr ⟨_, _, _, rfl, rfl, by kernel_rfl, by decide, rfl⟩) (by kernel_rfl) (by kernel_rfl) rfl rfl rfl (by simp only [List.length_append]; omega), ?_⟩
    refine fcs ⟨atcopy 78 12 (.string (bs ((u6 ++ tn) ++ cl))) (.inr rfl) rfl (by first | exact .inl rfl | exact .inr ⟨_, _, _, rfl, rfl, by kernel_rfl, by decide, rfl⟩) (by kernel_rfl) rfl rfl, ?_⟩
    exact fnl
  intro vv wv hvv hbv
  have hv12 : vv 12 = (.string (bs ((u6 ++ tn) ++ cl))) := (hvv 12 (by decide)).1
  rw [hD] at hv12
  simp only [lay, List.foldl_cons, List.foldl_nil, List.setIfInBounds_toArray, List.set_cons_succ, List.set_cons_zero, hv12]
  have G2 := G1.next hbv
  have hb2' := Below.next hbw1 hbv
  have hRn : Rw TyN 1 wv e A5 := hR.next fun _ _ => TyN.next (Below.next hal3 hbv)
  have hRi : Rw TyI 1 wv l A4 := hR2.next fun _ _ => TyI.next (Below.next hal3 hbv)
  have hq10 : q ≤ 100000 := by omega
  clear hvv cTx ct c4' c4n c6 p1 p4 hD hL G1 hR hR2 hal3 hal2 hbv hbw1 hbw3 hbw hb2 hb3
  go_wp2_with fail
  go_loopw [12, 13] (fun a_ i_ wr => ∃ j : Nat, j ≤ q ∧ i_ = .int .i64 (j : Int) ∧ a_ = .string (bs (D ++ dns (e.take j) (l.take j))) ∧ Bx wr g1 [.string (bs x), .slice A5 q c5, .slice A4 q c4] ∧ Below wv.heap.size wv wr) (fun _ i_ _ => q - (intOf i_).toNat)
  case atStart => exact ⟨0, by omega, rfl, by rw [List.take_zero, List.take_zero, dns_nil, List.append_nil], G2, Below.refl _ _⟩
  case round =>
    clear G2
    obtain ⟨j, hj, rfl, rfl, R1, hbx⟩ := hrel
    have s1 := R1.c 1 rfl
    have s2 := R1.c 2 rfl
    have sl := R1.lt
    by_cases hlt : j < q
    · have hje : j < e.length := by rw [HQ.out]; exact hlt
      have hjl : j < l.length := by rw [HQ2.out]; exact hlt
      obtain ⟨a4, rfl, hA4⟩ := hRn.get hje
      obtain ⟨a5, rfl, hA5⟩ := hRi.get hjl
      rw [Nat.mul_one] at hA4 hA5
      have htm := hf _ (List.getElem_mem hjl)
      have hsn := dns_snoc hje hjl
      have hlx := dns_take_le e l (j + 1)
      have e4 : wr.cell? (a4.add j) = some (.string (bs (e[j]'hje))) := cell_next hbx hA4
      have e5 : wr.cell? (a5.add j) = some (.int .i64 (l[j]'hjl)) := cell_next hbx hA5
      rw [hsn] at hlx
      simp only [List.length_append] at hlx
      generalize e[j]'hje = y at *
      generalize l[j]'hjl = z at *
      have hblk : (a4.add j).block < wr.heap.size := blk_lt e4
      have hblk2 : (a5.add j).block < wr.heap.size := blk_lt e5
      have hyl : y.length ≤ (txt y).length := by unfold txt; rw [List.length_append]; omega
      have c7 := fun W => refCount_any z W htm.1 (by omega)
      have c8 := fun W => refText_any y W (by omega)
      have hsum : (D ++ dns (e.take j) (l.take j)).length + ((txt y).length + (cnt z).length) ≤ 100000 := by rw [List.length_append]; omega
      have hres : ((D ++ dns (e.take j) (l.take j) ++ txt y) ++ cnt z) = D ++ dns (e.take (j + 1)) (l.take (j + 1)) := by rw [hsn]; simp only [List.append_assoc]
      generalize txt y = ft at *
      generalize cnt z = fc at *
      generalize D ++ dns (e.take j) (l.take j) = X at *
      obtain ⟨Z, hZ⟩ : ∃ Z, D ++ dns (e.take (j + 1)) (l.take (j + 1)) = Z := ⟨_, rfl⟩
      rw [hZ] at hres
      clear hA4 hA5 hsn hlx hyl hDl htm
      go_upto_region 18 with (fail)
      refine wp_region_seqN (by kernel_rfl) (FF [(10, Fact.at_ wr (.pointer (some ⟨g1, 0, none⟩))), (12, Fact.at_ wr (.string (bs X))), (13, Fact.at_ wr (.int .i64 (j : Int))), (86, Fact.at_ wr (.string (bs X))), (87, Fact.at_ wr (.pointer (some ⟨g1, 1, none⟩))), (88, Fact.at_ wr (.slice (some a4) q c5)), (89, Fact.at_ wr (.int .i64 (j : Int))), (90, Fact.at_ wr (.pointer (some (a4.add j)))), (91, Fact.at_ wr (.string (bs y))), (92, Fact.at_ wr (.string (bs ft))), (93, Fact.at_ wr (.string (bs (X ++ ft)))), (94, Fact.at_ wr (.pointer (some ⟨g1, 2, none⟩))), (95, Fact.at_ wr (.slice (some a5) q c4)), (96, Fact.at_ wr (.int .i64 (j : Int))), (97, Fact.at_ wr (.pointer (some (a5.add j)))), (98, Fact.at_ wr (.int .i64 z)), (99, Fact.at_ wr (.string (bs fc))), (100, Fact.at_ wr (.string (bs ((X ++ ft) ++ fc))))]) [10, 12, 13] [] 102 15 [86, 87, 88, 89, 90, 91, 92, 93, 94, 95, 96, 97, 98, 99, 100] rfl (by kernel_rfl) (by kernel_rfl) (by decide) (by kernel_rfl) (by kernel_rfl) ?_ ?_ ?_
      · intro t9 ht9
        simp only [List.mem_cons, List.not_mem_nil, or_false] at ht9
        rcases ht9 with rfl | rfl | rfl
        · exact ⟨rfl, Below.refl _ _⟩
        · exact ⟨rfl, Below.refl _ _⟩
        · exact ⟨rfl, Below.refl _ _⟩
      · refine fcs ⟨Ob.new_ (atcopy 12 86 (.string (bs X)) (.inl rfl) rfl (by first | exact .inl rfl | exact .inr ⟨_, _, _, rfl, rfl, by kernel_rfl, by decide, rfl⟩) (by kernel_rfl) rfl rfl) (by kernel_rfl), ?_⟩
        refine fcs ⟨Ob.new_ (at1 10 87 (.pointer (some ⟨g1, 0, none⟩)) (.pointer (some ⟨g1, 1, none⟩)) rfl (by first | exact .inl rfl | exact .inr ⟨_, _, _, rfl, rfl, by kernel_rfl, by decide, rfl⟩) (by kernel_rfl) rfl rfl (fun a9 W9 hb9 h9 => by simp [execOp, h9] <;> go_simp)) (by kernel_rfl), ?_⟩
        refine fcs ⟨Ob.new_ (at1 87 88 (.pointer (some ⟨g1, 1, none⟩)) (.slice (some a4) q c5) rfl (by first | exact .inl rfl | exact .inr ⟨_, _, _, rfl, rfl, by kernel_rfl, by decide, rfl⟩) (by kernel_rfl) rfl rfl (fun a9 W9 hb9 h9 => by have g0 := cell_next hb9 s1; simp [execOp, h9] <;> go_simp)) (by kernel_rfl), ?_⟩
        refine fcs ⟨Ob.new_ (atcopy 13 89 (.int .i64 (j : Int)) (.inl rfl) rfl (by first | exact .inl rfl | exact .inr ⟨_, _, _, rfl, rfl, by kernel_rfl, by decide, rfl⟩) (by kernel_rfl) rfl rfl) (by kernel_rfl), ?_⟩
        refine fcs ⟨Ob.new_ (at2 88 89 90 (.slice (some a4) q c5) (.int .i64 (j : Int)) (.pointer (some (a4.add j))) rfl (by first | exact .inl rfl | exact .inr ⟨_, _, _, rfl, rfl, by kernel_rfl, by decide, rfl⟩) (by kernel_rfl) (by kernel_rfl) rfl rfl rfl (fun a9 W9 hb9 h9 h8 => by simp [execOp, h9, h8] <;> go_simp)) (by kernel_rfl), ?_⟩
        refine fcs ⟨Ob.new_ (at1 90 91 (.pointer (some (a4.add j))) (.string (bs y)) rfl (by first | exact .inl rfl | exact .inr ⟨_, _, _, rfl, rfl, by kernel_rfl, by decide, rfl⟩) (by kernel_rfl) rfl rfl (fun a9 W9 hb9 h9 => by have g0 := cell_next hb9 e4; simp [execOp, h9] <;> go_simp)) (by kernel_rfl), ?_⟩
        refine fcs ⟨Ob.new_ (atc1 85 91 92 (.string (bs y)) (.string (bs ft)) _ rfl rfl (by first | exact .inl rfl | exact .inr ⟨_, _, _, rfl, rfl, by kernel_rfl, by decide, rfl⟩) (by kernel_rfl) rfl (by kernel_rfl) rfl (fun W9 hb9 => c8 W9)) (by kernel_rfl), ?_⟩
        refine fcs ⟨Ob.new_ (atcat 86 92 93 X ft rfl rfl (by first | exact .inl rfl | exact .inr ⟨_, _, _, rfl, rfl, by kernel_rfl, by decide, rfl⟩) (by kernel_rfl) (by kernel_rfl) rfl rfl rfl (by simp only [List.length_append]; omega)) (by kernel_rfl), ?_⟩
        refine fcs ⟨Ob.new_ (at1 10 94 (.pointer (some ⟨g1, 0, none⟩)) (.pointer (some ⟨g1, 2, none⟩)) rfl (by first | exact .inl rfl | exact .inr ⟨_, _, _, rfl, rfl, by kernel_rfl, by decide, rfl⟩) (by kernel_rfl) rfl rfl (fun a9 W9 hb9 h9 => by simp [execOp, h9] <;> go_simp)) (by kernel_rfl), ?_⟩
        refine fcs ⟨Ob.new_ (at1 94 95 (.pointer (some ⟨g1, 2, none⟩)) (.slice (some a5) q c4) rfl (by first | exact .inl rfl | exact .inr ⟨_, _, _, rfl, rfl, by kernel_rfl, by decide, rfl⟩) (by kernel_rfl) rfl rfl (fun a9 W9 hb9 h9 => by have g0 := cell_next hb9 s2; simp [execOp, h9] <;> go_simp)) (by kernel_rfl), ?_⟩
        refine fcs ⟨Ob.new_ (atcopy 13 96 (.int .i64 (j : Int)) (.inl rfl) rfl (by first | exact .inl rfl | exact .inr ⟨_, _, _, rfl, rfl, by kernel_rfl, by decide, rfl⟩) (by kernel_rfl) rfl rfl) (by kernel_rfl), ?_⟩
        refine fcs ⟨Ob.new_ (at2 95 96 97 (.slice (some a5) q c4) (.int .i64 (j : Int)) (.pointer (some (a5.add j))) rfl (by first | exact .inl rfl | exact .inr ⟨_, _, _, rfl, rfl, by kernel_rfl, by decide, rfl⟩) (by kernel_rfl) (by kernel_rfl) rfl rfl rfl (fun a9 W9 hb9 h9 h8 => by simp [execOp, h9, h8] <;> go_simp)) (by kernel_rfl), ?_⟩
        refine fcs ⟨Ob.new_ (at1 97 98 (.pointer (some (a5.add j))) (.int .i64 z) rfl (by first | exact .inl rfl | exact .inr ⟨_, _, _, rfl, rfl, by kernel_rfl, by decide, rfl⟩) (by kernel_rfl) rfl rfl (fun a9 W9 hb9 h9 => by have g0 := cell_next hb9 e5; simp [execOp, h9] <;> go_simp)) (by kernel_rfl), ?_⟩
        refine fcs ⟨Ob.new_ (atc1 84 98 99 (.int .i64 z) (.string (bs fc)) _ rfl rfl (by first | exact .inl rfl | exact .inr ⟨_, _, _, rfl, rfl, by kernel_rfl, by decide, rfl⟩) (by kernel_rfl) rfl (by kernel_rfl) rfl (fun W9 hb9 => c7 W9)) (by kernel_rfl), ?_⟩
        refine fcs ⟨Ob.new_ (atcat 93 99 100 (X ++ ft) fc rfl rfl (by first | exact .inl rfl | exact .inr ⟨_, _, _, rfl, rfl, by kernel_rfl, by decide, rfl⟩) (by kernel_rfl) (by kernel_rfl) rfl rfl rfl (by simp only [List.length_append]; omega)) (by kernel_rfl), ?_⟩
        exact fnl
      intro vv wv hvv hbv _ _
      have hv100 : vv 100 = (.string (bs ((X ++ ft) ++ fc))) := (hvv 100 (by decide)).1
      rw [hres] at hv100
      simp only [lay, List.foldl_cons, List.foldl_nil, List.setIfInBounds_toArray, List.set_cons_succ, List.set_cons_zero, hv100, List.drop_succ_cons, List.drop_zero]
      have R2 := R1.next hbv
      have hb6 := Below.next hbx hbv
      clear hvv c7 c8 e4 e5 hblk hblk2 s1 s2 sl R1 hres hsum
      go_wp2_with fail
      go_roundw
      case rel => exact ⟨j + 1, by omega, by go_num, by rw [hZ], R2, hb6⟩
      case measure => simp [intOf]; omega
    · obtain rfl : j = q := by omega
      have hE := Lib.hid (show D ++ dns (e.take j) (l.take j) = D ++ dns e l by rw [HFL.out])
      go_wp2_with fail
      go_ret
      exact ⟨by rw [hE.out]; rfl, Below.next hb2' hbx⟩
theorem refDescribe_any (S : Sch) (hO : Okk S) (hP : Parts S) (hl : ∀ x, (dd (dfOf S x)).length ≤ 100000) (x : List UInt8) (hxu : x ∈ univ S) (v : Value) (w : World) (hv : ScV w S v) :
    Calls Tryz.prog 59 #[v, .string (bs x)] w (Ib (.string (bs (dd (dfOf S x)))) w) := by
  have hlx := hl x
  unfold dfOf at hlx ⊢
  cases hc : fst_ St.name S.structs x with
  | some t =>
    rw [hc] at hlx
    obtain ⟨y, e⟩ := t
    obtain rfl : y = x := (fst_mem hc).2
    exact refDescribeS_any S hO hP y e hc hlx v w hv
  | none =>
    rw [hc] at hlx
    have hxe : x ∈ ens S := by
      unfold univ at hxu
      rcases List.mem_append.1 hxu with h | h
      · obtain ⟨t, ht, -⟩ := fst_in (l := S.structs) (key := St.name) h
        rw [hc] at ht; cases ht
      · exact h
    obtain ⟨t, ht, -⟩ := fst_in (l := S.enums) (key := En.name) hxe
    rw [ht] at hlx ⊢
    obtain ⟨y, e, l⟩ := t
    obtain rfl : y = x := (fst_mem ht).2
    exact refDescribeE_any S hO hP y e l hc ht hlx v w hv
theorem dds_snoc {S : Sch} {l : List (List UInt8)} {k : Nat} (h : k < l.length) : dds ((l.take (k + 1)).map (dfOf S)) = dds ((l.take k).map (dfOf S)) ++ dd (dfOf S (l[k]'h)) := by
  rw [List.take_succ_eq_append_getElem h, List.map_append, dds_append]
  show _ ++ dds [_] = _
  rw [dds, dds, List.append_nil]
theorem dds_len {S : Sch} (hl : ∀ x, (dd (dfOf S x)).length ≤ 15000) (l : List (List UInt8)) : (dds (l.map (dfOf S))).length ≤ 15000 * l.length := by
  induction l with
  | nil => simp [dds]
  | cons x l ih =>
    rw [List.map_cons, dds, List.length_append, List.length_cons]
    have := hl x
    omega
set_option maxRecDepth 100000 in
set_option maxHeartbeats 8000000 in
theorem refDescribeAll_any (S : Sch) (hO : Okk S) (hP : Parts S) (hl : ∀ x, (dd (dfOf S x)).length ≤ 15000) (x : List UInt8) (hxu : x ∈ univ S) (v : Value) (w : World) (hv : ScV w S v) :
    Calls Tryz.prog 31 #[v, .string (bs x)] w (fun e w' => ∃ l, e = .returned (.string (bs (des S x l))) ∧ Us S x l ∧ Below w.heap.size w w') := by
  have hl' : ∀ x, (dd (dfOf S x)).length ≤ 100000 := fun x => Nat.le_trans (hl x) (by decide)
  have hv0 := hv
  obtain ⟨A, c, A2, c2, rfl, hS⟩ := hv
  clear hS
  obtain ⟨n, hn⟩ : ∃ n, S.enums.length = n := ⟨_, rfl⟩
  obtain ⟨m, hm⟩ : ∃ m, S.structs.length = m := ⟨_, rfl⟩
  have HN := Lib.hid hn
  have HM := Lib.hid hm
  have hnn := hO.nn
  rw [hn, hm] at hv0 hnn ⊢
  have hab := ab1 w (Obj.cells #[.int .i64 S.ver, .slice A n c, .slice A2 m c2] 25)
  have hv1 := hv0.next hab
  have B0 := Bx.new3 w 25 (.int .i64 S.ver) (.slice A n c) (.slice A2 m c2)
  have hxl := hl x
  have c1 := refDescribe_any S hO hP hl' x hxu _ _ hv1
  have cU := fun W (h : Below w.heap.size w W) => refUsed_any S (univ S) (fun x y h => nx_sub hO h) (Nat.le_trans (univ_len hO) (by decide)) hO.rt (fun t ht => Nat.le_trans (hO.fw t ht) (by decide)) (by rw [HM.out]; omega) x _ W (hv0.next h)
  obtain ⟨D, hD⟩ : ∃ D, dd (dfOf S x) = D := ⟨_, rfl⟩
  rw [hD] at c1 hxl
  have HD := Lib.hid hD
  have hcall := fun (y : List UInt8) (hy : y ∈ univ S) W (h : Below w.heap.size w W) => refDescribe_any S hO hP hl' y hy _ W (hv0.next h)
  clear hD hn hm hv1
  go_enter Tryz.func31, Tryz.ntmps31
  go_wp2_with fail
  refine c1.mono ?_
  rintro e w2 ⟨rfl, hb2⟩
  have B2 := B0.next hb2
  have s0 := B2.c 0 rfl
  have s1 := B2.c 1 rfl
  have s2 := B2.c 2 rfl
  have l1 := B2.lt
  have hbw := Below.next hab hb2
  have cU2 := cU w2 hbw
  clear c1 B0 cU
  go_wp2_with fail
  refine cU2.mono ?_
  rintro e w3 ⟨v3, l, rfl, hU, hN, hb3⟩
  have R0 := B2.next hb3
  have hbw3 := Below.next hbw hb3
  obtain ⟨A5, c5, rfl, hR5⟩ := hN
  have hUs : Us S x l := hU
  have hlu : ∀ y ∈ l, y ∈ univ S := fun y hy => reach_univ hO ((hUs.2 y).1 hy)
  have hll : l.length ≤ 36 := Nat.le_trans (nodup_le _ _ (asc_nodup hUs.1) hlu) (univ_len hO)
  have hdl := dds_len hl l
  obtain ⟨q, hq⟩ : ∃ q, l.length = q := ⟨_, rfl⟩
  have HQ := Lib.hid hq
  rw [hq] at hll hdl ⊢
  clear hq cU2 s0 s1 s2 l1 B2 hU
  go_wp2_with fail
  go_loopw [5, 7] (fun a_ i_ wr => ∃ j : Nat, j ≤ q ∧ i_ = .int .i64 (j : Int) ∧ a_ = .string (bs (D ++ dds ((l.take j).map (dfOf S)))) ∧ Bx wr w.heap.size [.int .i64 S.ver, .slice A n c, .slice A2 m c2] ∧ Below w3.heap.size w3 wr) (fun _ i_ _ => q - (intOf i_).toNat)
  case atStart => exact ⟨0, by omega, rfl, by rw [List.take_zero, List.map_nil, dds, List.append_nil], R0, Below.refl _ _⟩
  case round =>
    clear R0
    obtain ⟨j, hj, rfl, rfl, R1, hbx⟩ := hrel
    have s0 := R1.c 0 rfl
    have s1 := R1.c 1 rfl
    have s2 := R1.c 2 rfl
    have l1 := R1.lt
    by_cases hlt : j < q
    · have hje : j < l.length := by rw [HQ.out]; exact hlt
      obtain ⟨a5, rfl, hA5⟩ := hR5.get hje
      rw [Nat.mul_one] at hA5
      have hyl := List.getElem_mem hje
      have hsn := dds_snoc (S := S) hje
      have hlx := dds_len hl (l.take j)
      have e4 : wr.cell? (a5.add j) = some (.string (bs (l[j]'hje))) := cell_next hbx hA5
      have hfdl := hl (l[j]'hje)
      have hyu := hlu _ hyl
      generalize l[j]'hje = y at *
      have hblk : (a5.add j).block < wr.heap.size := blk_lt e4
      have c9 := fun W (h : Below wr.heap.size wr W) => hcall y hyu W (Below.next (Below.next hbw3 hbx) h)
      have htk : (l.take j).length ≤ 36 := by rw [List.length_take]; omega
      have hsum : (D ++ dds ((l.take j).map (dfOf S))).length + (dd (dfOf S y)).length ≤ 1000000 := by rw [List.length_append]; omega
      have hres : (D ++ dds ((l.take j).map (dfOf S))) ++ dd (dfOf S y) = D ++ dds ((l.take (j + 1)).map (dfOf S)) := by rw [hsn]; simp only [List.append_assoc]
      generalize dd (dfOf S y) = fd at *
      generalize D ++ dds ((l.take j).map (dfOf S)) = X at *
      obtain ⟨Z, hZ⟩ : ∃ Z, D ++ dds ((l.take (j + 1)).map (dfOf S)) = Z := ⟨_, rfl⟩
      rw [hZ] at hres
      clear hA5 hsn hlx hyl hyu htk hfdl
      go_upto_region 6 with (fail)
      refine wp_region_seqN (by kernel_rfl) (FF [(2, Fact.at_ wr (.pointer (some ⟨w.heap.size, 0, none⟩))), (5, Fact.at_ wr (.string (bs X))), (6, Fact.at_ wr (.slice (some a5) q c5)), (7, Fact.at_ wr (.int .i64 (j : Int))), (20, Fact.at_ wr (.string (bs X))), (21, Fact.at_ wr (.agg #[.int .i64 S.ver, .slice A n c, .slice A2 m c2])), (22, Fact.at_ wr (.slice (some a5) q c5)), (23, Fact.at_ wr (.int .i64 (j : Int))), (24, Fact.at_ wr (.pointer (some (a5.add j)))), (25, Fact.at_ wr (.string (bs y))), (26, Fact.at_ wr (.string (bs fd))), (27, Fact.at_ wr (.string (bs (X ++ fd))))]) [2, 5, 6, 7] [] 29 8 [20, 21, 22, 23, 24, 25, 26, 27] rfl (by kernel_rfl) (by kernel_rfl) (by decide) (by kernel_rfl) (by kernel_rfl) ?_ ?_ ?_
      · intro t9 ht9
        simp only [List.mem_cons, List.not_mem_nil, or_false] at ht9
        rcases ht9 with rfl | rfl | rfl | rfl
        · exact ⟨rfl, Below.refl _ _⟩
        · exact ⟨rfl, Below.refl _ _⟩
        · exact ⟨rfl, Below.refl _ _⟩
        · exact ⟨rfl, Below.refl _ _⟩
      · refine fcs ⟨Ob.new_ (atcopy 5 20 (.string (bs X)) (.inl rfl) rfl (by first | exact .inl rfl | exact .inr ⟨_, _, _, rfl, rfl, by kernel_rfl, by decide, rfl⟩) (by kernel_rfl) rfl rfl) (by kernel_rfl), ?_⟩
        refine fcs ⟨Ob.new_ (at1 2 21 (.pointer (some ⟨w.heap.size, 0, none⟩)) (.agg #[.int .i64 S.ver, .slice A n c, .slice A2 m c2]) rfl (by first | exact .inl rfl | exact .inr ⟨_, _, _, rfl, rfl, by kernel_rfl, by decide, rfl⟩) (by kernel_rfl) rfl rfl (fun a9 W9 hb9 h9 => by have g0 := cell_next hb9 s0; have g1 := cell_next hb9 s1; have g2 := cell_next hb9 s2; simp [execOp, h9] <;> go_simp)) (by kernel_rfl), ?_⟩
        refine fcs ⟨Ob.new_ (atcopy 6 22 (.slice (some a5) q c5) (.inl rfl) rfl (by first | exact .inl rfl | exact .inr ⟨_, _, _, rfl, rfl, by kernel_rfl, by decide, rfl⟩) (by kernel_rfl) rfl rfl) (by kernel_rfl), ?_⟩
        refine fcs ⟨Ob.new_ (atcopy 7 23 (.int .i64 (j : Int)) (.inl rfl) rfl (by first | exact .inl rfl | exact .inr ⟨_, _, _, rfl, rfl, by kernel_rfl, by decide, rfl⟩) (by kernel_rfl) rfl rfl) (by kernel_rfl), ?_⟩
        refine fcs ⟨Ob.new_ (at2 22 23 24 (.slice (some a5) q c5) (.int .i64 (j : Int)) (.pointer (some (a5.add j))) rfl (by first | exact .inl rfl | exact .inr ⟨_, _, _, rfl, rfl, by kernel_rfl, by decide, rfl⟩) (by kernel_rfl) (by kernel_rfl) rfl rfl rfl (fun a9 W9 hb9 h9 h8 => by simp [execOp, h9, h8] <;> go_simp)) (by kernel_rfl), ?_⟩
        refine fcs ⟨Ob.new_ (at1 24 25 (.pointer (some (a5.add j))) (.string (bs y)) rfl (by first | exact .inl rfl | exact .inr ⟨_, _, _, rfl, rfl, by kernel_rfl, by decide, rfl⟩) (by kernel_rfl) rfl rfl (fun a9 W9 hb9 h9 => by have g0 := cell_next hb9 e4; simp [execOp, h9] <;> go_simp)) (by kernel_rfl), ?_⟩
        refine fcs ⟨Ob.new_ (atc2 59 21 25 26 (.agg #[.int .i64 S.ver, .slice A n c, .slice A2 m c2]) (.string (bs y)) (.string (bs fd)) _ rfl rfl (by first | exact .inl rfl | exact .inr ⟨_, _, _, rfl, rfl, by kernel_rfl, by decide, rfl⟩) (by kernel_rfl) (by kernel_rfl) rfl rfl (by kernel_rfl) rfl (fun W9 hb9 => c9 W9 hb9)) (by kernel_rfl), ?_⟩
        refine fcs ⟨Ob.new_ (atcat 20 26 27 X fd rfl rfl (by first | exact .inl rfl | exact .inr ⟨_, _, _, rfl, rfl, by kernel_rfl, by decide, rfl⟩) (by kernel_rfl) (by kernel_rfl) rfl rfl rfl (by simp only [List.length_append]; omega)) (by kernel_rfl), ?_⟩
        exact fnl
      intro vv wv hvv hbv _ _
      have hv27 : vv 27 = (.string (bs (X ++ fd))) := (hvv 27 (by decide)).1
      rw [hres] at hv27
      simp only [lay, List.foldl_cons, List.foldl_nil, List.setIfInBounds_toArray, List.set_cons_succ, List.set_cons_zero, hv27, List.drop_succ_cons, List.drop_zero]
      have R2 := R1.next hbv
      have hb6 := Below.next hbx hbv
      clear hvv c9 e4 hblk s0 s1 s2 l1 R1 hres hsum
      go_wp2_with fail
      go_roundw
      case rel => exact ⟨j + 1, by omega, by go_num, by rw [hZ], R2, hb6⟩
      case measure => simp [intOf]; omega
    · obtain rfl : j = q := by omega
      have hE := Lib.hid (show D ++ dds ((l.take j).map (dfOf S)) = des S x l by rw [← HQ.out, List.take_length, ← HD.out]; rfl)
      go_wp2_with fail
      go_ret
      exact ⟨l, by rw [hE.out]; rfl, hUs, Below.next hbw3 hbx⟩
end Go.Proofs.YthbhbpcjcnkkkaaGreatDoor
/-
  Digest, the developers' and the reference's. What the library's variables hold is a condition.
-/
namespace Go.Proofs.YthbhbpcjcnkkkaaGreatDoor
open Go.RowKit Go.Maps
open Classical in
/-- The digest that is answered. -/
noncomputable def dig (S : Sch) (x : List UInt8) : Nat := if h : chk S = 0 ∧ (sns S).contains x = true ∧ ∃ l, Us S x l then hash (des S x h.2.2.choose) else 0
theorem dig_at {S : Sch} {x : List UInt8} {l : List (List UInt8)} (h1 : chk S = 0) (h2 : (sns S).contains x = true) (h3 : Us S x l) : dig S x = hash (des S x l) := by
  have h : chk S = 0 ∧ (sns S).contains x = true ∧ ∃ l, Us S x l := ⟨h1, h2, l, h3⟩
  unfold dig
  rw [dif_pos h]
  rw [Us.one h.2.2.choose_spec h3]
theorem dig_no {S : Sch} {x : List UInt8} (h : ¬ (chk S = 0 ∧ (sns S).contains x = true)) : dig S x = 0 := by
  unfold dig
  rw [dif_neg]
  rintro ⟨h1, h2, -⟩
  exact h ⟨h1, h2⟩
theorem fst_en00 {S : Sch} (x : List UInt8) : ((fst_ En.name S.enums x).getD en0) = en0 ∨ ((fst_ En.name S.enums x).getD en0) ∈ S.enums := by
  cases e : fst_ En.name S.enums x with
  | none => exact .inl rfl
  | some t => exact .inr (fst_mem e).1
theorem dd_len {S : Sch} (hP : Parts S) (hB : FewB S) (x : List UInt8) : (dd (dfOf S x)).length ≤ 15000 := by
  have hO := hP.okk hB
  unfold dfOf
  cases hc : fst_ St.name S.structs x with
  | some t =>
    have htm := (fst_mem hc).1
    obtain ⟨q1, q2, q3⟩ := hB.st t htm
    show (dst t).length ≤ 15000
    have h1 := uv_len10 (n := 6) (by decide)
    have h2 := txt_len t.name (by omega)
    have h3 := uv_len10 (n := t.fields.length) (by omega)
    have h4 := dfds_len fun f hf => dfd_len hO (hO.rt t htm f hf) (q3 f hf).2.2.2 (q3 f hf).1
    unfold dst
    simp only [List.length_append]
    omega
  | none =>
    show (den ((fst_ En.name S.enums x).getD en0)).length ≤ 15000
    have hx : ∀ t : En, (t = en0 ∨ t ∈ S.enums) → (den t).length ≤ 15000 := fun t ht => by
      have hb : t.name.length ≤ 40 ∧ t.names.length ≤ 18 ∧ ∀ y ∈ t.names, y.length ≤ 40 := by
        rcases ht with rfl | h
        · exact ⟨by decide, by decide, fun y hy => by cases hy⟩
        · obtain ⟨a, b, -, d⟩ := hB.en t h; exact ⟨a, b, d⟩
      obtain ⟨q1, q2, q3⟩ := hb
      have h1 := uv_len10 (n := 7) (by decide)
      have h2 := txt_len t.name (by omega)
      have h3 := uv_len10 (n := t.names.length) (by omega)
      have h4 := dns_len (m := t.nums) q3
      unfold den
      simp only [List.length_append]
      omega
    exact hx _ (fst_en00 x)
set_option maxRecDepth 100000 in
set_option maxHeartbeats 8000000 in
theorem devDigest_any (S : Sch) (hB : FewB S) (x : List UInt8) (hx : x.length ≤ 9223372036854775807) (v : Value) (w : World) (hv : ScV w S v) (hE : Env w) (hT : Tabs w) :
    Calls Tryz.prog 28 #[v, .string (bs x)] w (Ib (.int .u64 (dig S x : Int)) w) := by
  have hv0 := hv
  obtain ⟨A, c, A2, c2, rfl, hS⟩ := hv
  clear hS
  obtain ⟨n, hn⟩ : ∃ n, S.enums.length = n := ⟨_, rfl⟩
  obtain ⟨m, hm⟩ : ∃ m, S.structs.length = m := ⟨_, rfl⟩
  rw [hn, hm] at hv0 ⊢
  have hab := ab1 w (Obj.cells #[.int .i64 S.ver, .slice A n c, .slice A2 m c2] 25)
  have hv1 := hv0.next hab
  have B0 := Bx.new3 w 25 (.int .i64 S.ver) (.slice A n c) (.slice A2 m c2)
  clear hn hm
  have hE3 := hE.next hab
  by_cases hc : chk S = 0
  · have cF := find_ok S hB x hx _ _ hv1 hE3 hc
    have hV := chk_zero hc
    have hP := hV.pt
    have hO := hP.okk hB
    unfold FiP at cF
    cases hr : (sns S).contains x
    · have hA : dig S x = 0 := dig_no fun h => Bool.noConfusion (hr.symm.trans h.2)
      rw [hr] at cF
      rw [hA]
      clear hr hv1 hO hP hV hA
      go_enter Tryz.func28, Tryz.ntmps28
      go_wp2_with fail
      refine cF.mono ?_
      rintro e w2 ⟨b1, b2, rfl, hD, hb2⟩
      have hb3 := Below.next hab hb2
      go_wp2_with fail
      go_ret
      exact ⟨rfl, Below.next hb3 (ab1 _ _)⟩
    · have hxs : x ∈ sns S := List.contains_iff_mem.1 hr
      have hxu : x ∈ univ S := List.mem_append_left _ hxs
      have hdl := dd_len hP hB
      have hdl2 : ∀ y, (dd (dfOf S y)).length ≤ 100000 := fun y => Nat.le_trans (hdl y) (by decide)
      have hA : ∀ l, Us S x l → dig S x = hash (des S x l) := fun l h => dig_at hc hr h
      obtain ⟨t, ht, htn⟩ := fst_in (l := S.structs) (key := St.name) hxs
      have htm := (fst_mem ht).1
      have hdx : dd (dfOf S x) = dst t := by unfold dfOf; rw [ht]; rfl
      have hxl := hdl x
      rw [hdx] at hxl
      rw [hr] at cF
      have hne : ∀ y ∈ univ S, y.length ≤ 9223372036854775807 := fun y hy => Nat.le_trans (hO.ne y (by unfold univ at hy; exact List.mem_append.1 hy)).2 (by decide)
      clear hr hv1
      go_enter Tryz.func28, Tryz.ntmps28
      go_wp2_with fail
      refine cF.mono ?_
      rintro e w2 ⟨b1, b2, rfl, hD, hb2⟩
      have hb3 := Below.next hab hb2
      have hal := ab1 w2 (Obj.cells #[.map (some b1), .map (some b2)] 66)
      have hb4 := Below.next hb3 hal
      have D1 := Bx.new2 w2 66 (.map (some b1)) (.map (some b2))
      have hD1 := hD.next hal
      obtain ⟨fq, D_, nq, vq, hnq, hMq, hvq, hStq⟩ := hD1.look hO x
      rw [ht] at hStq
      have hStq : StV _ t vq := hStq
      have hlk := hMq.run_look Tryz.underlying63 (zeroSt _) hx hvq
      have cS := describeStruct_any S t vq _ (fun f hf => ⟨hO.rt t htm f hf, (hP.inF htm hf).2⟩) (by omega) hStq
      clear cF hMq hStq
      go_wp2_with fail
      refine cS.mono ?_
      rintro e w4 ⟨rfl, hb5⟩
      have D2 := D1.next hb5
      have hD2 := hD1.next hb5
      have hb6 := Below.next hb4 hb5
      have q0 := D2.c 0 rfl
      have q1 := D2.c 1 rfl
      have q2 := D2.lt
      have cU := used_any S hO b1 b2 x hx w4 hD2
      clear cS hlk D1 hD1
      go_wp2_with fail
      refine cU.mono ?_
      rintro e w5 ⟨v5, l, rfl, hU, hN, hb7⟩
      have D3 := D2.next hb7
      have hD3 := hD2.next hb7
      have hb8 := Below.next hb6 hb7
      obtain ⟨A5, c5, rfl, hR5⟩ := hN
      have hA2 := Lib.hid (hA l hU)
      have hlu : ∀ y ∈ l, y ∈ univ S := fun y hy => reach_univ hO ((hU.2 y).1 hy)
      have hll : l.length ≤ 36 := Nat.le_trans (nodup_le _ _ (asc_nodup hU.1) hlu) (univ_len hO)
      have hdd := dds_len hdl l
      obtain ⟨q, hq⟩ : ∃ q, l.length = q := ⟨_, rfl⟩
      have HQ := Lib.hid hq
      obtain ⟨D, hDD⟩ : ∃ D, dst t = D := ⟨_, rfl⟩
      have HD := Lib.hid (hdx.trans hDD)
      rw [hDD] at hxl ⊢
      rw [hq] at hll hdd ⊢
      clear hq cU q0 q1 q2 D2 hD2 hA hU hdx hDD
      go_wp2_with fail
      go_loopw [7, 27] (fun a_ i_ wr => ∃ j : Nat, j ≤ q ∧ i_ = .int .i64 (j : Int) ∧ a_ = .string (bs (D ++ dds ((l.take j).map (dfOf S)))) ∧ Bx wr w2.heap.size [.map (some b1), .map (some b2)] ∧ Below w5.heap.size w5 wr) (fun _ i_ _ => q - (intOf i_).toNat)
      case atStart => exact ⟨0, by omega, rfl, by rw [List.take_zero, List.map_nil, dds, List.append_nil], D3, Below.refl _ _⟩
      case round =>
        clear D3
        obtain ⟨j, hj, rfl, rfl, R1, hbx⟩ := hrel
        by_cases hlt : j < q
        · have hje : j < l.length := by rw [HQ.out]; exact hlt
          obtain ⟨a5, rfl, hA5⟩ := hR5.get hje
          rw [Nat.mul_one] at hA5
          have hyl := List.getElem_mem hje
          have hsn := dds_snoc (S := S) hje
          have hlx := dds_len hdl (l.take j)
          have e4 : wr.cell? (a5.add j) = some (.string (bs (l[j]'hje))) := cell_next hbx hA5
          have hfdl := hdl (l[j]'hje)
          have hyu := hlu _ hyl
          generalize l[j]'hje = y at *
          have hblk : (a5.add j).block < wr.heap.size := blk_lt e4
          have q0 := R1.c 0 rfl
          have q1 := R1.c 1 rfl
          have q2 := R1.lt
          have c9 := describe_any S hO hP hdl2 b1 b2 y (hne y hyu) hyu wr (hD3.next hbx)
          have htk : (l.take j).length ≤ 36 := by rw [List.length_take]; omega
          have k1 : bs (D ++ dds ((l.take j).map (dfOf S))) ++ bs (dd (dfOf S y)) = bs (D ++ dds ((l.take (j + 1)).map (dfOf S))) := by rw [bs_append, hsn]; simp only [List.append_assoc]
          have k2 : (bs (D ++ dds ((l.take j).map (dfOf S)))).size ≤ 600000 := by show (D ++ dds ((l.take j).map (dfOf S))).length ≤ 600000; rw [List.length_append]; omega
          have k3 : (bs (dd (dfOf S y))).size ≤ 15000 := hfdl
          generalize dd (dfOf S y) = fd at *
          generalize D ++ dds ((l.take j).map (dfOf S)) = X at *
          clear hA5 hsn hlx hyl hyu htk hfdl
          go_wp2_with fail
          refine c9.mono ?_
          rintro e w7 ⟨rfl, hb9⟩
          have R2 := R1.next hb9
          have hb10 := Below.next hbx hb9
          clear c9 e4 hblk q0 q1 q2 R1
          go_wp2_with fail
          go_roundw
          case rel => exact ⟨j + 1, by omega, by go_num, (by first | rfl | exact congrArg Value.string k1 | rw [List.map_take]), R2, hb10⟩
          case measure => simp [intOf]; omega
        · obtain rfl : j = q := by omega
          have hE := Lib.hid (show D ++ dds ((l.take j).map (dfOf S)) = des S x l by rw [← HQ.out, List.take_length, ← HD.out]; rfl)
          have hbF := Below.next hb8 hbx
          have hlx := dds_len hdl (l.take j)
          have htk : (l.take j).length ≤ 36 := by rw [List.length_take]; omega
          have cH := hash_any (D ++ dds ((l.take j).map (dfOf S))) wr (by rw [List.length_append]; omega) (hT.below hbF)
          rw [hE.out] at cH
          have hE2 := hE.out
          rw [hE2]
          go_wp2_with fail
          refine cH.mono ?_
          rintro e w7 ⟨rfl, hb9⟩
          go_wp2_with fail
          go_ret
          exact ⟨by rw [hA2.out]; rfl, Below.next hbF hb9⟩
  · have cF := find_bad S hB x _ _ hv1 hE3 hc
    have hA : dig S x = 0 := dig_no fun h => hc h.1
    rw [hA]
    clear hv1 hA
    go_enter Tryz.func28, Tryz.ntmps28
    go_wp2_with fail
    refine cF.mono ?_
    rintro e w2 ⟨rfl, hb2⟩
    have hb3 := Below.next hab hb2
    go_wp2_with fail
    go_ret
    exact ⟨rfl, Below.next hb3 (ab1 _ _)⟩
set_option maxRecDepth 100000 in
set_option maxHeartbeats 4000000 in
theorem refDigest_any (S : Sch) (hB : FewB S) (x : List UInt8) (v : Value) (w : World) (hv : ScV w S v) :
    Calls Tryz.prog 29 #[v, .string (bs x)] w (Ib (.int .u64 (dig S x : Int)) w) := by
  have hv0 := hv
  obtain ⟨A, c, A2, c2, rfl, hS⟩ := hv
  clear hS
  obtain ⟨n, hn⟩ : ∃ n, S.enums.length = n := ⟨_, rfl⟩
  obtain ⟨m, hm⟩ : ∃ m, S.structs.length = m := ⟨_, rfl⟩
  rw [hn, hm] at hv0 ⊢
  have hab := ab1 w (Obj.cells #[.int .i64 S.ver, .slice A n c, .slice A2 m c2] 25)
  have hv1 := hv0.next hab
  have B0 := Bx.new3 w 25 (.int .i64 S.ver) (.slice A n c) (.slice A2 m c2)
  clear hn hm
  have cK := refKnown_any S hB x _ _ hv1
  cases hk : knw S x
  · have hA : dig S x = 0 := dig_no (knw_false hk)
    rw [hk] at cK
    rw [hA]
    clear hk hv1 hv0 hA
    go_enter Tryz.func29, Tryz.ntmps29
    go_wp2_with fail
    refine cK.mono ?_
    rintro e w2 ⟨rfl, hb2⟩
    go_wp2_with fail
    go_ret
    exact ⟨rfl, Below.next hab hb2⟩
  · obtain ⟨hc, hx⟩ := knw_true hk
    have hV := chk_zero hc
    have hP := hV.pt
    have hO := hP.okk hB
    have hxu : x ∈ univ S := List.mem_append_left _ (List.contains_iff_mem.1 hx)
    rw [hk] at cK
    clear hk
    have cD := fun W (h : Below (w.alloc (Obj.cells #[.int .i64 S.ver, .slice A n c, .slice A2 m c2] 25)).heap.size (w.alloc (Obj.cells #[.int .i64 S.ver, .slice A n c, .slice A2 m c2] 25)) W) => refDescribeAll_any S hO hP (dd_len hP hB) x hxu _ W (hv1.next h)
    have hdl := dd_len hP hB
    go_enter Tryz.func29, Tryz.ntmps29
    go_wp2_with fail
    refine cK.mono ?_
    rintro e w2 ⟨rfl, hb2⟩
    have B2 := B0.next hb2
    have s0 := B2.c 0 rfl
    have s1 := B2.c 1 rfl
    have s2 := B2.c 2 rfl
    have l1 := B2.lt
    have hb3 := Below.next hab hb2
    have cD2 := cD w2 hb2
    clear cK cD B0
    go_wp2_with fail
    refine cD2.mono ?_
    rintro e w3 ⟨l, rfl, hU, hb4⟩
    have hlu : ∀ y ∈ l, y ∈ univ S := fun y hy => reach_univ hO ((hU.2 y).1 hy)
    have hll : l.length ≤ 36 := Nat.le_trans (nodup_le _ _ (asc_nodup hU.1) hlu) (univ_len hO)
    have hdd := dds_len hdl l
    have hdx := hdl x
    have hA := Lib.hid (dig_at hc hx hU)
    have cH := refHash_any (des S x l) w3 (by unfold des; rw [dds, List.length_append]; omega)
    clear cD2 s0 s1 s2 l1
    go_wp2_with fail
    refine cH.mono ?_
    rintro e w4 ⟨rfl, rfl⟩
    go_wp2_with fail
    go_ret
    exact ⟨by rw [hA.out]; rfl, Below.next hb3 hb4⟩
end Go.Proofs.YthbhbpcjcnkkkaaGreatDoor

/-
  The law of what structs use. Go's own bounds of lengths, and what the library's variables hold, are its conditions.
-/
import Derived.Test.YthbhbpcjcnkkkaaGreatDoorM22
import Derived.Test.YthbhbpcjcnkkkaaGreatDoorM23
import Derived.Test.YthbhbpcjcnkkkaaGreatDoorM17
namespace Go.Proofs.YthbhbpcjcnkkkaaGreatDoor
open Go.RowKit Go.Shelf
theorem gtr_op {o : Oper} (t : Nat) {ty ty2 : TypeId} (ho : o.op = .binOp .gtr ty (.tmp t) (.const (.int .i64 0)) ty2) {a : Act} {w : World} {z : Nat} (h1 : a.eval (.tmp t) = .int .i64 (z : Int)) :
    (execOp a.eval o).run Tryz.prog w = .ok (.value (.bool (decide ((0 : Int) < (z : Int))))) w := by
  simp [execOp, ho, h1] <;> go_simp
set_option maxRecDepth 100000 in
set_option maxHeartbeats 16000000 in
theorem schemaCloses_any (S : Sch) (v : Value) (w : World) (hlk : lokS S) (hv : ScV w S v) (hE : Env w) :
    Calls Tryz.prog 6 #[v] w (Ib (.bool true) w) := by
  have hv0 := hv
  obtain ⟨A, c, A2, c2, rfl, hS⟩ := hv
  obtain ⟨n, hn⟩ : ∃ n, S.enums.length = n := ⟨_, rfl⟩
  obtain ⟨m, hm⟩ : ∃ m, S.structs.length = m := ⟨_, rfl⟩
  have HN := Lib.hid hn
  have HM := Lib.hid hm
  rw [hn, hm] at hv0 ⊢
  have hab := ab1 w (Obj.cells #[.int .i64 S.ver, .slice A n c, .slice A2 m c2] 25)
  have hv1 := hv0.next hab
  have B1 := Bx.new3 w 25 (.int .i64 S.ver) (.slice A n c) (.slice A2 m c2)
  have cF := few_any S _ _ hlk hv1
  obtain ⟨f, hf⟩ : ∃ f, few S = f := ⟨_, rfl⟩
  rw [hf] at cF
  have hE1 := hE.next hab
  have hSs := hS.st
  have hn18 := HN.out
  have hm18 := HM.out
  clear hS hn hm
  go_enter Tryz.func6, Tryz.ntmps6
  go_wp2_with fail
  refine cF.mono ?_
  rintro e w2 ⟨rfl, hb2⟩
  have hbw := Below.next hab hb2
  have hE2 := hE1.next hb2
  cases f
  · go_wp2_with fail
    refine (awake_any _ hE2).mono ?_
    rintro e w3 ⟨rfl, hb3⟩
    go_wp2_with fail
    go_ret
    exact ⟨rfl, Below.next hbw hb3⟩
  have hB := few_B hf
  have B2 := B1.next hb2
  have s0 := B2.c 0 rfl
  have s1 := B2.c 1 rfl
  have s2 := B2.c 2 rfl
  have l1 := B2.lt
  have hfT := few_T hf
  have hN := hB.ne
  have hM := hB.ns
  have cC := check_any S hB _ w2 (hv1.next hb2) hE2
  obtain ⟨kc, hkc⟩ : ∃ kc, chk S = kc := ⟨_, rfl⟩
  rw [hkc] at cC
  clear cF hE1
  go_wp2_with fail
  refine cC.mono ?_
  rintro e w3 ⟨rfl, hb3⟩
  have hbw3 := Below.next hbw hb3
  have hE3 := hE2.next hb3
  have R0 := B2.next hb3
  clear cC s0 s1 s2 l1 B2 hE2
  by_cases h0 : kc = 0
  case neg =>
    have d1 : ((kc : Int) != 0) = true := by simp; omega
    have d2 : ((kc : Int) == 0) = false := by simp; omega
    go_wp2_with fail
    refine (awake_any _ hE3).mono ?_
    rintro e w4 ⟨rfl, hb4⟩
    go_wp2_with fail
    go_ret
    exact ⟨rfl, Below.next hbw3 hb4⟩
  have hcz : chk S = 0 := hkc.trans h0
  have d1 : ((kc : Int) != 0) = false := by simp; omega
  have d2 : ((kc : Int) == 0) = true := by simp; omega
  clear hE3 hkc
  go_wp2_with fail
  go_loopw [3] (fun i_ wr => ∃ k : Nat, k ≤ m ∧ i_ = .int .i64 (k : Int) ∧ Bx wr w.heap.size [.int .i64 S.ver, .slice A n c, .slice A2 m c2] ∧ Below w.heap.size w wr) (fun i_ _ => m - (intOf i_).toNat)
  case atStart => exact ⟨0, by omega, rfl, R0, hbw3⟩
  case round =>
    clear R0 hbw3 d1 d2 h0
    obtain ⟨k, hk, rfl, R1, hb⟩ := hrel
    have s0 := R1.c 0 rfl
    have s1 := R1.c 1 rfl
    have s2 := R1.c 2 rfl
    have l1 := R1.lt
    by_cases hlt : k < m
    · have hkm : k < S.structs.length := by rw [HM.out]; exact hlt
      obtain ⟨a2, rfl, hA⟩ := hSs.get hkm
      have x0 := cell_next hb hA.1
      have hblk : (a2.add (k * 2)).block < wr.heap.size := blk_lt x0
      have hx := (hB.st _ (List.getElem_mem hkm)).1
      have hxs : (S.structs[k]'hkm).name ∈ sns S := List.mem_map.2 ⟨_, List.getElem_mem hkm, rfl⟩
      generalize (S.structs[k]'hkm).name = x at *
      replace hx : x.length ≤ 9223372036854775807 := Nat.le_trans hx (by decide)
      have cU0 := devUses_any S hB x hx _ wr (hv0.next hb) (hE.next hb)
      clear hA
      go_wp2_with fail
      refine cU0.mono ?_
      rintro e w5 ⟨v5, l, rfl, hU, hNn, hb5⟩
      have hls := hU.short hB
      have R5 := R1.next hb5
      have hbw5 := Below.next hb hb5
      obtain ⟨A5, c5, rfl, hR5⟩ := hNn
      have hNl : ∀ W, Below w5.heap.size w5 W → Nms W l (.slice A5 l.length c5) := fun W h => ⟨A5, c5, rfl, hR5.next fun _ _ => TyN.next h⟩
      obtain ⟨q, hq⟩ : ∃ q, l.length = q := ⟨_, rfl⟩
      have HQ := Lib.hid hq
      rw [hq] at hls
      rw [hq]
      clear hq cU0 s0 s1 s2 l1 x0 hblk R1
      have hls2 : l.length ≤ 1000000 := by rw [HQ.out]; exact hls
      clear hls
      have hls := hls2
      clear hls2
      have hq6 : q ≤ 1000000 := by rw [← HQ.out]; exact hls
      go_wp2_with fail
      go_loopw [6] (fun i_ wr => ∃ z : Nat, z ≤ q ∧ i_ = .int .i64 (z : Int) ∧ Bx wr w.heap.size [.int .i64 S.ver, .slice A n c, .slice (some a2) m c2] ∧ Below w5.heap.size w5 wr) (fun i_ _ => q - (intOf i_).toNat)
      case atStart => exact ⟨0, by omega, rfl, R5, Below.refl _ _⟩
      case round =>
        clear R5
        obtain ⟨z, hz, rfl, R1, hb⟩ := hrel
        have s0 := R1.c 0 rfl
        have s1 := R1.c 1 rfl
        have s2 := R1.c 2 rfl
        have l1 := R1.lt
        by_cases hlt : z < q
        · have hzm : z < l.length := by rw [HQ.out]; exact hlt
          obtain ⟨a5, rfl, hA5⟩ := hR5.get hzm
          rw [Nat.mul_one] at hA5
          have hyl := List.getElem_mem hzm
          obtain ⟨y, hy⟩ : ∃ y, l[z]'hzm = y := ⟨_, rfl⟩
          rw [hy] at hA5 hyl
          have e0 : wr.cell? (a5.add z) = some (.string (bs y)) := cell_next hb hA5
          have hblk : (a5.add z).block < wr.heap.size := blk_lt e0
          have hyx : y ≠ x := cl_ne hcz hxs hU hyl
          have hsf := sq_f hyx
          have hxor := cl_xor hcz hB hxs hU hyl
          have hlen := cl_len hcz hB hU hyl
          have hy9 : y.length ≤ 9223372036854775807 := Nat.le_trans hlen (by decide)
          have hless := cl_less hcz hB hxs hU hyl
          have hbW := Below.next hbw5 hb
          have cS := fun W (h : Below wr.heap.size wr W) => devStruct_any S y _ W (hv0.next (Below.next hbW h)) (by omega) hfT
          have cE := fun W (h : Below wr.heap.size wr W) => devEnum_any S y _ W (hv0.next (Below.next hbW h)) (by omega) (fun x hx => by have := hB.en x hx; omega)
          unfold StO at cS
          unfold EnO at cE
          rw [mem_sns] at cS
          rw [mem_ens] at cE
          rw [hxor] at cS
          have cDy := fun W (h : Below wr.heap.size wr W) => devDepth_any S hB y hy9 _ W (hv0.next (Below.next hbW h)) (hE.next (Below.next hbW h))
          have cDx := fun W (h : Below wr.heap.size wr W) => devDepth_any S hB x hx _ W (hv0.next (Below.next hbW h)) (hE.next (Below.next hbW h))
          have cU := fun W (h : Below wr.heap.size wr W) => devUses_any S hB y hy9 _ W (hv0.next (Below.next hbW h)) (hE.next (Below.next hbW h))
          generalize depA S y = dy at *
          generalize depA S x = dx at *
          obtain ⟨bE, hbE⟩ : ∃ bE, (ens S).contains y = bE := ⟨_, rfl⟩
          rw [hbE] at cS cE
          obtain ⟨bS, hbS⟩ : ∃ bS, (!bE) = bS := ⟨_, rfl⟩
          rw [hbS] at cS
          have hse : (bS == bE) = false := by rw [← hbS]; cases bE <;> rfl
          have hse2 : (bS = bE) = False := by rw [← hbS]; cases bE <;> simp
          have dge : decide ((dx : Int) ≤ (dy : Int)) = false := by rw [decide_eq_false_iff_not]; omega
          have dge2 : decide (dx ≤ dy) = false := by rw [decide_eq_false_iff_not]; omega
          clear hxor hbE hbS hA5 hless hlen
          go_upto_region 11 with (fail)
          refine wp_region_boxd (by kernel_rfl) (FF [(1, Fact.at_ wr (.pointer (some ⟨w.heap.size, 0, none⟩))), (5, Fact.at_ wr (.slice (some a5) q c5)), (6, Fact.at_ wr (.int .i64 (z : Int))), (46, Fact.at_ wr (.agg #[.int .i64 S.ver, .slice A n c, .slice (some a2) m c2])), (47, Fact.at_ wr (.slice (some a5) q c5)), (48, Fact.at_ wr (.int .i64 (z : Int))), (49, Fact.at_ wr (.pointer (some (a5.add z)))), (50, Fact.at_ wr (.string (bs y))), (51, FP (T2 A2 bS) wr), (45, FP (T2 A2 bS) wr), (52, FP A2 wr), (53, Fact.at_ wr (.bool bS)), (8, Fact.at_ wr (.bool bS))]) [1, 5, 6] 131 7 10 52 [.string ⟨#[]⟩, .slice none 0 0] (fun _ => True) [46, 47, 48, 49, 50, 51, 45, 52, 53, 8, 7] rfl (by kernel_rfl) (by kernel_rfl) (by kernel_rfl) (by kernel_rfl) (FF_soft (fcs ⟨at_soft wr (.pointer (some ⟨w.heap.size, 0, none⟩)), fcs ⟨at_soft wr (.slice (some a5) q c5), fcs ⟨at_soft wr (.int .i64 (z : Int)), fcs ⟨at_soft wr (.agg #[.int .i64 S.ver, .slice A n c, .slice (some a2) m c2]), fcs ⟨at_soft wr (.slice (some a5) q c5), fcs ⟨at_soft wr (.int .i64 (z : Int)), fcs ⟨at_soft wr (.pointer (some (a5.add z))), fcs ⟨at_soft wr (.string (bs y)), fcs ⟨fp_soft (T2 A2 bS) wr, fcs ⟨fp_soft (T2 A2 bS) wr, fcs ⟨fp_soft A2 wr, fcs ⟨at_soft wr (.bool bS), fcs ⟨at_soft wr (.bool bS), fnl⟩⟩⟩⟩⟩⟩⟩⟩⟩⟩⟩⟩⟩)) ?_ ?_ ?_
          · intro t9 ht9
            simp only [List.mem_cons, List.not_mem_nil, or_false] at ht9
            rcases ht9 with rfl | rfl | rfl
            · exact ⟨rfl, Below.refl _ _⟩
            · exact ⟨rfl, Below.refl _ _⟩
            · exact ⟨rfl, Below.refl _ _⟩
          · refine fcs ⟨.plain (at1 1 46 (.pointer (some ⟨w.heap.size, 0, none⟩)) (.agg #[.int .i64 S.ver, .slice A n c, .slice (some a2) m c2]) rfl (by first | exact .inl rfl | exact .inr ⟨_, _, _, rfl, rfl, by kernel_rfl, by decide, rfl⟩) (by kernel_rfl) rfl rfl (fun a9 W9 hb9 h9 => by have g0 := cell_next hb9 s0; have g1 := cell_next hb9 s1; have g2 := cell_next hb9 s2; simp [execOp, h9] <;> go_simp)) (by decide) (by decide), ?_⟩
            refine fcs ⟨.plain (atcopy 5 47 (.slice (some a5) q c5) (.inl rfl) rfl (by first | exact .inl rfl | exact .inr ⟨_, _, _, rfl, rfl, by kernel_rfl, by decide, rfl⟩) (by kernel_rfl) rfl rfl) (by decide) (by decide), ?_⟩
            refine fcs ⟨.plain (atcopy 6 48 (.int .i64 (z : Int)) (.inl rfl) rfl (by first | exact .inl rfl | exact .inr ⟨_, _, _, rfl, rfl, by kernel_rfl, by decide, rfl⟩) (by kernel_rfl) rfl rfl) (by decide) (by decide), ?_⟩
            refine fcs ⟨.plain (at2 47 48 49 (.slice (some a5) q c5) (.int .i64 (z : Int)) (.pointer (some (a5.add z))) rfl (by first | exact .inl rfl | exact .inr ⟨_, _, _, rfl, rfl, by kernel_rfl, by decide, rfl⟩) (by kernel_rfl) (by kernel_rfl) rfl rfl rfl (fun a9 W9 hb9 h9 h8 => by simp [execOp, h9, h8] <;> go_simp)) (by decide) (by decide), ?_⟩
            refine fcs ⟨.plain (at1 49 50 (.pointer (some (a5.add z))) (.string (bs y)) rfl (by first | exact .inl rfl | exact .inr ⟨_, _, _, rfl, rfl, by kernel_rfl, by decide, rfl⟩) (by kernel_rfl) rfl rfl (fun a9 W9 hb9 h9 => by have g0 := cell_next hb9 e0; simp [execOp, h9] <;> go_simp)) (by decide) (by decide), ?_⟩
            refine fcs ⟨.plain (at_enter (W0 := wr) (by first | exact .inl rfl | exact .inr ⟨_, _, _, rfl, rfl, by kernel_rfl, by decide, rfl⟩) (fun a9 W9 hf9 => by have p46 := hf9 46 (by kernel_rfl); have q46 : a9.tmps.getD 46 undef = (.agg #[.int .i64 S.ver, .slice A n c, .slice (some a2) m c2]) := p46.1; have p50 := hf9 50 (by kernel_rfl); have q50 : a9.tmps.getD 50 undef = (.string (bs y)) := p50.1; have hb9 := p46.2; exact ⟨13, #[(.agg #[.int .i64 S.ver, .slice A n c, .slice (some a2) m c2]), (.string (bs y))], by rw [← q46, ← q50]; simpa [execOp, resolve, Act.eval] using run_invoke (by kernel_rfl) _ W9, (cS W9 p46.2).mono fun e w' ⟨u, e1, e2, e3⟩ => ⟨_, e1, e3, fun s hs => by injection hs with hs; subst hs; exact ⟨⟨_, (by obtain ⟨A8, c8, rfl, -⟩ := e2; exact ⟨_, _, _, _, rfl⟩), rfl⟩, upG hb9 e3⟩⟩⟩)) (by decide) (by decide), ?_⟩
            refine fcs ⟨.plain (ob_copy 51 45 (.inl rfl) rfl (.inl rfl) (by kernel_rfl) rfl) (by decide) (by decide), ?_⟩
            refine fcs ⟨.plain (atP 45 52 (T2 A2 bS) A2 rfl (by first | exact .inl rfl | exact .inr ⟨_, _, _, rfl, rfl, by kernel_rfl, by decide, rfl⟩) (by kernel_rfl) rfl rfl (fun a9 W9 u9 h8 h9 => by obtain ⟨x8, hx8, rfl⟩ := h8; exact ⟨x8, by simp [execOp, h9] <;> go_simp, hx8⟩)) (by decide) (by decide), ?_⟩
            refine fcs ⟨.plain (atP 45 53 (T2 A2 bS) (· = .bool bS) rfl (by first | exact .inl rfl | exact .inr ⟨_, _, _, rfl, rfl, by kernel_rfl, by decide, rfl⟩) (by kernel_rfl) rfl rfl (fun a9 W9 u9 h8 h9 => by obtain ⟨x8, hx8, rfl⟩ := h8; exact ⟨_, by simp [execOp, h9] <;> go_simp, rfl⟩)) (by decide) (by decide), ?_⟩
            refine fcs ⟨.alloc rfl rfl rfl (by decide) (fun a9 w9 => ⟨_, by simp [execOp, ptr0] <;> go_simp, ab1 _ (Obj.cells #[.string ⟨#[]⟩, .slice none 0 0] 32), Bx.new2 _ _ _ _⟩), ?_⟩
            refine fcs ⟨.store rfl rfl rfl (by kernel_rfl) (by kernel_rfl) (fun a9 w9 b9 h9 hx9 hf9 => (by have k1 : a9.eval (.tmp 7) = .pointer (some ⟨b9, 0, none⟩) := h9; obtain ⟨s8, A8, n8, c8, e8⟩ : A2 (a9.tmps.getD 52 undef) := hf9.1; have k2 : a9.eval (.tmp 52) = _ := e8; have g0 := hx9.c 0 rfl; have f0 := hx9.f 0 rfl; have g1 := hx9.c 1 rfl; have f1 := hx9.f 1 rfl; have l9 := hx9.lt; exact ⟨_, by simp [execOp, k1, k2] <;> go_simp, gb_set2 _ _ (.string s8) (.slice A8 n8 c8), ⟨[.string s8, .slice A8 n8 c8], trivial, hx9.put2 (.string s8) (.slice A8 n8 c8)⟩⟩)), ?_⟩
            refine fcs ⟨.plain (atcopy 53 8 (.bool bS) (.inr rfl) rfl (by first | exact .inl rfl | exact .inr ⟨_, _, _, rfl, rfl, by kernel_rfl, by decide, rfl⟩) (by kernel_rfl) rfl rfl) (by decide) (by decide), ?_⟩
            exact fnl
          rintro vv wv hvv ⟨gx, hgx, hgl, hX⟩ hbv
          have hv8 : vv 8 = (.bool bS) := (hvv 8 (by decide)).1
          unfold ptr0 at hgx
          simp only [lay, List.foldl_cons, List.foldl_nil, List.setIfInBounds_toArray, List.set_cons_succ, List.set_cons_zero, hgx, hv8]
          rename World => w12
          have hbW2 := Below.next hbW hbv
          replace hb := Below.next hb hbv
          replace R1 := R1.next hbv
          replace e0 := cell_next hbv e0
          have hblk2 : (a5.add z).block < w12.heap.size := blk_lt e0
          have cEn := fun W (h : Below w12.heap.size w12 W) => cE W (Below.next hbv h)
          have cDyn := fun W (h : Below w12.heap.size w12 W) => cDy W (Below.next hbv h)
          have cDxn := fun W (h : Below w12.heap.size w12 W) => cDx W (Below.next hbv h)
          have cUn := fun W (h : Below w12.heap.size w12 W) => cU W (Below.next hbv h)
          clear hvv hX hgl cS cE cDy cDx cU hbW s0 s1 s2 l1 hblk
          have cE := cEn
          have cDy := cDyn
          have cDx := cDxn
          have cU := cUn
          have hbW := hbW2
          have hblk := hblk2
          clear cEn cDyn cDxn cUn hbW2 hbv hblk2
          have s0 := R1.c 0 rfl
          have s1 := R1.c 1 rfl
          have s2 := R1.c 2 rfl
          have l1 := R1.lt
          go_upto_region 12 with (fail)
          refine wp_region_boxd (by kernel_rfl) (FF [(1, Fact.at_ w12 (.pointer (some ⟨w.heap.size, 0, none⟩))), (5, Fact.at_ w12 (.slice (some a5) q c5)), (6, Fact.at_ w12 (.int .i64 (z : Int))), (55, Fact.at_ w12 (.agg #[.int .i64 S.ver, .slice A n c, .slice (some a2) m c2])), (56, Fact.at_ w12 (.slice (some a5) q c5)), (57, Fact.at_ w12 (.int .i64 (z : Int))), (58, Fact.at_ w12 (.pointer (some (a5.add z)))), (59, Fact.at_ w12 (.string (bs y))), (60, FP (T2 A3 bE) w12), (54, FP (T2 A3 bE) w12), (61, FP A3 w12), (62, Fact.at_ w12 (.bool bE)), (10, Fact.at_ w12 (.bool bE))]) [1, 5, 6] 131 9 10 61 [.string ⟨#[]⟩, .slice none 0 0, .slice none 0 0] (fun _ => True) [55, 56, 57, 58, 59, 60, 54, 61, 62, 10, 9] rfl (by kernel_rfl) (by kernel_rfl) (by kernel_rfl) (by kernel_rfl) (FF_soft (fcs ⟨at_soft w12 (.pointer (some ⟨w.heap.size, 0, none⟩)), fcs ⟨at_soft w12 (.slice (some a5) q c5), fcs ⟨at_soft w12 (.int .i64 (z : Int)), fcs ⟨at_soft w12 (.agg #[.int .i64 S.ver, .slice A n c, .slice (some a2) m c2]), fcs ⟨at_soft w12 (.slice (some a5) q c5), fcs ⟨at_soft w12 (.int .i64 (z : Int)), fcs ⟨at_soft w12 (.pointer (some (a5.add z))), fcs ⟨at_soft w12 (.string (bs y)), fcs ⟨fp_soft (T2 A3 bE) w12, fcs ⟨fp_soft (T2 A3 bE) w12, fcs ⟨fp_soft A3 w12, fcs ⟨at_soft w12 (.bool bE), fcs ⟨at_soft w12 (.bool bE), fnl⟩⟩⟩⟩⟩⟩⟩⟩⟩⟩⟩⟩⟩)) ?_ ?_ ?_
          · intro t9 ht9
            simp only [List.mem_cons, List.not_mem_nil, or_false] at ht9
            rcases ht9 with rfl | rfl | rfl
            · exact ⟨rfl, Below.refl _ _⟩
            · exact ⟨rfl, Below.refl _ _⟩
            · exact ⟨rfl, Below.refl _ _⟩
          · refine fcs ⟨.plain (at1 1 55 (.pointer (some ⟨w.heap.size, 0, none⟩)) (.agg #[.int .i64 S.ver, .slice A n c, .slice (some a2) m c2]) rfl (by first | exact .inl rfl | exact .inr ⟨_, _, _, rfl, rfl, by kernel_rfl, by decide, rfl⟩) (by kernel_rfl) rfl rfl (fun a9 W9 hb9 h9 => by have g0 := cell_next hb9 s0; have g1 := cell_next hb9 s1; have g2 := cell_next hb9 s2; simp [execOp, h9] <;> go_simp)) (by decide) (by decide), ?_⟩
            refine fcs ⟨.plain (atcopy 5 56 (.slice (some a5) q c5) (.inl rfl) rfl (by first | exact .inl rfl | exact .inr ⟨_, _, _, rfl, rfl, by kernel_rfl, by decide, rfl⟩) (by kernel_rfl) rfl rfl) (by decide) (by decide), ?_⟩
            refine fcs ⟨.plain (atcopy 6 57 (.int .i64 (z : Int)) (.inl rfl) rfl (by first | exact .inl rfl | exact .inr ⟨_, _, _, rfl, rfl, by kernel_rfl, by decide, rfl⟩) (by kernel_rfl) rfl rfl) (by decide) (by decide), ?_⟩
            refine fcs ⟨.plain (at2 56 57 58 (.slice (some a5) q c5) (.int .i64 (z : Int)) (.pointer (some (a5.add z))) rfl (by first | exact .inl rfl | exact .inr ⟨_, _, _, rfl, rfl, by kernel_rfl, by decide, rfl⟩) (by kernel_rfl) (by kernel_rfl) rfl rfl rfl (fun a9 W9 hb9 h9 h8 => by simp [execOp, h9, h8] <;> go_simp)) (by decide) (by decide), ?_⟩
            refine fcs ⟨.plain (at1 58 59 (.pointer (some (a5.add z))) (.string (bs y)) rfl (by first | exact .inl rfl | exact .inr ⟨_, _, _, rfl, rfl, by kernel_rfl, by decide, rfl⟩) (by kernel_rfl) rfl rfl (fun a9 W9 hb9 h9 => by have g0 := cell_next hb9 e0; simp [execOp, h9] <;> go_simp)) (by decide) (by decide), ?_⟩
            refine fcs ⟨.plain (at_enter (W0 := w12) (by first | exact .inl rfl | exact .inr ⟨_, _, _, rfl, rfl, by kernel_rfl, by decide, rfl⟩) (fun a9 W9 hf9 => by have p55 := hf9 55 (by kernel_rfl); have q55 : a9.tmps.getD 55 undef = (.agg #[.int .i64 S.ver, .slice A n c, .slice (some a2) m c2]) := p55.1; have p59 := hf9 59 (by kernel_rfl); have q59 : a9.tmps.getD 59 undef = (.string (bs y)) := p59.1; have hb9 := p55.2; exact ⟨15, #[(.agg #[.int .i64 S.ver, .slice A n c, .slice (some a2) m c2]), (.string (bs y))], by rw [← q55, ← q59]; simpa [execOp, resolve, Act.eval] using run_invoke (by kernel_rfl) _ W9, (cE W9 p55.2).mono fun e w' ⟨u, e1, e2, e3⟩ => ⟨_, e1, e3, fun s hs => by injection hs with hs; subst hs; exact ⟨⟨_, (by obtain ⟨A8, c8, B8, d8, rfl, -⟩ := e2; exact ⟨_, _, _, _, _, _, _, rfl⟩), rfl⟩, upG hb9 e3⟩⟩⟩)) (by decide) (by decide), ?_⟩
            refine fcs ⟨.plain (ob_copy 60 54 (.inl rfl) rfl (.inl rfl) (by kernel_rfl) rfl) (by decide) (by decide), ?_⟩
            refine fcs ⟨.plain (atP 54 61 (T2 A3 bE) A3 rfl (by first | exact .inl rfl | exact .inr ⟨_, _, _, rfl, rfl, by kernel_rfl, by decide, rfl⟩) (by kernel_rfl) rfl rfl (fun a9 W9 u9 h8 h9 => by obtain ⟨x8, hx8, rfl⟩ := h8; exact ⟨x8, by simp [execOp, h9] <;> go_simp, hx8⟩)) (by decide) (by decide), ?_⟩
            refine fcs ⟨.plain (atP 54 62 (T2 A3 bE) (· = .bool bE) rfl (by first | exact .inl rfl | exact .inr ⟨_, _, _, rfl, rfl, by kernel_rfl, by decide, rfl⟩) (by kernel_rfl) rfl rfl (fun a9 W9 u9 h8 h9 => by obtain ⟨x8, hx8, rfl⟩ := h8; exact ⟨_, by simp [execOp, h9] <;> go_simp, rfl⟩)) (by decide) (by decide), ?_⟩
            refine fcs ⟨.alloc rfl rfl rfl (by decide) (fun a9 w9 => ⟨_, by simp [execOp, ptr0] <;> go_simp, ab1 _ (Obj.cells #[.string ⟨#[]⟩, .slice none 0 0, .slice none 0 0] 38), Bx.new3 _ _ _ _ _⟩), ?_⟩
            refine fcs ⟨.store rfl rfl rfl (by kernel_rfl) (by kernel_rfl) (fun a9 w9 b9 h9 hx9 hf9 => (by have k1 : a9.eval (.tmp 9) = .pointer (some ⟨b9, 0, none⟩) := h9; obtain ⟨s8, A8, n8, c8, B8, m8, d8, e8⟩ : A3 (a9.tmps.getD 61 undef) := hf9.1; have k2 : a9.eval (.tmp 61) = _ := e8; have g0 := hx9.c 0 rfl; have f0 := hx9.f 0 rfl; have g1 := hx9.c 1 rfl; have f1 := hx9.f 1 rfl; have g2 := hx9.c 2 rfl; have f2 := hx9.f 2 rfl; have l9 := hx9.lt; exact ⟨_, by simp [execOp, k1, k2] <;> go_simp, gb_set3 _ _ (.string s8) (.slice A8 n8 c8) (.slice B8 m8 d8), ⟨[.string s8, .slice A8 n8 c8, .slice B8 m8 d8], trivial, hx9.put3 (.string s8) (.slice A8 n8 c8) (.slice B8 m8 d8)⟩⟩)), ?_⟩
            refine fcs ⟨.plain (atcopy 62 10 (.bool bE) (.inr rfl) rfl (by first | exact .inl rfl | exact .inr ⟨_, _, _, rfl, rfl, by kernel_rfl, by decide, rfl⟩) (by kernel_rfl) rfl rfl) (by decide) (by decide), ?_⟩
            exact fnl
          rintro vv wv hvv ⟨gx, hgx, hgl, hX⟩ hbv
          have hv10 : vv 10 = (.bool bE) := (hvv 10 (by decide)).1
          unfold ptr0 at hgx
          simp only [lay, List.foldl_cons, List.foldl_nil, List.setIfInBounds_toArray, List.set_cons_succ, List.set_cons_zero, hgx, hv10]
          rename World => w13
          have hbW2 := Below.next hbW hbv
          replace hb := Below.next hb hbv
          replace R1 := R1.next hbv
          replace e0 := cell_next hbv e0
          have hblk2 : (a5.add z).block < w13.heap.size := blk_lt e0
          have cDyn := fun W (h : Below w13.heap.size w13 W) => cDy W (Below.next hbv h)
          have cDxn := fun W (h : Below w13.heap.size w13 W) => cDx W (Below.next hbv h)
          have cUn := fun W (h : Below w13.heap.size w13 W) => cU W (Below.next hbv h)
          clear hvv hX hgl cE cDy cDx cU hbW s0 s1 s2 l1 hblk
          have cDy := cDyn
          have cDx := cDxn
          have cU := cUn
          have hbW := hbW2
          have hblk := hblk2
          clear cDyn cDxn cUn hbW2 hbv hblk2
          have s0 := R1.c 0 rfl
          have s1 := R1.c 1 rfl
          have s2 := R1.c 2 rfl
          have l1 := R1.lt
          by_cases hz0 : z = 0
          · have HG : Hid (decide ((0 : Int) < (z : Int)) = false) := Lib.hid (by rw [decide_eq_false_iff_not]; omega)
            clear hz0
            go_upto_region 13 with (fail)
            refine wp_region_on (by kernel_rfl) (FF [(1, Fact.at_ w13 (.pointer (some ⟨w.heap.size, 0, none⟩))), (4, Fact.at_ w13 (.string (bs x))), (5, Fact.at_ w13 (.slice (some a5) q c5)), (6, Fact.at_ w13 (.int .i64 (z : Int))), (8, Fact.at_ w13 (.bool bS)), (10, Fact.at_ w13 (.bool bE)), (63, Fact.at_ w13 (.bool bS)), (64, Fact.at_ w13 (.bool bE)), (65, Fact.at_ w13 (.bool false)), (66, Fact.at_ w13 (.bool false)), (67, Fact.at_ w13 (.int .i64 (z : Int))), (68, Fact.at_ w13 (.bool false)), (69, Fact.at_ w13 (.bool false)), (70, Fact.at_ w13 undef), (71, Fact.at_ w13 undef), (72, Fact.at_ w13 undef), (73, Fact.at_ w13 undef), (74, Fact.at_ w13 undef), (75, Fact.at_ w13 undef), (76, Fact.at_ w13 undef), (77, Fact.at_ w13 undef), (78, Fact.at_ w13 undef), (79, Fact.at_ w13 undef), (80, Fact.at_ w13 (.bool false)), (81, Fact.at_ w13 (.bool false)), (82, Fact.at_ w13 (.bool false)), (83, Fact.at_ w13 (.slice (some a5) q c5)), (84, Fact.at_ w13 (.int .i64 (z : Int))), (85, Fact.at_ w13 (.pointer (some (a5.add z)))), (86, Fact.at_ w13 (.string (bs y))), (87, Fact.at_ w13 (.string (bs x))), (88, Fact.at_ w13 (.bool false)), (89, Fact.at_ w13 (.bool false)), (90, Fact.at_ w13 (.bool false)), (91, Fact.at_ w13 (.agg #[.int .i64 S.ver, .slice A n c, .slice (some a2) m c2])), (92, Fact.at_ w13 (.slice (some a5) q c5)), (93, Fact.at_ w13 (.int .i64 (z : Int))), (94, Fact.at_ w13 (.pointer (some (a5.add z)))), (95, Fact.at_ w13 (.string (bs y))), (96, Fact.at_ w13 (.int .i64 (dy : Int))), (97, Fact.at_ w13 (.agg #[.int .i64 S.ver, .slice A n c, .slice (some a2) m c2])), (98, Fact.at_ w13 (.string (bs x))), (99, Fact.at_ w13 (.int .i64 (dx : Int))), (100, Fact.at_ w13 (.bool false)), (101, Fact.at_ w13 (.bool false))]) [1, 4, 5, 6, 8, 10] 131 [63, 64, 65, 66, 67, 68, 69, 70, 71, 72, 73, 74, 75, 76, 77, 78, 79, 80, 81, 82, 83, 84, 85, 86, 87, 88, 89, 90, 91, 92, 93, 94, 95, 96, 97, 98, 99, 100, 101] rfl (by kernel_rfl) (by kernel_rfl) ?_ ?_ ?_
            · intro t9 ht9
              simp only [List.mem_cons, List.not_mem_nil, or_false] at ht9
              rcases ht9 with rfl | rfl | rfl | rfl | rfl | rfl
              · exact ⟨rfl, Below.refl _ _⟩
              · exact ⟨rfl, Below.refl _ _⟩
              · exact ⟨rfl, Below.refl _ _⟩
              · exact ⟨rfl, Below.refl _ _⟩
              · exact ⟨rfl, Below.refl _ _⟩
              · exact ⟨rfl, Below.refl _ _⟩
            · refine fcs ⟨atcopy 8 63 (.bool bS) (.inl rfl) rfl (by first | exact .inl rfl | exact .inr ⟨_, _, _, rfl, rfl, by kernel_rfl, by decide, rfl⟩) (by kernel_rfl) rfl rfl, ?_⟩
              refine fcs ⟨atcopy 10 64 (.bool bE) (.inl rfl) rfl (by first | exact .inl rfl | exact .inr ⟨_, _, _, rfl, rfl, by kernel_rfl, by decide, rfl⟩) (by kernel_rfl) rfl rfl, ?_⟩
              refine fcs ⟨at2 63 64 65 (.bool bS) (.bool bE) (.bool false) rfl (by first | exact .inl rfl | exact .inr ⟨_, _, _, rfl, rfl, by kernel_rfl, by decide, rfl⟩) (by kernel_rfl) (by kernel_rfl) rfl rfl rfl (fun a9 W9 hb9 h9 h8 => by simp [execOp, h9, h8] <;> go_simp), ?_⟩
              refine fcs ⟨atcopy 65 66 (.bool false) (.inl rfl) rfl (by first | exact .inl rfl | exact .inr ⟨_, _, _, rfl, rfl, by kernel_rfl, by decide, rfl⟩) (by kernel_rfl) rfl rfl, ?_⟩
              refine fcs ⟨atcopy 6 67 (.int .i64 (z : Int)) (.inl rfl) rfl (by first | exact .inl rfl | exact .inr ⟨_, _, _, rfl, rfl, by kernel_rfl, by decide, rfl⟩) (by kernel_rfl) rfl rfl, ?_⟩
              refine fcs ⟨at1 67 68 (.int .i64 (z : Int)) (.bool false) rfl (by first | exact .inl rfl | exact .inr ⟨_, _, _, rfl, rfl, by kernel_rfl, by decide, rfl⟩) (by kernel_rfl) rfl rfl (fun a9 W9 hb9 h9 => by exact (gtr_op 67 rfl h9).trans (by rw [HG.out])), ?_⟩
              refine fcs ⟨atcopy 68 69 (.bool false) (.inl rfl) rfl (by first | exact .inl rfl | exact .inr ⟨_, _, _, rfl, rfl, by kernel_rfl, by decide, rfl⟩) (by kernel_rfl) rfl rfl, ?_⟩
              refine fcs ⟨atskip 1 6 69 70 true (.pointer (some ⟨w.heap.size, 0, none⟩)) rfl rfl (by kernel_rfl) (by decide) (.inl rfl) (by kernel_rfl) rfl rfl rfl, ?_⟩
              refine fcs ⟨atskip 1 6 69 71 true (.pointer (some ⟨w.heap.size, 0, none⟩)) rfl rfl (by kernel_rfl) (by decide) (.inl rfl) (by kernel_rfl) rfl rfl rfl, ?_⟩
              refine fcs ⟨atskip 1 6 69 72 true (.pointer (some ⟨w.heap.size, 0, none⟩)) rfl rfl (by kernel_rfl) (by decide) (.inl rfl) (by kernel_rfl) rfl rfl rfl, ?_⟩
              refine fcs ⟨atskip 1 6 69 73 true (.pointer (some ⟨w.heap.size, 0, none⟩)) rfl rfl (by kernel_rfl) (by decide) (.inl rfl) (by kernel_rfl) rfl rfl rfl, ?_⟩
              refine fcs ⟨atskip 1 6 69 74 true (.pointer (some ⟨w.heap.size, 0, none⟩)) rfl rfl (by kernel_rfl) (by decide) (.inl rfl) (by kernel_rfl) rfl rfl rfl, ?_⟩
              refine fcs ⟨atskip 1 6 69 75 true (.pointer (some ⟨w.heap.size, 0, none⟩)) rfl rfl (by kernel_rfl) (by decide) (.inl rfl) (by kernel_rfl) rfl rfl rfl, ?_⟩
              refine fcs ⟨atskip 1 6 69 76 true (.pointer (some ⟨w.heap.size, 0, none⟩)) rfl rfl (by kernel_rfl) (by decide) (.inl rfl) (by kernel_rfl) rfl rfl rfl, ?_⟩
              refine fcs ⟨atskip 1 6 69 77 true (.pointer (some ⟨w.heap.size, 0, none⟩)) rfl rfl (by kernel_rfl) (by decide) (.inl rfl) (by kernel_rfl) rfl rfl rfl, ?_⟩
              refine fcs ⟨atskip 1 6 69 78 true (.pointer (some ⟨w.heap.size, 0, none⟩)) rfl rfl (by kernel_rfl) (by decide) (.inl rfl) (by kernel_rfl) rfl rfl rfl, ?_⟩
              refine fcs ⟨atskip 1 6 69 79 true (.pointer (some ⟨w.heap.size, 0, none⟩)) rfl rfl (by kernel_rfl) (by decide) (.inl rfl) (by kernel_rfl) rfl rfl rfl, ?_⟩
              refine fcs ⟨atpickk 69 80 false (.bool false) _ _ rfl rfl rfl (by first | exact .inl rfl | exact .inr ⟨_, _, _, rfl, rfl, by kernel_rfl, by decide, rfl⟩) (by kernel_rfl) rfl rfl, ?_⟩
              refine fcs ⟨atpick 66 80 81 false (.bool false) _ _ rfl rfl rfl (by first | exact .inl rfl | exact .inr ⟨_, _, _, rfl, rfl, by kernel_rfl, by decide, rfl⟩) (by kernel_rfl) (by kernel_rfl) rfl rfl rfl, ?_⟩
              refine fcs ⟨atcopy 81 82 (.bool false) (.inl rfl) rfl (by first | exact .inl rfl | exact .inr ⟨_, _, _, rfl, rfl, by kernel_rfl, by decide, rfl⟩) (by kernel_rfl) rfl rfl, ?_⟩
              refine fcs ⟨atcopy 5 83 (.slice (some a5) q c5) (.inl rfl) rfl (by first | exact .inl rfl | exact .inr ⟨_, _, _, rfl, rfl, by kernel_rfl, by decide, rfl⟩) (by kernel_rfl) rfl rfl, ?_⟩
              refine fcs ⟨atcopy 6 84 (.int .i64 (z : Int)) (.inl rfl) rfl (by first | exact .inl rfl | exact .inr ⟨_, _, _, rfl, rfl, by kernel_rfl, by decide, rfl⟩) (by kernel_rfl) rfl rfl, ?_⟩
              refine fcs ⟨at2 83 84 85 (.slice (some a5) q c5) (.int .i64 (z : Int)) (.pointer (some (a5.add z))) rfl (by first | exact .inl rfl | exact .inr ⟨_, _, _, rfl, rfl, by kernel_rfl, by decide, rfl⟩) (by kernel_rfl) (by kernel_rfl) rfl rfl rfl (fun a9 W9 hb9 h9 h8 => by simp [execOp, h9, h8] <;> go_simp), ?_⟩
              refine fcs ⟨at1 85 86 (.pointer (some (a5.add z))) (.string (bs y)) rfl (by first | exact .inl rfl | exact .inr ⟨_, _, _, rfl, rfl, by kernel_rfl, by decide, rfl⟩) (by kernel_rfl) rfl rfl (fun a9 W9 hb9 h9 => by have g0 := cell_next hb9 e0; simp [execOp, h9] <;> go_simp), ?_⟩
              refine fcs ⟨atcopy 4 87 (.string (bs x)) (.inl rfl) rfl (by first | exact .inl rfl | exact .inr ⟨_, _, _, rfl, rfl, by kernel_rfl, by decide, rfl⟩) (by kernel_rfl) rfl rfl, ?_⟩
              refine fcs ⟨at2 86 87 88 (.string (bs y)) (.string (bs x)) (.bool false) rfl (by first | exact .inl rfl | exact .inr ⟨_, _, _, rfl, rfl, by kernel_rfl, by decide, rfl⟩) (by kernel_rfl) (by kernel_rfl) rfl rfl rfl (fun a9 W9 hb9 h9 h8 => by simp [execOp, h9, h8] <;> go_simp), ?_⟩
              refine fcs ⟨atpick 82 88 89 false (.bool false) _ _ rfl rfl rfl (by first | exact .inl rfl | exact .inr ⟨_, _, _, rfl, rfl, by kernel_rfl, by decide, rfl⟩) (by kernel_rfl) (by kernel_rfl) rfl rfl rfl, ?_⟩
              refine fcs ⟨atcopy 89 90 (.bool false) (.inl rfl) rfl (by first | exact .inl rfl | exact .inr ⟨_, _, _, rfl, rfl, by kernel_rfl, by decide, rfl⟩) (by kernel_rfl) rfl rfl, ?_⟩
              refine fcs ⟨at1 1 91 (.pointer (some ⟨w.heap.size, 0, none⟩)) (.agg #[.int .i64 S.ver, .slice A n c, .slice (some a2) m c2]) rfl (by first | exact .inl rfl | exact .inr ⟨_, _, _, rfl, rfl, by kernel_rfl, by decide, rfl⟩) (by kernel_rfl) rfl rfl (fun a9 W9 hb9 h9 => by have g0 := cell_next hb9 s0; have g1 := cell_next hb9 s1; have g2 := cell_next hb9 s2; simp [execOp, h9] <;> go_simp), ?_⟩
              refine fcs ⟨atcopy 5 92 (.slice (some a5) q c5) (.inl rfl) rfl (by first | exact .inl rfl | exact .inr ⟨_, _, _, rfl, rfl, by kernel_rfl, by decide, rfl⟩) (by kernel_rfl) rfl rfl, ?_⟩
              refine fcs ⟨atcopy 6 93 (.int .i64 (z : Int)) (.inl rfl) rfl (by first | exact .inl rfl | exact .inr ⟨_, _, _, rfl, rfl, by kernel_rfl, by decide, rfl⟩) (by kernel_rfl) rfl rfl, ?_⟩
              refine fcs ⟨at2 92 93 94 (.slice (some a5) q c5) (.int .i64 (z : Int)) (.pointer (some (a5.add z))) rfl (by first | exact .inl rfl | exact .inr ⟨_, _, _, rfl, rfl, by kernel_rfl, by decide, rfl⟩) (by kernel_rfl) (by kernel_rfl) rfl rfl rfl (fun a9 W9 hb9 h9 h8 => by simp [execOp, h9, h8] <;> go_simp), ?_⟩
              refine fcs ⟨at1 94 95 (.pointer (some (a5.add z))) (.string (bs y)) rfl (by first | exact .inl rfl | exact .inr ⟨_, _, _, rfl, rfl, by kernel_rfl, by decide, rfl⟩) (by kernel_rfl) rfl rfl (fun a9 W9 hb9 h9 => by have g0 := cell_next hb9 e0; simp [execOp, h9] <;> go_simp), ?_⟩
              refine fcs ⟨atc2 22 91 95 96 (.agg #[.int .i64 S.ver, .slice A n c, .slice (some a2) m c2]) (.string (bs y)) (.int .i64 (dy : Int)) _ rfl rfl (by first | exact .inl rfl | exact .inr ⟨_, _, _, rfl, rfl, by kernel_rfl, by decide, rfl⟩) (by kernel_rfl) (by kernel_rfl) rfl rfl (by kernel_rfl) rfl (fun W9 hb9 => cDy W9 hb9), ?_⟩
              refine fcs ⟨at1 1 97 (.pointer (some ⟨w.heap.size, 0, none⟩)) (.agg #[.int .i64 S.ver, .slice A n c, .slice (some a2) m c2]) rfl (by first | exact .inl rfl | exact .inr ⟨_, _, _, rfl, rfl, by kernel_rfl, by decide, rfl⟩) (by kernel_rfl) rfl rfl (fun a9 W9 hb9 h9 => by have g0 := cell_next hb9 s0; have g1 := cell_next hb9 s1; have g2 := cell_next hb9 s2; simp [execOp, h9] <;> go_simp), ?_⟩
              refine fcs ⟨atcopy 4 98 (.string (bs x)) (.inl rfl) rfl (by first | exact .inl rfl | exact .inr ⟨_, _, _, rfl, rfl, by kernel_rfl, by decide, rfl⟩) (by kernel_rfl) rfl rfl, ?_⟩
              refine fcs ⟨atc2 22 97 98 99 (.agg #[.int .i64 S.ver, .slice A n c, .slice (some a2) m c2]) (.string (bs x)) (.int .i64 (dx : Int)) _ rfl rfl (by first | exact .inl rfl | exact .inr ⟨_, _, _, rfl, rfl, by kernel_rfl, by decide, rfl⟩) (by kernel_rfl) (by kernel_rfl) rfl rfl (by kernel_rfl) rfl (fun W9 hb9 => cDx W9 hb9), ?_⟩
              refine fcs ⟨at2 96 99 100 (.int .i64 (dy : Int)) (.int .i64 (dx : Int)) (.bool false) rfl (by first | exact .inl rfl | exact .inr ⟨_, _, _, rfl, rfl, by kernel_rfl, by decide, rfl⟩) (by kernel_rfl) (by kernel_rfl) rfl rfl rfl (fun a9 W9 hb9 h9 h8 => by simp [execOp, h9, h8] <;> go_simp), ?_⟩
              refine fcs ⟨atpick 90 100 101 false (.bool false) _ _ rfl rfl rfl (by first | exact .inl rfl | exact .inr ⟨_, _, _, rfl, rfl, by kernel_rfl, by decide, rfl⟩) (by kernel_rfl) (by kernel_rfl) rfl rfl rfl, ?_⟩
              exact fnl
            intro vv wv hvv hbv
            have hv101 : vv 101 = (.bool false) := (hvv 101 (by decide)).1
            simp only [lay, List.foldl_cons, List.foldl_nil, List.setIfInBounds_toArray, List.set_cons_succ, List.set_cons_zero, hv101]
            rename World => w15
            have hbW2 := Below.next hbW hbv
            replace hb := Below.next hb hbv
            replace R1 := R1.next hbv
            replace e0 := cell_next hbv e0
            have hblk2 : (a5.add z).block < w15.heap.size := blk_lt e0
            have cUn := fun W (h : Below w15.heap.size w15 W) => cU W (Below.next hbv h)
            clear hvv cDy cDx cU hbW s0 s1 s2 l1 hblk
            have cU := cUn
            have hbW := hbW2
            have hblk := hblk2
            clear cUn hbW2 hbv hblk2
            have s0 := R1.c 0 rfl
            have s1 := R1.c 1 rfl
            have s2 := R1.c 2 rfl
            have l1 := R1.lt
            go_upto_region 15 with (fail)
            refine wp_region_on (by kernel_rfl) (FF [(1, Fact.at_ w15 (.pointer (some ⟨w.heap.size, 0, none⟩))), (5, Fact.at_ w15 (.slice (some a5) q c5)), (6, Fact.at_ w15 (.int .i64 (z : Int))), (102, Fact.at_ w15 (.agg #[.int .i64 S.ver, .slice A n c, .slice (some a2) m c2])), (103, Fact.at_ w15 (.slice (some a5) q c5)), (104, Fact.at_ w15 (.int .i64 (z : Int))), (105, Fact.at_ w15 (.pointer (some (a5.add z)))), (106, Fact.at_ w15 (.string (bs y))), (107, FUa S y w15), (11, FUa S y w15)]) [1, 5, 6] 131 [102, 103, 104, 105, 106, 107, 11] rfl (by kernel_rfl) (by kernel_rfl) ?_ ?_ ?_
            · intro t9 ht9
              simp only [List.mem_cons, List.not_mem_nil, or_false] at ht9
              rcases ht9 with rfl | rfl | rfl
              · exact ⟨rfl, Below.refl _ _⟩
              · exact ⟨rfl, Below.refl _ _⟩
              · exact ⟨rfl, Below.refl _ _⟩
            · refine fcs ⟨at1 1 102 (.pointer (some ⟨w.heap.size, 0, none⟩)) (.agg #[.int .i64 S.ver, .slice A n c, .slice (some a2) m c2]) rfl (by first | exact .inl rfl | exact .inr ⟨_, _, _, rfl, rfl, by kernel_rfl, by decide, rfl⟩) (by kernel_rfl) rfl rfl (fun a9 W9 hb9 h9 => by have g0 := cell_next hb9 s0; have g1 := cell_next hb9 s1; have g2 := cell_next hb9 s2; simp [execOp, h9] <;> go_simp), ?_⟩
              refine fcs ⟨atcopy 5 103 (.slice (some a5) q c5) (.inl rfl) rfl (by first | exact .inl rfl | exact .inr ⟨_, _, _, rfl, rfl, by kernel_rfl, by decide, rfl⟩) (by kernel_rfl) rfl rfl, ?_⟩
              refine fcs ⟨atcopy 6 104 (.int .i64 (z : Int)) (.inl rfl) rfl (by first | exact .inl rfl | exact .inr ⟨_, _, _, rfl, rfl, by kernel_rfl, by decide, rfl⟩) (by kernel_rfl) rfl rfl, ?_⟩
              refine fcs ⟨at2 103 104 105 (.slice (some a5) q c5) (.int .i64 (z : Int)) (.pointer (some (a5.add z))) rfl (by first | exact .inl rfl | exact .inr ⟨_, _, _, rfl, rfl, by kernel_rfl, by decide, rfl⟩) (by kernel_rfl) (by kernel_rfl) rfl rfl rfl (fun a9 W9 hb9 h9 h8 => by simp [execOp, h9, h8] <;> go_simp), ?_⟩
              refine fcs ⟨at1 105 106 (.pointer (some (a5.add z))) (.string (bs y)) rfl (by first | exact .inl rfl | exact .inr ⟨_, _, _, rfl, rfl, by kernel_rfl, by decide, rfl⟩) (by kernel_rfl) rfl rfl (fun a9 W9 hb9 h9 => by have g0 := cell_next hb9 e0; simp [execOp, h9] <;> go_simp), ?_⟩
              refine fcs ⟨at_enter (W0 := w15) (by first | exact .inl rfl | exact .inr ⟨_, _, _, rfl, rfl, by kernel_rfl, by decide, rfl⟩) (fun a9 W9 hf9 => by have p102 := hf9 102 (by kernel_rfl); have q102 : a9.tmps.getD 102 undef = (.agg #[.int .i64 S.ver, .slice A n c, .slice (some a2) m c2]) := p102.1; have p106 := hf9 106 (by kernel_rfl); have q106 : a9.tmps.getD 106 undef = (.string (bs y)) := p106.1; have hb9 := p102.2; exact ⟨25, #[(.agg #[.int .i64 S.ver, .slice A n c, .slice (some a2) m c2]), (.string (bs y))], by rw [← q102, ← q106]; simpa [execOp, resolve, Act.eval] using run_invoke (by kernel_rfl) _ W9, (cU W9 p102.2).mono fun e w' ⟨v, l, e1, e2, e3, e4⟩ => ⟨v, e1, e4, fun s hs => by injection hs with hs; subst hs; exact ⟨l, e2, e3, upG hb9 e4⟩⟩⟩), ?_⟩
              refine fcs ⟨ob_copy 107 11 (.inr rfl) rfl (.inl rfl) (by kernel_rfl) rfl, ?_⟩
              exact fnl
            intro vv wv hvv hbv
            simp only [lay, List.foldl_cons, List.foldl_nil, List.setIfInBounds_toArray, List.set_cons_succ, List.set_cons_zero]
            obtain ⟨l2, hU2, hN2, hb2u⟩ := hvv 11 (by decide)
            have hsub := cl_sub hcz hxs hU hyl hU2
            have hl2 := hU2.short hB
            have hcH := fun W (h : Below wv.heap.size wv W) (u : List UInt8) => lawHas_any l u (.slice (some a5) l.length c5) W hls (hNl W (Below.next (Below.next hb hbv) h))
            obtain ⟨A6, c6, hv11, hR6⟩ := hN2
            obtain ⟨q2, hq2⟩ : ∃ q2, l2.length = q2 := ⟨_, rfl⟩
            have HQ2 := Lib.hid hq2
            rw [hq2] at hv11
            have hb3 := Below.next hb hbv
            have R3 := R1.next hbv
            simp only [hv11]
            clear hvv cU s0 s1 s2 l1 e0 hblk R1 hq2 hU2 hv11
            rw [HQ.out] at hcH
            go_wp2_with fail
            go_loopw [12] (fun i_ wr => ∃ j : Nat, j ≤ q2 ∧ i_ = .int .i64 (j : Int) ∧ Below wv.heap.size wv wr) (fun i_ _ => q2 - (intOf i_).toNat)
            case atStart => exact ⟨0, by omega, rfl, Below.refl _ _⟩
            case round =>
              obtain ⟨j, hj, rfl, hb4⟩ := hrel
              by_cases hjt : j < q2
              · have hjm : j < l2.length := by rw [HQ2.out]; exact hjt
                obtain ⟨a6, rfl, hA6⟩ := hR6.get hjm
                rw [Nat.mul_one] at hA6
                have hin := hsub _ (List.getElem_mem hjm)
                have e6 : wr.cell? (a6.add j) = some (.string (bs (l2[j]'hjm))) := cell_next hb4 hA6
                have hblk6 : (a6.add j).block < wr.heap.size := blk_lt e6
                have cH := hcH wr hb4 (l2[j]'hjm)
                rw [List.contains_iff_mem.2 hin] at cH
                generalize l2[j]'hjm = u at *
                clear hin hA6
                go_wp2_with fail
                refine cH.mono ?_
                rintro e w6 ⟨rfl, rfl⟩
                go_wp2_with fail
                go_roundw
                case rel => exact ⟨j + 1, by omega, by go_num, hb4⟩
                case measure => simp [intOf]; omega
              · obtain rfl : j = q2 := by omega
                have R5 := R3.next hb4
                have hb6 := Below.next hb3 hb4
                clear hR6 hsub hcH
                go_wp2_with fail
                go_roundw
                case rel => exact ⟨z + 1, by omega, by go_num, R5, hb6⟩
                case measure => simp [intOf]; omega
          · obtain ⟨z0, hzz⟩ : ∃ z0, z = z0 + 1 := ⟨z - 1, by omega⟩
            have HG : Hid (decide ((0 : Int) < (z : Int)) = true) := Lib.hid (by rw [decide_eq_true_eq]; omega)
            have hz1 : z0 < q := by omega
            have hz2 : z0 + 1 < l.length := by rw [HQ.out]; omega
            have hasc := cl_asc hcz hxs hU hz2
            obtain ⟨a7, ha7, hA6⟩ := hR5.get (i := z0) (Nat.lt_of_succ_lt hz2)
            obtain rfl : a5 = a7 := by injection ha7
            rw [Nat.mul_one] at hA6
            have hyy : l[z0 + 1]'hz2 = y := by rw [← hy]; congr 1; exact hzz.symm
            rw [hyy] at hasc
            generalize l[z0]'(Nat.lt_of_succ_lt hz2) = y0 at *
            have e1 : w13.cell? (a5.add z0) = some (.string (bs y0)) := cell_next hb hA6
            have hblk1 : (a5.add z0).block < w13.heap.size := blk_lt e1
            have hlt2 : Op.bytesLess (bs y0).toList (bs y).toList = true := by rw [bl_eq]; exact decide_eq_true hasc
            have k1 : (z : Int) - 1 = (z0 : Int) := by omega
            have k3 : IntKind.i64.wrap (z0 : Int) = (z0 : Int) := IntWalk.i64_in _ (by omega)
            clear hA6 hyy hasc hzz hz2 hz0 ha7
            go_upto_region 13 with (fail)
            refine wp_region_on (by kernel_rfl) (FF [(1, Fact.at_ w13 (.pointer (some ⟨w.heap.size, 0, none⟩))), (4, Fact.at_ w13 (.string (bs x))), (5, Fact.at_ w13 (.slice (some a5) q c5)), (6, Fact.at_ w13 (.int .i64 (z : Int))), (8, Fact.at_ w13 (.bool bS)), (10, Fact.at_ w13 (.bool bE)), (63, Fact.at_ w13 (.bool bS)), (64, Fact.at_ w13 (.bool bE)), (65, Fact.at_ w13 (.bool false)), (66, Fact.at_ w13 (.bool false)), (67, Fact.at_ w13 (.int .i64 (z : Int))), (68, Fact.at_ w13 (.bool true)), (69, Fact.at_ w13 (.bool true)), (70, Fact.at_ w13 (.slice (some a5) q c5)), (71, Fact.at_ w13 (.int .i64 (z : Int))), (72, Fact.at_ w13 (.int .i64 (z0 : Int))), (73, Fact.at_ w13 (.pointer (some (a5.add z0)))), (74, Fact.at_ w13 (.string (bs y0))), (75, Fact.at_ w13 (.slice (some a5) q c5)), (76, Fact.at_ w13 (.int .i64 (z : Int))), (77, Fact.at_ w13 (.pointer (some (a5.add z)))), (78, Fact.at_ w13 (.string (bs y))), (79, Fact.at_ w13 (.bool false)), (80, Fact.at_ w13 (.bool false)), (81, Fact.at_ w13 (.bool false)), (82, Fact.at_ w13 (.bool false)), (83, Fact.at_ w13 (.slice (some a5) q c5)), (84, Fact.at_ w13 (.int .i64 (z : Int))), (85, Fact.at_ w13 (.pointer (some (a5.add z)))), (86, Fact.at_ w13 (.string (bs y))), (87, Fact.at_ w13 (.string (bs x))), (88, Fact.at_ w13 (.bool false)), (89, Fact.at_ w13 (.bool false)), (90, Fact.at_ w13 (.bool false)), (91, Fact.at_ w13 (.agg #[.int .i64 S.ver, .slice A n c, .slice (some a2) m c2])), (92, Fact.at_ w13 (.slice (some a5) q c5)), (93, Fact.at_ w13 (.int .i64 (z : Int))), (94, Fact.at_ w13 (.pointer (some (a5.add z)))), (95, Fact.at_ w13 (.string (bs y))), (96, Fact.at_ w13 (.int .i64 (dy : Int))), (97, Fact.at_ w13 (.agg #[.int .i64 S.ver, .slice A n c, .slice (some a2) m c2])), (98, Fact.at_ w13 (.string (bs x))), (99, Fact.at_ w13 (.int .i64 (dx : Int))), (100, Fact.at_ w13 (.bool false)), (101, Fact.at_ w13 (.bool false))]) [1, 4, 5, 6, 8, 10] 131 [63, 64, 65, 66, 67, 68, 69, 70, 71, 72, 73, 74, 75, 76, 77, 78, 79, 80, 81, 82, 83, 84, 85, 86, 87, 88, 89, 90, 91, 92, 93, 94, 95, 96, 97, 98, 99, 100, 101] rfl (by kernel_rfl) (by kernel_rfl) ?_ ?_ ?_
            · intro t9 ht9
              simp only [List.mem_cons, List.not_mem_nil, or_false] at ht9
              rcases ht9 with rfl | rfl | rfl | rfl | rfl | rfl
              · exact ⟨rfl, Below.refl _ _⟩
              · exact ⟨rfl, Below.refl _ _⟩
              · exact ⟨rfl, Below.refl _ _⟩
              · exact ⟨rfl, Below.refl _ _⟩
              · exact ⟨rfl, Below.refl _ _⟩
              · exact ⟨rfl, Below.refl _ _⟩
            · refine fcs ⟨atcopy 8 63 (.bool bS) (.inl rfl) rfl (by first | exact .inl rfl | exact .inr ⟨_, _, _, rfl, rfl, by kernel_rfl, by decide, rfl⟩) (by kernel_rfl) rfl rfl, ?_⟩
              refine fcs ⟨atcopy 10 64 (.bool bE) (.inl rfl) rfl (by first | exact .inl rfl | exact .inr ⟨_, _, _, rfl, rfl, by kernel_rfl, by decide, rfl⟩) (by kernel_rfl) rfl rfl, ?_⟩
              refine fcs ⟨at2 63 64 65 (.bool bS) (.bool bE) (.bool false) rfl (by first | exact .inl rfl | exact .inr ⟨_, _, _, rfl, rfl, by kernel_rfl, by decide, rfl⟩) (by kernel_rfl) (by kernel_rfl) rfl rfl rfl (fun a9 W9 hb9 h9 h8 => by simp [execOp, h9, h8] <;> go_simp), ?_⟩
              refine fcs ⟨atcopy 65 66 (.bool false) (.inl rfl) rfl (by first | exact .inl rfl | exact .inr ⟨_, _, _, rfl, rfl, by kernel_rfl, by decide, rfl⟩) (by kernel_rfl) rfl rfl, ?_⟩
              refine fcs ⟨atcopy 6 67 (.int .i64 (z : Int)) (.inl rfl) rfl (by first | exact .inl rfl | exact .inr ⟨_, _, _, rfl, rfl, by kernel_rfl, by decide, rfl⟩) (by kernel_rfl) rfl rfl, ?_⟩
              refine fcs ⟨at1 67 68 (.int .i64 (z : Int)) (.bool true) rfl (by first | exact .inl rfl | exact .inr ⟨_, _, _, rfl, rfl, by kernel_rfl, by decide, rfl⟩) (by kernel_rfl) rfl rfl (fun a9 W9 hb9 h9 => by exact (gtr_op 67 rfl h9).trans (by rw [HG.out])), ?_⟩
              refine fcs ⟨atcopy 68 69 (.bool true) (.inl rfl) rfl (by first | exact .inl rfl | exact .inr ⟨_, _, _, rfl, rfl, by kernel_rfl, by decide, rfl⟩) (by kernel_rfl) rfl rfl, ?_⟩
              refine fcs ⟨atcopy 5 70 (.slice (some a5) q c5) (.inl rfl) rfl (by first | exact .inl rfl | exact .inr ⟨_, _, _, rfl, rfl, by kernel_rfl, by decide, rfl⟩) (by kernel_rfl) rfl rfl, ?_⟩
              refine fcs ⟨atcopy 6 71 (.int .i64 (z : Int)) (.inl rfl) rfl (by first | exact .inl rfl | exact .inr ⟨_, _, _, rfl, rfl, by kernel_rfl, by decide, rfl⟩) (by kernel_rfl) rfl rfl, ?_⟩
              refine fcs ⟨at1 71 72 (.int .i64 (z : Int)) (.int .i64 (z0 : Int)) rfl (by first | exact .inl rfl | exact .inr ⟨_, _, _, rfl, rfl, by kernel_rfl, by decide, rfl⟩) (by kernel_rfl) rfl rfl (fun a9 W9 hb9 h9 => by simp [execOp, h9] <;> go_simp), ?_⟩
              refine fcs ⟨at2 70 72 73 (.slice (some a5) q c5) (.int .i64 (z0 : Int)) (.pointer (some (a5.add z0))) rfl (by first | exact .inl rfl | exact .inr ⟨_, _, _, rfl, rfl, by kernel_rfl, by decide, rfl⟩) (by kernel_rfl) (by kernel_rfl) rfl rfl rfl (fun a9 W9 hb9 h9 h8 => by simp [execOp, h9, h8] <;> go_simp), ?_⟩
              refine fcs ⟨at1 73 74 (.pointer (some (a5.add z0))) (.string (bs y0)) rfl (by first | exact .inl rfl | exact .inr ⟨_, _, _, rfl, rfl, by kernel_rfl, by decide, rfl⟩) (by kernel_rfl) rfl rfl (fun a9 W9 hb9 h9 => by have g0 := cell_next hb9 e1; simp [execOp, h9] <;> go_simp), ?_⟩
              refine fcs ⟨atcopy 5 75 (.slice (some a5) q c5) (.inl rfl) rfl (by first | exact .inl rfl | exact .inr ⟨_, _, _, rfl, rfl, by kernel_rfl, by decide, rfl⟩) (by kernel_rfl) rfl rfl, ?_⟩
              refine fcs ⟨atcopy 6 76 (.int .i64 (z : Int)) (.inl rfl) rfl (by first | exact .inl rfl | exact .inr ⟨_, _, _, rfl, rfl, by kernel_rfl, by decide, rfl⟩) (by kernel_rfl) rfl rfl, ?_⟩
              refine fcs ⟨at2 75 76 77 (.slice (some a5) q c5) (.int .i64 (z : Int)) (.pointer (some (a5.add z))) rfl (by first | exact .inl rfl | exact .inr ⟨_, _, _, rfl, rfl, by kernel_rfl, by decide, rfl⟩) (by kernel_rfl) (by kernel_rfl) rfl rfl rfl (fun a9 W9 hb9 h9 h8 => by simp [execOp, h9, h8] <;> go_simp), ?_⟩
              refine fcs ⟨at1 77 78 (.pointer (some (a5.add z))) (.string (bs y)) rfl (by first | exact .inl rfl | exact .inr ⟨_, _, _, rfl, rfl, by kernel_rfl, by decide, rfl⟩) (by kernel_rfl) rfl rfl (fun a9 W9 hb9 h9 => by have g0 := cell_next hb9 e0; simp [execOp, h9] <;> go_simp), ?_⟩
              refine fcs ⟨at2 74 78 79 (.string (bs y0)) (.string (bs y)) (.bool false) rfl (by first | exact .inl rfl | exact .inr ⟨_, _, _, rfl, rfl, by kernel_rfl, by decide, rfl⟩) (by kernel_rfl) (by kernel_rfl) rfl rfl rfl (fun a9 W9 hb9 h9 h8 => by simp [execOp, h9, h8] <;> go_simp), ?_⟩
              refine fcs ⟨atpick 69 79 80 true (.bool false) _ _ rfl rfl rfl (by first | exact .inl rfl | exact .inr ⟨_, _, _, rfl, rfl, by kernel_rfl, by decide, rfl⟩) (by kernel_rfl) (by kernel_rfl) rfl rfl rfl, ?_⟩
              refine fcs ⟨atpick 66 80 81 false (.bool false) _ _ rfl rfl rfl (by first | exact .inl rfl | exact .inr ⟨_, _, _, rfl, rfl, by kernel_rfl, by decide, rfl⟩) (by kernel_rfl) (by kernel_rfl) rfl rfl rfl, ?_⟩
              refine fcs ⟨atcopy 81 82 (.bool false) (.inl rfl) rfl (by first | exact .inl rfl | exact .inr ⟨_, _, _, rfl, rfl, by kernel_rfl, by decide, rfl⟩) (by kernel_rfl) rfl rfl, ?_⟩
              refine fcs ⟨atcopy 5 83 (.slice (some a5) q c5) (.inl rfl) rfl (by first | exact .inl rfl | exact .inr ⟨_, _, _, rfl, rfl, by kernel_rfl, by decide, rfl⟩) (by kernel_rfl) rfl rfl, ?_⟩
              refine fcs ⟨atcopy 6 84 (.int .i64 (z : Int)) (.inl rfl) rfl (by first | exact .inl rfl | exact .inr ⟨_, _, _, rfl, rfl, by kernel_rfl, by decide, rfl⟩) (by kernel_rfl) rfl rfl, ?_⟩
              refine fcs ⟨at2 83 84 85 (.slice (some a5) q c5) (.int .i64 (z : Int)) (.pointer (some (a5.add z))) rfl (by first | exact .inl rfl | exact .inr ⟨_, _, _, rfl, rfl, by kernel_rfl, by decide, rfl⟩) (by kernel_rfl) (by kernel_rfl) rfl rfl rfl (fun a9 W9 hb9 h9 h8 => by simp [execOp, h9, h8] <;> go_simp), ?_⟩
              refine fcs ⟨at1 85 86 (.pointer (some (a5.add z))) (.string (bs y)) rfl (by first | exact .inl rfl | exact .inr ⟨_, _, _, rfl, rfl, by kernel_rfl, by decide, rfl⟩) (by kernel_rfl) rfl rfl (fun a9 W9 hb9 h9 => by have g0 := cell_next hb9 e0; simp [execOp, h9] <;> go_simp), ?_⟩
              refine fcs ⟨atcopy 4 87 (.string (bs x)) (.inl rfl) rfl (by first | exact .inl rfl | exact .inr ⟨_, _, _, rfl, rfl, by kernel_rfl, by decide, rfl⟩) (by kernel_rfl) rfl rfl, ?_⟩
              refine fcs ⟨at2 86 87 88 (.string (bs y)) (.string (bs x)) (.bool false) rfl (by first | exact .inl rfl | exact .inr ⟨_, _, _, rfl, rfl, by kernel_rfl, by decide, rfl⟩) (by kernel_rfl) (by kernel_rfl) rfl rfl rfl (fun a9 W9 hb9 h9 h8 => by simp [execOp, h9, h8] <;> go_simp), ?_⟩
              refine fcs ⟨atpick 82 88 89 false (.bool false) _ _ rfl rfl rfl (by first | exact .inl rfl | exact .inr ⟨_, _, _, rfl, rfl, by kernel_rfl, by decide, rfl⟩) (by kernel_rfl) (by kernel_rfl) rfl rfl rfl, ?_⟩
              refine fcs ⟨atcopy 89 90 (.bool false) (.inl rfl) rfl (by first | exact .inl rfl | exact .inr ⟨_, _, _, rfl, rfl, by kernel_rfl, by decide, rfl⟩) (by kernel_rfl) rfl rfl, ?_⟩
              refine fcs ⟨at1 1 91 (.pointer (some ⟨w.heap.size, 0, none⟩)) (.agg #[.int .i64 S.ver, .slice A n c, .slice (some a2) m c2]) rfl (by first | exact .inl rfl | exact .inr ⟨_, _, _, rfl, rfl, by kernel_rfl, by decide, rfl⟩) (by kernel_rfl) rfl rfl (fun a9 W9 hb9 h9 => by have g0 := cell_next hb9 s0; have g1 := cell_next hb9 s1; have g2 := cell_next hb9 s2; simp [execOp, h9] <;> go_simp), ?_⟩
              refine fcs ⟨atcopy 5 92 (.slice (some a5) q c5) (.inl rfl) rfl (by first | exact .inl rfl | exact .inr ⟨_, _, _, rfl, rfl, by kernel_rfl, by decide, rfl⟩) (by kernel_rfl) rfl rfl, ?_⟩
              refine fcs ⟨atcopy 6 93 (.int .i64 (z : Int)) (.inl rfl) rfl (by first | exact .inl rfl | exact .inr ⟨_, _, _, rfl, rfl, by kernel_rfl, by decide, rfl⟩) (by kernel_rfl) rfl rfl, ?_⟩
              refine fcs ⟨at2 92 93 94 (.slice (some a5) q c5) (.int .i64 (z : Int)) (.pointer (some (a5.add z))) rfl (by first | exact .inl rfl | exact .inr ⟨_, _, _, rfl, rfl, by kernel_rfl, by decide, rfl⟩) (by kernel_rfl) (by kernel_rfl) rfl rfl rfl (fun a9 W9 hb9 h9 h8 => by simp [execOp, h9, h8] <;> go_simp), ?_⟩
              refine fcs ⟨at1 94 95 (.pointer (some (a5.add z))) (.string (bs y)) rfl (by first | exact .inl rfl | exact .inr ⟨_, _, _, rfl, rfl, by kernel_rfl, by decide, rfl⟩) (by kernel_rfl) rfl rfl (fun a9 W9 hb9 h9 => by have g0 := cell_next hb9 e0; simp [execOp, h9] <;> go_simp), ?_⟩
              refine fcs ⟨atc2 22 91 95 96 (.agg #[.int .i64 S.ver, .slice A n c, .slice (some a2) m c2]) (.string (bs y)) (.int .i64 (dy : Int)) _ rfl rfl (by first | exact .inl rfl | exact .inr ⟨_, _, _, rfl, rfl, by kernel_rfl, by decide, rfl⟩) (by kernel_rfl) (by kernel_rfl) rfl rfl (by kernel_rfl) rfl (fun W9 hb9 => cDy W9 hb9), ?_⟩
              refine fcs ⟨at1 1 97 (.pointer (some ⟨w.heap.size, 0, none⟩)) (.agg #[.int .i64 S.ver, .slice A n c, .slice (some a2) m c2]) rfl (by first | exact .inl rfl | exact .inr ⟨_, _, _, rfl, rfl, by kernel_rfl, by decide, rfl⟩) (by kernel_rfl) rfl rfl (fun a9 W9 hb9 h9 => by have g0 := cell_next hb9 s0; have g1 := cell_next hb9 s1; have g2 := cell_next hb9 s2; simp [execOp, h9] <;> go_simp), ?_⟩
              refine fcs ⟨atcopy 4 98 (.string (bs x)) (.inl rfl) rfl (by first | exact .inl rfl | exact .inr ⟨_, _, _, rfl, rfl, by kernel_rfl, by decide, rfl⟩) (by kernel_rfl) rfl rfl, ?_⟩
              refine fcs ⟨atc2 22 97 98 99 (.agg #[.int .i64 S.ver, .slice A n c, .slice (some a2) m c2]) (.string (bs x)) (.int .i64 (dx : Int)) _ rfl rfl (by first | exact .inl rfl | exact .inr ⟨_, _, _, rfl, rfl, by kernel_rfl, by decide, rfl⟩) (by kernel_rfl) (by kernel_rfl) rfl rfl (by kernel_rfl) rfl (fun W9 hb9 => cDx W9 hb9), ?_⟩
              refine fcs ⟨at2 96 99 100 (.int .i64 (dy : Int)) (.int .i64 (dx : Int)) (.bool false) rfl (by first | exact .inl rfl | exact .inr ⟨_, _, _, rfl, rfl, by kernel_rfl, by decide, rfl⟩) (by kernel_rfl) (by kernel_rfl) rfl rfl rfl (fun a9 W9 hb9 h9 h8 => by simp [execOp, h9, h8] <;> go_simp), ?_⟩
              refine fcs ⟨atpick 90 100 101 false (.bool false) _ _ rfl rfl rfl (by first | exact .inl rfl | exact .inr ⟨_, _, _, rfl, rfl, by kernel_rfl, by decide, rfl⟩) (by kernel_rfl) (by kernel_rfl) rfl rfl rfl, ?_⟩
              exact fnl
            intro vv wv hvv hbv
            have hv101 : vv 101 = (.bool false) := (hvv 101 (by decide)).1
            simp only [lay, List.foldl_cons, List.foldl_nil, List.setIfInBounds_toArray, List.set_cons_succ, List.set_cons_zero, hv101]
            rename World => w15
            have hbW2 := Below.next hbW hbv
            replace hb := Below.next hb hbv
            replace R1 := R1.next hbv
            replace e0 := cell_next hbv e0
            have hblk2 : (a5.add z).block < w15.heap.size := blk_lt e0
            have cUn := fun W (h : Below w15.heap.size w15 W) => cU W (Below.next hbv h)
            clear hvv e1 hblk1 hlt2 k1 k3 hz1 cDy cDx cU hbW s0 s1 s2 l1 hblk
            have cU := cUn
            have hbW := hbW2
            have hblk := hblk2
            clear cUn hbW2 hbv hblk2
            have s0 := R1.c 0 rfl
            have s1 := R1.c 1 rfl
            have s2 := R1.c 2 rfl
            have l1 := R1.lt
            go_upto_region 15 with (fail)
            refine wp_region_on (by kernel_rfl) (FF [(1, Fact.at_ w15 (.pointer (some ⟨w.heap.size, 0, none⟩))), (5, Fact.at_ w15 (.slice (some a5) q c5)), (6, Fact.at_ w15 (.int .i64 (z : Int))), (102, Fact.at_ w15 (.agg #[.int .i64 S.ver, .slice A n c, .slice (some a2) m c2])), (103, Fact.at_ w15 (.slice (some a5) q c5)), (104, Fact.at_ w15 (.int .i64 (z : Int))), (105, Fact.at_ w15 (.pointer (some (a5.add z)))), (106, Fact.at_ w15 (.string (bs y))), (107, FUa S y w15), (11, FUa S y w15)]) [1, 5, 6] 131 [102, 103, 104, 105, 106, 107, 11] rfl (by kernel_rfl) (by kernel_rfl) ?_ ?_ ?_
            · intro t9 ht9
              simp only [List.mem_cons, List.not_mem_nil, or_false] at ht9
              rcases ht9 with rfl | rfl | rfl
              · exact ⟨rfl, Below.refl _ _⟩
              · exact ⟨rfl, Below.refl _ _⟩
              · exact ⟨rfl, Below.refl _ _⟩
            · refine fcs ⟨at1 1 102 (.pointer (some ⟨w.heap.size, 0, none⟩)) (.agg #[.int .i64 S.ver, .slice A n c, .slice (some a2) m c2]) rfl (by first | exact .inl rfl | exact .inr ⟨_, _, _, rfl, rfl, by kernel_rfl, by decide, rfl⟩) (by kernel_rfl) rfl rfl (fun a9 W9 hb9 h9 => by have g0 := cell_next hb9 s0; have g1 := cell_next hb9 s1; have g2 := cell_next hb9 s2; simp [execOp, h9] <;> go_simp), ?_⟩
              refine fcs ⟨atcopy 5 103 (.slice (some a5) q c5) (.inl rfl) rfl (by first | exact .inl rfl | exact .inr ⟨_, _, _, rfl, rfl, by kernel_rfl, by decide, rfl⟩) (by kernel_rfl) rfl rfl, ?_⟩
              refine fcs ⟨atcopy 6 104 (.int .i64 (z : Int)) (.inl rfl) rfl (by first | exact .inl rfl | exact .inr ⟨_, _, _, rfl, rfl, by kernel_rfl, by decide, rfl⟩) (by kernel_rfl) rfl rfl, ?_⟩
              refine fcs ⟨at2 103 104 105 (.slice (some a5) q c5) (.int .i64 (z : Int)) (.pointer (some (a5.add z))) rfl (by first | exact .inl rfl | exact .inr ⟨_, _, _, rfl, rfl, by kernel_rfl, by decide, rfl⟩) (by kernel_rfl) (by kernel_rfl) rfl rfl rfl (fun a9 W9 hb9 h9 h8 => by simp [execOp, h9, h8] <;> go_simp), ?_⟩
              refine fcs ⟨at1 105 106 (.pointer (some (a5.add z))) (.string (bs y)) rfl (by first | exact .inl rfl | exact .inr ⟨_, _, _, rfl, rfl, by kernel_rfl, by decide, rfl⟩) (by kernel_rfl) rfl rfl (fun a9 W9 hb9 h9 => by have g0 := cell_next hb9 e0; simp [execOp, h9] <;> go_simp), ?_⟩
              refine fcs ⟨at_enter (W0 := w15) (by first | exact .inl rfl | exact .inr ⟨_, _, _, rfl, rfl, by kernel_rfl, by decide, rfl⟩) (fun a9 W9 hf9 => by have p102 := hf9 102 (by kernel_rfl); have q102 : a9.tmps.getD 102 undef = (.agg #[.int .i64 S.ver, .slice A n c, .slice (some a2) m c2]) := p102.1; have p106 := hf9 106 (by kernel_rfl); have q106 : a9.tmps.getD 106 undef = (.string (bs y)) := p106.1; have hb9 := p102.2; exact ⟨25, #[(.agg #[.int .i64 S.ver, .slice A n c, .slice (some a2) m c2]), (.string (bs y))], by rw [← q102, ← q106]; simpa [execOp, resolve, Act.eval] using run_invoke (by kernel_rfl) _ W9, (cU W9 p102.2).mono fun e w' ⟨v, l, e1, e2, e3, e4⟩ => ⟨v, e1, e4, fun s hs => by injection hs with hs; subst hs; exact ⟨l, e2, e3, upG hb9 e4⟩⟩⟩), ?_⟩
              refine fcs ⟨ob_copy 107 11 (.inr rfl) rfl (.inl rfl) (by kernel_rfl) rfl, ?_⟩
              exact fnl
            intro vv wv hvv hbv
            simp only [lay, List.foldl_cons, List.foldl_nil, List.setIfInBounds_toArray, List.set_cons_succ, List.set_cons_zero]
            obtain ⟨l2, hU2, hN2, hb2u⟩ := hvv 11 (by decide)
            have hsub := cl_sub hcz hxs hU hyl hU2
            have hl2 := hU2.short hB
            have hcH := fun W (h : Below wv.heap.size wv W) (u : List UInt8) => lawHas_any l u (.slice (some a5) l.length c5) W hls (hNl W (Below.next (Below.next hb hbv) h))
            obtain ⟨A6, c6, hv11, hR6⟩ := hN2
            obtain ⟨q2, hq2⟩ : ∃ q2, l2.length = q2 := ⟨_, rfl⟩
            have HQ2 := Lib.hid hq2
            rw [hq2] at hv11
            have hb3 := Below.next hb hbv
            have R3 := R1.next hbv
            simp only [hv11]
            clear hvv cU s0 s1 s2 l1 e0 hblk R1 hq2 hU2 hv11
            rw [HQ.out] at hcH
            go_wp2_with fail
            go_loopw [12] (fun i_ wr => ∃ j : Nat, j ≤ q2 ∧ i_ = .int .i64 (j : Int) ∧ Below wv.heap.size wv wr) (fun i_ _ => q2 - (intOf i_).toNat)
            case atStart => exact ⟨0, by omega, rfl, Below.refl _ _⟩
            case round =>
              obtain ⟨j, hj, rfl, hb4⟩ := hrel
              by_cases hjt : j < q2
              · have hjm : j < l2.length := by rw [HQ2.out]; exact hjt
                obtain ⟨a6, rfl, hA6⟩ := hR6.get hjm
                rw [Nat.mul_one] at hA6
                have hin := hsub _ (List.getElem_mem hjm)
                have e6 : wr.cell? (a6.add j) = some (.string (bs (l2[j]'hjm))) := cell_next hb4 hA6
                have hblk6 : (a6.add j).block < wr.heap.size := blk_lt e6
                have cH := hcH wr hb4 (l2[j]'hjm)
                rw [List.contains_iff_mem.2 hin] at cH
                generalize l2[j]'hjm = u at *
                clear hin hA6
                go_wp2_with fail
                refine cH.mono ?_
                rintro e w6 ⟨rfl, rfl⟩
                go_wp2_with fail
                go_roundw
                case rel => exact ⟨j + 1, by omega, by go_num, hb4⟩
                case measure => simp [intOf]; omega
              · obtain rfl : j = q2 := by omega
                have R5 := R3.next hb4
                have hb6 := Below.next hb3 hb4
                clear hR6 hsub hcH
                go_wp2_with fail
                go_roundw
                case rel => exact ⟨z + 1, by omega, by go_num, R5, hb6⟩
                case measure => simp [intOf]; omega
        · obtain rfl : z = q := by omega
          obtain ⟨hr1, hr2⟩ := cl_rng hcz hB hxs
          have hbz := Below.next hbw5 hb
          have cD := devDepth_any S hB x hx _ wr (hv0.next hbz) (hE.next hbz)
          generalize depA S x = d at *
          have b1 : decide ((d : Int) < 1) = false := by rw [decide_eq_false_iff_not]; omega
          have b2 : decide ((6 : Int) < (d : Int)) = false := by rw [decide_eq_false_iff_not]; omega
          clear hr1 hr2
          go_wp2_with fail
          refine cD.mono ?_
          rintro e w8 ⟨rfl, hb8⟩
          have R9 := R1.next hb8
          have hb9 := Below.next hbz hb8
          clear s0 s1 s2 l1 cD
          go_wp2_with fail
          go_roundw
          case rel => exact ⟨k + 1, by omega, by go_num, R9, hb9⟩
          case measure => simp [intOf]; omega
    · obtain rfl : k = m := by omega
      have hEr := hE.next hb
      go_wp2_with fail
      refine (awake_any _ hEr).mono ?_
      rintro e w3 ⟨rfl, hb3⟩
      go_wp2_with fail
      go_ret
      exact ⟨rfl, Below.next hb hb3⟩
theorem closes_row (S : Sch) (v : Value) (w : World) (hl : lokS S) (hv : ScV w S v) (hL : laidMetH Tryz.prog Rows.schemaClosesRow.laid w) :
    Calls Tryz.prog 6 #[v] w (Ib (.bool true) w) := schemaCloses_any S v w hl hv (env_laid hL)
end Go.Proofs.YthbhbpcjcnkkkaaGreatDoor

/-
  The reference's search of what a struct uses. No conditions beyond those that each names.
-/
import Derived.Test.YthbhbpcjcnkkkaaGreatDoorM18
import Derived.Test.YthbhbpcjcnkkkaaGreatDoorM15
namespace Go.Proofs.YthbhbpcjcnkkkaaGreatDoor
open Go.RowKit Go.Maps
def UdP (S : Sch) (x : List UInt8) (w : World) (e : Ending) (w' : World) : Prop := ∃ v l, e = .returned v ∧ (Asc leB l ∧ ∀ y, y ∈ l ↔ Reach (nx S) x y) ∧ Nms w' l v ∧ Below w.heap.size w w'
theorem Bf.outlen {S : Sch} {x : List UInt8} {out todo done : List (List UInt8)} {z : Nat} (h : Bf leB (nx S) x out todo z done) (U : List (List UInt8)) (hU : ∀ x, ∀ y ∈ nx S x, y ∈ U) : out.length ≤ U.length :=
  nodup_le _ _ (asc_nodup h.asc) fun y hy => by
    have := h.re y hy
    cases this with
    | one h => exact hU _ _ h
    | more _ h => exact hU _ _ h
theorem fst_st0 {S : Sch} (x : List UInt8) : ((fst_ St.name S.structs x).getD st0) = st0 ∨ ((fst_ St.name S.structs x).getD st0) ∈ S.structs := by
  cases e : fst_ St.name S.structs x with
  | none => exact .inl rfl
  | some t => exact .inr (fst_mem e).1
set_option maxRecDepth 100000 in
set_option maxHeartbeats 8000000 in
theorem refUsed_any (S : Sch) (U : List (List UInt8)) (hU : ∀ x, ∀ y ∈ nx S x, y ∈ U) (hUl : U.length ≤ 1000) (hrt : ∀ t ∈ S.structs, ∀ f ∈ t.fields, right S f.type = true) (hfw : ∀ t ∈ S.structs, t.fields.length ≤ 1000) (hn : S.structs.length ≤ 1000)
    (x : List UInt8) (v : Value) (w : World) (hv : ScV w S v) : Calls Tryz.prog 42 #[v, .string (bs x)] w (UdP S x w) := by
  have hv0 := hv
  obtain ⟨A, c, A2, c2, rfl, hS⟩ := hv
  obtain ⟨n, hnn⟩ : ∃ n, S.enums.length = n := ⟨_, rfl⟩
  obtain ⟨m, hmm⟩ : ∃ m, S.structs.length = m := ⟨_, rfl⟩
  rw [hnn, hmm] at hv0 ⊢
  have hab := ab2 w (Obj.cells #[.int .i64 S.ver, .slice A n c, .slice A2 m c2] 25) (Obj.cells #[.string (bs x)] 9)
  have B1 := (Bx.new3 w 25 (.int .i64 S.ver) (.slice A n c) (.slice A2 m c2)).next (ab1 _ (Obj.cells #[.string (bs x)] 9))
  have L0 := Wn.lit (B := w.heap.size + 1) (w.alloc (Obj.cells #[.int .i64 S.ver, .slice A n c, .slice A2 m c2] 25)) x (g := w.heap.size + 1) (by simp) (by simp)
  have H0 : Hid (Bf leB (nx S) x [] [x] 0 []) := Lib.hid (Bf.start _ _ _)
  clear hnn hmm
  go_enter Tryz.func42, Tryz.ntmps42
  go_wp2_with fail
  go_loopw [5, 6, 7] (fun p q_ i wr => ∃ (z : Nat) (out todo : List (List UInt8)), z ≤ todo.length ∧ i = .int .i64 (z : Int) ∧ Rob q_.ownBlock wr (fun W => Nms W out p) ∧ Wn (w.heap.size + 1) wr q_ todo ∧ Hid (Bf leB (nx S) x out todo z []) ∧ Rob q_.ownBlock wr (fun W => Bx W w.heap.size [.int .i64 S.ver, .slice A n c, .slice A2 m c2]) ∧ Below w.heap.size w wr) (fun _ _ i _ => U.length + 2 - (intOf i).toNat)
  case atStart => exact ⟨0, [], [x], by simp, rfl, fun _ _ => Sl.nil _ _ _, L0, H0, B1.rob (by intro e; simp [Value.ownBlock] at e), hab⟩
  case round =>
    obtain ⟨z, out, todo, hz, rfl, hp, hq, hI, R1, hb⟩ := hrel
    clear B1 L0 H0 hab
    have htl : todo.length ≤ U.length + 1 := hI.out.len U hU
    have q0 := R1.get.c 0 rfl
    have q1 := R1.get.c 1 rfl
    have q2 := R1.get.c 2 rfl
    have l1 := R1.get.lt
    have hqn := hq.nms
    obtain ⟨A3, c3, rfl, hR3⟩ := hqn
    by_cases hlt : z < todo.length
    · obtain ⟨a3, rfl, hA3⟩ := hR3.get hlt
      rw [Nat.mul_one] at hA3
      obtain ⟨y, hy⟩ : ∃ y, todo[z]'hlt = y := ⟨_, rfl⟩
      have HY : Hid (∃ h : z < todo.length, todo[z]'h = y) := Lib.hid ⟨hlt, hy⟩
      rw [hy] at hA3
      have e0 : wr.cell? (a3.add z) = some (.string (bs y)) := hA3
      obtain ⟨uX, hVX, cX⟩ := refStruct_ex S y _ w hv0 hn
      obtain ⟨bX, hbX⟩ : ∃ bX, (fst_ St.name S.structs y).isSome = bX := ⟨_, rfl⟩
      rw [hbX] at cX
      obtain ⟨t, ht⟩ : ∃ t, (fst_ St.name S.structs y).getD st0 = t := ⟨_, rfl⟩
      have HT : Hid (nx S y = nxs t) := Lib.hid (by unfold nx; rw [ht])
      have HF : Hid (∀ f ∈ t.fields, right S f.type = true) := Lib.hid (by
        rcases fst_st0 (S := S) y with h | h
        · rw [ht] at h; subst h; intro f hf; cases hf
        · rw [ht] at h; exact hrt t h)
      have HL : t.fields.length ≤ 1000 := by
        rcases fst_st0 (S := S) y with h | h
        · rw [ht] at h; subst h; decide
        · rw [ht] at h; exact hfw t h
      rw [ht] at hVX
      clear ht hbX
      obtain ⟨A4, c4, rfl, hVf⟩ := hVX
      have hzN : z ≤ 9223372036854775807 := by omega
      go_upto_region 6 with (fail)
      refine wp_region_box (by kernel_rfl) (FF [(2, Fact.at_ wr (.pointer (some ⟨w.heap.size, 0, none⟩))), (6, Fact.at_ wr (.slice (some a3) todo.length c3)), (7, Fact.at_ wr (.int .i64 (z : Int))), (22, Fact.at_ wr (.agg #[.int .i64 S.ver, .slice A n c, .slice A2 m c2])), (23, Fact.at_ wr (.slice (some a3) todo.length c3)), (24, Fact.at_ wr (.int .i64 (z : Int))), (25, Fact.at_ wr (.pointer (some (a3.add z)))), (26, Fact.at_ wr (.string (bs y))), (27, Fact.at_ wr (.tuple #[.agg #[.string (bs t.name), .slice A4 t.fields.length c4], .bool bX])), (21, Fact.at_ wr (.tuple #[.agg #[.string (bs t.name), .slice A4 t.fields.length c4], .bool bX])), (28, Fact.at_ wr (.agg #[.string (bs t.name), .slice A4 t.fields.length c4])), (29, Fact.at_ wr (.bool bX)), (9, Fact.at_ wr (.bool bX))]) [2, 6, 7] 73 8 10 28 [.string ⟨#[]⟩, .slice none 0 0] [.string (bs t.name), .slice A4 t.fields.length c4] [22, 23, 24, 25, 26, 27, 21, 28, 29, 9, 8] rfl (by kernel_rfl) (by kernel_rfl) (by kernel_rfl) (by kernel_rfl) (FF_soft (fcs ⟨at_soft wr (.pointer (some ⟨w.heap.size, 0, none⟩)), fcs ⟨at_soft wr (.slice (some a3) todo.length c3), fcs ⟨at_soft wr (.int .i64 (z : Int)), fcs ⟨at_soft wr (.agg #[.int .i64 S.ver, .slice A n c, .slice A2 m c2]), fcs ⟨at_soft wr (.slice (some a3) todo.length c3), fcs ⟨at_soft wr (.int .i64 (z : Int)), fcs ⟨at_soft wr (.pointer (some (a3.add z))), fcs ⟨at_soft wr (.string (bs y)), fcs ⟨at_soft wr (.tuple #[.agg #[.string (bs t.name), .slice A4 t.fields.length c4], .bool bX]), fcs ⟨at_soft wr (.tuple #[.agg #[.string (bs t.name), .slice A4 t.fields.length c4], .bool bX]), fcs ⟨at_soft wr (.agg #[.string (bs t.name), .slice A4 t.fields.length c4]), fcs ⟨at_soft wr (.bool bX), fcs ⟨at_soft wr (.bool bX), fnl⟩⟩⟩⟩⟩⟩⟩⟩⟩⟩⟩⟩⟩)) ?_ ?_ ?_
      · intro t9 ht9
        simp only [List.mem_cons, List.not_mem_nil, or_false] at ht9
        rcases ht9 with rfl | rfl | rfl
        · exact ⟨rfl, Below.refl _ _⟩
        · exact ⟨rfl, Below.refl _ _⟩
        · exact ⟨rfl, Below.refl _ _⟩
      · refine fcs ⟨.plain (at1 2 22 (.pointer (some ⟨w.heap.size, 0, none⟩)) (.agg #[.int .i64 S.ver, .slice A n c, .slice A2 m c2]) rfl (by first | exact .inl rfl | exact .inr ⟨_, _, _, rfl, rfl, by kernel_rfl, by decide, rfl⟩) (by kernel_rfl) rfl rfl (fun a9 W9 hb9 h9 => by have g0 := cell_next hb9 q0; have g1 := cell_next hb9 q1; have g2 := cell_next hb9 q2; simp [execOp, h9] <;> go_simp)) (by decide) (by decide), ?_⟩
        refine fcs ⟨.plain (atcopy 6 23 (.slice (some a3) todo.length c3) (.inl rfl) rfl (by first | exact .inl rfl | exact .inr ⟨_, _, _, rfl, rfl, by kernel_rfl, by decide, rfl⟩) (by kernel_rfl) rfl rfl) (by decide) (by decide), ?_⟩
        refine fcs ⟨.plain (atcopy 7 24 (.int .i64 (z : Int)) (.inl rfl) rfl (by first | exact .inl rfl | exact .inr ⟨_, _, _, rfl, rfl, by kernel_rfl, by decide, rfl⟩) (by kernel_rfl) rfl rfl) (by decide) (by decide), ?_⟩
        refine fcs ⟨.plain (at2 23 24 25 (.slice (some a3) todo.length c3) (.int .i64 (z : Int)) (.pointer (some (a3.add z))) rfl (by first | exact .inl rfl | exact .inr ⟨_, _, _, rfl, rfl, by kernel_rfl, by decide, rfl⟩) (by kernel_rfl) (by kernel_rfl) rfl rfl rfl (fun a9 W9 hb9 h9 h8 => by simp [execOp, h9, h8] <;> go_simp)) (by decide) (by decide), ?_⟩
        refine fcs ⟨.plain (at1 25 26 (.pointer (some (a3.add z))) (.string (bs y)) rfl (by first | exact .inl rfl | exact .inr ⟨_, _, _, rfl, rfl, by kernel_rfl, by decide, rfl⟩) (by kernel_rfl) rfl rfl (fun a9 W9 hb9 h9 => by have g0 := cell_next hb9 e0; simp [execOp, h9] <;> go_simp)) (by decide) (by decide), ?_⟩
        refine fcs ⟨.plain (atc2 14 22 26 27 (.agg #[.int .i64 S.ver, .slice A n c, .slice A2 m c2]) (.string (bs y)) (.tuple #[.agg #[.string (bs t.name), .slice A4 t.fields.length c4], .bool bX]) _ rfl rfl (by first | exact .inl rfl | exact .inr ⟨_, _, _, rfl, rfl, by kernel_rfl, by decide, rfl⟩) (by kernel_rfl) (by kernel_rfl) rfl rfl (by kernel_rfl) rfl (fun W9 hb9 => cX W9 (Below.next hb hb9))) (by decide) (by decide), ?_⟩
        refine fcs ⟨.plain (atcopy 27 21 (.tuple #[.agg #[.string (bs t.name), .slice A4 t.fields.length c4], .bool bX]) (.inl rfl) rfl (by first | exact .inl rfl | exact .inr ⟨_, _, _, rfl, rfl, by kernel_rfl, by decide, rfl⟩) (by kernel_rfl) rfl rfl) (by decide) (by decide), ?_⟩
        refine fcs ⟨.plain (at1 21 28 (.tuple #[.agg #[.string (bs t.name), .slice A4 t.fields.length c4], .bool bX]) (.agg #[.string (bs t.name), .slice A4 t.fields.length c4]) rfl (by first | exact .inl rfl | exact .inr ⟨_, _, _, rfl, rfl, by kernel_rfl, by decide, rfl⟩) (by kernel_rfl) rfl rfl (fun a9 W9 hb9 h9 => by simp [execOp, h9] <;> go_simp)) (by decide) (by decide), ?_⟩
        refine fcs ⟨.plain (at1 21 29 (.tuple #[.agg #[.string (bs t.name), .slice A4 t.fields.length c4], .bool bX]) (.bool bX) rfl (by first | exact .inl rfl | exact .inr ⟨_, _, _, rfl, rfl, by kernel_rfl, by decide, rfl⟩) (by kernel_rfl) rfl rfl (fun a9 W9 hb9 h9 => by simp [execOp, h9] <;> go_simp)) (by decide) (by decide), ?_⟩
        refine fcs ⟨.alloc rfl rfl rfl (by decide) (fun a9 w9 => ⟨_, by simp [execOp, ptr0] <;> go_simp, ab1 _ (Obj.cells #[.string ⟨#[]⟩, .slice none 0 0] 32), Bx.new2 _ _ _ _⟩), ?_⟩
        refine fcs ⟨.store rfl rfl rfl (by kernel_rfl) (by kernel_rfl) (fun a9 w9 b9 h9 hx9 hf9 => (by have k1 : a9.eval (.tmp 8) = .pointer (some ⟨b9, 0, none⟩) := h9; have k2 : a9.eval (.tmp 28) = .agg #[.string (bs t.name), .slice A4 t.fields.length c4] := hf9.1; have g0 := hx9.c 0 rfl; have g1 := hx9.c 1 rfl; have f0 := hx9.f 0 rfl; have f1 := hx9.f 1 rfl; have l9 := hx9.lt; exact ⟨_, by simp [execOp, k1, k2] <;> go_simp, gb_set2 _ _ _ _, hx9.put2 _ _⟩)), ?_⟩
        refine fcs ⟨.plain (atcopy 29 9 (.bool bX) (.inr rfl) rfl (by first | exact .inl rfl | exact .inr ⟨_, _, _, rfl, rfl, by kernel_rfl, by decide, rfl⟩) (by kernel_rfl) rfl rfl) (by decide) (by decide), ?_⟩
        exact fnl
      rintro vv wv hvv ⟨gx, hgx, hgl, hX⟩ hbv
      unfold ptr0 at hgx
      simp only [lay, List.foldl_cons, List.foldl_nil, List.setIfInBounds_toArray, List.set_cons_succ, List.set_cons_zero, hgx]
      have hbw := Below.next hb hbv
      have R1v := R1.next hbv
      have hpv := hp.next hbv
      have hqv := hq.other hbv
      have hXr : Rob (Value.slice (some a3) todo.length c3).ownBlock wv (fun W => Bx W gx [.string (bs t.name), .slice A4 t.fields.length c4]) := hX.rob (fun e => by have := hq.blk gx e.symm; omega)
      have I0 : Hid (Bf leB (nx S) x out todo z ((t.fields.take 0).flatMap fun f => dir f.type)) := hI
      obtain ⟨q, hqq⟩ : ∃ q, t.fields.length = q := ⟨_, rfl⟩
      have HQ := Lib.hid hqq
      rw [hqq] at hXr HL
      clear hvv hI q0 q1 q2 l1 R1 hA3 e0 cX hqq hy hgl hR3 hp hX
      go_wp2_with fail
      go_loopw [5, 6, 10] (fun p q_ i wr => ∃ (k : Nat) (out todo : List (List UInt8)), k ≤ q ∧ i = .int .i64 (k : Int) ∧ Rob q_.ownBlock wr (fun W => Nms W out p) ∧ Wn (w.heap.size + 1) wr q_ todo ∧ Hid (Bf leB (nx S) x out todo z ((t.fields.take k).flatMap fun f => dir f.type)) ∧ Hid (∃ h : z < todo.length, todo[z]'h = y) ∧ Rob q_.ownBlock wr (fun W => Bx W w.heap.size [.int .i64 S.ver, .slice A n c, .slice A2 m c2]) ∧ Rob q_.ownBlock wr (fun W => Bx W gx [.string (bs t.name), .slice A4 q c4]) ∧ Below w.heap.size w wr) (fun _ _ i _ => q - (intOf i).toNat)
      case atStart => exact ⟨0, out, todo, by omega, rfl, hpv, hqv, I0, HY, R1v, hXr, hbw⟩
      case round =>
        clear hpv hqv I0 HY R1v hXr hq hbv hb hbw
        obtain ⟨k, out, todo, hk, rfl, hp, hq, hI, HY, R1, X1, hb⟩ := hrel
        have x1 := X1.get.c 1 rfl
        have l1 := X1.get.lt
        by_cases hkq : k < q
        · have hkf : k < t.fields.length := by rw [HQ.out]; exact hkq
          obtain ⟨a4, rfl, hA4⟩ := hVf.get hkf
          obtain ⟨A5, c5, f0, f1, f2, f3, f4, f5, f6, -, hTy⟩ := (FdA.next hb hA4).val
          have hblk : (a4.add (k * 7)).block < wr.heap.size := blk_lt f0
          have hr := HF.out _ (List.getElem_mem hkf)
          have hin : ∀ y' ∈ dir (t.fields[k]'hkf).type, y' ∈ nx S y := fun y' hy' => by rw [HT.out]; exact List.mem_flatMap.2 ⟨_, List.getElem_mem hkf, hy'⟩
          have hnx : (t.fields.take (k + 1)).flatMap (fun f => dir f.type) = (t.fields.take k).flatMap (fun f => dir f.type) ++ dir (t.fields[k]'hkf).type := by rw [List.take_succ_eq_append_getElem hkf, List.flatMap_append]; simp
          generalize t.fields[k]'hkf = f at *
          have cD := refDirect_any (SizeOf.sizeOf f.type + 1) S f.type _ wr (Nat.lt_succ_self _) hr hTy
          obtain ⟨dn, hdn⟩ : ∃ dn, (t.fields.take k).flatMap (fun f => dir f.type) = dn := ⟨_, rfl⟩
          rw [hdn] at hI hnx
          obtain ⟨L, hL⟩ : ∃ L, dir f.type = L := ⟨_, rfl⟩
          rw [hL] at cD hin hnx
          have hLl : L.length ≤ 1 := by
            rw [← hL]
            rcases right_dir f.type hr with ⟨h, -⟩ | ⟨h, -⟩ <;> rw [h] <;> simp
          have HNX := Lib.hid hnx
          have HIN := Lib.hid hin
          clear hA4 hTy hr hL hdn hnx hin
          go_wp2_with fail
          refine cD.mono ?_
          rintro e w3 ⟨v3, rfl, hN3, hb3⟩
          have hb3w := Below.next hb hb3
          have R3 := R1.next hb3
          have X3 := X1.next hb3
          have hp3 := hp.next hb3
          have hq3 := hq.other hb3
          have I3 : Hid (Bf leB (nx S) x out todo z (dn ++ L.take 0)) := by rw [List.take_zero, List.append_nil]; exact hI
          clear cD f0 f1 f2 f3 f4 f5 f6 x1 l1 R1 X1 hp hI hblk
          go_wp2_with fail
          go_loopw [5, 6, 12] (fun p q_ i wr => ∃ (j : Nat) (out todo : List (List UInt8)), j ≤ L.length ∧ i = .int .i64 (j : Int) ∧ Rob q_.ownBlock wr (fun W => Nms W out p) ∧ Wn (w.heap.size + 1) wr q_ todo ∧ Hid (Bf leB (nx S) x out todo z (dn ++ L.take j)) ∧ Hid (∃ h : z < todo.length, todo[z]'h = y) ∧ Rob q_.ownBlock wr (fun W => Bx W w.heap.size [.int .i64 S.ver, .slice A n c, .slice A2 m c2]) ∧ Rob q_.ownBlock wr (fun W => Bx W gx [.string (bs t.name), .slice (some a4) q c4]) ∧ Rob q_.ownBlock wr (fun W => Nms W L v3) ∧ Below w.heap.size w wr) (fun _ _ i _ => L.length - (intOf i).toNat)
          case atStart => exact ⟨0, out, todo, by omega, rfl, hp3, hq3, I3, HY, R3, X3, hN3.rob (fun b e => (hq.blk b e).2), hb3w⟩
          case round =>
            clear hb3w R3 X3 hp3 hq3 I3 HY hb hb3 hN3 hq
            obtain ⟨j, out, todo, hj, rfl, hp, hq, hI, HY, R1, X1, hN, hb⟩ := hrel
            have hol : out.length ≤ U.length := hI.out.outlen U hU
            have htl2 : todo.length ≤ U.length + 1 := hI.out.len U hU
            have hN0 := hN.get
            obtain ⟨A6, c6, rfl, hR6⟩ := hN0
            have hp0 := hp.get
            have hpg := hp.get
            have hqg := hq.nms
            obtain ⟨A8, c8, rfl, -⟩ := hqg
            obtain ⟨A7, c7, rfl, hR7⟩ := hp0
            by_cases hjl : j < L.length
            · obtain ⟨a6, rfl, hA6⟩ := hR6.get hjl
              rw [Nat.mul_one] at hA6
              have hni := HIN.out _ (List.getElem_mem hjl)
              have htk : L.take (j + 1) = L.take j ++ [L[j]'hjl] := List.take_succ_eq_append_getElem hjl
              generalize L[j]'hjl = y' at *
              have g0 : wr.cell? (a6.add j) = some (.string (bs y')) := hA6
              have cI := refIn_any out out.length y' _ wr (by omega) hpg
              rw [List.take_length] at cI
              have HTK := Lib.hid (show dn ++ L.take (j + 1) = (dn ++ L.take j) ++ [y'] by rw [htk, List.append_assoc])
              cases hc : out.contains y'
              · rw [hc] at cI
                have hyo : y' ∉ out := by rw [List.contains_eq_mem] at hc; simpa using hc
                obtain ⟨hz1, hz2⟩ := HY.out
                have EB := Lib.hid (hI.out.new tot_leB hz1 (by rw [hz2]; exact hni) hyo)
                have EY : Hid (∃ h : z < (todo ++ [y']).length, (todo ++ [y'])[z]'h = y) := Lib.hid ⟨by rw [List.length_append]; omega, by rw [List.getElem_append_left hz1]; exact hz2⟩
                have cP := refPut_any out y' _ wr (by omega) hpg
                clear hA6 hI hni htk hc hyo hz1 hz2 HY
                go_wp2_with fail
                refine cI.mono ?_
                rintro e w4 ⟨rfl, rfl⟩
                go_wp2_with fail
                refine cP.mono ?_
                rintro e w5 ⟨v5, rfl, hN5, hb5⟩
                have hb5w := Below.next hb hb5
                have hq5 := hq.other hb5
                have g5 := cell_next hb5 g0
                have hbs5 : w.heap.size + 1 ≤ w5.heap.size := by have := hb5.size; have := R1.get.lt; omega
                clear cP cI g0
                go_wp2_with (at_builtin; refine wpList_pushN rfl (.tmp 65) (.tmp 70) rfl (w.heap.size + 1) _ todo y' _ 1 rfl rfl (hq5.other (ab1 _ _)) (by simp) (by omega) (Nat.le_trans hbs5 (ab1 _ _).size) ?_; intro v' w6 ho' hg' h4')
                have h4 : v'.ownBlock = (Value.slice A8 todo.length c8).ownBlock ∨ ∃ b, v'.ownBlock = some b ∧ (w5.alloc (Obj.cells #[.string (bs y')] 9)).heap.size ≤ b := h4'.imp id (fun e => ⟨_, e, Nat.le_refl _⟩)
                have hbl := ab1 w5 (Obj.cells #[.string (bs y')] 9)
                have hb6 := (hb5w.alloc hb5w.size (Obj.cells #[.string (bs y')] 9)).grown hg' (Nat.le_trans hb5w.size hbl.size) (fun k hk => by have := (hq5.lt k hk).1; omega)
                go_roundw
                case rel => exact ⟨j + 1, _, _, by omega, by go_num, ((hN5.next hbl).rob (fun b e => (hq.blk b e).2)).push hg' h4, ho', HTK.out ▸ EB, EY, ((R1.next hb5).next hbl).push hg' h4, ((X1.next hb5).next hbl).push hg' h4, ((hN.next hb5).next hbl).push hg' h4, hb6⟩
                case measure => simp [intOf]; omega
              · rw [hc] at cI
                have hyo : y' ∈ out := by simpa using hc
                have EB := Lib.hid (hI.out.old hyo)
                clear hA6 hI hni htk hc hyo
                go_wp2_with fail
                refine cI.mono ?_
                rintro e w4 ⟨rfl, rfl⟩
                go_wp2_with fail
                go_roundw
                case rel => exact ⟨j + 1, out, todo, by omega, by go_num, hp, hq, HTK.out ▸ EB, HY, R1, X1, hN, hb⟩
                case measure => simp [intOf]; omega
            · obtain rfl : j = L.length := by omega
              have EB : Hid (Bf leB (nx S) x out todo z ((t.fields.take (k + 1)).flatMap fun f => dir f.type)) := by rw [HNX.out]; rw [List.take_length] at hI; exact hI
              clear hI
              go_wp2_with fail
              go_roundw
              case rel => exact ⟨k + 1, out, todo, by omega, by go_num, hp, hq, EB, HY, R1, X1, hb⟩
              case measure => simp [intOf]; omega
        · obtain rfl : k = q := by omega
          have EB : Hid (Bf leB (nx S) x out todo (z + 1) []) := by
            obtain ⟨hz1, hz2⟩ := HY.out
            refine Lib.hid (hI.out.next hz1 ?_)
            rw [hz2, HT.out, List.take_of_length_le (by rw [HQ.out]; exact Nat.le_refl _)]
            rfl
          have hz9 : z + 1 ≤ todo.length := by obtain ⟨hz1, hz2⟩ := HY.out; omega
          clear hI HY
          go_wp2_with fail
          go_roundw
          case rel => exact ⟨z + 1, out, todo, hz9, by go_num, hp, hq, EB, R1, hb⟩
          case measure => simp [intOf]; omega
    · obtain rfl : z = todo.length := by omega
      have E := hI.out.done_ rfl
      clear hI
      go_wp2_with fail
      go_ret
      exact ⟨_, out, rfl, E, hp.get, hb⟩
end Go.Proofs.YthbhbpcjcnkkkaaGreatDoor
/-
  The depths of structs in rounds over their places; putting a name into an ascending list step by step. Mathematics, no conditions beyond those that each names.
-/
namespace Go.Proofs.YthbhbpcjcnkkkaaGreatDoor
open Go.RowKit
theorem nxs_mem {t : St} {f : Fd} {y : List UInt8} (hf : f ∈ t.fields) (hy : y ∈ dir f.type) : y ∈ nxs t := List.mem_flatMap.2 ⟨f, hf, hy⟩
theorem fdep_near (S : Sch) {d d' : List UInt8 → Nat} (t : St) (h : ∀ y ∈ nxs t, y ∈ sns S → d y = d' y) : fdep S d t = fdep S d' t := by
  unfold fdep
  congr 2
  apply List.map_congr_left
  intro f hf
  exact td_near S f.type fun y hy hs => h y (nxs_mem hf hy) hs
/-- The place of a struct by its name. -/
def idx (S : Sch) (n : List UInt8) : Nat := (sns S).idxOf n
theorem idx_lt {S : Sch} {n : List UInt8} (h : n ∈ sns S) : idx S n < S.structs.length := by
  have := List.idxOf_lt_length_iff.2 h
  unfold idx
  unfold sns at this ⊢
  simpa using this
theorem idx_name {S : Sch} {n : List UInt8} (h : n ∈ sns S) : (S.structs.getD (idx S n) st0).name = n := by
  have h1 := idx_lt h
  rw [List.getD_eq_getElem?_getD, List.getElem?_eq_getElem h1, Option.getD_some]
  have h2 : (sns S)[idx S n]'(by unfold sns; rw [List.length_map]; exact h1) = n := List.getElem_idxOf _
  unfold sns at h2
  simpa using h2
theorem name_idx {S : Sch} (hn : (sns S).Nodup) {k : Nat} (hk : k < S.structs.length) : fst_ St.name S.structs (S.structs[k]'hk).name = some (S.structs[k]'hk) := (fst_iff hn).2 ⟨List.getElem_mem hk, rfl⟩
theorem fst_idx {S : Sch} (hn : (sns S).Nodup) {n : List UInt8} (h : n ∈ sns S) : (fst_ St.name S.structs n).getD st0 = S.structs.getD (idx S n) st0 := by
  have h1 := idx_lt h
  have h2 := idx_name h
  rw [List.getD_eq_getElem?_getD, List.getElem?_eq_getElem h1, Option.getD_some] at h2 ⊢
  have h3 := name_idx hn h1
  rw [h2] at h3
  rw [h3]
  rfl
def dI (S : Sch) (f : Nat → Nat) : List UInt8 → Nat := fun n => f (idx S n)
def FI (S : Sch) (f : Nat → Nat) (i : Nat) : Nat := fdep S (dI S f) (S.structs.getD i st0)
def GI (S : Sch) (i : Nat) : Nat := fdep S (dep S) (S.structs.getD i st0)
def nI (S : Sch) (i : Nat) : List Nat := ((nxs (S.structs.getD i st0)).filter fun y => (sns S).contains y).map (idx S)
theorem FI_near (S : Sch) : Near (nI S) (FI S) := fun d d' x h => fdep_near S _ fun y hy hs => h (idx S y) (List.mem_map.2 ⟨y, List.mem_filter.2 ⟨hy, by simpa using hs⟩, rfl⟩)
theorem GI_fix {S : Sch} (hn : (sns S).Nodup) {rk : List UInt8 → Nat} (hP : Dpt S rk) (k : Nat) : GI S k = FI S (GI S) k := by
  unfold GI FI
  refine fdep_near S _ fun y _ hs => ?_
  show dep S y = fdep S (dep S) (S.structs.getD (idx S y) st0)
  rw [← fst_idx hn hs]
  exact hP.fx y
theorem GI_dep {S : Sch} (hn : (sns S).Nodup) {rk : List UInt8 → Nat} (hP : Dpt S rk) {k : Nat} (hk : k < S.structs.length) : GI S k = dep S (S.structs[k]'hk).name := by
  rw [hP.fx]
  unfold GI dF
  rw [name_idx hn hk, List.getD_eq_getElem?_getD, List.getElem?_eq_getElem hk]
noncomputable def rkI (S : Sch) (k : Nat) : Nat := rkS S (S.structs.getD k st0).name
theorem nI_lt {S : Sch} {i y : Nat} (h : y ∈ nI S i) : y < S.structs.length := by
  obtain ⟨n, hn, rfl⟩ := List.mem_map.1 h
  exact idx_lt (by simpa using (List.mem_filter.1 hn).2)
theorem nI_down {S : Sch} (hn : (sns S).Nodup) (hc : ¬ cyc S) : Down (nI S) (rkI S) := by
  intro i y hy
  obtain ⟨n, hn1, rfl⟩ := List.mem_map.1 hy
  obtain ⟨hn2, hn3⟩ := List.mem_filter.1 hn1
  have hs : n ∈ sns S := by simpa using hn3
  unfold rkI
  rw [idx_name hs]
  refine rkS_down hn hc _ _ (mem_nxS.2 ⟨?_, hs⟩)
  unfold nx
  by_cases hi : i < S.structs.length
  · rw [List.getD_eq_getElem?_getD, List.getElem?_eq_getElem hi, Option.getD_some] at hn2 ⊢
    rw [name_idx hn hi]
    exact hn2
  · rw [List.getD_eq_getElem?_getD, List.getElem?_eq_none (by omega)] at hn2
    cases hn2
theorem rkI_lt (S : Sch) (k : Nat) : rkI S k < S.structs.length + 1 := rkS_lt S _
theorem deep_iff {S : Sch} (hn : (sns S).Nodup) {rk : List UInt8 → Nat} (hP : Dpt S rk) : deep S ↔ ∃ k, ∃ _ : k < S.structs.length, 6 < GI S k := by
  unfold deep
  constructor
  · rintro ⟨t, ht, h⟩
    obtain ⟨k, hk, rfl⟩ := List.mem_iff_getElem.1 ht
    exact ⟨k, hk, by rw [GI_dep hn hP hk]; exact h⟩
  · rintro ⟨k, hk, h⟩
    exact ⟨_, List.getElem_mem hk, by rw [← GI_dep hn hP hk]; exact h⟩
end Go.Proofs.YthbhbpcjcnkkkaaGreatDoor
/-
  The reference's equality of fields, structs and enumerations. No conditions beyond those that each names.
-/
namespace Go.Proofs.YthbhbpcjcnkkkaaGreatDoor
open Go.RowKit
noncomputable def eqF (f g : Fd) : Bool := @decide (f = g) (Classical.propDecidable _)
theorem eqF_iff {f g : Fd} : eqF f g = true ↔ f = g := @decide_eq_true_iff _ (Classical.propDecidable _)
theorem eqF_no {f g : Fd} (h : f ≠ g) : eqF f g = false := by
  cases e : eqF f g
  · rfl
  · exact absurd (eqF_iff.1 e) h
noncomputable def eqS (f g : St) : Bool := @decide (f = g) (Classical.propDecidable _)
theorem eqS_iff {f g : St} : eqS f g = true ↔ f = g := @decide_eq_true_iff _ (Classical.propDecidable _)
theorem eqS_no {f g : St} (h : f ≠ g) : eqS f g = false := by
  cases e : eqS f g
  · rfl
  · exact absurd (eqS_iff.1 e) h
noncomputable def eqE (f g : En) : Bool := @decide (f = g) (Classical.propDecidable _)
theorem eqE_iff {f g : En} : eqE f g = true ↔ f = g := @decide_eq_true_iff _ (Classical.propDecidable _)
theorem eqE_no {f g : En} (h : f ≠ g) : eqE f g = false := by
  cases e : eqE f g
  · rfl
  · exact absurd (eqE_iff.1 e) h
theorem sq_eq {x y : List UInt8} (h : x = y) : ((bs x).toList == (bs y).toList) = true := by rw [h]; exact sq_t y
theorem sn_eq {x y : List UInt8} (h : x = y) : ((bs x).toList != (bs y).toList) = false := by rw [h]; exact sn_t y
set_option maxRecDepth 100000 in
set_option maxHeartbeats 4000000 in
theorem refSameField_any (f g : Fd) (u v : Value) (w : World) (hl : lok f.type) (hl' : lok g.type) (hu : FdV w f u) (hv : FdV w g v) :
    Calls Tryz.prog 21 #[u, v] w (Ib (.bool (eqF f g)) w) := by
  obtain ⟨A, c, rfl, hR⟩ := hu
  obtain ⟨A', c', rfl, hR'⟩ := hv
  obtain ⟨q, hq⟩ : ∃ q, f.type.elem.length = q := ⟨_, rfl⟩
  obtain ⟨q', hq'⟩ : ∃ q, g.type.elem.length = q := ⟨_, rfl⟩
  have HQ := Lib.hid hq
  have HQ' := Lib.hid hq'
  rw [hq, hq']
  clear hq hq'
  have hab := ab2 w (Obj.cells #[.int .i64 f.num, .string (bs f.name), .int .i64 f.type.kind, .int .i64 f.type.size, .string (bs f.type.name), .slice A q c, .bool f.opt] 47) (Obj.cells #[.int .i64 g.num, .string (bs g.name), .int .i64 g.type.kind, .int .i64 g.type.size, .string (bs g.type.name), .slice A' q' c', .bool g.opt] 47)
  by_cases h1 : f.num = g.num
  · have d1 : (f.num == g.num) = true := by simpa using h1
    by_cases h2 : f.name = g.name
    · have d2 := sq_eq h2
      by_cases h3 : f.opt = g.opt
      · have d3 : (f.opt == g.opt) = true := by simpa using h3
        have hT : TyV ((w.alloc (Obj.cells #[.int .i64 f.num, .string (bs f.name), .int .i64 f.type.kind, .int .i64 f.type.size, .string (bs f.type.name), .slice A q c, .bool f.opt] 47)).alloc (Obj.cells #[.int .i64 g.num, .string (bs g.name), .int .i64 g.type.kind, .int .i64 g.type.size, .string (bs g.type.name), .slice A' q' c', .bool g.opt] 47)) f.type (.agg #[.int .i64 f.type.kind, .int .i64 f.type.size, .string (bs f.type.name), .slice A q c]) := ⟨A, c, by rw [HQ.out], hR.next fun x p => TyA.next hab x p⟩
        have hT' : TyV ((w.alloc (Obj.cells #[.int .i64 f.num, .string (bs f.name), .int .i64 f.type.kind, .int .i64 f.type.size, .string (bs f.type.name), .slice A q c, .bool f.opt] 47)).alloc (Obj.cells #[.int .i64 g.num, .string (bs g.name), .int .i64 g.type.kind, .int .i64 g.type.size, .string (bs g.type.name), .slice A' q' c', .bool g.opt] 47)) g.type (.agg #[.int .i64 g.type.kind, .int .i64 g.type.size, .string (bs g.type.name), .slice A' q' c']) := ⟨A', c', by rw [HQ'.out], hR'.next fun x p => TyA.next hab x p⟩
        have cX := refSame_any (SizeOf.sizeOf f.type + 1) f.type g.type _ _ _ (Nat.lt_succ_self _) hl hl' hT hT'
        have he : eqF f g = eqT f.type g.type := by
          rw [Bool.eq_iff_iff, eqF_iff, eqT_iff]
          obtain ⟨a, b, d, t⟩ := f
          obtain ⟨a', b', d', t'⟩ := g
          have h1 : a = a' := h1
          have h2 : b = b' := h2
          have h3 : d = d' := h3
          subst h1 h2 h3
          exact ⟨fun h => (by injection h), fun h => (by have h : t = t' := h; rw [h])⟩
        rw [he]
        obtain ⟨r, hr⟩ : ∃ r, eqT f.type g.type = r := ⟨_, rfl⟩
        rw [hr] at cX ⊢
        clear hr he h1 h2 h3 hT hT' hR hR' hl hl'
        go_enter Tryz.func21, Tryz.ntmps21
        go_wp2_with fail
        refine cX.mono ?_
        rintro e w' ⟨rfl, hb⟩
        go_wp2_with fail
        go_ret
        exact ⟨rfl, Below.next hab hb⟩
      · have d3 : (f.opt == g.opt) = false := by simpa using h3
        rw [eqF_no (fun h => h3 (by rw [h]))]
        clear h1 h2 h3 hR hR' hl hl'
        go_enter Tryz.func21, Tryz.ntmps21
        go_wp2_with fail
        go_ret
        exact ⟨rfl, hab⟩
    · have d2 := sq_f h2
      rw [eqF_no (fun h => h2 (by rw [h]))]
      clear h1 h2 hR hR' hl hl'
      go_enter Tryz.func21, Tryz.ntmps21
      go_wp2_with fail
      go_ret
      exact ⟨rfl, hab⟩
  · have d1 : (f.num == g.num) = false := by simpa using h1
    rw [eqF_no (fun h => h1 (by rw [h]))]
    clear h1 hR hR' hl hl'
    go_enter Tryz.func21, Tryz.ntmps21
    go_wp2_with fail
    go_ret
    exact ⟨rfl, hab⟩
set_option maxRecDepth 100000 in
set_option maxHeartbeats 4000000 in
theorem refSameStruct_any (s t : St) (u v : Value) (w : World) (hn : s.fields.length ≤ 1000000) (hl : ∀ f ∈ s.fields, lok f.type) (hl' : ∀ f ∈ t.fields, lok f.type) (hu : StV w s u) (hv : StV w t v) :
    Calls Tryz.prog 17 #[u, v] w (Ib (.bool (eqS s t)) w) := by
  obtain ⟨A, c, rfl, hR⟩ := hu
  obtain ⟨A', c', rfl, hR'⟩ := hv
  obtain ⟨n, hnn⟩ : ∃ n, s.fields.length = n := ⟨_, rfl⟩
  obtain ⟨m, hmm⟩ : ∃ n, t.fields.length = n := ⟨_, rfl⟩
  have HN := Lib.hid hnn
  have HM := Lib.hid hmm
  rw [hnn] at hn ⊢
  rw [hmm]
  obtain ⟨r0, hr0⟩ : ∃ r, eqS s t = r := ⟨_, rfl⟩
  have HR0 := Lib.hid hr0
  rw [hr0]
  have hz : (w.alloc (Obj.cells #[.string (bs s.name), .slice A n c] 32)).heap.size = w.heap.size + 1 := by simp
  have hab := ab2 w (Obj.cells #[.string (bs s.name), .slice A n c] 32) (Obj.cells #[.string (bs t.name), .slice A' m c'] 32)
  have R1 := (Bx.new2 w 32 (.string (bs s.name)) (.slice A n c)).next (ab1 _ (Obj.cells #[.string (bs t.name), .slice A' m c'] 32))
  have R2 := Bx.new2 (w.alloc (Obj.cells #[.string (bs s.name), .slice A n c] 32)) 32 (.string (bs t.name)) (.slice A' m c')
  rw [hz] at R2
  clear hnn hmm hr0 hz
  by_cases h1 : s.name = t.name
  · have d1 := sn_eq h1
    have d0 := sq_eq h1
    replace h1 := Lib.hid h1
    by_cases h2 : n = m
    · subst h2
      have d2 : ((n : Int) != (n : Int)) = false := by simp
      have HI : Hid (∀ j (h : j < s.fields.length) (h' : j < t.fields.length), j < 0 → s.fields[j]'h = t.fields[j]'h') := Lib.hid fun _ _ _ h => by omega
      go_enter Tryz.func17, Tryz.ntmps17
      go_wp2_with fail
      clear d1 d2 d0
      go_loopw [5] (fun i wr => ∃ k : Nat, k ≤ n ∧ i = .int .i64 (k : Int) ∧ Hid (∀ j (h : j < s.fields.length) (h' : j < t.fields.length), j < k → s.fields[j]'h = t.fields[j]'h') ∧ Bx wr w.heap.size [.string (bs s.name), .slice A n c] ∧ Bx wr (w.heap.size + 1) [.string (bs t.name), .slice A' n c'] ∧ Below w.heap.size w wr) (fun i _ => n - (intOf i).toNat)
      case atStart => exact ⟨0, by omega, rfl, HI, R1, R2, hab⟩
      case round =>
        clear R1 R2 hab HI
        obtain ⟨k, hk, rfl, hI, R1, R2, hb⟩ := hrel
        have r1 := R1.c 1 rfl
        have r2 := R2.c 1 rfl
        have l1 := R2.lt
        by_cases hlt : k < n
        · have hks : k < s.fields.length := by rw [HN.out]; exact hlt
          have hkt : k < t.fields.length := by rw [HM.out]; exact hlt
          obtain ⟨a, rfl, hA⟩ := hR.get hks
          obtain ⟨a', rfl, hA'⟩ := hR'.get hkt
          obtain ⟨A5, c5, f0, f1, f2, f3, f4, f5, f6, hFV, -⟩ := (FdA.next hb hA).val
          obtain ⟨A6, c6, k0, k1, k2, k3, k4, k5, k6, hFV', -⟩ := (FdA.next hb hA').val
          have hlf := hl _ (List.getElem_mem hks)
          have hlg := hl' _ (List.getElem_mem hkt)
          have hno : s.fields[k]'hks ≠ t.fields[k]'hkt → s ≠ t := fun h e => h (by subst e; rfl)
          have hyes := fun (e : s.fields[k]'hks = t.fields[k]'hkt) => before_succ (p := fun j => ∀ (h : j < s.fields.length) (h' : j < t.fields.length), s.fields[j]'h = t.fields[j]'h') (k := k) (fun j hj h h' => hI.out j h h' hj) (fun _ _ => e)
          generalize s.fields[k]'hks = f at *
          generalize t.fields[k]'hkt = g at *
          have cX := fun W (hW : Below wr.heap.size wr W) => refSameField_any f g _ _ W hlf hlg (hFV.next hW) (hFV'.next hW)
          obtain ⟨r, hr⟩ : ∃ r, eqF f g = r := ⟨_, rfl⟩
          rw [hr] at cX
          have HRR := Lib.hid hr
          clear hr hFV hFV' hA hA' hlf hlg
          go_upto_region 6 with (fail)
          refine wp_region_on (by kernel_rfl) (FF [(2, Fact.at_ wr (.pointer (some ⟨w.heap.size, 0, none⟩))), (3, Fact.at_ wr (.pointer (some ⟨w.heap.size + 1, 0, none⟩))), (5, Fact.at_ wr (.int .i64 (k : Int))), (27, Fact.at_ wr (.pointer (some ⟨w.heap.size, 1, none⟩))), (28, Fact.at_ wr (.slice (some a) n c)), (29, Fact.at_ wr (.int .i64 (k : Int))), (30, Fact.at_ wr (.pointer (some (a.add (k * 7))))), (31, Fact.at_ wr (.agg #[.int .i64 f.num, .string (bs f.name), .int .i64 f.type.kind, .int .i64 f.type.size, .string (bs f.type.name), .slice A5 f.type.elem.length c5, .bool f.opt])), (32, Fact.at_ wr (.pointer (some ⟨w.heap.size + 1, 1, none⟩))), (33, Fact.at_ wr (.slice (some a') n c')), (34, Fact.at_ wr (.int .i64 (k : Int))), (35, Fact.at_ wr (.pointer (some (a'.add (k * 7))))), (36, Fact.at_ wr (.agg #[.int .i64 g.num, .string (bs g.name), .int .i64 g.type.kind, .int .i64 g.type.size, .string (bs g.type.name), .slice A6 g.type.elem.length c6, .bool g.opt])), (37, Fact.at_ wr (.bool r)), (38, Fact.at_ wr (.bool (!r)))]) [2, 3, 5] 39 [27, 28, 29, 30, 31, 32, 33, 34, 35, 36, 37, 38] rfl (by kernel_rfl) (by kernel_rfl) ?_ ?_ ?_
          · intro t9 ht9
            simp only [List.mem_cons, List.not_mem_nil, or_false] at ht9
            rcases ht9 with rfl | rfl | rfl
            · exact ⟨rfl, Below.refl _ _⟩
            · exact ⟨rfl, Below.refl _ _⟩
            · exact ⟨rfl, Below.refl _ _⟩
          · refine fcs ⟨at1 2 27 (.pointer (some ⟨w.heap.size, 0, none⟩)) (.pointer (some ⟨w.heap.size, 1, none⟩)) rfl (by first | exact .inl rfl | exact .inr ⟨_, _, _, rfl, rfl, by kernel_rfl, by decide, rfl⟩) (by kernel_rfl) rfl rfl (fun a9 W9 hb9 h9 => by simp [execOp, h9] <;> go_simp), ?_⟩
            refine fcs ⟨at1 27 28 (.pointer (some ⟨w.heap.size, 1, none⟩)) (.slice (some a) n c) rfl (by first | exact .inl rfl | exact .inr ⟨_, _, _, rfl, rfl, by kernel_rfl, by decide, rfl⟩) (by kernel_rfl) rfl rfl (fun a9 W9 hb9 h9 => by have g0 := cell_next hb9 r1; simp [execOp, h9] <;> go_simp), ?_⟩
            refine fcs ⟨atcopy 5 29 (.int .i64 (k : Int)) (.inl rfl) rfl (by first | exact .inl rfl | exact .inr ⟨_, _, _, rfl, rfl, by kernel_rfl, by decide, rfl⟩) (by kernel_rfl) rfl rfl, ?_⟩
            refine fcs ⟨at2 28 29 30 (.slice (some a) n c) (.int .i64 (k : Int)) (.pointer (some (a.add (k * 7)))) rfl (by first | exact .inl rfl | exact .inr ⟨_, _, _, rfl, rfl, by kernel_rfl, by decide, rfl⟩) (by kernel_rfl) (by kernel_rfl) rfl rfl rfl (fun a9 W9 hb9 h9 h8 => by simp [execOp, h9, h8] <;> go_simp), ?_⟩
            refine fcs ⟨at1 30 31 (.pointer (some (a.add (k * 7)))) (.agg #[.int .i64 f.num, .string (bs f.name), .int .i64 f.type.kind, .int .i64 f.type.size, .string (bs f.type.name), .slice A5 f.type.elem.length c5, .bool f.opt]) rfl (by first | exact .inl rfl | exact .inr ⟨_, _, _, rfl, rfl, by kernel_rfl, by decide, rfl⟩) (by kernel_rfl) rfl rfl (fun a9 W9 hb9 h9 => by have g0 := cell_next hb9 f0; have g1 := cell_next hb9 f1; have g2 := cell_next hb9 f2; have g3 := cell_next hb9 f3; have g4 := cell_next hb9 f4; have g5 := cell_next hb9 f5; have g6 := cell_next hb9 f6; simp [execOp, h9] <;> go_simp), ?_⟩
            refine fcs ⟨at1 3 32 (.pointer (some ⟨w.heap.size + 1, 0, none⟩)) (.pointer (some ⟨w.heap.size + 1, 1, none⟩)) rfl (by first | exact .inl rfl | exact .inr ⟨_, _, _, rfl, rfl, by kernel_rfl, by decide, rfl⟩) (by kernel_rfl) rfl rfl (fun a9 W9 hb9 h9 => by simp [execOp, h9] <;> go_simp), ?_⟩
            refine fcs ⟨at1 32 33 (.pointer (some ⟨w.heap.size + 1, 1, none⟩)) (.slice (some a') n c') rfl (by first | exact .inl rfl | exact .inr ⟨_, _, _, rfl, rfl, by kernel_rfl, by decide, rfl⟩) (by kernel_rfl) rfl rfl (fun a9 W9 hb9 h9 => by have g0 := cell_next hb9 r2; simp [execOp, h9] <;> go_simp), ?_⟩
            refine fcs ⟨atcopy 5 34 (.int .i64 (k : Int)) (.inl rfl) rfl (by first | exact .inl rfl | exact .inr ⟨_, _, _, rfl, rfl, by kernel_rfl, by decide, rfl⟩) (by kernel_rfl) rfl rfl, ?_⟩
            refine fcs ⟨at2 33 34 35 (.slice (some a') n c') (.int .i64 (k : Int)) (.pointer (some (a'.add (k * 7)))) rfl (by first | exact .inl rfl | exact .inr ⟨_, _, _, rfl, rfl, by kernel_rfl, by decide, rfl⟩) (by kernel_rfl) (by kernel_rfl) rfl rfl rfl (fun a9 W9 hb9 h9 h8 => by simp [execOp, h9, h8] <;> go_simp), ?_⟩
            refine fcs ⟨at1 35 36 (.pointer (some (a'.add (k * 7)))) (.agg #[.int .i64 g.num, .string (bs g.name), .int .i64 g.type.kind, .int .i64 g.type.size, .string (bs g.type.name), .slice A6 g.type.elem.length c6, .bool g.opt]) rfl (by first | exact .inl rfl | exact .inr ⟨_, _, _, rfl, rfl, by kernel_rfl, by decide, rfl⟩) (by kernel_rfl) rfl rfl (fun a9 W9 hb9 h9 => by have g0 := cell_next hb9 k0; have g1 := cell_next hb9 k1; have g2 := cell_next hb9 k2; have g3 := cell_next hb9 k3; have g4 := cell_next hb9 k4; have g5 := cell_next hb9 k5; have g6 := cell_next hb9 k6; simp [execOp, h9] <;> go_simp), ?_⟩
            refine fcs ⟨atc2 21 31 36 37 (.agg #[.int .i64 f.num, .string (bs f.name), .int .i64 f.type.kind, .int .i64 f.type.size, .string (bs f.type.name), .slice A5 f.type.elem.length c5, .bool f.opt]) (.agg #[.int .i64 g.num, .string (bs g.name), .int .i64 g.type.kind, .int .i64 g.type.size, .string (bs g.type.name), .slice A6 g.type.elem.length c6, .bool g.opt]) (.bool r) _ rfl rfl (by first | exact .inl rfl | exact .inr ⟨_, _, _, rfl, rfl, by kernel_rfl, by decide, rfl⟩) (by kernel_rfl) (by kernel_rfl) rfl rfl (by kernel_rfl) rfl (fun W9 hb9 => cX W9 hb9), ?_⟩
            refine fcs ⟨at1 37 38 (.bool r) (.bool (!r)) rfl (by first | exact .inl rfl | exact .inr ⟨_, _, _, rfl, rfl, by kernel_rfl, by decide, rfl⟩) (by kernel_rfl) rfl rfl (fun a9 W9 hb9 h9 => by simp [execOp, h9] <;> go_simp), ?_⟩
            exact fnl
          intro vv wv hvv hbv
          have hv38 : vv 38 = (.bool (!r)) := (hvv 38 (by decide)).1
          simp only [lay, List.foldl_cons, List.foldl_nil, List.setIfInBounds_toArray, List.set_cons_succ, List.set_cons_zero, hv38]
          have hb2 := Below.next hb hbv
          cases r
          · have E := Lib.hid (show false = r0 by rw [← HR0.out]; exact (eqS_no (hno (fun e => by rw [eqF_iff.2 e] at HRR; cases HRR.out))).symm)
            clear hvv cX
            go_wp2_with fail
            go_ret
            exact ⟨by rw [← E.out]; rfl, hb2⟩
          · have E := Lib.hid (hyes (eqF_iff.1 HRR.out))
            clear hvv cX
            go_wp2_with fail
            go_roundw
            case rel => exact ⟨k + 1, by omega, by go_num, Lib.hid (fun j h h' hj => E.out j hj h h'), R1.next hbv, R2.next hbv, hb2⟩
            case measure => simp [intOf]; omega
        · obtain rfl : k = n := by omega
          have E := Lib.hid (show true = r0 by
            rw [← HR0.out, eq_comm, eqS_iff]
            obtain ⟨nm, fs⟩ := s
            obtain ⟨nm', fs'⟩ := t
            have h1 : nm = nm' := h1.out
            subst h1
            congr 1
            exact List.ext_getElem (by rw [HN.out, HM.out]) fun j h h' => hI.out j h h' (by rw [← HN.out]; exact h))
          clear hI
          go_wp2_with fail
          go_ret
          exact ⟨by rw [← E.out]; rfl, hb⟩
    · have d2 : ((n : Int) != (m : Int)) = true := by rw [bne_iff_ne]; omega
      obtain rfl : false = r0 := by rw [← HR0.out]; exact (eqS_no (fun h => h2 (by rw [← HN.out, ← HM.out, h]))).symm
      go_enter Tryz.func17, Tryz.ntmps17
      go_wp2_with fail
      go_ret
      exact ⟨rfl, hab⟩
  · have d1 := sn_f h1
    have d0 := sq_f h1
    obtain rfl : false = r0 := by rw [← HR0.out]; exact (eqS_no (fun h => h1 (by rw [h]))).symm
    go_enter Tryz.func17, Tryz.ntmps17
    go_wp2_with fail
    go_ret
    exact ⟨rfl, hab⟩
set_option maxRecDepth 100000 in
set_option maxHeartbeats 4000000 in
theorem refSameEnum_any (s t : En) (u v : Value) (w : World) (hn : s.names.length ≤ 1000000) (hn2 : s.nums.length ≤ 1000000) (hu : EnV w s u) (hv : EnV w t v) :
    Calls Tryz.prog 18 #[u, v] w (Ib (.bool (eqE s t)) w) := by
  obtain ⟨A, c, B, d, rfl, hR, hI_⟩ := hu
  obtain ⟨A', c', B', d', rfl, hR', hI'_⟩ := hv
  obtain ⟨n, hnn⟩ : ∃ n, s.names.length = n := ⟨_, rfl⟩
  obtain ⟨m, hmm⟩ : ∃ n, t.names.length = n := ⟨_, rfl⟩
  obtain ⟨x, hxx⟩ : ∃ n, s.nums.length = n := ⟨_, rfl⟩
  obtain ⟨y, hyy⟩ : ∃ n, t.nums.length = n := ⟨_, rfl⟩
  have HN := Lib.hid hnn
  have HM := Lib.hid hmm
  have HX := Lib.hid hxx
  have HY := Lib.hid hyy
  rw [hnn] at hn ⊢
  rw [hxx] at hn2 ⊢
  rw [hmm, hyy]
  obtain ⟨r0, hr0⟩ : ∃ r, eqE s t = r := ⟨_, rfl⟩
  have HR0 := Lib.hid hr0
  rw [hr0]
  have hz : (w.alloc (Obj.cells #[.string (bs s.name), .slice A n c, .slice B x d] 38)).heap.size = w.heap.size + 1 := by simp
  have hab := ab2 w (Obj.cells #[.string (bs s.name), .slice A n c, .slice B x d] 38) (Obj.cells #[.string (bs t.name), .slice A' m c', .slice B' y d'] 38)
  have R1 := (Bx.new3 w 38 (.string (bs s.name)) (.slice A n c) (.slice B x d)).next (ab1 _ (Obj.cells #[.string (bs t.name), .slice A' m c', .slice B' y d'] 38))
  have R2 := Bx.new3 (w.alloc (Obj.cells #[.string (bs s.name), .slice A n c, .slice B x d] 38)) 38 (.string (bs t.name)) (.slice A' m c') (.slice B' y d')
  rw [hz] at R2
  clear hnn hmm hxx hyy hr0 hz
  by_cases h1 : s.name = t.name
  · have d1 := sn_eq h1
    have d0 := sq_eq h1
    replace h1 := Lib.hid h1
    by_cases h2 : n = m
    · subst h2
      have d2 : ((n : Int) != (n : Int)) = false := by simp
      by_cases h3 : x = y
      · subst h3
        have d3 : ((x : Int) != (x : Int)) = false := by simp
        have HI : Hid (∀ j (h : j < s.names.length) (h' : j < t.names.length), j < 0 → s.names[j]'h = t.names[j]'h') := Lib.hid fun _ _ _ h => by omega
        go_enter Tryz.func18, Tryz.ntmps18
        go_wp2_with fail
        clear d1 d2 d3 d0
        go_loopw [5] (fun i wr => ∃ k : Nat, k ≤ n ∧ i = .int .i64 (k : Int) ∧ Hid (∀ j (h : j < s.names.length) (h' : j < t.names.length), j < k → s.names[j]'h = t.names[j]'h') ∧ Bx wr w.heap.size [.string (bs s.name), .slice A n c, .slice B x d] ∧ Bx wr (w.heap.size + 1) [.string (bs t.name), .slice A' n c', .slice B' x d'] ∧ Below w.heap.size w wr) (fun i _ => n - (intOf i).toNat)
        case atStart => exact ⟨0, by omega, rfl, HI, R1, R2, hab⟩
        case round =>
          clear R1 R2 hab HI
          obtain ⟨k, hk, rfl, hI, R1, R2, hb⟩ := hrel
          have r1 := R1.c 1 rfl
          have r2 := R2.c 1 rfl
          have l1 := R2.lt
          by_cases hlt : k < n
          · have hks : k < s.names.length := by rw [HN.out]; exact hlt
            have hkt : k < t.names.length := by rw [HM.out]; exact hlt
            obtain ⟨a, rfl, hA⟩ := hR.get hks
            obtain ⟨a', rfl, hA'⟩ := hR'.get hkt
            rw [Nat.mul_one] at hA hA'
            have f0 : wr.cell? (a.add k) = some (.string (bs (s.names[k]'hks))) := cell_next hb hA
            have f1 : wr.cell? (a'.add k) = some (.string (bs (t.names[k]'hkt))) := cell_next hb hA'
            have hno : s.names[k]'hks ≠ t.names[k]'hkt → s ≠ t := fun h e => h (by subst e; rfl)
            have hyes := fun (e : s.names[k]'hks = t.names[k]'hkt) => before_succ (p := fun j => ∀ (h : j < s.names.length) (h' : j < t.names.length), s.names[j]'h = t.names[j]'h') (k := k) (fun j hj h h' => hI.out j h h' hj) (fun _ _ => e)
            generalize s.names[k]'hks = f at *
            generalize t.names[k]'hkt = g at *
            clear hA hA'
            by_cases e : f = g
            · have E := Lib.hid (hyes e)
              have q1 := sn_eq e
              have q2 := sq_eq e
              clear hno hyes hI e
              go_wp2_with fail
              go_quiet (fail)
              go_wp2_with fail
              go_roundw
              case rel => exact ⟨k + 1, by omega, by go_num, Lib.hid (fun j h h' hj => E.out j hj h h'), R1.next (below_drewN (Below.refl _ _) _), R2.next (below_drewN (Below.refl _ _) _), below_drewN hb _⟩
              case measure => simp [intOf]; omega
            · have E := Lib.hid (show false = r0 by rw [← HR0.out]; exact (eqE_no (hno e)).symm)
              have q1 := sn_f e
              have q2 := sq_f e
              clear hno hyes hI e
              go_wp2_with fail
              go_quiet (fail)
              go_wp2_with fail
              go_ret
              exact ⟨by rw [← E.out]; rfl, below_drewN hb _⟩
          · obtain rfl : k = n := by omega
            have HNM := Lib.hid (show s.names = t.names from List.ext_getElem (by rw [HN.out, HM.out]) fun j h h' => hI.out j h h' (by rw [← HN.out]; exact h))
            have HI : Hid (∀ j (h : j < s.nums.length) (h' : j < t.nums.length), j < 0 → s.nums[j]'h = t.nums[j]'h') := Lib.hid fun _ _ _ h => by omega
            clear hI hlt
            go_wp2_with fail
            clear r1 r2 l1
            rename World => wo
            go_loopw [6] (fun i wr => ∃ k2 : Nat, k2 ≤ x ∧ i = .int .i64 (k2 : Int) ∧ Hid (∀ j (h : j < s.nums.length) (h' : j < t.nums.length), j < k2 → s.nums[j]'h = t.nums[j]'h') ∧ Bx wr w.heap.size [.string (bs s.name), .slice A k c, .slice B x d] ∧ Bx wr (w.heap.size + 1) [.string (bs t.name), .slice A' k c', .slice B' x d'] ∧ Below w.heap.size w wr) (fun i _ => x - (intOf i).toNat)
            case atStart => exact ⟨0, by omega, rfl, HI, R1, R2, hb⟩
            case round =>
              clear R1 R2 hb HI
              obtain ⟨k2, hk2, rfl, hI, R1, R2, hb⟩ := hrel
              have r1 := R1.c 2 rfl
              have r2 := R2.c 2 rfl
              have l1 := R2.lt
              by_cases hlt : k2 < x
              · have hks : k2 < s.nums.length := by rw [HX.out]; exact hlt
                have hkt : k2 < t.nums.length := by rw [HY.out]; exact hlt
                obtain ⟨a, rfl, hA⟩ := hI_.get hks
                obtain ⟨a', rfl, hA'⟩ := hI'_.get hkt
                rw [Nat.mul_one] at hA hA'
                have f0 : wr.cell? (a.add k2) = some (.int .i64 (s.nums[k2]'hks)) := cell_next hb hA
                have f1 : wr.cell? (a'.add k2) = some (.int .i64 (t.nums[k2]'hkt)) := cell_next hb hA'
                have hno : s.nums[k2]'hks ≠ t.nums[k2]'hkt → s ≠ t := fun h e => h (by subst e; rfl)
                have hyes := fun (e : s.nums[k2]'hks = t.nums[k2]'hkt) => before_succ (p := fun j => ∀ (h : j < s.nums.length) (h' : j < t.nums.length), s.nums[j]'h = t.nums[j]'h') (k := k2) (fun j hj h h' => hI.out j h h' hj) (fun _ _ => e)
                generalize s.nums[k2]'hks = f at *
                generalize t.nums[k2]'hkt = g at *
                clear hA hA'
                by_cases e : f = g
                · have E := Lib.hid (hyes e)
                  have q1 : (f != g) = false := by rw [e]; simp
                  have q2 : (f == g) = true := by rw [e]; simp
                  clear hno hyes hI e
                  go_wp2_with fail
                  go_quiet (fail)
                  go_wp2_with fail
                  go_roundw
                  case rel => exact ⟨k2 + 1, by omega, by go_num, Lib.hid (fun j h h' hj => E.out j hj h h'), R1.next (below_drewN (Below.refl _ _) _), R2.next (below_drewN (Below.refl _ _) _), below_drewN hb _⟩
                  case measure => simp [intOf]; omega
                · have E := Lib.hid (show false = r0 by rw [← HR0.out]; exact (eqE_no (hno e)).symm)
                  have q1 : (f != g) = true := by rw [bne_iff_ne]; exact e
                  have q2 : (f == g) = false := by rw [beq_eq_false_iff_ne]; exact e
                  clear hno hyes hI e
                  go_wp2_with fail
                  go_quiet (fail)
                  go_wp2_with fail
                  go_ret
                  exact ⟨by rw [← E.out]; rfl, below_drewN hb _⟩
              · obtain rfl : k2 = x := by omega
                have E := Lib.hid (show true = r0 by
                  rw [← HR0.out, eq_comm, eqE_iff]
                  have h5 : s.nums = t.nums := List.ext_getElem (by rw [HX.out, HY.out]) fun j h h' => hI.out j h h' (by rw [← HX.out]; exact h)
                  have h6 := HNM.out
                  obtain ⟨nm, ns, is⟩ := s
                  obtain ⟨nm', ns', is'⟩ := t
                  have h1 : nm = nm' := h1.out
                  have h5 : is = is' := h5
                  have h6 : ns = ns' := h6
                  rw [h1, h5, h6])
                clear hI
                go_wp2_with fail
                go_ret
                exact ⟨by rw [← E.out]; rfl, hb⟩
      · have d3 : ((x : Int) != (y : Int)) = true := by rw [bne_iff_ne]; omega
        obtain rfl : false = r0 := by rw [← HR0.out]; exact (eqE_no (fun h => h3 (by rw [← HX.out, ← HY.out, h]))).symm
        go_enter Tryz.func18, Tryz.ntmps18
        go_wp2_with fail
        go_ret
        exact ⟨rfl, hab⟩
    · have d2 : ((n : Int) != (m : Int)) = true := by rw [bne_iff_ne]; omega
      obtain rfl : false = r0 := by rw [← HR0.out]; exact (eqE_no (fun h => h2 (by rw [← HN.out, ← HM.out, h]))).symm
      go_enter Tryz.func18, Tryz.ntmps18
      go_wp2_with fail
      go_ret
      exact ⟨rfl, hab⟩
  · have d1 := sn_f h1
    have d0 := sq_f h1
    obtain rfl : false = r0 := by rw [← HR0.out]; exact (eqE_no (fun h => h1 (by rw [h]))).symm
    go_enter Tryz.func18, Tryz.ntmps18
    go_wp2_with fail
    go_ret
    exact ⟨rfl, hab⟩
end Go.Proofs.YthbhbpcjcnkkkaaGreatDoor

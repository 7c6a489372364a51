/-
  The reference's Check. No conditions beyond those that each names.
-/
import Derived.Test.YthbhbpcjcnkkkaaGreatDoorK18
import Derived.Test.YthbhbpcjcnkkkaaGreatDoorK17
import Derived.Test.YthbhbpcjcnkkkaaGreatDoorK16
import Derived.Test.YthbhbpcjcnkkkaaGreatDoorK12
import Derived.Test.YthbhbpcjcnkkkaaGreatDoorK08
import Derived.Test.YthbhbpcjcnkkkaaGreatDoorK14
namespace Go.Proofs.YthbhbpcjcnkkkaaGreatDoor
open Go.RowKit Go.Maps
theorem deep_no {S : Sch} {rk : List UInt8 → Nat} (hn : (sns S).Nodup) (hP : Dpt S rk) (h : ∀ k, k < S.structs.length → GI S k ≤ 6) : ¬ deep S := by
  rw [deep_iff hn hP]
  rintro ⟨k, hk, h6⟩
  have := h k hk
  omega
theorem deep_yes {S : Sch} {rk : List UInt8 → Nat} (hn : (sns S).Nodup) (hP : Dpt S rk) {k : Nat} (hk : k < S.structs.length) (h : 6 < GI S k) : deep S := (deep_iff hn hP).2 ⟨k, hk, h⟩
theorem nsR_cyc {S : Sch} (h : cyc S) : nsR S = 19 := by unfold nsR; rw [if_pos h]
set_option maxRecDepth 100000 in
set_option maxHeartbeats 8000000 in
theorem refCheck_any (S : Sch) (hB : FewB S) (v : Value) (w : World) (hv : ScV w S v) :
    Calls Tryz.prog 12 #[v] w (Ib (.int .i64 (chk S : Int)) w) := by
  have hv0 := hv
  obtain ⟨A, c, A2, c2, rfl, hS⟩ := hv
  have hSs := hS.st
  clear hS
  obtain ⟨n, hn⟩ : ∃ n, S.enums.length = n := ⟨_, rfl⟩
  obtain ⟨m, hm⟩ : ∃ m, S.structs.length = m := ⟨_, rfl⟩
  have HN := Lib.hid hn
  have HM := Lib.hid hm
  have hn18 := hB.ne
  have hm18 := hB.ns
  rw [hn] at hn18
  rw [hm] at hm18
  obtain ⟨r, hr⟩ := exB (longS S)
  rw [hn, hm] at hv0 ⊢
  have hv1 := hv0.next (ab1 w (Obj.cells #[.int .i64 S.ver, .slice A n c, .slice A2 m c2] 25))
  have cL := refLong_any S _ _ r hr (by rw [HN.out]; omega) (by rw [HM.out]; omega) hv1
  have B1 := Bx.new3 w 25 (.int .i64 S.ver) (.slice A n c) (.slice A2 m c2)
  have hab := ab1 w (Obj.cells #[.int .i64 S.ver, .slice A n c, .slice A2 m c2] 25)
  by_cases h1 : S.ver < 1
  · have hc2 : (4 : Int) = (chk S : Int) := by rw [chk_ver (.inl h1)]; rfl
    clear cL hr
    go_enter Tryz.func12, Tryz.ntmps12
    go_wp2_with fail
    go_ret
    exact ⟨by rw [← hc2]; rfl, hab⟩
  by_cases h2 : 999 < S.ver
  · have hc2 : (4 : Int) = (chk S : Int) := by rw [chk_ver (.inr h2)]; rfl
    clear cL hr
    go_enter Tryz.func12, Tryz.ntmps12
    go_wp2_with fail
    go_ret
    exact ⟨by rw [← hc2]; rfl, hab⟩
  have h12 : ¬ (S.ver < 1 ∨ 999 < S.ver) := by omega
  go_enter Tryz.func12, Tryz.ntmps12
  go_wp2_with fail
  refine cL.mono ?_
  rintro e w1 ⟨rfl, hb1⟩
  have hab1 := Below.next hab hb1
  have R0 := B1.next hb1
  cases r
  case true =>
    have hc2 : (3 : Int) = (chk S : Int) := by rw [chk_long h12 (hr.1 rfl)]; rfl
    clear cL hr
    go_wp2_with fail
    go_ret
    exact ⟨by rw [← hc2]; rfl, hab1⟩
  have hnl : ¬ longS S := fun h => by have := hr.2 h; cases this
  have HZ : Hid (∀ j, j < 0 → enE S j = 0) := Lib.hid fun _ h => by omega
  clear cL hr hn hm hab hb1 B1 hv1
  go_wp2_with fail
  go_loopw [3] (fun i_ wr => ∃ k : Nat, k ≤ n ∧ i_ = .int .i64 (k : Int) ∧ Hid (∀ j, j < k → enE S j = 0) ∧ Bx wr w.heap.size [.int .i64 S.ver, .slice A n c, .slice A2 m c2] ∧ Below w.heap.size w wr) (fun i_ _ => n - (intOf i_).toNat)
  case atStart => exact ⟨0, by omega, rfl, HZ, R0, hab1⟩
  case round =>
    clear HZ R0 hab1
    obtain ⟨k, hk, rfl, HZ, R1, hb⟩ := hrel
    have s0 := R1.c 0 rfl
    have s1 := R1.c 1 rfl
    have s2 := R1.c 2 rfl
    have l1 := R1.lt
    by_cases hlt : k < n
    · have hkm : k < S.enums.length := by rw [HN.out]; exact hlt
      obtain ⟨q1, q2, q3, q4⟩ := hB.en _ (List.getElem_mem hkm)
      have cC := refEnumC_any S k hkm (by rw [HN.out]; omega) _ wr (hv0.next hb) q1 q2 q3 q4
      obtain ⟨r, hr⟩ : ∃ r, enE S k = r := ⟨_, rfl⟩
      rw [hr] at cC
      have HR := Lib.hid hr
      clear hr q1 q2 q3 q4
      go_wp2_with fail
      refine cC.mono ?_
      rintro e w4 ⟨rfl, hb4⟩
      have R2 := R1.next hb4
      have hb5 := Below.next hb hb4
      clear cC s0 s1 s2 l1
      by_cases h0 : r = 0
      · subst h0
        have HZ2 := Lib.hid (before_succ HZ.out HR.out)
        go_wp2_with fail
        go_roundw
        case rel => exact ⟨k + 1, by omega, by go_num, HZ2, R2, hb5⟩
        case measure => simp [intOf]; omega
      · have HC := Lib.hid (chk_en h12 hnl (by rw [HN.out]; exact hlt) HZ.out HR.out h0)
        have d1 : ((r : Int) != 0) = true := by simp; omega
        have d2 : ((r : Int) == 0) = false := by simp; omega
        go_wp2_with fail
        go_ret
        exact ⟨by rw [HC.out]; rfl, hb5⟩
    · obtain rfl : k = n := by omega
      have HEN := Lib.hid (show ∀ j, j < S.enums.length → enE S j = 0 by rw [HN.out]; exact HZ.out)
      have HZ3 : Hid (∀ j, j < 0 → stE S j = 0) := Lib.hid fun _ h => by omega
      clear HZ
      go_wp2_with fail
      clear s0 s1 s2 l1
      rename World => wo
      go_loopw [5] (fun i_ wr => ∃ k_ : Nat, k_ ≤ m ∧ i_ = .int .i64 (k_ : Int) ∧ Hid (∀ j, j < k_ → stE S j = 0) ∧ Bx wr w.heap.size [.int .i64 S.ver, .slice A k c, .slice A2 m c2] ∧ Below w.heap.size w wr) (fun i_ _ => m - (intOf i_).toNat)
      case atStart => exact ⟨0, by omega, rfl, HZ3, R1, hb⟩
      case round =>
        clear HZ3 R1 hb
        obtain ⟨y, hy, rfl, HZ, R1, hb⟩ := hrel
        have s0 := R1.c 0 rfl
        have s1 := R1.c 1 rfl
        have s2 := R1.c 2 rfl
        have l1 := R1.lt
        by_cases hlt : y < m
        · have hkm : y < S.structs.length := by rw [HM.out]; exact hlt
          obtain ⟨q1, q2, q3⟩ := hB.st _ (List.getElem_mem hkm)
          have cC := refStructure_any S y hkm (by rw [HN.out]; omega) (by rw [HM.out]; omega) _ wr (hv0.next hb) q1 q2 (fun f hf => ⟨(q3 f hf).1, (q3 f hf).2.2.1⟩)
          obtain ⟨r, hr⟩ : ∃ r, stE S y = r := ⟨_, rfl⟩
          rw [hr] at cC
          have HR := Lib.hid hr
          clear hr q1 q2 q3
          go_wp2_with fail
          refine cC.mono ?_
          rintro e w4 ⟨rfl, hb4⟩
          have R2 := R1.next hb4
          have hb5 := Below.next hb hb4
          clear cC s0 s1 s2 l1
          by_cases h0 : r = 0
          · subst h0
            have HZ2 := Lib.hid (before_succ HZ.out HR.out)
            go_wp2_with fail
            go_roundw
            case rel => exact ⟨y + 1, by omega, by go_num, HZ2, R2, hb5⟩
            case measure => simp [intOf]; omega
          · have HC := Lib.hid (chk_st h12 hnl HEN.out (by rw [HM.out]; exact hlt) HZ.out HR.out h0)
            have d1 : ((r : Int) != 0) = true := by simp; omega
            have d2 : ((r : Int) == 0) = false := by simp; omega
            go_wp2_with fail
            go_ret
            exact ⟨by rw [HC.out]; rfl, hb5⟩
        · obtain rfl : y = m := by omega
          have hPt : Parts S := ⟨HEN.out, by rw [HM.out]; exact HZ.out⟩
          have hO := hPt.okk hB
          have hCN := chk_ns h12 hnl hPt
          have H0 : Hid (∀ t ∈ S.structs.take 0, ¬ Reach (nx S) t.name t.name) := Lib.hid fun t h => by cases h
          clear HZ HEN
          go_wp2_with fail
          clear s0 s1 s2 l1
          rename World => wq
          go_loopw [7] (fun i_ wr => ∃ k_ : Nat, k_ ≤ y ∧ i_ = .int .i64 (k_ : Int) ∧ Hid (∀ t ∈ S.structs.take k_, ¬ Reach (nx S) t.name t.name) ∧ Bx wr w.heap.size [.int .i64 S.ver, .slice A k c, .slice A2 y c2] ∧ Below w.heap.size w wr) (fun i_ _ => y - (intOf i_).toNat)
          case atStart => exact ⟨0, by omega, rfl, H0, R1, hb⟩
          case round =>
            clear H0 R1 hb
            obtain ⟨z, hz, rfl, HZ, R1, hb⟩ := hrel
            have s0 := R1.c 0 rfl
            have s1 := R1.c 1 rfl
            have s2 := R1.c 2 rfl
            have l1 := R1.lt
            by_cases hlt : z < y
            · have hkm : z < S.structs.length := by rw [HM.out]; exact hlt
              obtain ⟨a2, rfl, hA⟩ := hSs.get hkm
              have x0 := cell_next hb hA.1
              have hblk : (a2.add (z * 2)).block < wr.heap.size := blk_lt x0
              have hts := List.getElem_mem hkm
              have hTM := fun (h : ¬ Reach (nx S) (S.structs[z]'hkm).name (S.structs[z]'hkm).name) => take_all (P := fun t => ¬ Reach (nx S) t.name t.name) hkm HZ.out h
              generalize S.structs[z]'hkm = t at *
              obtain ⟨x, hx⟩ : ∃ x, t.name = x := ⟨_, rfl⟩
              rw [hx] at x0 hTM
              have hUx := fun W (hW : Below wr.heap.size wr W) => refUsed_any S (univ S) (fun x y h => nx_sub hO h) (Nat.le_trans (univ_len hO) (by decide)) hO.rt (fun t ht => Nat.le_trans (hO.fw t ht) (by decide)) (by rw [HM.out]; omega) x _ W (hv0.next (Below.next hb hW))
              have cU : ∀ W, Below wr.heap.size wr W → Calls Tryz.prog 42 #[.agg #[.int .i64 S.ver, .slice A k c, .slice (some a2) y c2], .string (bs x)] W (UsP S x W) := fun W hW => hUx W hW
              have HCY : Reach (nx S) x x → cyc S := fun h => ⟨t, hts, by rw [hx]; exact h⟩
              clear hA hx hUx hts
              go_upto_region 20 with (fail)
              refine wp_region_on (by kernel_rfl) (FF [(1, Fact.at_ wr (.pointer (some ⟨w.heap.size, 0, none⟩))), (7, Fact.at_ wr (.int .i64 (z : Int))), (54, Fact.at_ wr (.agg #[.int .i64 S.ver, .slice A k c, .slice (some a2) y c2])), (55, Fact.at_ wr (.pointer (some ⟨w.heap.size, 2, none⟩))), (56, Fact.at_ wr (.slice (some a2) y c2)), (57, Fact.at_ wr (.int .i64 (z : Int))), (58, Fact.at_ wr (.pointer (some (a2.add (z * 2))))), (59, Fact.at_ wr (.pointer (some (a2.add (z * 2))))), (60, Fact.at_ wr (.string (bs x))), (61, FUs S x wr), (8, FUs S x wr)]) [1, 7] 85 [54, 55, 56, 57, 58, 59, 60, 61, 8] rfl (by kernel_rfl) (by kernel_rfl) ?_ ?_ ?_
              · intro t9 ht9
                simp only [List.mem_cons, List.not_mem_nil, or_false] at ht9
                rcases ht9 with rfl | rfl
                · exact ⟨rfl, Below.refl _ _⟩
                · exact ⟨rfl, Below.refl _ _⟩
              · refine fcs ⟨at1 1 54 (.pointer (some ⟨w.heap.size, 0, none⟩)) (.agg #[.int .i64 S.ver, .slice A k c, .slice (some a2) y c2]) rfl (by first | exact .inl rfl | exact .inr ⟨_, _, _, rfl, rfl, by kernel_rfl, by decide, rfl⟩) (by kernel_rfl) rfl rfl (fun a9 W9 hb9 h9 => by have g0 := cell_next hb9 s0; have g1 := cell_next hb9 s1; have g2 := cell_next hb9 s2; simp [execOp, h9] <;> go_simp), ?_⟩
                refine fcs ⟨at1 1 55 (.pointer (some ⟨w.heap.size, 0, none⟩)) (.pointer (some ⟨w.heap.size, 2, none⟩)) rfl (by first | exact .inl rfl | exact .inr ⟨_, _, _, rfl, rfl, by kernel_rfl, by decide, rfl⟩) (by kernel_rfl) rfl rfl (fun a9 W9 hb9 h9 => by simp [execOp, h9] <;> go_simp), ?_⟩
                refine fcs ⟨at1 55 56 (.pointer (some ⟨w.heap.size, 2, none⟩)) (.slice (some a2) y c2) rfl (by first | exact .inl rfl | exact .inr ⟨_, _, _, rfl, rfl, by kernel_rfl, by decide, rfl⟩) (by kernel_rfl) rfl rfl (fun a9 W9 hb9 h9 => by have g2 := cell_next hb9 s2; simp [execOp, h9] <;> go_simp), ?_⟩
                refine fcs ⟨atcopy 7 57 (.int .i64 (z : Int)) (.inl rfl) rfl (by first | exact .inl rfl | exact .inr ⟨_, _, _, rfl, rfl, by kernel_rfl, by decide, rfl⟩) (by kernel_rfl) rfl rfl, ?_⟩
                refine fcs ⟨at2 56 57 58 (.slice (some a2) y c2) (.int .i64 (z : Int)) (.pointer (some (a2.add (z * 2)))) rfl (by first | exact .inl rfl | exact .inr ⟨_, _, _, rfl, rfl, by kernel_rfl, by decide, rfl⟩) (by kernel_rfl) (by kernel_rfl) rfl rfl rfl (fun a9 W9 hb9 h9 h8 => by simp [execOp, h9, h8] <;> go_simp), ?_⟩
                refine fcs ⟨at1 58 59 (.pointer (some (a2.add (z * 2)))) (.pointer (some (a2.add (z * 2)))) rfl (by first | exact .inl rfl | exact .inr ⟨_, _, _, rfl, rfl, by kernel_rfl, by decide, rfl⟩) (by kernel_rfl) rfl rfl (fun a9 W9 hb9 h9 => by have g0 := cell_next hb9 x0; simp [execOp, h9] <;> go_simp), ?_⟩
                refine fcs ⟨at1 59 60 (.pointer (some (a2.add (z * 2)))) (.string (bs x)) rfl (by first | exact .inl rfl | exact .inr ⟨_, _, _, rfl, rfl, by kernel_rfl, by decide, rfl⟩) (by kernel_rfl) rfl rfl (fun a9 W9 hb9 h9 => by have g0 := cell_next hb9 x0; simp [execOp, h9] <;> go_simp), ?_⟩
                refine fcs ⟨at_enter (W0 := wr) (by first | exact .inl rfl | exact .inr ⟨_, _, _, rfl, rfl, by kernel_rfl, by decide, rfl⟩) (fun a9 W9 hf9 => by have h1 := hf9 54 (by kernel_rfl); have h2 := hf9 60 (by kernel_rfl); have h1' : a9.tmps.getD 54 undef = (.agg #[.int .i64 S.ver, .slice A k c, .slice (some a2) y c2]) := h1.1; have h2' : a9.tmps.getD 60 undef = (.string (bs x)) := h2.1; exact ⟨42, #[(.agg #[.int .i64 S.ver, .slice A k c, .slice (some a2) y c2]), (.string (bs x))], by rw [← h1', ← h2']; simpa [execOp, resolve, Act.eval] using run_invoke (by kernel_rfl) _ W9, (cU W9 h1.2).mono fun e w' ⟨v, l, e1, e2, e3, e4⟩ => ⟨v, e1, e4, fun s hs => by injection hs with hs; subst hs; exact ⟨l, e2, e3, upG h1.2 e4⟩⟩⟩), ?_⟩
                refine fcs ⟨ob_copy 61 8 (.inr rfl) rfl (.inl rfl) (by kernel_rfl) rfl, ?_⟩
                exact fnl
              intro vv wv hvv hbv
              simp only [lay, List.foldl_cons, List.foldl_nil, List.setIfInBounds_toArray, List.set_cons_succ, List.set_cons_zero]
              obtain ⟨l, hU, hNm, hbl⟩ := hvv 8 (by decide)
              generalize vv 8 = v8 at *
              have hb2 := Below.next hb hbv
              have R2 := R1.next hbv
              have t2 := R2.c 2 rfl
              have lt2 := R2.lt
              have y0 := cell_next hbv x0
              have hblk2 : (a2.add (z * 2)).block < wv.heap.size := blk_lt y0
              have hll : l.length ≤ 1000000 := Us.short hO hU
              have cI := refIn_any l l.length x v8 wv hll hNm
              rw [List.take_length] at cI
              obtain ⟨Av, cv, rfl, -⟩ := hNm
              clear hvv cU s0 s1 s2 x0 hblk R1
              cases hc : l.contains x
              · rw [hc] at cI
                have HT := Lib.hid (hTM (fun h => by have := (hU.2 x).2 h; rw [List.contains_eq_mem] at hc; simp [this] at hc))
                clear hc hTM HCY
                go_wp2_with fail
                refine cI.mono ?_
                rintro e w7 ⟨rfl, rfl⟩
                go_wp2_with fail
                go_roundw
                case rel => exact ⟨z + 1, by omega, by go_num, HT, R2, hb2⟩
                case measure => simp [intOf]; omega
              · rw [hc] at cI
                have HC := Lib.hid (hCN.trans (nsR_cyc (HCY ((hU.2 x).1 (by rw [List.contains_eq_mem] at hc; simpa using hc)))))
                clear hc hTM HCY
                go_wp2_with fail
                refine cI.mono ?_
                rintro e w7 ⟨rfl, rfl⟩
                go_wp2_with fail
                go_ret
                exact ⟨by rw [HC.out]; rfl, hb2⟩
            · obtain rfl : z = y := by omega
              have hnc : ¬ cyc S := by
                rintro ⟨t, ht, h⟩
                exact HZ.out t (by rw [List.take_of_length_le (by rw [HM.out]; exact Nat.le_refl _)]; exact ht) h
              have hDp := dpt_of hO.nd hB hnc
              have cD := refDepths_any S hB hO.nd hnc _ wr (hv0.next hb)
              have H0 : Hid (∀ j, j < 0 → GI S j ≤ 6) := Lib.hid fun _ h => by omega
              clear HZ
              go_wp2_with fail
              refine cD.mono ?_
              rintro e w7 ⟨vd, dl, rfl, hdl, hdG, hDs, hb7⟩
              have hb8 := Below.next hb hb7
              obtain ⟨Ad, cd, rfl, hDc⟩ := hDs
              rw [hdl, HM.out]
              clear cD s0 s1 s2 l1 R1
              go_wp2_with fail
              go_loopw [10] (fun i_ wr => ∃ k_ : Nat, k_ ≤ z ∧ i_ = .int .i64 (k_ : Int) ∧ Hid (∀ j, j < k_ → GI S j ≤ 6) ∧ Below w7.heap.size w7 wr) (fun i_ _ => z - (intOf i_).toNat)
              case atStart => exact ⟨0, by omega, rfl, H0, Below.refl _ _⟩
              case round =>
                clear H0
                obtain ⟨u, hu, rfl, HZ, hb9⟩ := hrel
                have hbF := Below.next hb8 hb9
                by_cases hlt : u < z
                · have hum : u < S.structs.length := by rw [HM.out]; exact hlt
                  obtain ⟨ad, rfl, hdc⟩ := hDc u (by rw [hdl]; exact hum)
                  have d0 := cell_next hb9 hdc
                  have hG := hdG u hum
                  obtain ⟨g, hg⟩ : ∃ g, dl.getD u 0 = g := ⟨_, rfl⟩
                  rw [hg] at d0 hG
                  clear hdc hg
                  by_cases h6 : 6 < g
                  · have HC := Lib.hid (show chk S = 9 by rw [hCN]; exact (nsR_no hnc).1 (deep_yes hO.nd hDp hum (by rw [← hG]; exact h6)))
                    have d6 : decide ((6 : Int) < (g : Int)) = true := by rw [decide_eq_true_eq]; omega
                    clear hG hdG h6
                    go_wp2_with fail
                    go_ret
                    exact ⟨by rw [HC.out]; rfl, hbF⟩
                  · have HT := Lib.hid (before_succ HZ.out (show GI S u ≤ 6 by rw [← hG]; omega))
                    have d6 : decide ((6 : Int) < (g : Int)) = false := by rw [decide_eq_false_iff_not]; omega
                    clear hG h6 HZ
                    go_wp2_with fail
                    go_roundw
                    case rel => exact ⟨u + 1, by omega, by go_num, HT, hb9⟩
                    case measure => simp [intOf]; omega
                · obtain rfl : u = z := by omega
                  have HC := Lib.hid (show chk S = 0 by rw [hCN]; exact (nsR_no hnc).2 (deep_no hO.nd hDp (by rw [HM.out]; exact HZ.out)))
                  clear HZ hdG
                  go_wp2_with fail
                  go_ret
                  exact ⟨by rw [HC.out]; rfl, hbF⟩
end Go.Proofs.YthbhbpcjcnkkkaaGreatDoor
/-
  The reference's Depth and Uses. No conditions beyond those that each names.
-/
namespace Go.Proofs.YthbhbpcjcnkkkaaGreatDoor
open Go.RowKit Go.Maps
/-- A valid schema that has this struct. -/
noncomputable def knw (S : Sch) (x : List UInt8) : Bool := (sns S).contains x && decide (chk S = 0)
theorem knw_true {S : Sch} {x : List UInt8} (h : knw S x = true) : chk S = 0 ∧ (sns S).contains x = true := by
  unfold knw at h
  rw [Bool.and_eq_true, decide_eq_true_eq] at h
  exact ⟨h.2, h.1⟩
theorem knw_false {S : Sch} {x : List UInt8} (h : knw S x = false) : ¬ (chk S = 0 ∧ (sns S).contains x = true) := by
  rintro ⟨h1, h2⟩
  unfold knw at h
  rw [h2, h1] at h
  cases h
theorem lok0 {k s : Int} {n : List UInt8} : lok (.mk k s n []) := by rw [lok]; exact ⟨by decide, by rw [lok.loks]; trivial⟩
theorem tyV0 (W : World) (k s : Int) (n : List UInt8) : TyV W (.mk k s n []) (.agg #[.int .i64 k, .int .i64 s, .string (bs n), .slice none 0 0]) := ⟨none, 0, rfl, .inl rfl⟩
theorem dep_le {S : Sch} (hB : FewB S) (x : List UInt8) : dep S x ≤ 1000 := by
  have h := hB.ns
  unfold dep
  exact Nat.le_trans (gd_le hB _ x) (by omega)
/-- The depths of structs. -/
def FDs (S : Sch) (W0 : World) : Fact := ⟨fun v w' => ∃ dl : List Nat, dl.length = S.structs.length ∧ (∀ k, k < S.structs.length → dl.getD k 0 = GI S k) ∧ Ds w' dl v ∧ Below W0.heap.size W0 w', fun _ _ _ ⟨l, h1, h2, h3, h4⟩ hb => ⟨l, h1, h2, h3.next hb, upG h4 hb⟩⟩
/-- The names that a struct uses, as answered. -/
def FUa (S : Sch) (x : List UInt8) (W0 : World) : Fact := ⟨fun v w' => ∃ l, UsA S x l ∧ Nms w' l v ∧ Below W0.heap.size W0 w', fun _ _ _ ⟨l, h1, h2, h3⟩ hb => ⟨l, h1, h2.next hb, upG h3 hb⟩⟩
set_option maxRecDepth 100000 in
set_option maxHeartbeats 4000000 in
theorem refKnown_any (S : Sch) (hB : FewB S) (x : List UInt8) (v : Value) (w : World) (hv : ScV w S v) :
    Calls Tryz.prog 52 #[v, .string (bs x)] w (Ib (.bool (knw S x)) w) := by
  have hv0 := hv
  obtain ⟨A, c, A2, c2, rfl, hS⟩ := hv
  clear hS
  obtain ⟨n, hn⟩ : ∃ n, S.enums.length = n := ⟨_, rfl⟩
  obtain ⟨m, hm⟩ : ∃ m, S.structs.length = m := ⟨_, rfl⟩
  have HN := Lib.hid hn
  have HM := Lib.hid hm
  have hm18 := hB.ns
  rw [hm] at hm18
  rw [hn, hm] at hv0 ⊢
  have hab := ab1 w (Obj.cells #[.int .i64 S.ver, .slice A n c, .slice A2 m c2] 25)
  have hv1 := hv0.next hab
  have B1 := Bx.new3 w 25 (.int .i64 S.ver) (.slice A n c) (.slice A2 m c2)
  have cS := refStruct_any S x _ _ hv1 (by rw [HM.out]; omega)
  unfold StO at cS
  rw [mem_sns] at cS
  unfold knw
  obtain ⟨r, hr⟩ : ∃ r, (sns S).contains x = r := ⟨_, rfl⟩
  rw [hr] at cS ⊢
  obtain ⟨k, hk⟩ : ∃ k, chk S = k := ⟨_, rfl⟩
  rw [hk]
  clear hr hn hm
  go_enter Tryz.func52, Tryz.ntmps52
  go_wp2_with fail
  refine cS.mono ?_
  rintro e w2 ⟨u, rfl, hu, hb2⟩
  generalize (fst_ St.name S.structs x).getD st0 = t0 at *
  obtain ⟨A3, c3, rfl, -⟩ := hu
  have B2 := B1.next hb2
  have s0 := B2.c 0 rfl
  have s1 := B2.c 1 rfl
  have s2 := B2.c 2 rfl
  have l1 := B2.lt
  have hb3 := Below.next hab hb2
  have cC := fun W (h : Below w2.heap.size w2 W) => refCheck_any S hB _ W (hv1.next (Below.next hb2 h))
  rw [hk] at cC
  clear hk cS B1
  cases r
  · go_wp2_with fail
    go_ret
    exact ⟨rfl, Below.next hb3 (ab1 _ _)⟩
  · by_cases h0 : k = 0
    · subst h0
      go_wp2_with fail
      refine (cC _ (ab1 _ _)).mono ?_
      rintro e w4 ⟨rfl, hb4⟩
      go_wp2_with fail
      go_ret
      exact ⟨congrArg (fun b => Ending.returned (Value.bool b)) (by rfl), Below.next hb3 (Below.next (ab1 _ _) hb4)⟩
    · have d1 : ((k : Int) == 0) = false := by simp; omega
      go_wp2_with fail
      refine (cC _ (ab1 _ _)).mono ?_
      rintro e w4 ⟨rfl, hb4⟩
      go_wp2_with fail
      go_ret
      exact ⟨congrArg (fun b => Ending.returned (Value.bool b)) (by simp [h0]), Below.next hb3 (Below.next (ab1 _ _) hb4)⟩
set_option maxRecDepth 100000 in
set_option maxHeartbeats 4000000 in
theorem refDepthA_any (S : Sch) (hB : FewB S) (x : List UInt8) (v : Value) (w : World) (hv : ScV w S v) :
    Calls Tryz.prog 23 #[v, .string (bs x)] w (Ib (.int .i64 (depA S x : Int)) w) := by
  have hv0 := hv
  obtain ⟨A, c, A2, c2, rfl, hS⟩ := hv
  clear hS
  obtain ⟨n, hn⟩ : ∃ n, S.enums.length = n := ⟨_, rfl⟩
  obtain ⟨m, hm⟩ : ∃ m, S.structs.length = m := ⟨_, rfl⟩
  have HN := Lib.hid hn
  have HM := Lib.hid hm
  have hm18 := hB.ns
  rw [hm] at hm18
  rw [hn, hm] at hv0 ⊢
  have hab := ab1 w (Obj.cells #[.int .i64 S.ver, .slice A n c, .slice A2 m c2] 25)
  have hv1 := hv0.next hab
  have B1 := Bx.new3 w 25 (.int .i64 S.ver) (.slice A n c) (.slice A2 m c2)
  have cK := refKnown_any S hB x _ _ hv1
  cases hk : knw S x
  · have hA : depA S x = 0 := by
      have := knw_false hk
      unfold depA
      by_cases h1 : chk S = 0
      · rw [if_pos h1, if_neg fun h2 => this ⟨h1, h2⟩]
      · rw [if_neg h1]
    rw [hk] at cK
    rw [hA]
    clear hk hn hm hv1 hv0
    go_enter Tryz.func23, Tryz.ntmps23
    go_wp2_with fail
    refine cK.mono ?_
    rintro e w2 ⟨rfl, hb2⟩
    go_wp2_with fail
    go_ret
    exact ⟨rfl, Below.next hab hb2⟩
  · obtain ⟨hc, hx⟩ := knw_true hk
    have hV := chk_zero hc
    have hA : depA S x = dep S x := by unfold depA; rw [if_pos hc, if_pos hx]
    have hxs : x ∈ sns S := List.contains_iff_mem.1 hx
    have hnd := hV.pt.nd
    have hnc := hV.nc
    have hDp := dpt_of hnd hB hnc
    rw [hk] at cK
    rw [hA]
    clear hk hn hm hV hA hx
    go_enter Tryz.func23, Tryz.ntmps23
    go_wp2_with fail
    refine cK.mono ?_
    rintro e w2 ⟨rfl, hb2⟩
    have B2 := B1.next hb2
    have s0 := B2.c 0 rfl
    have s1 := B2.c 1 rfl
    have s2 := B2.c 2 rfl
    have l1 := B2.lt
    have hb3 := Below.next hab hb2
    clear cK
    go_upto_region 3 with (fail)
    refine wp_region_on (by kernel_rfl) (FF [(1, Fact.at_ w2 (.string (bs x))), (2, Fact.at_ w2 (.pointer (some ⟨w.heap.size, 0, none⟩))), (9, Fact.at_ w2 (.agg #[.int .i64 S.ver, .slice A n c, .slice A2 m c2])), (10, Fact.at_ w2 (.agg #[.int .i64 S.ver, .slice A n c, .slice A2 m c2])), (11, FDs S w2), (12, Fact.at_ w2 (.string (bs x))), (13, Fact.at_ w2 (.agg #[.int .i64 6, .int .i64 0, .string (bs x), .slice none 0 0])), (14, Fact.at_ w2 (.int .i64 (dep S x : Int))), (4, Fact.at_ w2 (.int .i64 (dep S x : Int)))]) [1, 2] 15 [9, 10, 11, 12, 13, 14, 4] rfl (by kernel_rfl) (by kernel_rfl) ?_ ?_ ?_
    · intro t9 ht9
      simp only [List.mem_cons, List.not_mem_nil, or_false] at ht9
      rcases ht9 with rfl | rfl
      · exact ⟨rfl, Below.refl _ _⟩
      · exact ⟨rfl, Below.refl _ _⟩
    · refine fcs ⟨at1 2 9 (.pointer (some ⟨w.heap.size, 0, none⟩)) (.agg #[.int .i64 S.ver, .slice A n c, .slice A2 m c2]) rfl (by first | exact .inl rfl | exact .inr ⟨_, _, _, rfl, rfl, by kernel_rfl, by decide, rfl⟩) (by kernel_rfl) rfl rfl (fun a9 W9 hb9 h9 => by have g0 := cell_next hb9 s0; have g1 := cell_next hb9 s1; have g2 := cell_next hb9 s2; simp [execOp, h9] <;> go_simp), ?_⟩
      refine fcs ⟨at1 2 10 (.pointer (some ⟨w.heap.size, 0, none⟩)) (.agg #[.int .i64 S.ver, .slice A n c, .slice A2 m c2]) rfl (by first | exact .inl rfl | exact .inr ⟨_, _, _, rfl, rfl, by kernel_rfl, by decide, rfl⟩) (by kernel_rfl) rfl rfl (fun a9 W9 hb9 h9 => by have g0 := cell_next hb9 s0; have g1 := cell_next hb9 s1; have g2 := cell_next hb9 s2; simp [execOp, h9] <;> go_simp), ?_⟩
      refine fcs ⟨at_enter (W0 := w2) (by first | exact .inl rfl | exact .inr ⟨_, _, _, rfl, rfl, by kernel_rfl, by decide, rfl⟩) (fun a9 W9 hf9 => by have p10 := hf9 10 (by kernel_rfl); have q10 : a9.tmps.getD 10 undef = (.agg #[.int .i64 S.ver, .slice A n c, .slice A2 m c2]) := p10.1; have hb9 := p10.2; exact ⟨44, #[(.agg #[.int .i64 S.ver, .slice A n c, .slice A2 m c2])], by rw [← q10]; simpa [execOp, resolve, Act.eval] using run_invoke (by kernel_rfl) _ W9, (refDepths_any S hB hnd hnc _ W9 (hv1.next (Below.next hb2 hb9))).mono fun e w' ⟨vd, dl, e1, e2, e3, e4, e5⟩ => ⟨vd, e1, e5, fun s hs => by injection hs with hs; subst hs; exact ⟨dl, e2, e3, e4, upG hb9 e5⟩⟩⟩), ?_⟩
      refine fcs ⟨atcopy 1 12 (.string (bs x)) (.inl rfl) rfl (by first | exact .inl rfl | exact .inr ⟨_, _, _, rfl, rfl, by kernel_rfl, by decide, rfl⟩) (by kernel_rfl) rfl rfl, ?_⟩
      refine fcs ⟨at1 12 13 (.string (bs x)) (.agg #[.int .i64 6, .int .i64 0, .string (bs x), .slice none 0 0]) rfl (by first | exact .inl rfl | exact .inr ⟨_, _, _, rfl, rfl, by kernel_rfl, by decide, rfl⟩) (by kernel_rfl) rfl rfl (fun a9 W9 hb9 h9 => by simp [execOp, h9] <;> go_simp), ?_⟩
      refine fcs ⟨at_enter (W0 := w2) (by first | exact .inl rfl | exact .inr ⟨_, _, _, rfl, rfl, by kernel_rfl, by decide, rfl⟩) (fun a9 W9 hf9 => by
      have p9 := hf9 9 (by kernel_rfl)
      obtain ⟨dl, d1, d2, d3, d4⟩ := hf9 11 (by kernel_rfl)
      have p13 := hf9 13 (by kernel_rfl)
      have q9 : a9.tmps.getD 9 undef = (.agg #[.int .i64 S.ver, .slice A n c, .slice A2 m c2]) := p9.1
      have q13 : a9.tmps.getD 13 undef = (.agg #[.int .i64 6, .int .i64 0, .string (bs x), .slice none 0 0]) := p13.1
      have hx2 : dN S dl x = dep S x := by
        unfold dN
        rw [d2 _ (idx_lt hxs), GI_dep hnd hDp (idx_lt hxs), show (S.structs[idx S x]'(idx_lt hxs)) = S.structs.getD (idx S x) st0 by rw [List.getD_eq_getElem?_getD, List.getElem?_eq_getElem (idx_lt hxs)]; rfl, idx_name hxs]
      have htd : td S (dN S dl) (.mk 6 0 x []) = dep S x := by rw [td_kind (by decide), if_pos rfl, if_pos hxs, hx2]
      have hle : ∀ k, dl.getD k 0 ≤ 1000 := fun k => by
        by_cases hk : k < S.structs.length
        · rw [d2 k hk, GI_dep hnd hDp hk]; exact Nat.le_trans (dep_le hB _) (by decide)
        · rw [List.getD_eq_getElem?_getD, List.getElem?_eq_none (by omega)]; exact Nat.zero_le _
      have cT := refTypeDepth_any (SizeOf.sizeOf (Ty.mk 6 0 x []) + 1) S dl 1000 (.mk 6 0 x []) _ (a9.tmps.getD 11 undef) _ W9 (Nat.lt_succ_self _) (by rw [lst_not _ _ _ (by decide)]; decide) (by rw [HM.out]; omega) d1 hle (by decide) lok0 (hv1.next (Below.next hb2 p9.2)) d3 (tyV0 W9 6 0 x)
      rw [htd] at cT
      exact ⟨53, #[(.agg #[.int .i64 S.ver, .slice A n c, .slice A2 m c2]), a9.tmps.getD 11 undef, (.agg #[.int .i64 6, .int .i64 0, .string (bs x), .slice none 0 0])], by rw [← q9, ← q13]; simpa [execOp, resolve, Act.eval] using run_invoke (by kernel_rfl) _ W9, cT.mono fun e w' ⟨e1, e2⟩ => ⟨_, e1, e2, fun s hs => by injection hs with hs; subst hs; exact ⟨rfl, upG p9.2 e2⟩⟩⟩), ?_⟩
      refine fcs ⟨atcopy 14 4 (.int .i64 (dep S x : Int)) (.inr rfl) rfl (by first | exact .inl rfl | exact .inr ⟨_, _, _, rfl, rfl, by kernel_rfl, by decide, rfl⟩) (by kernel_rfl) rfl rfl, ?_⟩
      exact fnl
    intro vv wv hvv hbv
    have hv4 : vv 4 = (.int .i64 (dep S x : Int)) := (hvv 4 (by decide)).1
    simp only [lay, List.foldl_cons, List.foldl_nil, List.setIfInBounds_toArray, List.set_cons_succ, List.set_cons_zero, hv4]
    clear hvv
    go_wp2_with fail
    go_ret
    exact ⟨rfl, Below.next hb3 hbv⟩
set_option maxRecDepth 100000 in
set_option maxHeartbeats 4000000 in
theorem refUsesA_any (S : Sch) (hB : FewB S) (x : List UInt8) (v : Value) (w : World) (hv : ScV w S v) :
    Calls Tryz.prog 26 #[v, .string (bs x)] w (UaP S x w) := by
  have hv0 := hv
  obtain ⟨A, c, A2, c2, rfl, hS⟩ := hv
  clear hS
  obtain ⟨n, hn⟩ : ∃ n, S.enums.length = n := ⟨_, rfl⟩
  obtain ⟨m, hm⟩ : ∃ m, S.structs.length = m := ⟨_, rfl⟩
  have HN := Lib.hid hn
  have HM := Lib.hid hm
  have hm18 := hB.ns
  rw [hm] at hm18
  rw [hn, hm] at hv0 ⊢
  have hab := ab1 w (Obj.cells #[.int .i64 S.ver, .slice A n c, .slice A2 m c2] 25)
  have hv1 := hv0.next hab
  have B1 := Bx.new3 w 25 (.int .i64 S.ver) (.slice A n c) (.slice A2 m c2)
  have cK := refKnown_any S hB x _ _ hv1
  cases hk : knw S x
  · have hA : UsA S x [] := .inr ⟨knw_false hk, rfl⟩
    rw [hk] at cK
    clear hk hn hm hv1 hv0
    go_enter Tryz.func26, Tryz.ntmps26
    go_wp2_with fail
    refine cK.mono ?_
    rintro e w2 ⟨rfl, hb2⟩
    go_wp2_with fail
    go_ret
    exact ⟨_, [], rfl, hA, Sl.nil _ _ _, Below.next hab hb2⟩
  · obtain ⟨hc, hx⟩ := knw_true hk
    have hO := (chk_zero hc).pt.okk hB
    rw [hk] at cK
    clear hk hn hm
    go_enter Tryz.func26, Tryz.ntmps26
    go_wp2_with fail
    refine cK.mono ?_
    rintro e w2 ⟨rfl, hb2⟩
    have B2 := B1.next hb2
    have s0 := B2.c 0 rfl
    have s1 := B2.c 1 rfl
    have s2 := B2.c 2 rfl
    have l1 := B2.lt
    have hb3 := Below.next hab hb2
    have cU := refUsed_any S (univ S) (fun x y h => nx_sub hO h) (Nat.le_trans (univ_len hO) (by decide)) hO.rt (fun t ht => Nat.le_trans (hO.fw t ht) (by decide)) (by rw [HM.out]; omega) x _ w2 (hv1.next hb2)
    clear cK B1
    go_wp2_with fail
    refine cU.mono ?_
    rintro e w4 ⟨v4, l, rfl, hU, hN, hb4⟩
    go_wp2_with fail
    go_ret
    exact ⟨_, l, rfl, .inl ⟨hc, hx, hU⟩, hN, Below.next hb3 hb4⟩
end Go.Proofs.YthbhbpcjcnkkkaaGreatDoor
/-
  Numbers and texts as the wire has them, written by the program and by the reference. Go's own bounds.
-/
namespace Go.Proofs.YthbhbpcjcnkkkaaGreatDoor
open Go.RowKit
theorem uv_len (k n : Nat) (h : n < 128 ^ (k + 1)) : (uv n).length ≤ k + 1 := by
  induction k generalizing n with
  | zero => rw [uv_small (by omega)]; exact Nat.le_refl _
  | succ k ih =>
    by_cases h1 : n < 128
    · rw [uv_small h1]; simp
    · rw [uv_big h1, List.length_cons]
      have := ih (n / 128) (by rw [Nat.pow_succ] at h; omega)
      omega
theorem uv_len10 {n : Nat} (h : n ≤ 18446744073709551615) : (uv n).length ≤ 10 := uv_len 9 n (by omega)
theorem uv_snoc_small {n m : Nat} {l : List UInt8} (h : uv n = l ++ uv m) (hm : m < 128) : uv n = l ++ [UInt8.ofNat m] := by rw [h, uv_small hm]
theorem uv_snoc_big {n m : Nat} {l : List UInt8} (h : uv n = l ++ uv m) (hm : ¬ m < 128) : uv n = (l ++ [UInt8.ofNat (128 + m % 128)]) ++ uv (m / 128) := by rw [h, uv_big hm]; simp
theorem uv_pre_len {n m : Nat} {l : List UInt8} (hn : n ≤ 18446744073709551615) (h : uv n = l ++ uv m) : l.length ≤ 9 := by
  have h1 := uv_len10 hn
  rw [h, List.length_append] at h1
  have h2 := List.length_pos_iff.2 (uv_ne m)
  omega
set_option maxRecDepth 100000 in
theorem or128 (m : Nat) : bits BinOp.or IntKind.u8 ((m : Int) % 256) 128 = ((128 + m % 128 : Nat) : Int) := by
  have key : ∀ b : Fin 256, bits BinOp.or IntKind.u8 ((b.val : Nat) : Int) 128 = ((128 + b.val % 128 : Nat) : Int) := by decide
  have := key ⟨m % 256, by omega⟩
  rw [show ((m : Int) % 256) = ((m % 256 : Nat) : Int) by omega, this]
  simp only
  congr 2
  omega
set_option maxRecDepth 100000 in
set_option maxHeartbeats 1000000 in
theorem uint_any (n : Nat) (w : World)  (h1 : n ≤ 18446744073709551615) :
    Calls Tryz.prog 96 #[.int .u64 (n : Int)] w (Ib (.string (bs (uv n))) w) := by
  go_enter Tryz.func96, Tryz.ntmps96
  go_wp2_with fail
  have HN := Lib.hid h1
  go_loopw [0, 3] (fun u v wr => ∃ (m : Nat) (l : List UInt8), m ≤ 18446744073709551615 ∧ u = .int .u64 (m : Int) ∧ Ow w.heap.size wr v l ∧ Below w.heap.size w wr ∧ Hid (uv n = l ++ uv m)) (fun u _ _ => (intOf u).toNat)
  case atStart => exact ⟨n, [], h1, rfl, Ow.nil _ _, Below.refl _ _, Lib.hid rfl⟩
  case round =>
    obtain ⟨m, l, hm, rfl, ho, hb, hI⟩ := hrel
    have hll := uv_pre_len HN.out hI.out
    have hbs := hb.size
    clear h1
    by_cases h : m < 128
    · have E := Lib.hid (uv_snoc_small hI.out h)
      have e : (UInt8.ofNat m).toNat = m := of_toNat (by omega)
      go_wp2_with (at_builtin; refine wpList_push rfl (.tmp 14) (.tmp 17) rfl w.heap.size u3 l (UInt8.ofNat m) _ 1 rfl rfl (ho.other (one _ _)) (by rw [e]; simp) (by omega) (by simp; omega) ?_; intro v' w' ho' hg'; have hs' := ho'.str (by simp))
      go_ret
      refine ⟨congrArg (fun l => Ending.returned (.string (bs l))) E.out.symm, (hb.alloc hbs _).grown hg' (by simp; omega) ?_⟩
      intro k hk
      exact (ho.lt k hk).1
    · have E := Lib.hid (uv_snoc_big hI.out h)
      obtain ⟨d, hd⟩ : ∃ d, 128 + m % 128 = d := ⟨_, rfl⟩
      obtain ⟨q, hq⟩ : ∃ q, m / 128 = q := ⟨_, rfl⟩
      have e : (UInt8.ofNat d).toNat = d := of_toNat (by omega)
      have k1 := or128 m
      rw [hd] at k1 E
      rw [hq] at E
      have k2 : (m : Int) / 128 = (q : Int) := by omega
      have hql : q < m := by omega
      clear hd hq hI
      go_wp2_with (at_builtin; refine wpList_push rfl (.tmp 6) (.tmp 10) rfl w.heap.size u3 l (UInt8.ofNat d) _ 1 rfl rfl (ho.other (one _ _)) (by rw [e]; simp) (by omega) (by simp; omega) ?_; intro v' w' ho' hg')
      go_roundw
      case rel => exact ⟨q, _, by omega, rfl, ho', (hb.alloc hbs _).grown hg' (by simp; omega) (fun k hk => (ho.lt k hk).1), E⟩
      case measure => simp [intOf]; omega
set_option maxRecDepth 100000 in
set_option maxHeartbeats 1000000 in
theorem refUint_any (n : Nat) (w : World)  (h1 : n ≤ 18446744073709551615) :
    Calls Tryz.prog 98 #[.int .u64 (n : Int)] w (Ib (.string (bs (uv n))) w) := by
  have hn0 : (⟨#[]⟩ : ByteArray) = bs [] := rfl
  go_enter Tryz.func98, Tryz.ntmps98
  go_wp2_with fail
  clear hn0
  have HN := Lib.hid h1
  go_loopw [0, 3] (fun u v wr => ∃ (m : Nat) (l : List UInt8), m ≤ 18446744073709551615 ∧ u = .int .u64 (m : Int) ∧ v = .string (bs l) ∧ Below w.heap.size w wr ∧ Hid (uv n = l ++ uv m)) (fun u _ _ => (intOf u).toNat)
  case atStart => exact ⟨n, [], h1, rfl, rfl, Below.refl _ _, Lib.hid rfl⟩
  case round =>
    obtain ⟨m, l, hm, rfl, rfl, hb, hI⟩ := hrel
    have hll := uv_pre_len HN.out hI.out
    have hbs := hb.size
    have hsz : (bs l).size ≤ 9 := hll
    clear h1
    by_cases h : m < 128
    · have E := Lib.hid (uv_snoc_small hI.out h)
      have k1 := str1 wr m (by omega)
      have k2 : bs l ++ bs [UInt8.ofNat m] = bs (l ++ [UInt8.ofNat m]) := bs_append _ _
      have k3 : (bs [UInt8.ofNat m]).size = 1 := rfl
      go_wp2_with fail
      go_ret
      exact ⟨congrArg (fun l => Ending.returned (.string l)) (k2.trans (congrArg bs E.out.symm)), hb.alloc hbs _⟩
    · have E := Lib.hid (uv_snoc_big hI.out h)
      obtain ⟨d, hd⟩ : ∃ d, 128 + m % 128 = d := ⟨_, rfl⟩
      obtain ⟨q, hq⟩ : ∃ q, m / 128 = q := ⟨_, rfl⟩
      rw [hd] at E
      rw [hq] at E
      have k0 : (128 : Int) + (m : Int) % 128 = (d : Int) := by omega
      have k2 : (m : Int) / 128 = (q : Int) := by omega
      have hql : q < m := by omega
      have hd2 : d < 256 := by omega
      have k1 := str1 wr d hd2
      have k4 : IntKind.u8.wrap (d : Int) = (d : Int) := by rw [IntKind.wrap_u8']; omega
      have k3 : (bs [UInt8.ofNat d]).size = 1 := rfl
      clear hd hq hI
      go_wp2_with fail
      go_roundw
      case rel => exact ⟨q, _, by omega, rfl, congrArg Value.string (bs_append _ _), hb.alloc hbs _, E⟩
      case measure => simp [intOf]; omega
set_option maxRecDepth 100000 in
theorem text_any (l : List UInt8) (w : World) (h : l.length ≤ 100000) :
    Calls Tryz.prog 79 #[.string (bs l)] w (Ib (.string (bs (txt l))) w) := by
  have c2 := fun w => uint_any l.length w (by omega)
  have k1 : bs (uv l.length) ++ bs l = bs (txt l) := bs_append _ _
  have k2 : (bs (uv l.length)).size ≤ 10 := uv_len10 (by omega)
  have k3 : (bs l).size = l.length := rfl
  go_enter Tryz.func79, Tryz.ntmps79
  go_wp2_with fail
  refine (c2 _).mono ?_
  rintro e w' ⟨rfl, hb⟩
  go_wp2_with fail
  go_ret
  exact ⟨rfl, hb⟩
set_option maxRecDepth 100000 in
theorem refText_any (l : List UInt8) (w : World) (h : l.length ≤ 100000) :
    Calls Tryz.prog 85 #[.string (bs l)] w (Ib (.string (bs (txt l))) w) := by
  have c2 := fun w => refUint_any l.length w (by omega)
  have k1 : bs (uv l.length) ++ bs l = bs (txt l) := bs_append _ _
  have k2 : (bs (uv l.length)).size ≤ 10 := uv_len10 (by omega)
  have k3 : (bs l).size = l.length := rfl
  go_enter Tryz.func85, Tryz.ntmps85
  go_wp2_with fail
  refine (c2 _).mono ?_
  rintro e w' ⟨rfl, hb⟩
  go_wp2_with fail
  go_ret
  exact ⟨rfl, hb⟩
end Go.Proofs.YthbhbpcjcnkkkaaGreatDoor
/-
  How long descriptions are, and step by step. Mathematics, no conditions beyond those that each names.
-/
namespace Go.Proofs.YthbhbpcjcnkkkaaGreatDoor
open Go.RowKit
theorem cnt_len (n : Int) : (cnt n).length ≤ 10 := uv_len10 (by omega)
theorem txt_len (t : List UInt8) (h : t.length ≤ 18446744073709551615) : (txt t).length ≤ 10 + t.length := by
  unfold txt
  rw [List.length_append]
  have := uv_len10 h
  omega
theorem right_name {S : Sch} (hO : Okk S) {k s : Int} {n : List UInt8} {e : List Ty} (h : right S (.mk k s n e) = true) : n.length ≤ 40 := by
  rw [right_eq] at h
  simp only [Bool.and_eq_true] at h
  obtain ⟨-, h⟩ := h
  by_cases h5 : k = 5
  · rw [if_pos h5] at h
    simp only [Bool.and_eq_true, decide_eq_true_eq] at h
    rw [h.1]; decide
  · rw [if_neg h5] at h
    by_cases h6 : k = 6
    · rw [if_pos h6] at h
      simp only [Bool.and_eq_true] at h
      exact (hO.ne n (.inl (by simpa using h.1))).2
    · rw [if_neg h6] at h
      by_cases h7 : k = 7
      · rw [if_pos h7] at h
        simp only [Bool.and_eq_true] at h
        exact (hO.ne n (.inr (by simpa using h.1))).2
      · rw [if_neg h7] at h
        simp only [Bool.and_eq_true, decide_eq_true_eq] at h
        rw [h.1]; decide
theorem dt_len {S : Sch} (hO : Okk S) : ∀ t : Ty, right S t = true → (dt t).length ≤ 80 * (lst t + 1)
  | .mk k s n e, h => by
    have h1 := cnt_len k
    have h2 := cnt_len s
    have hn := right_name hO h
    have h3 := txt_len n (by omega)
    rw [dt]
    simp only [List.length_append]
    rcases right_elem h with ⟨rfl, t, rfl, ht⟩ | ⟨h5, rfl⟩
    · have ih := dt_len hO t ht
      have h4 : (uv ([t] : List Ty).length).length ≤ 10 := uv_len10 (by simp)
      obtain ⟨rfl, -⟩ := right_list h
      have h3 : (txt []).length ≤ 10 := txt_len [] (by simp)
      rw [lst_list, dts, dts, List.append_nil]
      omega
    · have h4 : (uv ([] : List Ty).length).length ≤ 10 := uv_len10 (by simp)
      rw [dts, lst_not _ _ _ h5]
      simp only [List.length_nil] at *
      omega
theorem dfd_len {S : Sch} (hO : Okk S) {f : Fd} (hr : right S f.type = true) (hl : lst f.type ≤ 8) (hn : f.name.length ≤ 40) : (dfd f).length ≤ 800 := by
  have h1 := cnt_len f.num
  have h2 := txt_len f.name (by omega)
  have h3 := dt_len hO f.type hr
  unfold dfd
  simp only [List.length_append, List.length_cons, List.length_nil]
  omega
theorem dfds_append (l m : List Fd) : dfds (l ++ m) = dfds l ++ dfds m := by
  induction l with
  | nil => rfl
  | cons f l ih => rw [List.cons_append, dfds, dfds, ih, List.append_assoc]
theorem dfds_snoc {l : List Fd} {k : Nat} (h : k < l.length) : dfds (l.take (k + 1)) = dfds (l.take k) ++ dfd (l[k]'h) := by
  rw [List.take_succ_eq_append_getElem h, dfds_append, dfds, dfds, List.append_nil]
theorem dfds_len {l : List Fd} (h : ∀ f ∈ l, (dfd f).length ≤ 800) : (dfds l).length ≤ 800 * l.length := by
  induction l with
  | nil => simp [dfds]
  | cons f l ih =>
    rw [dfds, List.length_append, List.length_cons]
    have h1 := h f (by simp)
    have h2 := ih fun g hg => h g (by simp [hg])
    omega
theorem dns_snoc {l : List (List UInt8)} {m : List Int} {k : Nat} (h : k < l.length) (h' : k < m.length) : dns (l.take (k + 1)) (m.take (k + 1)) = dns (l.take k) (m.take k) ++ (txt (l[k]'h) ++ cnt (m[k]'h')) := by
  induction l generalizing m k with
  | nil => simp at h
  | cons x l ih =>
    cases m with
    | nil => simp at h'
    | cons y m =>
      cases k with
      | zero => simp [dns]
      | succ k =>
        have := ih (m := m) (k := k) (by simpa using h) (by simpa using h')
        simp only [List.take_succ_cons, dns, List.getElem_cons_succ]
        rw [this]
        simp [List.append_assoc]
theorem dns_len {l : List (List UInt8)} {m : List Int} (h : ∀ x ∈ l, x.length ≤ 40) : (dns l m).length ≤ 60 * l.length := by
  induction l generalizing m with
  | nil => simp [dns]
  | cons x l ih =>
    cases m with
    | nil => simp [dns]
    | cons y m =>
      rw [dns]
      simp only [List.length_append, List.length_cons]
      have h1 := h x (by simp)
      have h2 := txt_len x (by omega)
      have h3 := cnt_len y
      have h4 := ih (m := m) fun z hz => h z (by simp [hz])
      omega
theorem dns_len2 {l : List (List UInt8)} {m : List Int} (h : m.length = l.length) (k : Nat) (hk : k = l.length) : dns (l.take k) (m.take k) = dns l m := by
  subst hk
  rw [List.take_length, ← h, List.take_length]
end Go.Proofs.YthbhbpcjcnkkkaaGreatDoor
/-
  What descriptions say: equal descriptions mean equal structs with equal uses. Mathematics, no conditions beyond those that each names.
-/
namespace Go.Proofs.YthbhbpcjcnkkkaaGreatDoor
open Go.RowKit
/-- The definition with a name. -/
def dfOf (S : Sch) (x : List UInt8) : Df := match fst_ St.name S.structs x with | some t => .st t | none => .en ((fst_ En.name S.enums x).getD en0)
/-- The description of a struct and of what it uses. -/
def des (S : Sch) (x : List UInt8) (l : List (List UInt8)) : List UInt8 := dds (dfOf S x :: l.map (dfOf S))
theorem dds_append (l m : List Df) : dds (l ++ m) = dds l ++ dds m := by
  induction l with
  | nil => rfl
  | cons f l ih => rw [List.cons_append, dds, dds, ih, List.append_assoc]
theorem szOk_i64 {k s : Int} (h : szOk k s = true) : i64 k ∧ i64 s ∧ 1 ≤ k ∧ k ≤ 7 ∧ 0 ≤ s ∧ s ≤ 2000 := by
  unfold szOk at h
  unfold i64
  repeat' split at h
  all_goals first | (cases h; done) | (simp only [Bool.or_eq_true, Bool.and_eq_true, decide_eq_true_eq] at h; omega)
theorem right_inT {S : Sch} : ∀ t : Ty, right S t = true → inT t
  | .mk k s n e, h => by
    have h0 := h
    rw [right_eq, Bool.and_eq_true] at h0
    obtain ⟨h1, h2, -⟩ := szOk_i64 h0.1
    rw [inT]
    refine ⟨h1, h2, ?_⟩
    rcases right_elem h with ⟨-, t, rfl, ht⟩ | ⟨-, rfl⟩
    · rw [inTs, inTs]; exact ⟨right_inT t ht, trivial⟩
    · rw [inTs]; trivial
theorem Parts.inF {S : Sch} (hP : Parts S) {t : St} (ht : t ∈ S.structs) {f : Fd} (hf : f ∈ t.fields) : inF f ∧ 1 ≤ f.num ∧ f.num ≤ 127 := by
  obtain ⟨i, hi, rfl⟩ := List.mem_iff_getElem.1 ht
  have h1 := hP.st i hi
  rw [stE_at hi] at h1
  obtain ⟨-, -, h2⟩ := stErr_ok h1
  obtain ⟨k, hk, rfl⟩ := List.mem_iff_getElem.1 hf
  obtain ⟨h3, h4, -, h5⟩ := fdErr_ok hk (h2 k hk)
  exact ⟨⟨⟨by omega, by omega⟩, right_inT _ h5⟩, h3, h4⟩
theorem Parts.inE {S : Sch} (hP : Parts S) {x : En} (hx : x ∈ S.enums) : x.nums.length = x.names.length ∧ ∀ k ∈ x.nums, 0 ≤ k ∧ k ≤ 127 := by
  obtain ⟨i, hi, rfl⟩ := List.mem_iff_getElem.1 hx
  have h1 := hP.en i hi
  rw [enE_at hi] at h1
  obtain ⟨-, -, -, h2, h3⟩ := enErr_ok h1
  refine ⟨h2, fun k hk => ?_⟩
  obtain ⟨j, hj, rfl⟩ := List.mem_iff_getElem.1 hk
  have h4 := h3 j (by omega)
  rcases nmErr_cases (S.enums[i]'hi) j with ⟨_, h⟩ | ⟨_, _, h⟩ | ⟨_, _, _, h⟩ | ⟨_, _, h5, h6, _, h⟩ | ⟨_, _, h5, h6, _, _, h⟩
  · rw [h4] at h; cases h
  · rw [h4] at h; cases h
  · rw [h4] at h; cases h
  · rw [getD_of hj] at h5 h6; exact ⟨h5, h6⟩
  · rw [getD_of hj] at h5 h6; exact ⟨h5, h6⟩
theorem inD_of {S : Sch} (hP : Parts S) (x : List UInt8) : inD (dfOf S x) := by
  unfold dfOf
  cases e : fst_ St.name S.structs x with
  | some t => exact fun f hf => (hP.inF (fst_mem e).1 hf).1
  | none =>
    cases e2 : fst_ En.name S.enums x with
    | some u =>
      obtain ⟨h1, h2⟩ := hP.inE (fst_mem e2).1
      refine ⟨h1, fun k hk => ?_⟩
      have := h2 k hk
      exact ⟨by omega, by omega⟩
    | none => exact ⟨rfl, fun k hk => by cases hk⟩
theorem fst_in {α β : Type} [DecidableEq β] {key : α → β} {l : List α} {b : β} (h : b ∈ l.map key) : ∃ t, fst_ key l b = some t ∧ key t = b := by
  cases e : fst_ key l b with
  | some t => exact ⟨t, rfl, (fst_mem e).2⟩
  | none =>
    obtain ⟨a, ha, h2⟩ := List.mem_map.1 h
    exact absurd h2 (fst_none.1 e a ha)
theorem fst_out {α β : Type} [DecidableEq β] {key : α → β} {l : List α} {b : β} (h : b ∉ l.map key) : fst_ key l b = none :=
  fst_none.2 fun a ha e => h (List.mem_map.2 ⟨a, ha, e⟩)
/-- A definition of a name and its parts, as they are looked up. -/
theorem dfOf_parts {S T : Sch} (hS : Okk S) (hT : Okk T) {x y : List UInt8} (hx : x ∈ univ S) (hy : y ∈ univ T) : dfOf S x = dfOf T y ↔
    x = y ∧ (fst_ St.name S.structs x).isSome = (fst_ St.name T.structs y).isSome ∧ (fst_ St.name S.structs x).getD st0 = (fst_ St.name T.structs y).getD st0 ∧ (fst_ En.name S.enums x).getD en0 = (fst_ En.name T.enums y).getD en0 := by
  unfold univ at hx hy
  rw [List.mem_append] at hx hy
  unfold dfOf
  rcases hx with hx | hx
  · obtain ⟨t, ht, hn⟩ := fst_in hx
    have h0 : fst_ En.name S.enums x = none := fst_out fun h => hS.dj x hx h
    rw [ht, h0]
    rcases hy with hy | hy
    · obtain ⟨u, hu, hn2⟩ := fst_in hy
      have h1 : fst_ En.name T.enums y = none := fst_out fun h => hT.dj y hy h
      rw [hu, h1]
      constructor
      · intro h
        injection h with h
        subst h
        exact ⟨hn.symm.trans hn2, rfl, rfl, rfl⟩
      · rintro ⟨-, -, h, -⟩
        exact congrArg Df.st h
    · have h1 : fst_ St.name T.structs y = none := fst_out fun h => hT.dj y h hy
      rw [h1]
      constructor
      · intro h; cases h
      · rintro ⟨-, h, -⟩; cases h
  · have h0 : fst_ St.name S.structs x = none := fst_out fun h => hS.dj x h hx
    obtain ⟨t, ht, hn⟩ := fst_in hx
    rw [h0, ht]
    rcases hy with hy | hy
    · obtain ⟨u, hu, hn2⟩ := fst_in hy
      rw [hu]
      constructor
      · intro h; cases h
      · rintro ⟨-, h, -⟩; cases h
    · obtain ⟨u, hu, hn2⟩ := fst_in hy
      have h1 : fst_ St.name T.structs y = none := fst_out fun h => hT.dj y h hy
      rw [h1, hu]
      constructor
      · intro h
        injection h with h
        have h : t = u := h
        subst h
        exact ⟨hn.symm.trans hn2, rfl, rfl, rfl⟩
      · rintro ⟨-, -, -, h⟩
        exact congrArg Df.en h
/-- Equal definitions, one by one. -/
def pt (S T : Sch) (x y : List UInt8) : Prop := x = y ∧ (fst_ St.name S.structs x).isSome = (fst_ St.name T.structs y).isSome ∧ (fst_ St.name S.structs x).getD st0 = (fst_ St.name T.structs y).getD st0 ∧ (fst_ En.name S.enums x).getD en0 = (fst_ En.name T.enums y).getD en0
theorem des_iff {S T : Sch} (hP : Parts S) (hQ : Parts T) (hS : Okk S) (hT : Okk T) {m n : List UInt8} (hm : m ∈ sns S) (hn : n ∈ sns T) {u v : List (List UInt8)} (hu : ∀ y ∈ u, y ∈ univ S) (hv : ∀ y ∈ v, y ∈ univ T) :
    des S m u = des T n v ↔ (u = v ∧ (fst_ St.name S.structs m).getD st0 = (fst_ St.name T.structs n).getD st0 ∧ ∀ y ∈ u, pt S T y y) := by
  have hmu : m ∈ univ S := List.mem_append_left _ hm
  have hnu : n ∈ univ T := List.mem_append_left _ hn
  obtain ⟨t, ht, htn⟩ := fst_in hm
  obtain ⟨t', ht', htn'⟩ := fst_in hn
  have h0 : fst_ En.name S.enums m = none := fst_out fun h => hS.dj m hm h
  have h1 : fst_ En.name T.enums n = none := fst_out fun h => hT.dj n hn h
  constructor
  · intro h
    have hl := dds_inj _ _ (by intro a ha; rcases List.mem_cons.1 ha with rfl | ha; exact inD_of hP _; obtain ⟨y, -, rfl⟩ := List.mem_map.1 ha; exact inD_of hP _)
      (by intro a ha; rcases List.mem_cons.1 ha with rfl | ha; exact inD_of hQ _; obtain ⟨y, -, rfl⟩ := List.mem_map.1 ha; exact inD_of hQ _) h
    injection hl with hh hl
    obtain ⟨-, -, h2, -⟩ := (dfOf_parts hS hT hmu hnu).1 hh
    have key : ∀ (u v : List (List UInt8)), (∀ y ∈ u, y ∈ univ S) → (∀ y ∈ v, y ∈ univ T) → u.map (dfOf S) = v.map (dfOf T) → u = v ∧ ∀ y ∈ u, pt S T y y := by
      intro u
      induction u with
      | nil =>
        intro v _ _ e
        cases v with
        | nil => exact ⟨rfl, fun y hy => by cases hy⟩
        | cons b v => cases e
      | cons a u ih =>
        intro v hu hv e
        cases v with
        | nil => cases e
        | cons b v =>
          rw [List.map_cons, List.map_cons] at e
          injection e with e1 e2
          obtain ⟨rfl, h3⟩ := (dfOf_parts hS hT (hu a (by simp)) (hv b (by simp))).1 e1
          obtain ⟨rfl, h4⟩ := ih v (fun y hy => hu y (by simp [hy])) (fun y hy => hv y (by simp [hy])) e2
          refine ⟨rfl, fun y hy => ?_⟩
          rcases List.mem_cons.1 hy with rfl | hy
          · exact ⟨rfl, h3⟩
          · exact h4 y hy
    obtain ⟨h3, h4⟩ := key u v hu hv hl
    exact ⟨h3, h2, h4⟩
  · rintro ⟨rfl, h2, h3⟩
    unfold des
    rw [ht, ht'] at h2
    have h2 : t = t' := h2
    have e1 : dfOf S m = dfOf T n := by unfold dfOf; rw [ht, ht', h2]
    rw [e1]
    congr 2
    apply List.map_congr_left
    intro y hy
    exact (dfOf_parts hS hT (hu y hy) (hv y hy)).2 (h3 y hy)
end Go.Proofs.YthbhbpcjcnkkkaaGreatDoor
/-
  Numbers and types described by the program and by the reference. No conditions beyond those that each names.
-/
namespace Go.Proofs.YthbhbpcjcnkkkaaGreatDoor
open Go.RowKit Go.Maps
theorem Dm.lookE {W : World} {S : Sch} {b1 b2 : Nat} (hD : Dm W S b1 b2) (hn : (ens S).Nodup) (x : List UInt8) : ∃ f D n v, n ≤ 1000 ∧ Mp W b2 n f D ∧ (f x).getD (.agg #[.string ⟨#[]⟩, .slice none 0 0, .slice none 0 0]) = v ∧ EnV W ((fst_ En.name S.enums x).getD en0) v := by
  obtain ⟨f, D, h⟩ := hD.en
  obtain ⟨n, hn2, hm⟩ := h.map
  refine ⟨f, D, n, _, hn2, hm, rfl, ?_⟩
  cases hx : f x with
  | none =>
    have hi := h.is x
    rw [hx] at hi
    have : fst_ En.name S.enums x = none := by
      refine fst_none.2 fun t ht e => ?_
      have : (S.enums.map En.name).contains x = true := by rw [List.contains_iff_mem]; exact List.mem_map.2 ⟨t, ht, e⟩
      rw [this] at hi
      cases hi
    rw [this]
    exact EnV.zero W
  | some u =>
    obtain ⟨t, ht, e, hv⟩ := h.val x u hx
    rw [← e, (fst_iff hn).2 ⟨ht, rfl⟩]
    exact hv
theorem cnt_nat (n : Nat) (h : n ≤ 9223372036854775807) : cnt (n : Int) = uv n := by unfold cnt; congr 1; omega
set_option maxRecDepth 100000 in
theorem number_any (n : Int) (w : World) (h0 : 0 ≤ n) (h1 : n ≤ 9223372036854775807) :
    Calls Tryz.prog 78 #[.int .i64 n] w (Ib (.string (bs (cnt n))) w) := by
  obtain ⟨m, rfl⟩ := Int.eq_ofNat_of_zero_le h0
  have hm : m ≤ 9223372036854775807 := by omega
  rw [cnt_nat m hm]
  have c := fun W => uint_any m W (by omega)
  have k1 : IntKind.u64.wrap (m : Int) = (m : Int) := by rw [IntKind.wrap_u64]; omega
  clear h0 h1
  go_enter Tryz.func78, Tryz.ntmps78
  go_wp2_with fail
  refine (c _).mono ?_
  rintro e w' ⟨rfl, hb⟩
  go_wp2_with fail
  go_ret
  exact ⟨rfl, hb⟩
set_option maxRecDepth 100000 in
theorem refCount_any (n : Int) (w : World) (h0 : 0 ≤ n) (h1 : n ≤ 9223372036854775807) :
    Calls Tryz.prog 84 #[.int .i64 n] w (Ib (.string (bs (cnt n))) w) := by
  obtain ⟨m, rfl⟩ := Int.eq_ofNat_of_zero_le h0
  have hm : m ≤ 9223372036854775807 := by omega
  rw [cnt_nat m hm]
  have c := fun W => refUint_any m W (by omega)
  have k1 : IntKind.u64.wrap (m : Int) = (m : Int) := by rw [IntKind.wrap_u64]; omega
  clear h0 h1
  go_enter Tryz.func84, Tryz.ntmps84
  go_wp2_with fail
  refine (c _).mono ?_
  rintro e w' ⟨rfl, hb⟩
  go_wp2_with fail
  go_ret
  exact ⟨rfl, hb⟩
end Go.Proofs.YthbhbpcjcnkkkaaGreatDoor

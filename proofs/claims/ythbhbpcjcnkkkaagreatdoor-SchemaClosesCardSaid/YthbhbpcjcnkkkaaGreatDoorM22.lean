/-
  The reference's Check. No conditions beyond those that each names.
-/
import Derived.Test.YthbhbpcjcnkkkaaGreatDoorM21
import Derived.Test.YthbhbpcjcnkkkaaGreatDoorM20
import Derived.Test.YthbhbpcjcnkkkaaGreatDoorM19
import Derived.Test.YthbhbpcjcnkkkaaGreatDoorM15
import Derived.Test.YthbhbpcjcnkkkaaGreatDoorM10
import Derived.Test.YthbhbpcjcnkkkaaGreatDoorM17
namespace Go.Proofs.YthbhbpcjcnkkkaaGreatDoor
open Go.RowKit Go.Maps
theorem deep_no {S : Sch} {rk : List UInt8 → Nat} (hn : (sns S).Nodup) (hP : Dpt S rk) (h : ∀ k, k < S.structs.length → GI S k ≤ 6) : ¬ deep S := by
  rw [deep_iff hn hP]
  rintro ⟨k, hk, h6⟩
  have := h k hk
  omega
theorem deep_yes {S : Sch} {rk : List UInt8 → Nat} (hn : (sns S).Nodup) (hP : Dpt S rk) {k : Nat} (hk : k < S.structs.length) (h : 6 < GI S k) : deep S := (deep_iff hn hP).2 ⟨k, hk, h⟩
theorem nsR_cyc {S : Sch} (h : cyc S) : nsR S = 19 := by unfold nsR; rw [if_pos h]
set_option maxRecDepth 100000 in
set_option maxHeartbeats 8000000 in
theorem refCheck_any (S : Sch) (hB : FewB S) (v : Value) (w : World) (hv : ScV w S v) :
    Calls Tryz.prog 12 #[v] w (Ib (.int .i64 (chk S : Int)) w) := by
  have hv0 := hv
  obtain ⟨A, c, A2, c2, rfl, hS⟩ := hv
  have hSs := hS.st
  clear hS
  obtain ⟨n, hn⟩ : ∃ n, S.enums.length = n := ⟨_, rfl⟩
  obtain ⟨m, hm⟩ : ∃ m, S.structs.length = m := ⟨_, rfl⟩
  have HN := Lib.hid hn
  have HM := Lib.hid hm
  have hn18 := hB.ne
  have hm18 := hB.ns
  rw [hn] at hn18
  rw [hm] at hm18
  obtain ⟨r, hr⟩ := exB (longS S)
  rw [hn, hm] at hv0 ⊢
  have hv1 := hv0.next (ab1 w (Obj.cells #[.int .i64 S.ver, .slice A n c, .slice A2 m c2] 25))
  have cL := refLong_any S _ _ r hr (by rw [HN.out]; omega) (by rw [HM.out]; omega) hv1
  have B1 := Bx.new3 w 25 (.int .i64 S.ver) (.slice A n c) (.slice A2 m c2)
  have hab := ab1 w (Obj.cells #[.int .i64 S.ver, .slice A n c, .slice A2 m c2] 25)
  by_cases h1 : S.ver < 1
  · have hc2 : (4 : Int) = (chk S : Int) := by rw [chk_ver (.inl h1)]; rfl
    clear cL hr
    go_enter Tryz.func12, Tryz.ntmps12
    go_wp2_with fail
    go_ret
    exact ⟨by rw [← hc2]; rfl, hab⟩
  by_cases h2 : 999 < S.ver
  · have hc2 : (4 : Int) = (chk S : Int) := by rw [chk_ver (.inr h2)]; rfl
    clear cL hr
    go_enter Tryz.func12, Tryz.ntmps12
    go_wp2_with fail
    go_ret
    exact ⟨by rw [← hc2]; rfl, hab⟩
  have h12 : ¬ (S.ver < 1 ∨ 999 < S.ver) := by omega
  go_enter Tryz.func12, Tryz.ntmps12
  go_wp2_with fail
  refine cL.mono ?_
  rintro e w1 ⟨rfl, hb1⟩
  have hab1 := Below.next hab hb1
  have R0 := B1.next hb1
  cases r
  case true =>
    have hc2 : (3 : Int) = (chk S : Int) := by rw [chk_long h12 (hr.1 rfl)]; rfl
    clear cL hr
    go_wp2_with fail
    go_ret
    exact ⟨by rw [← hc2]; rfl, hab1⟩
  have hnl : ¬ longS S := fun h => by have := hr.2 h; cases this
  have HZ : Hid (∀ j, j < 0 → enE S j = 0) := Lib.hid fun _ h => by omega
  clear cL hr hn hm hab hb1 B1 hv1
  go_wp2_with fail
  go_loopw [3] (fun i_ wr => ∃ k : Nat, k ≤ n ∧ i_ = .int .i64 (k : Int) ∧ Hid (∀ j, j < k → enE S j = 0) ∧ Bx wr w.heap.size [.int .i64 S.ver, .slice A n c, .slice A2 m c2] ∧ Below w.heap.size w wr) (fun i_ _ => n - (intOf i_).toNat)
  case atStart => exact ⟨0, by omega, rfl, HZ, R0, hab1⟩
  case round =>
    clear HZ R0 hab1
    obtain ⟨k, hk, rfl, HZ, R1, hb⟩ := hrel
    have s0 := R1.c 0 rfl
    have s1 := R1.c 1 rfl
    have s2 := R1.c 2 rfl
    have l1 := R1.lt
    by_cases hlt : k < n
    · have hkm : k < S.enums.length := by rw [HN.out]; exact hlt
      obtain ⟨q1, q2, q3, q4⟩ := hB.en _ (List.getElem_mem hkm)
      have cC := refEnumC_any S k hkm (by rw [HN.out]; omega) _ wr (hv0.next hb) q1 q2 q3 q4
      obtain ⟨r, hr⟩ : ∃ r, enE S k = r := ⟨_, rfl⟩
      rw [hr] at cC
      have HR := Lib.hid hr
      clear hr q1 q2 q3 q4
      go_wp2_with fail
      refine cC.mono ?_
      rintro e w4 ⟨rfl, hb4⟩
      have R2 := R1.next hb4
      have hb5 := Below.next hb hb4
      clear cC s0 s1 s2 l1
      by_cases h0 : r = 0
      · subst h0
        have HZ2 := Lib.hid (before_succ HZ.out HR.out)
        go_wp2_with fail
        go_roundw
        case rel => exact ⟨k + 1, by omega, by go_num, HZ2, R2, hb5⟩
        case measure => simp [intOf]; omega
      · have HC := Lib.hid (chk_en h12 hnl (by rw [HN.out]; exact hlt) HZ.out HR.out h0)
        have d1 : ((r : Int) != 0) = true := by simp; omega
        have d2 : ((r : Int) == 0) = false := by simp; omega
        go_wp2_with fail
        go_ret
        exact ⟨by rw [HC.out]; rfl, hb5⟩
    · obtain rfl : k = n := by omega
      have HEN := Lib.hid (show ∀ j, j < S.enums.length → enE S j = 0 by rw [HN.out]; exact HZ.out)
      have HZ3 : Hid (∀ j, j < 0 → stE S j = 0) := Lib.hid fun _ h => by omega
      clear HZ
      go_wp2_with fail
      clear s0 s1 s2 l1
      rename World => wo
      go_loopw [5] (fun i_ wr => ∃ k_ : Nat, k_ ≤ m ∧ i_ = .int .i64 (k_ : Int) ∧ Hid (∀ j, j < k_ → stE S j = 0) ∧ Bx wr w.heap.size [.int .i64 S.ver, .slice A k c, .slice A2 m c2] ∧ Below w.heap.size w wr) (fun i_ _ => m - (intOf i_).toNat)
      case atStart => exact ⟨0, by omega, rfl, HZ3, R1, hb⟩
      case round =>
        clear HZ3 R1 hb
        obtain ⟨y, hy, rfl, HZ, R1, hb⟩ := hrel
        have s0 := R1.c 0 rfl
        have s1 := R1.c 1 rfl
        have s2 := R1.c 2 rfl
        have l1 := R1.lt
        by_cases hlt : y < m
        · have hkm : y < S.structs.length := by rw [HM.out]; exact hlt
          obtain ⟨q1, q2, q3⟩ := hB.st _ (List.getElem_mem hkm)
          have cC := refStructure_any S y hkm (by rw [HN.out]; omega) (by rw [HM.out]; omega) _ wr (hv0.next hb) q1 q2 (fun f hf => ⟨(q3 f hf).1, (q3 f hf).2.2.1⟩)
          obtain ⟨r, hr⟩ : ∃ r, stE S y = r := ⟨_, rfl⟩
          rw [hr] at cC
          have HR := Lib.hid hr
          clear hr q1 q2 q3
          go_wp2_with fail
          refine cC.mono ?_
          rintro e w4 ⟨rfl, hb4⟩
          have R2 := R1.next hb4
          have hb5 := Below.next hb hb4
          clear cC s0 s1 s2 l1
          by_cases h0 : r = 0
          · subst h0
            have HZ2 := Lib.hid (before_succ HZ.out HR.out)
            go_wp2_with fail
            go_roundw
            case rel => exact ⟨y + 1, by omega, by go_num, HZ2, R2, hb5⟩
            case measure => simp [intOf]; omega
          · have HC := Lib.hid (chk_st h12 hnl HEN.out (by rw [HM.out]; exact hlt) HZ.out HR.out h0)
            have d1 : ((r : Int) != 0) = true := by simp; omega
            have d2 : ((r : Int) == 0) = false := by simp; omega
            go_wp2_with fail
            go_ret
            exact ⟨by rw [HC.out]; rfl, hb5⟩
        · obtain rfl : y = m := by omega
          have hPt : Parts S := ⟨HEN.out, by rw [HM.out]; exact HZ.out⟩
          have hO := hPt.okk hB
          have hCN := chk_ns h12 hnl hPt
          have H0 : Hid (∀ t ∈ S.structs.take 0, ¬ Reach (nx S) t.name t.name) := Lib.hid fun t h => by cases h
          clear HZ HEN
          go_wp2_with fail
          clear s0 s1 s2 l1
          rename World => wq
          go_loopw [7] (fun i_ wr => ∃ k_ : Nat, k_ ≤ y ∧ i_ = .int .i64 (k_ : Int) ∧ Hid (∀ t ∈ S.structs.take k_, ¬ Reach (nx S) t.name t.name) ∧ Bx wr w.heap.size [.int .i64 S.ver, .slice A k c, .slice A2 y c2] ∧ Below w.heap.size w wr) (fun i_ _ => y - (intOf i_).toNat)
          case atStart => exact ⟨0, by omega, rfl, H0, R1, hb⟩
          case round =>
            clear H0 R1 hb
            obtain ⟨z, hz, rfl, HZ, R1, hb⟩ := hrel
            have s0 := R1.c 0 rfl
            have s1 := R1.c 1 rfl
            have s2 := R1.c 2 rfl
            have l1 := R1.lt
            by_cases hlt : z < y
            · have hkm : z < S.structs.length := by rw [HM.out]; exact hlt
              obtain ⟨a2, rfl, hA⟩ := hSs.get hkm
              have x0 := cell_next hb hA.1
              have hblk : (a2.add (z * 2)).block < wr.heap.size := blk_lt x0
              have hts := List.getElem_mem hkm
              have hTM := fun (h : ¬ Reach (nx S) (S.structs[z]'hkm).name (S.structs[z]'hkm).name) => take_all (P := fun t => ¬ Reach (nx S) t.name t.name) hkm HZ.out h
              generalize S.structs[z]'hkm = t at *
              obtain ⟨x, hx⟩ : ∃ x, t.name = x := ⟨_, rfl⟩
              rw [hx] at x0 hTM
              have hUx := fun W (hW : Below wr.heap.size wr W) => refUsed_any S (univ S) (fun x y h => nx_sub hO h) (Nat.le_trans (univ_len hO) (by decide)) hO.rt (fun t ht => Nat.le_trans (hO.fw t ht) (by decide)) (by rw [HM.out]; omega) x _ W (hv0.next (Below.next hb hW))
              have cU : ∀ W, Below wr.heap.size wr W → Calls Tryz.prog 42 #[.agg #[.int .i64 S.ver, .slice A k c, .slice (some a2) y c2], .string (bs x)] W (UsP S x W) := fun W hW => hUx W hW
              have HCY : Reach (nx S) x x → cyc S := fun h => ⟨t, hts, by rw [hx]; exact h⟩
              clear hA hx hUx hts
              go_upto_region 20 with (fail)
              refine wp_region_on (by kernel_rfl) (FF [(1, Fact.at_ wr (.pointer (some ⟨w.heap.size, 0, none⟩))), (7, Fact.at_ wr (.int .i64 (z : Int))), (54, Fact.at_ wr (.agg #[.int .i64 S.ver, .slice A k c, .slice (some a2) y c2])), (55, Fact.at_ wr (.pointer (some ⟨w.heap.size, 2, none⟩))), (56, Fact.at_ wr (.slice (some a2) y c2)), (57, Fact.at_ wr (.int .i64 (z : Int))), (58, Fact.at_ wr (.pointer (some (a2.add (z * 2))))), (59, Fact.at_ wr (.pointer (some (a2.add (z * 2))))), (60, Fact.at_ wr (.string (bs x))), (61, FUs S x wr), (8, FUs S x wr)]) [1, 7] 85 [54, 55, 56, 57, 58, 59, 60, 61, 8] rfl (by kernel_rfl) (by kernel_rfl) ?_ ?_ ?_
              · intro t9 ht9
                simp only [List.mem_cons, List.not_mem_nil, or_false] at ht9
                rcases ht9 with rfl | rfl
                · exact ⟨rfl, Below.refl _ _⟩
                · exact ⟨rfl, Below.refl _ _⟩
              · refine fcs ⟨at1 1 54 (.pointer (some ⟨w.heap.size, 0, none⟩)) (.agg #[.int .i64 S.ver, .slice A k c, .slice (some a2) y c2]) rfl (by first | exact .inl rfl | exact .inr ⟨_, _, _, rfl, rfl, by kernel_rfl, by decide, rfl⟩) (by kernel_rfl) rfl rfl (fun a9 W9 hb9 h9 => by have g0 := cell_next hb9 s0; have g1 := cell_next hb9 s1; have g2 := cell_next hb9 s2; simp [execOp, h9] <;> go_simp), ?_⟩
                refine fcs ⟨at1 1 55 (.pointer (some ⟨w.heap.size, 0, none⟩)) (.pointer (some ⟨w.heap.size, 2, none⟩)) rfl (by first | exact .inl rfl | exact .inr ⟨_, _, _, rfl, rfl, by kernel_rfl, by decide, rfl⟩) (by kernel_rfl) rfl rfl (fun a9 W9 hb9 h9 => by simp [execOp, h9] <;> go_simp), ?_⟩
                refine fcs ⟨at1 55 56 (.pointer (some ⟨w.heap.size, 2, none⟩)) (.slice (some a2) y c2) rfl (by first | exact .inl rfl | exact .inr ⟨_, _, _, rfl, rfl, by kernel_rfl, by decide, rfl⟩) (by kernel_rfl) rfl rfl (fun a9 W9 hb9 h9 => by have g2 := cell_next hb9 s2; simp [execOp, h9] <;> go_simp), ?_⟩
                refine fcs ⟨atcopy 7 57 (.int .i64 (z : Int)) (.inl rfl) rfl (by first | exact .inl rfl | exact .inr ⟨_, _, _, rfl, rfl, by kernel_rfl, by decide, rfl⟩) (by kernel_rfl) rfl rfl, ?_⟩
                refine fcs ⟨at2 56 57 58 (.slice (some a2) y c2) (.int .i64 (z : Int)) (.pointer (some (a2.add (z * 2)))) rfl (by first | exact .inl rfl | exact .inr ⟨_, _, _, rfl, rfl, by kernel_rfl, by decide, rfl⟩) (by kernel_rfl) (by kernel_rfl) rfl rfl rfl (fun a9 W9 hb9 h9 h8 => by simp [execOp, h9, h8] <;> go_simp), ?_⟩
                refine fcs ⟨at1 58 59 (.pointer (some (a2.add (z * 2)))) (.pointer (some (a2.add (z * 2)))) rfl (by first | exact .inl rfl | exact .inr ⟨_, _, _, rfl, rfl, by kernel_rfl, by decide, rfl⟩) (by kernel_rfl) rfl rfl (fun a9 W9 hb9 h9 => by have g0 := cell_next hb9 x0; simp [execOp, h9] <;> go_simp), ?_⟩
                refine fcs ⟨at1 59 60 (.pointer (some (a2.add (z * 2)))) (.string (bs x)) rfl (by first | exact .inl rfl | exact .inr ⟨_, _, _, rfl, rfl, by kernel_rfl, by decide, rfl⟩) (by kernel_rfl) rfl rfl (fun a9 W9 hb9 h9 => by have g0 := cell_next hb9 x0; simp [execOp, h9] <;> go_simp), ?_⟩
                refine fcs ⟨at_enter (W0 := wr) (by first | exact .inl rfl | exact .inr ⟨_, _, _, rfl, rfl, by kernel_rfl, by decide, rfl⟩) (fun a9 W9 hf9 => by have h1 := hf9 54 (by kernel_rfl); have h2 := hf9 60 (by kernel_rfl); have h1' : a9.tmps.getD 54 undef = (.agg #[.int .i64 S.ver, .slice A k c, .slice (some a2) y c2]) := h1.1; have h2' : a9.tmps.getD 60 undef = (.string (bs x)) := h2.1; exact ⟨42, #[(.agg #[.int .i64 S.ver, .slice A k c, .slice (some a2) y c2]), (.string (bs x))], by rw [← h1', ← h2']; simpa [execOp, resolve, Act.eval] using run_invoke (by kernel_rfl) _ W9, (cU W9 h1.2).mono fun e w' ⟨v, l, e1, e2, e3, e4⟩ => ⟨v, e1, e4, fun s hs => by injection hs with hs; subst hs; exact ⟨l, e2, e3, upG h1.2 e4⟩⟩⟩), ?_⟩
                refine fcs ⟨ob_copy 61 8 (.inr rfl) rfl (.inl rfl) (by kernel_rfl) rfl, ?_⟩
                exact fnl
              intro vv wv hvv hbv
              simp only [lay, List.foldl_cons, List.foldl_nil, List.setIfInBounds_toArray, List.set_cons_succ, List.set_cons_zero]
              obtain ⟨l, hU, hNm, hbl⟩ := hvv 8 (by decide)
              generalize vv 8 = v8 at *
              have hb2 := Below.next hb hbv
              have R2 := R1.next hbv
              have t2 := R2.c 2 rfl
              have lt2 := R2.lt
              have y0 := cell_next hbv x0
              have hblk2 : (a2.add (z * 2)).block < wv.heap.size := blk_lt y0
              have hll : l.length ≤ 1000000 := Us.short hO hU
              have cI := refIn_any l l.length x v8 wv hll hNm
              rw [List.take_length] at cI
              obtain ⟨Av, cv, rfl, -⟩ := hNm
              clear hvv cU s0 s1 s2 x0 hblk R1
              cases hc : l.contains x
              · rw [hc] at cI
                have HT := Lib.hid (hTM (fun h => by have := (hU.2 x).2 h; rw [List.contains_eq_mem] at hc; simp [this] at hc))
                clear hc hTM HCY
                go_wp2_with fail
                refine cI.mono ?_
                rintro e w7 ⟨rfl, rfl⟩
                go_wp2_with fail
                go_roundw
                case rel => exact ⟨z + 1, by omega, by go_num, HT, R2, hb2⟩
                case measure => simp [intOf]; omega
              · rw [hc] at cI
                have HC := Lib.hid (hCN.trans (nsR_cyc (HCY ((hU.2 x).1 (by rw [List.contains_eq_mem] at hc; simpa using hc)))))
                clear hc hTM HCY
                go_wp2_with fail
                refine cI.mono ?_
                rintro e w7 ⟨rfl, rfl⟩
                go_wp2_with fail
                go_ret
                exact ⟨by rw [HC.out]; rfl, hb2⟩
            · obtain rfl : z = y := by omega
              have hnc : ¬ cyc S := by
                rintro ⟨t, ht, h⟩
                exact HZ.out t (by rw [List.take_of_length_le (by rw [HM.out]; exact Nat.le_refl _)]; exact ht) h
              have hDp := dpt_of hO.nd hB hnc
              have cD := refDepths_any S hB hO.nd hnc _ wr (hv0.next hb)
              have H0 : Hid (∀ j, j < 0 → GI S j ≤ 6) := Lib.hid fun _ h => by omega
              clear HZ
              go_wp2_with fail
              refine cD.mono ?_
              rintro e w7 ⟨vd, dl, rfl, hdl, hdG, hDs, hb7⟩
              have hb8 := Below.next hb hb7
              obtain ⟨Ad, cd, rfl, hDc⟩ := hDs
              rw [hdl, HM.out]
              clear cD s0 s1 s2 l1 R1
              go_wp2_with fail
              go_loopw [10] (fun i_ wr => ∃ k_ : Nat, k_ ≤ z ∧ i_ = .int .i64 (k_ : Int) ∧ Hid (∀ j, j < k_ → GI S j ≤ 6) ∧ Below w7.heap.size w7 wr) (fun i_ _ => z - (intOf i_).toNat)
              case atStart => exact ⟨0, by omega, rfl, H0, Below.refl _ _⟩
              case round =>
                clear H0
                obtain ⟨u, hu, rfl, HZ, hb9⟩ := hrel
                have hbF := Below.next hb8 hb9
                by_cases hlt : u < z
                · have hum : u < S.structs.length := by rw [HM.out]; exact hlt
                  obtain ⟨ad, rfl, hdc⟩ := hDc u (by rw [hdl]; exact hum)
                  have d0 := cell_next hb9 hdc
                  have hG := hdG u hum
                  obtain ⟨g, hg⟩ : ∃ g, dl.getD u 0 = g := ⟨_, rfl⟩
                  rw [hg] at d0 hG
                  clear hdc hg
                  by_cases h6 : 6 < g
                  · have HC := Lib.hid (show chk S = 9 by rw [hCN]; exact (nsR_no hnc).1 (deep_yes hO.nd hDp hum (by rw [← hG]; exact h6)))
                    have d6 : decide ((6 : Int) < (g : Int)) = true := by rw [decide_eq_true_eq]; omega
                    clear hG hdG h6
                    go_wp2_with fail
                    go_ret
                    exact ⟨by rw [HC.out]; rfl, hbF⟩
                  · have HT := Lib.hid (before_succ HZ.out (show GI S u ≤ 6 by rw [← hG]; omega))
                    have d6 : decide ((6 : Int) < (g : Int)) = false := by rw [decide_eq_false_iff_not]; omega
                    clear hG h6 HZ
                    go_wp2_with fail
                    go_roundw
                    case rel => exact ⟨u + 1, by omega, by go_num, HT, hb9⟩
                    case measure => simp [intOf]; omega
                · obtain rfl : u = z := by omega
                  have HC := Lib.hid (show chk S = 0 by rw [hCN]; exact (nsR_no hnc).2 (deep_no hO.nd hDp (by rw [HM.out]; exact HZ.out)))
                  clear HZ hdG
                  go_wp2_with fail
                  go_ret
                  exact ⟨by rw [HC.out]; rfl, hbF⟩
end Go.Proofs.YthbhbpcjcnkkkaaGreatDoor
/-
  The law of Check. Go's own bounds of slices' lengths, and what the library's variables hold, are its conditions.
-/
namespace Go.Proofs.YthbhbpcjcnkkkaaGreatDoor
open Go.RowKit Go.Shelf
set_option maxRecDepth 100000 in
set_option maxHeartbeats 4000000 in
theorem schemaChecks_any (S : Sch) (v : Value) (w : World) (hlk : lokS S) (hv : ScV w S v) (hE : Env w) :
    Calls Tryz.prog 3 #[v] w (Ib (.bool true) w) := by
  have hv0 := hv
  obtain ⟨A, c, A2, c2, rfl, hS⟩ := hv
  obtain ⟨n, hn⟩ : ∃ n, S.enums.length = n := ⟨_, rfl⟩
  obtain ⟨m, hm⟩ : ∃ m, S.structs.length = m := ⟨_, rfl⟩
  have HN := Lib.hid hn
  have HM := Lib.hid hm
  rw [hn, hm] at hv0 ⊢
  have hab := ab1 w (Obj.cells #[.int .i64 S.ver, .slice A n c, .slice A2 m c2] 25)
  have hv1 := hv0.next hab
  have B1 := Bx.new3 w 25 (.int .i64 S.ver) (.slice A n c) (.slice A2 m c2)
  have cF := few_any S _ _ hlk hv1
  obtain ⟨f, hf⟩ : ∃ f, few S = f := ⟨_, rfl⟩
  rw [hf] at cF
  have hE1 := hE.next hab
  clear hS hn hm
  go_enter Tryz.func3, Tryz.ntmps3
  go_wp2_with fail
  refine cF.mono ?_
  rintro e w2 ⟨rfl, hb2⟩
  have hbw := Below.next hab hb2
  have hE2 := hE1.next hb2
  cases f
  · go_wp2_with fail
    refine (awake_any _ hE2).mono ?_
    rintro e w3 ⟨rfl, hb3⟩
    go_wp2_with fail
    go_ret
    exact ⟨rfl, Below.next hbw hb3⟩
  have hB := few_B hf
  have B2 := B1.next hb2
  have s0 := B2.c 0 rfl
  have s1 := B2.c 1 rfl
  have s2 := B2.c 2 rfl
  have l1 := B2.lt
  have cD := fun W (h : Below w2.heap.size w2 W) => check_any S hB _ W (hv1.next (Below.next hb2 h)) (hE2.next h)
  have cR := fun W (h : Below w2.heap.size w2 W) => refCheck_any S hB _ W (hv1.next (Below.next hb2 h))
  obtain ⟨k, hk⟩ : ∃ k, chk S = k := ⟨_, rfl⟩
  rw [hk] at cD cR
  clear hk cF
  go_upto_region 3 with (fail)
  refine wp_region_on (by kernel_rfl) (FF [(1, Fact.at_ w2 (.pointer (some ⟨w.heap.size, 0, none⟩))), (7, Fact.at_ w2 (.agg #[.int .i64 S.ver, .slice A n c, .slice A2 m c2])), (8, Fact.at_ w2 (.int .i64 (k : Int))), (9, Fact.at_ w2 (.agg #[.int .i64 S.ver, .slice A n c, .slice A2 m c2])), (10, Fact.at_ w2 (.int .i64 (k : Int))), (11, Fact.at_ w2 (.bool true)), (12, Fact.at_ w2 (.bool true)), (13, Fact.at_ w2 (.bool true)), (14, Fact.at_ w2 (.bool true)), (2, Fact.at_ w2 (.bool true))]) [1] 15 [7, 8, 9, 10, 11, 12, 13, 14, 2] rfl (by kernel_rfl) (by kernel_rfl) ?_ ?_ ?_
  · intro t9 ht9
    simp only [List.mem_cons, List.not_mem_nil, or_false] at ht9
    rcases ht9 with rfl
    · exact ⟨rfl, Below.refl _ _⟩
  · refine fcs ⟨at1 1 7 (.pointer (some ⟨w.heap.size, 0, none⟩)) (.agg #[.int .i64 S.ver, .slice A n c, .slice A2 m c2]) rfl (by first | exact .inl rfl | exact .inr ⟨_, _, _, rfl, rfl, by kernel_rfl, by decide, rfl⟩) (by kernel_rfl) rfl rfl (fun a9 W9 hb9 h9 => by have g0 := cell_next hb9 s0; have g1 := cell_next hb9 s1; have g2 := cell_next hb9 s2; simp [execOp, h9] <;> go_simp), ?_⟩
    refine fcs ⟨atc1 11 7 8 (.agg #[.int .i64 S.ver, .slice A n c, .slice A2 m c2]) (.int .i64 (k : Int)) _ rfl rfl (by first | exact .inl rfl | exact .inr ⟨_, _, _, rfl, rfl, by kernel_rfl, by decide, rfl⟩) (by kernel_rfl) rfl (by kernel_rfl) rfl (fun W9 hb9 => cD W9 hb9), ?_⟩
    refine fcs ⟨at1 1 9 (.pointer (some ⟨w.heap.size, 0, none⟩)) (.agg #[.int .i64 S.ver, .slice A n c, .slice A2 m c2]) rfl (by first | exact .inl rfl | exact .inr ⟨_, _, _, rfl, rfl, by kernel_rfl, by decide, rfl⟩) (by kernel_rfl) rfl rfl (fun a9 W9 hb9 h9 => by have g0 := cell_next hb9 s0; have g1 := cell_next hb9 s1; have g2 := cell_next hb9 s2; simp [execOp, h9] <;> go_simp), ?_⟩
    refine fcs ⟨atc1 12 9 10 (.agg #[.int .i64 S.ver, .slice A n c, .slice A2 m c2]) (.int .i64 (k : Int)) _ rfl rfl (by first | exact .inl rfl | exact .inr ⟨_, _, _, rfl, rfl, by kernel_rfl, by decide, rfl⟩) (by kernel_rfl) rfl (by kernel_rfl) rfl (fun W9 hb9 => cR W9 hb9), ?_⟩
    refine fcs ⟨at2 8 10 11 (.int .i64 (k : Int)) (.int .i64 (k : Int)) (.bool true) rfl (by first | exact .inl rfl | exact .inr ⟨_, _, _, rfl, rfl, by kernel_rfl, by decide, rfl⟩) (by kernel_rfl) (by kernel_rfl) rfl rfl rfl (fun a9 W9 hb9 h9 h8 => by simp [execOp, h9, h8] <;> go_simp), ?_⟩
    refine fcs ⟨atcopy 11 12 (.bool true) (.inl rfl) rfl (by first | exact .inl rfl | exact .inr ⟨_, _, _, rfl, rfl, by kernel_rfl, by decide, rfl⟩) (by kernel_rfl) rfl rfl, ?_⟩
    refine fcs ⟨atc0 10 1 13 (.pointer (some ⟨w.heap.size, 0, none⟩)) (.bool true) _ rfl rfl (by first | exact .inl rfl | exact .inr ⟨_, _, _, rfl, rfl, by kernel_rfl, by decide, rfl⟩) (by kernel_rfl) rfl (by kernel_rfl) rfl (fun W9 hb9 => awake_any W9 (hE2.next hb9)), ?_⟩
    refine fcs ⟨atpick 12 13 14 true (.bool true) _ _ rfl rfl rfl (by first | exact .inl rfl | exact .inr ⟨_, _, _, rfl, rfl, by kernel_rfl, by decide, rfl⟩) (by kernel_rfl) (by kernel_rfl) rfl rfl rfl, ?_⟩
    refine fcs ⟨atcopy 14 2 (.bool true) (.inr rfl) rfl (by first | exact .inl rfl | exact .inr ⟨_, _, _, rfl, rfl, by kernel_rfl, by decide, rfl⟩) (by kernel_rfl) rfl rfl, ?_⟩
    exact fnl
  intro vv wv hvv hbv
  have hv2 : vv 2 = (.bool true) := (hvv 2 (by decide)).1
  simp only [lay, List.foldl_cons, List.foldl_nil, List.setIfInBounds_toArray, List.set_cons_succ, List.set_cons_zero, hv2]
  clear hvv cD cR
  go_wp2_with fail
  go_ret
  exact ⟨rfl, Below.next hbw hbv⟩
theorem checks_row (S : Sch) (v : Value) (w : World) (hl : lokS S) (hv : ScV w S v) (hL : laidMetH Tryz.prog Rows.schemaChecksRow.laid w) :
    Calls Tryz.prog 3 #[v] w (Ib (.bool true) w) := schemaChecks_any S v w hl hv (env_laid hL)
end Go.Proofs.YthbhbpcjcnkkkaaGreatDoor
/-
  The reference's Depth and Uses. No conditions beyond those that each names.
-/
namespace Go.Proofs.YthbhbpcjcnkkkaaGreatDoor
open Go.RowKit Go.Maps
/-- A valid schema that has this struct. -/
noncomputable def knw (S : Sch) (x : List UInt8) : Bool := (sns S).contains x && decide (chk S = 0)
theorem knw_true {S : Sch} {x : List UInt8} (h : knw S x = true) : chk S = 0 ∧ (sns S).contains x = true := by
  unfold knw at h
  rw [Bool.and_eq_true, decide_eq_true_eq] at h
  exact ⟨h.2, h.1⟩
theorem knw_false {S : Sch} {x : List UInt8} (h : knw S x = false) : ¬ (chk S = 0 ∧ (sns S).contains x = true) := by
  rintro ⟨h1, h2⟩
  unfold knw at h
  rw [h2, h1] at h
  cases h
theorem lok0 {k s : Int} {n : List UInt8} : lok (.mk k s n []) := by rw [lok]; exact ⟨by decide, by rw [lok.loks]; trivial⟩
theorem tyV0 (W : World) (k s : Int) (n : List UInt8) : TyV W (.mk k s n []) (.agg #[.int .i64 k, .int .i64 s, .string (bs n), .slice none 0 0]) := ⟨none, 0, rfl, .inl rfl⟩
theorem dep_le {S : Sch} (hB : FewB S) (x : List UInt8) : dep S x ≤ 1000 := by
  have h := hB.ns
  unfold dep
  exact Nat.le_trans (gd_le hB _ x) (by omega)
/-- The depths of structs. -/
def FDs (S : Sch) (W0 : World) : Fact := ⟨fun v w' => ∃ dl : List Nat, dl.length = S.structs.length ∧ (∀ k, k < S.structs.length → dl.getD k 0 = GI S k) ∧ Ds w' dl v ∧ Below W0.heap.size W0 w', fun _ _ _ ⟨l, h1, h2, h3, h4⟩ hb => ⟨l, h1, h2, h3.next hb, upG h4 hb⟩⟩
/-- The names that a struct uses, as answered. -/
def FUa (S : Sch) (x : List UInt8) (W0 : World) : Fact := ⟨fun v w' => ∃ l, UsA S x l ∧ Nms w' l v ∧ Below W0.heap.size W0 w', fun _ _ _ ⟨l, h1, h2, h3⟩ hb => ⟨l, h1, h2.next hb, upG h3 hb⟩⟩
set_option maxRecDepth 100000 in
set_option maxHeartbeats 4000000 in
theorem refKnown_any (S : Sch) (hB : FewB S) (x : List UInt8) (v : Value) (w : World) (hv : ScV w S v) :
    Calls Tryz.prog 52 #[v, .string (bs x)] w (Ib (.bool (knw S x)) w) := by
  have hv0 := hv
  obtain ⟨A, c, A2, c2, rfl, hS⟩ := hv
  clear hS
  obtain ⟨n, hn⟩ : ∃ n, S.enums.length = n := ⟨_, rfl⟩
  obtain ⟨m, hm⟩ : ∃ m, S.structs.length = m := ⟨_, rfl⟩
  have HN := Lib.hid hn
  have HM := Lib.hid hm
  have hm18 := hB.ns
  rw [hm] at hm18
  rw [hn, hm] at hv0 ⊢
  have hab := ab1 w (Obj.cells #[.int .i64 S.ver, .slice A n c, .slice A2 m c2] 25)
  have hv1 := hv0.next hab
  have B1 := Bx.new3 w 25 (.int .i64 S.ver) (.slice A n c) (.slice A2 m c2)
  have cS := refStruct_any S x _ _ hv1 (by rw [HM.out]; omega)
  unfold StO at cS
  rw [mem_sns] at cS
  unfold knw
  obtain ⟨r, hr⟩ : ∃ r, (sns S).contains x = r := ⟨_, rfl⟩
  rw [hr] at cS ⊢
  obtain ⟨k, hk⟩ : ∃ k, chk S = k := ⟨_, rfl⟩
  rw [hk]
  clear hr hn hm
  go_enter Tryz.func52, Tryz.ntmps52
  go_wp2_with fail
  refine cS.mono ?_
  rintro e w2 ⟨u, rfl, hu, hb2⟩
  generalize (fst_ St.name S.structs x).getD st0 = t0 at *
  obtain ⟨A3, c3, rfl, -⟩ := hu
  have B2 := B1.next hb2
  have s0 := B2.c 0 rfl
  have s1 := B2.c 1 rfl
  have s2 := B2.c 2 rfl
  have l1 := B2.lt
  have hb3 := Below.next hab hb2
  have cC := fun W (h : Below w2.heap.size w2 W) => refCheck_any S hB _ W (hv1.next (Below.next hb2 h))
  rw [hk] at cC
  clear hk cS B1
  cases r
  · go_wp2_with fail
    go_ret
    exact ⟨rfl, Below.next hb3 (ab1 _ _)⟩
  · by_cases h0 : k = 0
    · subst h0
      go_wp2_with fail
      refine (cC _ (ab1 _ _)).mono ?_
      rintro e w4 ⟨rfl, hb4⟩
      go_wp2_with fail
      go_ret
      exact ⟨congrArg (fun b => Ending.returned (Value.bool b)) (by rfl), Below.next hb3 (Below.next (ab1 _ _) hb4)⟩
    · have d1 : ((k : Int) == 0) = false := by simp; omega
      go_wp2_with fail
      refine (cC _ (ab1 _ _)).mono ?_
      rintro e w4 ⟨rfl, hb4⟩
      go_wp2_with fail
      go_ret
      exact ⟨congrArg (fun b => Ending.returned (Value.bool b)) (by simp [h0]), Below.next hb3 (Below.next (ab1 _ _) hb4)⟩
set_option maxRecDepth 100000 in
set_option maxHeartbeats 4000000 in
theorem refDepthA_any (S : Sch) (hB : FewB S) (x : List UInt8) (v : Value) (w : World) (hv : ScV w S v) :
    Calls Tryz.prog 23 #[v, .string (bs x)] w (Ib (.int .i64 (depA S x : Int)) w) := by
  have hv0 := hv
  obtain ⟨A, c, A2, c2, rfl, hS⟩ := hv
  clear hS
  obtain ⟨n, hn⟩ : ∃ n, S.enums.length = n := ⟨_, rfl⟩
  obtain ⟨m, hm⟩ : ∃ m, S.structs.length = m := ⟨_, rfl⟩
  have HN := Lib.hid hn
  have HM := Lib.hid hm
  have hm18 := hB.ns
  rw [hm] at hm18
  rw [hn, hm] at hv0 ⊢
  have hab := ab1 w (Obj.cells #[.int .i64 S.ver, .slice A n c, .slice A2 m c2] 25)
  have hv1 := hv0.next hab
  have B1 := Bx.new3 w 25 (.int .i64 S.ver) (.slice A n c) (.slice A2 m c2)
  have cK := refKnown_any S hB x _ _ hv1
  cases hk : knw S x
  · have hA : depA S x = 0 := by
      have := knw_false hk
      unfold depA
      by_cases h1 : chk S = 0
      · rw [if_pos h1, if_neg fun h2 => this ⟨h1, h2⟩]
      · rw [if_neg h1]
    rw [hk] at cK
    rw [hA]
    clear hk hn hm hv1 hv0
    go_enter Tryz.func23, Tryz.ntmps23
    go_wp2_with fail
    refine cK.mono ?_
    rintro e w2 ⟨rfl, hb2⟩
    go_wp2_with fail
    go_ret
    exact ⟨rfl, Below.next hab hb2⟩
  · obtain ⟨hc, hx⟩ := knw_true hk
    have hV := chk_zero hc
    have hA : depA S x = dep S x := by unfold depA; rw [if_pos hc, if_pos hx]
    have hxs : x ∈ sns S := List.contains_iff_mem.1 hx
    have hnd := hV.pt.nd
    have hnc := hV.nc
    have hDp := dpt_of hnd hB hnc
    rw [hk] at cK
    rw [hA]
    clear hk hn hm hV hA hx
    go_enter Tryz.func23, Tryz.ntmps23
    go_wp2_with fail
    refine cK.mono ?_
    rintro e w2 ⟨rfl, hb2⟩
    have B2 := B1.next hb2
    have s0 := B2.c 0 rfl
    have s1 := B2.c 1 rfl
    have s2 := B2.c 2 rfl
    have l1 := B2.lt
    have hb3 := Below.next hab hb2
    clear cK
    go_upto_region 3 with (fail)
    refine wp_region_on (by kernel_rfl) (FF [(1, Fact.at_ w2 (.string (bs x))), (2, Fact.at_ w2 (.pointer (some ⟨w.heap.size, 0, none⟩))), (9, Fact.at_ w2 (.agg #[.int .i64 S.ver, .slice A n c, .slice A2 m c2])), (10, Fact.at_ w2 (.agg #[.int .i64 S.ver, .slice A n c, .slice A2 m c2])), (11, FDs S w2), (12, Fact.at_ w2 (.string (bs x))), (13, Fact.at_ w2 (.agg #[.int .i64 6, .int .i64 0, .string (bs x), .slice none 0 0])), (14, Fact.at_ w2 (.int .i64 (dep S x : Int))), (4, Fact.at_ w2 (.int .i64 (dep S x : Int)))]) [1, 2] 15 [9, 10, 11, 12, 13, 14, 4] rfl (by kernel_rfl) (by kernel_rfl) ?_ ?_ ?_
    · intro t9 ht9
      simp only [List.mem_cons, List.not_mem_nil, or_false] at ht9
      rcases ht9 with rfl | rfl
      · exact ⟨rfl, Below.refl _ _⟩
      · exact ⟨rfl, Below.refl _ _⟩
    · refine fcs ⟨at1 2 9 (.pointer (some ⟨w.heap.size, 0, none⟩)) (.agg #[.int .i64 S.ver, .slice A n c, .slice A2 m c2]) rfl (by first | exact .inl rfl | exact .inr ⟨_, _, _, rfl, rfl, by kernel_rfl, by decide, rfl⟩) (by kernel_rfl) rfl rfl (fun a9 W9 hb9 h9 => by have g0 := cell_next hb9 s0; have g1 := cell_next hb9 s1; have g2 := cell_next hb9 s2; simp [execOp, h9] <;> go_simp), ?_⟩
      refine fcs ⟨at1 2 10 (.pointer (some ⟨w.heap.size, 0, none⟩)) (.agg #[.int .i64 S.ver, .slice A n c, .slice A2 m c2]) rfl (by first | exact .inl rfl | exact .inr ⟨_, _, _, rfl, rfl, by kernel_rfl, by decide, rfl⟩) (by kernel_rfl) rfl rfl (fun a9 W9 hb9 h9 => by have g0 := cell_next hb9 s0; have g1 := cell_next hb9 s1; have g2 := cell_next hb9 s2; simp [execOp, h9] <;> go_simp), ?_⟩
      refine fcs ⟨at_enter (W0 := w2) (by first | exact .inl rfl | exact .inr ⟨_, _, _, rfl, rfl, by kernel_rfl, by decide, rfl⟩) (fun a9 W9 hf9 => by have p10 := hf9 10 (by kernel_rfl); have q10 : a9.tmps.getD 10 undef = (.agg #[.int .i64 S.ver, .slice A n c, .slice A2 m c2]) := p10.1; have hb9 := p10.2; exact ⟨44, #[(.agg #[.int .i64 S.ver, .slice A n c, .slice A2 m c2])], by rw [← q10]; simpa [execOp, resolve, Act.eval] using run_invoke (by kernel_rfl) _ W9, (refDepths_any S hB hnd hnc _ W9 (hv1.next (Below.next hb2 hb9))).mono fun e w' ⟨vd, dl, e1, e2, e3, e4, e5⟩ => ⟨vd, e1, e5, fun s hs => by injection hs with hs; subst hs; exact ⟨dl, e2, e3, e4, upG hb9 e5⟩⟩⟩), ?_⟩
      refine fcs ⟨atcopy 1 12 (.string (bs x)) (.inl rfl) rfl (by first | exact .inl rfl | exact .inr ⟨_, _, _, rfl, rfl, by kernel_rfl, by decide, rfl⟩) (by kernel_rfl) rfl rfl, ?_⟩
      refine fcs ⟨at1 12 13 (.string (bs x)) (.agg #[.int .i64 6, .int .i64 0, .string (bs x), .slice none 0 0]) rfl (by first | exact .inl rfl | exact .inr ⟨_, _, _, rfl, rfl, by kernel_rfl, by decide, rfl⟩) (by kernel_rfl) rfl rfl (fun a9 W9 hb9 h9 => by simp [execOp, h9] <;> go_simp), ?_⟩
      refine fcs ⟨at_enter (W0 := w2) (by first | exact .inl rfl | exact .inr ⟨_, _, _, rfl, rfl, by kernel_rfl, by decide, rfl⟩) (fun a9 W9 hf9 => by
      have p9 := hf9 9 (by kernel_rfl)
      obtain ⟨dl, d1, d2, d3, d4⟩ := hf9 11 (by kernel_rfl)
      have p13 := hf9 13 (by kernel_rfl)
      have q9 : a9.tmps.getD 9 undef = (.agg #[.int .i64 S.ver, .slice A n c, .slice A2 m c2]) := p9.1
      have q13 : a9.tmps.getD 13 undef = (.agg #[.int .i64 6, .int .i64 0, .string (bs x), .slice none 0 0]) := p13.1
      have hx2 : dN S dl x = dep S x := by
        unfold dN
        rw [d2 _ (idx_lt hxs), GI_dep hnd hDp (idx_lt hxs), show (S.structs[idx S x]'(idx_lt hxs)) = S.structs.getD (idx S x) st0 by rw [List.getD_eq_getElem?_getD, List.getElem?_eq_getElem (idx_lt hxs)]; rfl, idx_name hxs]
      have htd : td S (dN S dl) (.mk 6 0 x []) = dep S x := by rw [td_kind (by decide), if_pos rfl, if_pos hxs, hx2]
      have hle : ∀ k, dl.getD k 0 ≤ 1000 := fun k => by
        by_cases hk : k < S.structs.length
        · rw [d2 k hk, GI_dep hnd hDp hk]; exact Nat.le_trans (dep_le hB _) (by decide)
        · rw [List.getD_eq_getElem?_getD, List.getElem?_eq_none (by omega)]; exact Nat.zero_le _
      have cT := refTypeDepth_any (SizeOf.sizeOf (Ty.mk 6 0 x []) + 1) S dl 1000 (.mk 6 0 x []) _ (a9.tmps.getD 11 undef) _ W9 (Nat.lt_succ_self _) (by rw [lst_not _ _ _ (by decide)]; decide) (by rw [HM.out]; omega) d1 hle (by decide) lok0 (hv1.next (Below.next hb2 p9.2)) d3 (tyV0 W9 6 0 x)
      rw [htd] at cT
      exact ⟨53, #[(.agg #[.int .i64 S.ver, .slice A n c, .slice A2 m c2]), a9.tmps.getD 11 undef, (.agg #[.int .i64 6, .int .i64 0, .string (bs x), .slice none 0 0])], by rw [← q9, ← q13]; simpa [execOp, resolve, Act.eval] using run_invoke (by kernel_rfl) _ W9, cT.mono fun e w' ⟨e1, e2⟩ => ⟨_, e1, e2, fun s hs => by injection hs with hs; subst hs; exact ⟨rfl, upG p9.2 e2⟩⟩⟩), ?_⟩
      refine fcs ⟨atcopy 14 4 (.int .i64 (dep S x : Int)) (.inr rfl) rfl (by first | exact .inl rfl | exact .inr ⟨_, _, _, rfl, rfl, by kernel_rfl, by decide, rfl⟩) (by kernel_rfl) rfl rfl, ?_⟩
      exact fnl
    intro vv wv hvv hbv
    have hv4 : vv 4 = (.int .i64 (dep S x : Int)) := (hvv 4 (by decide)).1
    simp only [lay, List.foldl_cons, List.foldl_nil, List.setIfInBounds_toArray, List.set_cons_succ, List.set_cons_zero, hv4]
    clear hvv
    go_wp2_with fail
    go_ret
    exact ⟨rfl, Below.next hb3 hbv⟩
set_option maxRecDepth 100000 in
set_option maxHeartbeats 4000000 in
theorem refUsesA_any (S : Sch) (hB : FewB S) (x : List UInt8) (v : Value) (w : World) (hv : ScV w S v) :
    Calls Tryz.prog 26 #[v, .string (bs x)] w (UaP S x w) := by
  have hv0 := hv
  obtain ⟨A, c, A2, c2, rfl, hS⟩ := hv
  clear hS
  obtain ⟨n, hn⟩ : ∃ n, S.enums.length = n := ⟨_, rfl⟩
  obtain ⟨m, hm⟩ : ∃ m, S.structs.length = m := ⟨_, rfl⟩
  have HN := Lib.hid hn
  have HM := Lib.hid hm
  have hm18 := hB.ns
  rw [hm] at hm18
  rw [hn, hm] at hv0 ⊢
  have hab := ab1 w (Obj.cells #[.int .i64 S.ver, .slice A n c, .slice A2 m c2] 25)
  have hv1 := hv0.next hab
  have B1 := Bx.new3 w 25 (.int .i64 S.ver) (.slice A n c) (.slice A2 m c2)
  have cK := refKnown_any S hB x _ _ hv1
  cases hk : knw S x
  · have hA : UsA S x [] := .inr ⟨knw_false hk, rfl⟩
    rw [hk] at cK
    clear hk hn hm hv1 hv0
    go_enter Tryz.func26, Tryz.ntmps26
    go_wp2_with fail
    refine cK.mono ?_
    rintro e w2 ⟨rfl, hb2⟩
    go_wp2_with fail
    go_ret
    exact ⟨_, [], rfl, hA, Sl.nil _ _ _, Below.next hab hb2⟩
  · obtain ⟨hc, hx⟩ := knw_true hk
    have hO := (chk_zero hc).pt.okk hB
    rw [hk] at cK
    clear hk hn hm
    go_enter Tryz.func26, Tryz.ntmps26
    go_wp2_with fail
    refine cK.mono ?_
    rintro e w2 ⟨rfl, hb2⟩
    have B2 := B1.next hb2
    have s0 := B2.c 0 rfl
    have s1 := B2.c 1 rfl
    have s2 := B2.c 2 rfl
    have l1 := B2.lt
    have hb3 := Below.next hab hb2
    have cU := refUsed_any S (univ S) (fun x y h => nx_sub hO h) (Nat.le_trans (univ_len hO) (by decide)) hO.rt (fun t ht => Nat.le_trans (hO.fw t ht) (by decide)) (by rw [HM.out]; omega) x _ w2 (hv1.next hb2)
    clear cK B1
    go_wp2_with fail
    refine cU.mono ?_
    rintro e w4 ⟨v4, l, rfl, hU, hN, hb4⟩
    go_wp2_with fail
    go_ret
    exact ⟨_, l, rfl, .inl ⟨hc, hx, hU⟩, hN, Below.next hb3 hb4⟩
end Go.Proofs.YthbhbpcjcnkkkaaGreatDoor
/-
  What a struct of a valid schema uses: mathematics, no conditions beyond those that each names.
-/
namespace Go.Proofs.YthbhbpcjcnkkkaaGreatDoor
open Go.RowKit
theorem td_ge {S : Sch} (hO : Okk S) {d : List UInt8 → Nat} {t : Ty} (hr : right S t = true) {y : List UInt8} (hy : y ∈ dir t) (hs : y ∈ sns S) : d y ≤ td S d t := by
  rw [td_eq d t hr]
  rcases right_dir t hr with ⟨h1, h2⟩ | ⟨h1, -⟩
  · rw [h1] at hy
    obtain rfl : y = (inn t).name := by simpa using hy
    rcases h2 with ⟨h6, -⟩ | ⟨h7, h8⟩
    · rw [if_pos h6]; omega
    · exact absurd h8 (fun h => hO.dj _ hs h)
  · rw [h1] at hy; cases hy
theorem nx_st {S : Sch} {x y : List UInt8} (h : y ∈ nx S x) : ∃ t ∈ S.structs, t.name = x ∧ fst_ St.name S.structs x = some t ∧ ∃ f ∈ t.fields, y ∈ dir f.type := by
  unfold nx at h
  cases e : fst_ St.name S.structs x with
  | none => rw [e] at h; cases h
  | some t =>
    rw [e] at h
    obtain ⟨f, hf, hy⟩ := List.mem_flatMap.1 h
    obtain ⟨h1, h2⟩ := fst_mem e
    exact ⟨t, h1, h2, rfl, f, hf, hy⟩
theorem dep_step {S : Sch} (hO : Okk S) {rk : List UInt8 → Nat} (hP : Dpt S rk) {x y : List UInt8} (h : y ∈ nx S x) (hs : y ∈ sns S) : dep S y < dep S x := by
  obtain ⟨t, ht, hn, hf, f, hff, hy⟩ := nx_st h
  have h1 := td_ge hO (d := dep S) (hO.rt t ht f hff) hy hs
  rw [hP.fx x]
  unfold dF fdep
  rw [hf]
  have h2 := le_foldl_max (t.fields.map fun f => td S (dep S) f.type) 0 (x := td S (dep S) f.type) (List.mem_map.2 ⟨f, hff, rfl⟩)
  show dep S y < 1 + (t.fields.map fun f => td S (dep S) f.type).foldl max 0
  omega
theorem nx_src {S : Sch} {x y : List UInt8} (h : y ∈ nx S x) : x ∈ sns S := by
  obtain ⟨t, ht, hn, -⟩ := nx_st h
  exact List.mem_map.2 ⟨t, ht, hn⟩
theorem dep_reach {S : Sch} (hO : Okk S) {rk : List UInt8 → Nat} (hP : Dpt S rk) {x y : List UInt8} (h : Reach (nx S) x y) : y ∈ sns S → dep S y < dep S x := by
  induction h with
  | one h => exact fun hs => dep_step hO hP h hs
  | more h k ih => exact fun hs => Nat.lt_trans (dep_step hO hP k hs) (ih (nx_src k))
theorem dep_pos {S : Sch} {rk : List UInt8 → Nat} (hP : Dpt S rk) (x : List UInt8) : 1 ≤ dep S x := by
  rw [hP.fx x]
  unfold dF fdep
  omega
theorem reach_univ {S : Sch} (hO : Okk S) {x y : List UInt8} (h : Reach (nx S) x y) : y ∈ univ S := by
  cases h with
  | one h => exact nx_sub hO h
  | more _ h => exact nx_sub hO h
theorem Us.sub {S : Sch} {x y : List UInt8} {l m : List (List UInt8)} (h : Us S x l) (k : Us S y m) (hy : y ∈ l) : ∀ z ∈ m, z ∈ l := fun z hz => (h.2 z).2 (((h.2 y).1 hy).trans ((k.2 z).1 hz))
end Go.Proofs.YthbhbpcjcnkkkaaGreatDoor
/-
  What the uses of a struct of a valid schema keep: mathematics. No conditions beyond those that each names.
-/
namespace Go.Proofs.YthbhbpcjcnkkkaaGreatDoor
theorem UsA.one {S : Sch} {x : List UInt8} {l m : List (List UInt8)} (h : UsA S x l) (k : UsA S x m) : l = m := by
  rcases h with ⟨h1, h2, h3⟩ | ⟨h1, rfl⟩
  · rcases k with ⟨-, -, k3⟩ | ⟨k1, -⟩
    · exact h3.one k3
    · exact absurd ⟨h1, h2⟩ k1
  · rcases k with ⟨k1, k2, -⟩ | ⟨-, rfl⟩
    · exact absurd ⟨k1, k2⟩ h1
    · rfl
theorem UsA.short {S : Sch} (hB : FewB S) {x : List UInt8} {l : List (List UInt8)} (h : UsA S x l) : l.length ≤ 1000000 := by
  rcases h with ⟨h1, -, h3⟩ | ⟨-, rfl⟩
  · exact h3.short ((chk_zero h1).pt.okk hB)
  · exact Nat.zero_le _
section
variable {S : Sch} (hc : chk S = 0)
include hc
theorem cl_us {x : List UInt8} {l : List (List UInt8)} (hx : x ∈ sns S) (h : UsA S x l) : Us S x l := by
  rcases h with ⟨-, -, h⟩ | ⟨h, -⟩
  · exact h
  · exact absurd ⟨hc, List.contains_iff_mem.2 hx⟩ h
theorem cl_dep {x : List UInt8} (hx : x ∈ sns S) : depA S x = dep S x := by
  unfold depA
  rw [if_pos hc, if_pos (List.contains_iff_mem.2 hx)]
theorem cl_sub {x y : List UInt8} {l m : List (List UInt8)} (hx : x ∈ sns S) (h : UsA S x l) (hy : y ∈ l) (k : UsA S y m) : ∀ z ∈ m, z ∈ l := by
  rcases k with ⟨-, -, k⟩ | ⟨-, rfl⟩
  · exact (cl_us hc hx h).sub k hy
  · intro z hz; cases hz
theorem cl_ne {x y : List UInt8} {l : List (List UInt8)} (hx : x ∈ sns S) (h : UsA S x l) (hy : y ∈ l) : y ≠ x := by
  rintro rfl
  have hr := ((cl_us hc hx h).2 y).1 hy
  obtain ⟨t, ht, e⟩ := List.mem_map.1 hx
  exact (chk_zero hc).nc ⟨t, ht, by rw [e]; exact hr⟩
theorem cl_asc {x : List UInt8} {l : List (List UInt8)} (hx : x ∈ sns S) (h : UsA S x l) {k : Nat} (hk : k + 1 < l.length) : l[k] < l[k + 1] := (ltB _ _).2 (steps_of_asc (cl_us hc hx h).1 k hk)
variable (hB : FewB S)
include hB
theorem cl_rng {x : List UInt8} (hx : x ∈ sns S) : 1 ≤ depA S x ∧ depA S x ≤ 6 := by
  have hV := chk_zero hc
  have hD := dpt_of hV.pt.nd hB hV.nc
  rw [cl_dep hc hx]
  refine ⟨dep_pos hD x, Nat.le_of_not_lt fun h => ?_⟩
  obtain ⟨t, ht, rfl⟩ := List.mem_map.1 hx
  exact hV.nd ⟨t, ht, h⟩
theorem cl_less {x y : List UInt8} {l : List (List UInt8)} (hx : x ∈ sns S) (h : UsA S x l) (hy : y ∈ l) : depA S y < depA S x := by
  have hV := chk_zero hc
  have hD := dpt_of hV.pt.nd hB hV.nc
  have hr := ((cl_us hc hx h).2 y).1 hy
  by_cases hs : y ∈ sns S
  · rw [cl_dep hc hs, cl_dep hc hx]
    exact dep_reach (hV.pt.okk hB) hD hr hs
  · have h0 : depA S y = 0 := by
      unfold depA
      rw [if_pos hc, if_neg fun h => hs (List.contains_iff_mem.1 h)]
    have := (cl_rng hc hB hx).1
    omega
theorem cl_xor {x y : List UInt8} {l : List (List UInt8)} (hx : x ∈ sns S) (h : UsA S x l) (hy : y ∈ l) : (sns S).contains y = !(ens S).contains y := by
  have hO := (chk_zero hc).pt.okk hB
  have hr := ((cl_us hc hx h).2 y).1 hy
  have hu := reach_univ hO hr
  unfold univ at hu
  rcases List.mem_append.1 hu with h1 | h1
  · have h2 : y ∉ ens S := fun h => hO.dj y h1 h
    simp [h1, h2]
  · have h2 : y ∉ sns S := fun h => hO.dj y h h1
    simp [h1, h2]
theorem cl_len {x : List UInt8} {l : List (List UInt8)} (h : UsA S x l) {y : List UInt8} (hy : y ∈ l) : y.length ≤ 40 := by
  have hO := (chk_zero hc).pt.okk hB
  rcases h with ⟨-, -, h3⟩ | ⟨-, rfl⟩
  · have hu := reach_univ hO ((h3.2 y).1 hy)
    unfold univ at hu
    exact (hO.ne y (List.mem_append.1 hu)).2
  · cases hy
end
end Go.Proofs.YthbhbpcjcnkkkaaGreatDoor
/-
  The law of Depth and Uses. Go's own bounds of lengths, and what the library's variables hold, are its conditions.
-/
namespace Go.Proofs.YthbhbpcjcnkkkaaGreatDoor
open Go.RowKit Go.Shelf
set_option maxRecDepth 100000 in
set_option maxHeartbeats 8000000 in
theorem schemaNests_any (S : Sch) (v : Value) (nm : List UInt8) (w : World) (hlk : lokS S) (hv : ScV w S v) (hnm : nm.length ≤ 9223372036854775807) (hE : Env w) :
    Calls Tryz.prog 5 #[v, .string (bs nm)] w (Ib (.bool true) w) := by
  have hv0 := hv
  obtain ⟨A, c, A2, c2, rfl, hS⟩ := hv
  obtain ⟨n, hn⟩ : ∃ n, S.enums.length = n := ⟨_, rfl⟩
  obtain ⟨m, hm⟩ : ∃ m, S.structs.length = m := ⟨_, rfl⟩
  have HN := Lib.hid hn
  have HM := Lib.hid hm
  rw [hn, hm] at hv0 ⊢
  have hab := ab1 w (Obj.cells #[.int .i64 S.ver, .slice A n c, .slice A2 m c2] 25)
  have hv1 := hv0.next hab
  have B1 := Bx.new3 w 25 (.int .i64 S.ver) (.slice A n c) (.slice A2 m c2)
  have cF := few_any S _ _ hlk hv1
  obtain ⟨f, hf⟩ : ∃ f, few S = f := ⟨_, rfl⟩
  rw [hf] at cF
  have hE1 := hE.next hab
  have hSs := hS.st
  clear hS hn hm
  go_enter Tryz.func5, Tryz.ntmps5
  go_wp2_with fail
  refine cF.mono ?_
  rintro e w2 ⟨rfl, hb2⟩
  have hbw := Below.next hab hb2
  have hE2 := hE1.next hb2
  cases f
  · go_wp2_with fail
    refine (awake_any _ hE2).mono ?_
    rintro e w3 ⟨rfl, hb3⟩
    go_wp2_with fail
    go_ret
    exact ⟨rfl, Below.next hbw hb3⟩
  have hB := few_B hf
  have B2 := B1.next hb2
  have s0 := B2.c 0 rfl
  have s1 := B2.c 1 rfl
  have s2 := B2.c 2 rfl
  have l1 := B2.lt
  have hm18 : m ≤ 18 := by have := hB.ns; rw [HM.out] at this; exact this
  clear cF hE1
  go_wp2_with fail
  go_loopw [5] (fun i_ wr => ∃ k : Nat, k ≤ m ∧ i_ = .int .i64 (k : Int) ∧ Bx wr w.heap.size [.int .i64 S.ver, .slice A n c, .slice A2 m c2] ∧ Below w.heap.size w wr) (fun i_ _ => m - (intOf i_).toNat)
  case atStart => exact ⟨0, by omega, rfl, B2, hbw⟩
  case round =>
    clear s0 s1 s2 l1 B2
    obtain ⟨k, hk, rfl, R1, hb⟩ := hrel
    have s0 := R1.c 0 rfl
    have s1 := R1.c 1 rfl
    have s2 := R1.c 2 rfl
    have l1 := R1.lt
    by_cases hlt : k < m
    · have hkm : k < S.structs.length := by rw [HM.out]; exact hlt
      obtain ⟨a2, rfl, hA⟩ := hSs.get hkm
      have x0 := cell_next hb hA.1
      have hblk : (a2.add (k * 2)).block < wr.heap.size := blk_lt x0
      have hx := (hB.st _ (List.getElem_mem hkm)).1
      generalize (S.structs[k]'hkm).name = x at *
      clear hA
      have cD := fun W (h : Below wr.heap.size wr W) => devDepth_any S hB x (Nat.le_trans hx (by decide)) _ W (hv0.next (Below.next hb h)) (hE.next (Below.next hb h))
      have cR := fun W (h : Below wr.heap.size wr W) => refDepthA_any S hB x _ W (hv0.next (Below.next hb h))
      have cU := fun W (h : Below wr.heap.size wr W) => devUses_any S hB x (Nat.le_trans hx (by decide)) _ W (hv0.next (Below.next hb h)) (hE.next (Below.next hb h))
      have cV := fun W (h : Below wr.heap.size wr W) => refUsesA_any S hB x _ W (hv0.next (Below.next hb h))
      obtain ⟨d, hd⟩ : ∃ d, depA S x = d := ⟨_, rfl⟩
      rw [hd] at cD cR
      clear hd
      clear hx
      go_upto_region 7 with (fail)
      refine wp_region_on (by kernel_rfl) (FF [(2, Fact.at_ wr (.pointer (some ⟨w.heap.size, 0, none⟩))), (6, Fact.at_ wr (.string (bs x))), (24, Fact.at_ wr (.agg #[.int .i64 S.ver, .slice A n c, .slice (some a2) m c2])), (25, Fact.at_ wr (.string (bs x))), (26, Fact.at_ wr (.int .i64 (d : Int))), (27, Fact.at_ wr (.agg #[.int .i64 S.ver, .slice A n c, .slice (some a2) m c2])), (28, Fact.at_ wr (.string (bs x))), (29, Fact.at_ wr (.int .i64 (d : Int))), (30, Fact.at_ wr (.bool false)), (31, Fact.at_ wr (.bool false)), (32, Fact.at_ wr (.agg #[.int .i64 S.ver, .slice A n c, .slice (some a2) m c2])), (33, Fact.at_ wr (.string (bs x))), (34, FUa S x wr), (35, Fact.at_ wr (.agg #[.int .i64 S.ver, .slice A n c, .slice (some a2) m c2])), (36, Fact.at_ wr (.string (bs x))), (37, FUa S x wr), (38, Fact.at_ wr (.bool true)), (39, Fact.at_ wr (.bool false)), (40, Fact.at_ wr (.bool false))]) [2, 6] 60 [24, 25, 26, 27, 28, 29, 30, 31, 32, 33, 34, 35, 36, 37, 38, 39, 40] rfl (by kernel_rfl) (by kernel_rfl) ?_ ?_ ?_
      · intro t9 ht9
        simp only [List.mem_cons, List.not_mem_nil, or_false] at ht9
        rcases ht9 with rfl | rfl
        · exact ⟨rfl, Below.refl _ _⟩
        · exact ⟨rfl, Below.refl _ _⟩
      · refine fcs ⟨at1 2 24 (.pointer (some ⟨w.heap.size, 0, none⟩)) (.agg #[.int .i64 S.ver, .slice A n c, .slice (some a2) m c2]) rfl (by first | exact .inl rfl | exact .inr ⟨_, _, _, rfl, rfl, by kernel_rfl, by decide, rfl⟩) (by kernel_rfl) rfl rfl (fun a9 W9 hb9 h9 => by have g0 := cell_next hb9 s0; have g1 := cell_next hb9 s1; have g2 := cell_next hb9 s2; simp [execOp, h9] <;> go_simp), ?_⟩
        refine fcs ⟨atcopy 6 25 (.string (bs x)) (.inl rfl) rfl (by first | exact .inl rfl | exact .inr ⟨_, _, _, rfl, rfl, by kernel_rfl, by decide, rfl⟩) (by kernel_rfl) rfl rfl, ?_⟩
        refine fcs ⟨atc2 22 24 25 26 (.agg #[.int .i64 S.ver, .slice A n c, .slice (some a2) m c2]) (.string (bs x)) (.int .i64 (d : Int)) _ rfl rfl (by first | exact .inl rfl | exact .inr ⟨_, _, _, rfl, rfl, by kernel_rfl, by decide, rfl⟩) (by kernel_rfl) (by kernel_rfl) rfl rfl (by kernel_rfl) rfl (fun W9 hb9 => cD W9 hb9), ?_⟩
        refine fcs ⟨at1 2 27 (.pointer (some ⟨w.heap.size, 0, none⟩)) (.agg #[.int .i64 S.ver, .slice A n c, .slice (some a2) m c2]) rfl (by first | exact .inl rfl | exact .inr ⟨_, _, _, rfl, rfl, by kernel_rfl, by decide, rfl⟩) (by kernel_rfl) rfl rfl (fun a9 W9 hb9 h9 => by have g0 := cell_next hb9 s0; have g1 := cell_next hb9 s1; have g2 := cell_next hb9 s2; simp [execOp, h9] <;> go_simp), ?_⟩
        refine fcs ⟨atcopy 6 28 (.string (bs x)) (.inl rfl) rfl (by first | exact .inl rfl | exact .inr ⟨_, _, _, rfl, rfl, by kernel_rfl, by decide, rfl⟩) (by kernel_rfl) rfl rfl, ?_⟩
        refine fcs ⟨atc2 23 27 28 29 (.agg #[.int .i64 S.ver, .slice A n c, .slice (some a2) m c2]) (.string (bs x)) (.int .i64 (d : Int)) _ rfl rfl (by first | exact .inl rfl | exact .inr ⟨_, _, _, rfl, rfl, by kernel_rfl, by decide, rfl⟩) (by kernel_rfl) (by kernel_rfl) rfl rfl (by kernel_rfl) rfl (fun W9 hb9 => cR W9 hb9), ?_⟩
        refine fcs ⟨at2 26 29 30 (.int .i64 (d : Int)) (.int .i64 (d : Int)) (.bool false) rfl (by first | exact .inl rfl | exact .inr ⟨_, _, _, rfl, rfl, by kernel_rfl, by decide, rfl⟩) (by kernel_rfl) (by kernel_rfl) rfl rfl rfl (fun a9 W9 hb9 h9 h8 => by simp [execOp, h9, h8] <;> go_simp), ?_⟩
        refine fcs ⟨atcopy 30 31 (.bool false) (.inl rfl) rfl (by first | exact .inl rfl | exact .inr ⟨_, _, _, rfl, rfl, by kernel_rfl, by decide, rfl⟩) (by kernel_rfl) rfl rfl, ?_⟩
        refine fcs ⟨at1 2 32 (.pointer (some ⟨w.heap.size, 0, none⟩)) (.agg #[.int .i64 S.ver, .slice A n c, .slice (some a2) m c2]) rfl (by first | exact .inl rfl | exact .inr ⟨_, _, _, rfl, rfl, by kernel_rfl, by decide, rfl⟩) (by kernel_rfl) rfl rfl (fun a9 W9 hb9 h9 => by have g0 := cell_next hb9 s0; have g1 := cell_next hb9 s1; have g2 := cell_next hb9 s2; simp [execOp, h9] <;> go_simp), ?_⟩
        refine fcs ⟨atcopy 6 33 (.string (bs x)) (.inl rfl) rfl (by first | exact .inl rfl | exact .inr ⟨_, _, _, rfl, rfl, by kernel_rfl, by decide, rfl⟩) (by kernel_rfl) rfl rfl, ?_⟩
        refine fcs ⟨at_enter (W0 := wr) (by first | exact .inl rfl | exact .inr ⟨_, _, _, rfl, rfl, by kernel_rfl, by decide, rfl⟩) (fun a9 W9 hf9 => by have p32 := hf9 32 (by kernel_rfl); have q32 : a9.tmps.getD 32 undef = (.agg #[.int .i64 S.ver, .slice A n c, .slice (some a2) m c2]) := p32.1; have p33 := hf9 33 (by kernel_rfl); have q33 : a9.tmps.getD 33 undef = (.string (bs x)) := p33.1; have hb9 := p32.2; exact ⟨25, #[(.agg #[.int .i64 S.ver, .slice A n c, .slice (some a2) m c2]), (.string (bs x))], by rw [← q32, ← q33]; simpa [execOp, resolve, Act.eval] using run_invoke (by kernel_rfl) _ W9, (cU W9 p32.2).mono fun e w' ⟨v, l, e1, e2, e3, e4⟩ => ⟨v, e1, e4, fun s hs => by injection hs with hs; subst hs; exact ⟨l, e2, e3, upG hb9 e4⟩⟩⟩), ?_⟩
        refine fcs ⟨at1 2 35 (.pointer (some ⟨w.heap.size, 0, none⟩)) (.agg #[.int .i64 S.ver, .slice A n c, .slice (some a2) m c2]) rfl (by first | exact .inl rfl | exact .inr ⟨_, _, _, rfl, rfl, by kernel_rfl, by decide, rfl⟩) (by kernel_rfl) rfl rfl (fun a9 W9 hb9 h9 => by have g0 := cell_next hb9 s0; have g1 := cell_next hb9 s1; have g2 := cell_next hb9 s2; simp [execOp, h9] <;> go_simp), ?_⟩
        refine fcs ⟨atcopy 6 36 (.string (bs x)) (.inl rfl) rfl (by first | exact .inl rfl | exact .inr ⟨_, _, _, rfl, rfl, by kernel_rfl, by decide, rfl⟩) (by kernel_rfl) rfl rfl, ?_⟩
        refine fcs ⟨at_enter (W0 := wr) (by first | exact .inl rfl | exact .inr ⟨_, _, _, rfl, rfl, by kernel_rfl, by decide, rfl⟩) (fun a9 W9 hf9 => by have p35 := hf9 35 (by kernel_rfl); have q35 : a9.tmps.getD 35 undef = (.agg #[.int .i64 S.ver, .slice A n c, .slice (some a2) m c2]) := p35.1; have p36 := hf9 36 (by kernel_rfl); have q36 : a9.tmps.getD 36 undef = (.string (bs x)) := p36.1; have hb9 := p35.2; exact ⟨26, #[(.agg #[.int .i64 S.ver, .slice A n c, .slice (some a2) m c2]), (.string (bs x))], by rw [← q35, ← q36]; simpa [execOp, resolve, Act.eval] using run_invoke (by kernel_rfl) _ W9, (cV W9 p35.2).mono fun e w' ⟨v, l, e1, e2, e3, e4⟩ => ⟨v, e1, e4, fun s hs => by injection hs with hs; subst hs; exact ⟨l, e2, e3, upG hb9 e4⟩⟩⟩), ?_⟩
        refine fcs ⟨at_enter (W0 := wr) (by first | exact .inl rfl | exact .inr ⟨_, _, _, rfl, rfl, by kernel_rfl, by decide, rfl⟩) (fun a9 W9 hf9 => by obtain ⟨l, u1, u2, u3⟩ := hf9 34 (by kernel_rfl); obtain ⟨l', k1, k2, k3⟩ := hf9 37 (by kernel_rfl); obtain rfl := u1.one k1; have cN := lawNames_any l l _ _ W9 (u1.short hB) (u1.short hB) u2 k2; rw [decide_eq_true rfl] at cN; exact ⟨24, #[a9.tmps.getD 34 undef, a9.tmps.getD 37 undef], by simpa [execOp, resolve, Act.eval] using run_invoke (by kernel_rfl) _ W9, cN.mono fun e w' ⟨e1, e2⟩ => ⟨.bool true, e1, e2, fun s hs => by injection hs with hs; subst hs; exact ⟨rfl, upG u3 e2⟩⟩⟩), ?_⟩
        refine fcs ⟨at1 38 39 (.bool true) (.bool false) rfl (by first | exact .inl rfl | exact .inr ⟨_, _, _, rfl, rfl, by kernel_rfl, by decide, rfl⟩) (by kernel_rfl) rfl rfl (fun a9 W9 hb9 h9 => by simp [execOp, h9] <;> go_simp), ?_⟩
        refine fcs ⟨atpick 31 39 40 false (.bool false) _ _ rfl rfl rfl (by first | exact .inl rfl | exact .inr ⟨_, _, _, rfl, rfl, by kernel_rfl, by decide, rfl⟩) (by kernel_rfl) (by kernel_rfl) rfl rfl rfl, ?_⟩
        exact fnl
      intro vv wv hvv hbv
      have hv40 : vv 40 = (.bool false) := (hvv 40 (by decide)).1
      simp only [lay, List.foldl_cons, List.foldl_nil, List.setIfInBounds_toArray, List.set_cons_succ, List.set_cons_zero, hv40]
      have hb3 := Below.next hb hbv
      have R3 := R1.next hbv
      clear hvv cD cR cU cV s0 s1 s2 l1 x0 hblk R1
      go_wp2_with fail
      go_roundw
      case rel => exact ⟨k + 1, by omega, by go_num, R3, hb3⟩
      case measure => simp [intOf]; omega
    · obtain rfl : k = m := by omega
      have hEr := hE.next hb
      have cD := fun W (h : Below wr.heap.size wr W) => devDepth_any S hB nm hnm _ W (hv0.next (Below.next hb h)) (hE.next (Below.next hb h))
      have cR := fun W (h : Below wr.heap.size wr W) => refDepthA_any S hB nm _ W (hv0.next (Below.next hb h))
      have cU := fun W (h : Below wr.heap.size wr W) => devUses_any S hB nm hnm _ W (hv0.next (Below.next hb h)) (hE.next (Below.next hb h))
      have cV := fun W (h : Below wr.heap.size wr W) => refUsesA_any S hB nm _ W (hv0.next (Below.next hb h))
      obtain ⟨d, hd⟩ : ∃ d, depA S nm = d := ⟨_, rfl⟩
      rw [hd] at cD cR
      clear hd
      clear hnm
      go_upto_region 9 with (fail)
      refine wp_region_on (by kernel_rfl) (FF [(1, Fact.at_ wr (.string (bs nm))), (2, Fact.at_ wr (.pointer (some ⟨w.heap.size, 0, none⟩))), (41, Fact.at_ wr (.agg #[.int .i64 S.ver, .slice A n c, .slice A2 k c2])), (42, Fact.at_ wr (.string (bs nm))), (43, Fact.at_ wr (.int .i64 (d : Int))), (44, Fact.at_ wr (.agg #[.int .i64 S.ver, .slice A n c, .slice A2 k c2])), (45, Fact.at_ wr (.string (bs nm))), (46, Fact.at_ wr (.int .i64 (d : Int))), (47, Fact.at_ wr (.bool true)), (48, Fact.at_ wr (.bool true)), (49, Fact.at_ wr (.agg #[.int .i64 S.ver, .slice A n c, .slice A2 k c2])), (50, Fact.at_ wr (.string (bs nm))), (51, FUa S nm wr), (52, Fact.at_ wr (.agg #[.int .i64 S.ver, .slice A n c, .slice A2 k c2])), (53, Fact.at_ wr (.string (bs nm))), (54, FUa S nm wr), (55, Fact.at_ wr (.bool true)), (56, Fact.at_ wr (.bool true)), (57, Fact.at_ wr (.bool true)), (58, Fact.at_ wr (.bool true)), (59, Fact.at_ wr (.bool true)), (4, Fact.at_ wr (.bool true))]) [1, 2] 60 [41, 42, 43, 44, 45, 46, 47, 48, 49, 50, 51, 52, 53, 54, 55, 56, 57, 58, 59, 4] rfl (by kernel_rfl) (by kernel_rfl) ?_ ?_ ?_
      · intro t9 ht9
        simp only [List.mem_cons, List.not_mem_nil, or_false] at ht9
        rcases ht9 with rfl | rfl
        · exact ⟨rfl, Below.refl _ _⟩
        · exact ⟨rfl, Below.refl _ _⟩
      · refine fcs ⟨at1 2 41 (.pointer (some ⟨w.heap.size, 0, none⟩)) (.agg #[.int .i64 S.ver, .slice A n c, .slice A2 k c2]) rfl (by first | exact .inl rfl | exact .inr ⟨_, _, _, rfl, rfl, by kernel_rfl, by decide, rfl⟩) (by kernel_rfl) rfl rfl (fun a9 W9 hb9 h9 => by have g0 := cell_next hb9 s0; have g1 := cell_next hb9 s1; have g2 := cell_next hb9 s2; simp [execOp, h9] <;> go_simp), ?_⟩
        refine fcs ⟨atcopy 1 42 (.string (bs nm)) (.inl rfl) rfl (by first | exact .inl rfl | exact .inr ⟨_, _, _, rfl, rfl, by kernel_rfl, by decide, rfl⟩) (by kernel_rfl) rfl rfl, ?_⟩
        refine fcs ⟨atc2 22 41 42 43 (.agg #[.int .i64 S.ver, .slice A n c, .slice A2 k c2]) (.string (bs nm)) (.int .i64 (d : Int)) _ rfl rfl (by first | exact .inl rfl | exact .inr ⟨_, _, _, rfl, rfl, by kernel_rfl, by decide, rfl⟩) (by kernel_rfl) (by kernel_rfl) rfl rfl (by kernel_rfl) rfl (fun W9 hb9 => cD W9 hb9), ?_⟩
        refine fcs ⟨at1 2 44 (.pointer (some ⟨w.heap.size, 0, none⟩)) (.agg #[.int .i64 S.ver, .slice A n c, .slice A2 k c2]) rfl (by first | exact .inl rfl | exact .inr ⟨_, _, _, rfl, rfl, by kernel_rfl, by decide, rfl⟩) (by kernel_rfl) rfl rfl (fun a9 W9 hb9 h9 => by have g0 := cell_next hb9 s0; have g1 := cell_next hb9 s1; have g2 := cell_next hb9 s2; simp [execOp, h9] <;> go_simp), ?_⟩
        refine fcs ⟨atcopy 1 45 (.string (bs nm)) (.inl rfl) rfl (by first | exact .inl rfl | exact .inr ⟨_, _, _, rfl, rfl, by kernel_rfl, by decide, rfl⟩) (by kernel_rfl) rfl rfl, ?_⟩
        refine fcs ⟨atc2 23 44 45 46 (.agg #[.int .i64 S.ver, .slice A n c, .slice A2 k c2]) (.string (bs nm)) (.int .i64 (d : Int)) _ rfl rfl (by first | exact .inl rfl | exact .inr ⟨_, _, _, rfl, rfl, by kernel_rfl, by decide, rfl⟩) (by kernel_rfl) (by kernel_rfl) rfl rfl (by kernel_rfl) rfl (fun W9 hb9 => cR W9 hb9), ?_⟩
        refine fcs ⟨at2 43 46 47 (.int .i64 (d : Int)) (.int .i64 (d : Int)) (.bool true) rfl (by first | exact .inl rfl | exact .inr ⟨_, _, _, rfl, rfl, by kernel_rfl, by decide, rfl⟩) (by kernel_rfl) (by kernel_rfl) rfl rfl rfl (fun a9 W9 hb9 h9 h8 => by simp [execOp, h9, h8] <;> go_simp), ?_⟩
        refine fcs ⟨atcopy 47 48 (.bool true) (.inl rfl) rfl (by first | exact .inl rfl | exact .inr ⟨_, _, _, rfl, rfl, by kernel_rfl, by decide, rfl⟩) (by kernel_rfl) rfl rfl, ?_⟩
        refine fcs ⟨at1 2 49 (.pointer (some ⟨w.heap.size, 0, none⟩)) (.agg #[.int .i64 S.ver, .slice A n c, .slice A2 k c2]) rfl (by first | exact .inl rfl | exact .inr ⟨_, _, _, rfl, rfl, by kernel_rfl, by decide, rfl⟩) (by kernel_rfl) rfl rfl (fun a9 W9 hb9 h9 => by have g0 := cell_next hb9 s0; have g1 := cell_next hb9 s1; have g2 := cell_next hb9 s2; simp [execOp, h9] <;> go_simp), ?_⟩
        refine fcs ⟨atcopy 1 50 (.string (bs nm)) (.inl rfl) rfl (by first | exact .inl rfl | exact .inr ⟨_, _, _, rfl, rfl, by kernel_rfl, by decide, rfl⟩) (by kernel_rfl) rfl rfl, ?_⟩
        refine fcs ⟨at_enter (W0 := wr) (by first | exact .inl rfl | exact .inr ⟨_, _, _, rfl, rfl, by kernel_rfl, by decide, rfl⟩) (fun a9 W9 hf9 => by have p49 := hf9 49 (by kernel_rfl); have q49 : a9.tmps.getD 49 undef = (.agg #[.int .i64 S.ver, .slice A n c, .slice A2 k c2]) := p49.1; have p50 := hf9 50 (by kernel_rfl); have q50 : a9.tmps.getD 50 undef = (.string (bs nm)) := p50.1; have hb9 := p49.2; exact ⟨25, #[(.agg #[.int .i64 S.ver, .slice A n c, .slice A2 k c2]), (.string (bs nm))], by rw [← q49, ← q50]; simpa [execOp, resolve, Act.eval] using run_invoke (by kernel_rfl) _ W9, (cU W9 p49.2).mono fun e w' ⟨v, l, e1, e2, e3, e4⟩ => ⟨v, e1, e4, fun s hs => by injection hs with hs; subst hs; exact ⟨l, e2, e3, upG hb9 e4⟩⟩⟩), ?_⟩
        refine fcs ⟨at1 2 52 (.pointer (some ⟨w.heap.size, 0, none⟩)) (.agg #[.int .i64 S.ver, .slice A n c, .slice A2 k c2]) rfl (by first | exact .inl rfl | exact .inr ⟨_, _, _, rfl, rfl, by kernel_rfl, by decide, rfl⟩) (by kernel_rfl) rfl rfl (fun a9 W9 hb9 h9 => by have g0 := cell_next hb9 s0; have g1 := cell_next hb9 s1; have g2 := cell_next hb9 s2; simp [execOp, h9] <;> go_simp), ?_⟩
        refine fcs ⟨atcopy 1 53 (.string (bs nm)) (.inl rfl) rfl (by first | exact .inl rfl | exact .inr ⟨_, _, _, rfl, rfl, by kernel_rfl, by decide, rfl⟩) (by kernel_rfl) rfl rfl, ?_⟩
        refine fcs ⟨at_enter (W0 := wr) (by first | exact .inl rfl | exact .inr ⟨_, _, _, rfl, rfl, by kernel_rfl, by decide, rfl⟩) (fun a9 W9 hf9 => by have p52 := hf9 52 (by kernel_rfl); have q52 : a9.tmps.getD 52 undef = (.agg #[.int .i64 S.ver, .slice A n c, .slice A2 k c2]) := p52.1; have p53 := hf9 53 (by kernel_rfl); have q53 : a9.tmps.getD 53 undef = (.string (bs nm)) := p53.1; have hb9 := p52.2; exact ⟨26, #[(.agg #[.int .i64 S.ver, .slice A n c, .slice A2 k c2]), (.string (bs nm))], by rw [← q52, ← q53]; simpa [execOp, resolve, Act.eval] using run_invoke (by kernel_rfl) _ W9, (cV W9 p52.2).mono fun e w' ⟨v, l, e1, e2, e3, e4⟩ => ⟨v, e1, e4, fun s hs => by injection hs with hs; subst hs; exact ⟨l, e2, e3, upG hb9 e4⟩⟩⟩), ?_⟩
        refine fcs ⟨at_enter (W0 := wr) (by first | exact .inl rfl | exact .inr ⟨_, _, _, rfl, rfl, by kernel_rfl, by decide, rfl⟩) (fun a9 W9 hf9 => by obtain ⟨l, u1, u2, u3⟩ := hf9 51 (by kernel_rfl); obtain ⟨l', k1, k2, k3⟩ := hf9 54 (by kernel_rfl); obtain rfl := u1.one k1; have cN := lawNames_any l l _ _ W9 (u1.short hB) (u1.short hB) u2 k2; rw [decide_eq_true rfl] at cN; exact ⟨24, #[a9.tmps.getD 51 undef, a9.tmps.getD 54 undef], by simpa [execOp, resolve, Act.eval] using run_invoke (by kernel_rfl) _ W9, cN.mono fun e w' ⟨e1, e2⟩ => ⟨.bool true, e1, e2, fun s hs => by injection hs with hs; subst hs; exact ⟨rfl, upG u3 e2⟩⟩⟩), ?_⟩
        refine fcs ⟨atpick 48 55 56 true (.bool true) _ _ rfl rfl rfl (by first | exact .inl rfl | exact .inr ⟨_, _, _, rfl, rfl, by kernel_rfl, by decide, rfl⟩) (by kernel_rfl) (by kernel_rfl) rfl rfl rfl, ?_⟩
        refine fcs ⟨atcopy 56 57 (.bool true) (.inl rfl) rfl (by first | exact .inl rfl | exact .inr ⟨_, _, _, rfl, rfl, by kernel_rfl, by decide, rfl⟩) (by kernel_rfl) rfl rfl, ?_⟩
        refine fcs ⟨atc0 10 1 58 (.string (bs nm)) (.bool true) _ rfl rfl (by first | exact .inl rfl | exact .inr ⟨_, _, _, rfl, rfl, by kernel_rfl, by decide, rfl⟩) (by kernel_rfl) rfl (by kernel_rfl) rfl (fun W9 hb9 => awake_any W9 (hEr.next hb9)), ?_⟩
        refine fcs ⟨atpick 57 58 59 true (.bool true) _ _ rfl rfl rfl (by first | exact .inl rfl | exact .inr ⟨_, _, _, rfl, rfl, by kernel_rfl, by decide, rfl⟩) (by kernel_rfl) (by kernel_rfl) rfl rfl rfl, ?_⟩
        refine fcs ⟨atcopy 59 4 (.bool true) (.inr rfl) rfl (by first | exact .inl rfl | exact .inr ⟨_, _, _, rfl, rfl, by kernel_rfl, by decide, rfl⟩) (by kernel_rfl) rfl rfl, ?_⟩
        exact fnl
      intro vv wv hvv hbv
      have hv4 : vv 4 = (.bool true) := (hvv 4 (by decide)).1
      simp only [lay, List.foldl_cons, List.foldl_nil, List.setIfInBounds_toArray, List.set_cons_succ, List.set_cons_zero, hv4]
      have hb3 := Below.next hb hbv
      clear hvv cD cR cU cV s0 s1 s2 l1 R1
      go_wp2_with fail
      go_ret
      exact ⟨rfl, hb3⟩
theorem nests_row (S : Sch) (v : Value) (s : ByteArray) (w : World) (hl : lokS S) (hv : ScV w S v) (h : s.size ≤ 9223372036854775807) (hL : laidMetH Tryz.prog Rows.schemaNestsRow.laid w) :
    Calls Tryz.prog 5 #[v, .string s] w (Ib (.bool true) w) := by
  rw [bs_of s]
  exact schemaNests_any S v s.data.toList w hl hv (by simpa using h) (env_laid hL)
end Go.Proofs.YthbhbpcjcnkkkaaGreatDoor

/-
  The developers' test of a struct. No conditions beyond those that each names, and what the library's variables hold.
-/
import Derived.Test.YtcilkcnddgacgaaGreatDoorQM21
namespace Go.Proofs.YtcilkcnddgacgaaGreatDoor
open Go.RowKit Go.Maps
/-- A field's number before number k. -/
def prv (l : List Fd) (k : Nat) : Int := if k = 0 then 0 else (l.getD (k - 1) fd0).num
set_option maxRecDepth 100000 in
set_option maxHeartbeats 4000000 in
theorem checkStruct_any (W0 : World) (S : Sch) (t : St) (v : Value) (b n b1 b2 : Nat) (l : List (List UInt8)) (w : World) (hv : StV W0 t v) (hD : Dm W0 S b1 b2) (hb0 : Below W0.heap.size W0 w) (hlow : W0.heap.size ≤ b) (hM : Ms w b n l) (hE : Env W0) (hn : n ≤ 1000)
    (h40 : t.name.length ≤ 40) (hq : t.fields.length ≤ 18) (hs : ∀ f ∈ t.fields, f.name.length ≤ 40 ∧ nok f.type ∧ lok f.type) :
    Calls Tryz.prog 66 #[v, .map (some b), .agg #[.map (some b1), .map (some b2)]] w (CkP (stErr S l t) t.name l b n w) := by
  have hmm := @run_makeMap Tryz.prog
  obtain ⟨A, c, rfl, hVf⟩ := hv
  have hblt := hM.lt
  obtain ⟨q, hm⟩ : ∃ q, t.fields.length = q := ⟨_, rfl⟩
  have HM := Lib.hid hm
  rw [hm] at hq ⊢
  have hz0 : (w.alloc (Obj.cells #[.string (bs t.name), .slice A q c] 37)).heap.size = w.heap.size + 1 := by simp
  have hB0 := (Bx.new2 w 37 (.string (bs t.name)) (.slice A q c)).next (ab1 _ (Obj.cells #[.map (some b1), .map (some b2)] 104))
  have hC0 := Bx.new2 (w.alloc (Obj.cells #[.string (bs t.name), .slice A q c] 37)) 104 (.map (some b1)) (.map (some b2))
  rw [hz0] at hC0
  obtain ⟨wa, hwa⟩ : ∃ wa, (w.alloc (Obj.cells #[.string (bs t.name), .slice A q c] 37)).alloc (Obj.cells #[.map (some b1), .map (some b2)] 104) = wa := ⟨_, rfl⟩
  have hga : w.grownBy wa (some b) := by rw [← hwa]; exact gb_of (ab2 w _ _) _
  have hba : Below W0.heap.size W0 wa := by rw [← hwa]; exact (hb0.alloc hb0.size _).alloc (Nat.le_trans hb0.size (ab1 _ _).size) _
  have hMa : Ms wa b n l := by rw [← hwa]; exact hM.next (ab2 _ _ _)
  have cA := admitT_any t.name b n l wa (by omega) (hE.next hba) hMa hn
  rw [← hwa] at cA
  rw [hwa] at hB0 hC0
  obtain ⟨r, hr⟩ : ∃ r, stErr S l t = r := ⟨_, rfl⟩
  rw [hr]
  unfold stErr at hr
  rw [hm] at hr
  have HWA := Lib.hid hwa
  clear hm hM hMa hz0 hwa
  cases g1 : isTn t.name
  · rw [g1] at cA hr
    rw [if_pos rfl] at hr
    subst hr
    clear g1
    go_enter Tryz.func66, Tryz.ntmps66
    go_wp2_with fail
    refine cA.mono ?_
    rintro e w1 ⟨rfl, hg, -, -⟩
    rw [HWA.out] at hg
    rw [show adE false l t.name = 5 from rfl]
    go_wp2_with fail
    go_ret
    exact CkP.bad (by decide) rfl (hga.trans hg)
  · rw [g1] at cA hr
    rw [if_neg (by decide)] at hr
    cases g2 : l.contains t.name
    · rw [g2, if_neg (by decide)] at hr
      have ha : adE true l t.name = 0 := by unfold adE; rw [g2]; rfl
      have HR := Lib.hid hr
      have ha := Lib.hid ha
      clear g1 g2 hr
      go_enter Tryz.func66, Tryz.ntmps66
      go_wp2_with fail
      refine cA.mono ?_
      rintro e w1 ⟨rfl, hg, -, hz⟩
      rw [HWA.out] at hg
      rw [ha.out]
      have hM1 := hz ha.out
      have hB1 := hB0.kept hg (by omega)
      have hC1 := hC0.kept hg (by omega)
      have x0 := hB1.c 0 rfl
      have x1 := hB1.c 1 rfl
      have hb1 := hba.grown hg hba.size (fun k hk => by cases hk; exact hlow)
      have hE1 : Env w1 := hE.next hb1
      have hgw := hga.trans hg
      have hN0 := Ms.made w1
      have hlt0 := hC1.lt
      have hltb := hB1.lt
      have hB2 := hB1.next (ab1 w1 (.map #[] 0))
      have hC2 := hC1.next (ab1 w1 (.map #[] 0))
      clear hz hB0 hC0 cA hga hba HWA
      go_wp2_with fail
      clear x0 x1
      go_loopw [9, 24] (fun p i wr => ∃ (k : Nat) (z : Int), k ≤ q ∧ i = .int .i64 (k : Int) ∧ p = .int .i64 z ∧ Hid (z = prv t.fields k) ∧ Hid (∀ j, j < k → fdErr S t j = 0) ∧ Bx wr w.heap.size [.string (bs t.name), .slice A q c] ∧ Bx wr (w.heap.size + 1) [.map (some b1), .map (some b2)] ∧ Ms wr w1.heap.size k ((t.fields.take k).map Fd.name) ∧ Below w1.heap.size w1 wr) (fun _ i _ => q - (intOf i).toNat)
      case atStart => exact ⟨0, 0, by omega, rfl, rfl, Lib.hid rfl, Lib.hid fun j h => by omega, hB2, hC2, hN0, ab1 _ _⟩
      case round =>
        obtain ⟨k, zp, hk, rfl, rfl, hZ, hI, hBr, hCr, hN, hbr⟩ := hrel
        have hbW := Below.next hb1 hbr
        have hlt1 : w1.heap.size < wr.heap.size := hN.lt
        clear hN0 hB2 hC2
        by_cases hlt : k < q
        · obtain ⟨a, rfl, hA⟩ := hVf.get (i := k) (by rw [HM.out]; exact hlt)
          have hkm : k < t.fields.length := by rw [HM.out]; exact hlt
          have hnx : (t.fields.take (k + 1)).map Fd.name = (t.fields.take k).map Fd.name ++ [(t.fields[k]'hkm).name] := by rw [List.take_succ_eq_append_getElem hkm, List.map_append]; rfl
          have hcs := fdErr_cases S t k
          have hpv : prv t.fields (k + 1) = (t.fields[k]'hkm).num := by unfold prv; rw [if_neg (by omega), Nat.add_sub_cancel, getD_of hkm]
          have hz1 : (0 < k ∧ (t.fields[k]'hkm).num ≤ (t.fields.getD (k - 1) fd0).num) → (t.fields[k]'hkm).num ≤ zp := fun h => by
            rw [hZ.out]; unfold prv; rw [if_neg (by omega)]; exact h.2
          have hz2 : 1 ≤ (t.fields[k]'hkm).num → (0 < k → (t.fields.getD (k - 1) fd0).num < (t.fields[k]'hkm).num) → ¬ (t.fields[k]'hkm).num ≤ zp := fun h0 h => by
            rw [hZ.out]; unfold prv
            by_cases hk0 : k = 0
            · rw [if_pos hk0]; omega
            · rw [if_neg hk0]; have := h (by omega); omega
          rw [getD_of hkm] at hcs
          obtain ⟨hs1, hs2, hs3⟩ := hs _ (List.getElem_mem hkm)
          obtain ⟨A3, c3, f0, f1, f2, f3, f4, f5, f6, -, hT⟩ := hA.val
          replace f0 := cell_next hbW f0
          replace f1 := cell_next hbW f1
          replace f2 := cell_next hbW f2
          replace f3 := cell_next hbW f3
          replace f4 := cell_next hbW f4
          replace f5 := cell_next hbW f5
          replace f6 := cell_next hbW f6
          have hblk : (a.add (k * 7)).block < wr.heap.size := blk_lt f0
          obtain ⟨o, ho⟩ : ∃ o, Obj.cells #[Value.int .i64 (t.fields[k]'hkm).num, .string (bs (t.fields[k]'hkm).name), .int .i64 (t.fields[k]'hkm).type.kind, .int .i64 (t.fields[k]'hkm).type.size, .string (bs (t.fields[k]'hkm).type.name), .slice A3 (t.fields[k]'hkm).type.elem.length c3, .bool (t.fields[k]'hkm).opt] 61 = o := ⟨_, rfl⟩
          have hG := Bx.new7 wr 61 (.int .i64 (t.fields[k]'hkm).num) (.string (bs (t.fields[k]'hkm).name)) (.int .i64 (t.fields[k]'hkm).type.kind) (.int .i64 (t.fields[k]'hkm).type.size) (.string (bs (t.fields[k]'hkm).type.name)) (.slice A3 (t.fields[k]'hkm).type.elem.length c3) (.bool (t.fields[k]'hkm).opt)
          have hbx := Below.next hbW (ab1 wr o)
          have cN := admitN_any (t.fields[k]'hkm).name w1.heap.size k ((t.fields.take k).map Fd.name) (wr.alloc o) (by omega) (hE.next hbx) (hN.next (ab1 _ _)) (by omega)
          have cP := fun W hW => permits_any (SizeOf.sizeOf (t.fields[k]'hkm).type + 1) S (t.fields[k]'hkm).type b1 b2 _ W (by omega) hs2 hs3 (hD.next hW) (hT.next hW)
          have hfe : ∀ e, fdErr S t k = e → e ≠ 0 → r = e := fun e he h0 => by rw [← HR.out]; exact fe_at hlt hI.out he h0
          have hnxt := fun h => before_succ (p := fun j => fdErr S t j = 0) hI.out (k := k) h
          have x0 := hBr.c 0 rfl
          have x1 := hBr.c 1 rfl
          rw [← ho] at cN hbx
          generalize t.fields[k]'hkm = f at *
          clear ho o
          rcases hcs with ⟨p1, pe⟩ | ⟨p1, p2, p3, pe⟩ | ⟨p1, p2, p3, p4, pe⟩ | ⟨p1, p2, p3, p4, p5, pe⟩ | ⟨p1, p2, p3, p4, p5, p6, pe⟩ | ⟨p1, p2, p3, p4, p5, p6, pe⟩
          · obtain rfl := hfe _ pe (by decide)
            clear hfe hnxt hz1 hz2 hpv hnx hA hT cN cP pe
            by_cases g5 : f.num < 1
            · have d1 : decide (f.num < 1) = true := decide_eq_true g5
              clear p1 g5
              go_wp2_with fail
              go_ret
              exact CkP.bad (by decide) rfl (gb_next hgw (Below.next hbr (ab1 _ _)))
            · have d1 : decide (f.num < 1) = false := decide_eq_false g5
              have d2 : decide (127 < f.num) = true := by rw [decide_eq_true_eq]; omega
              clear p1 g5
              go_wp2_with fail
              go_ret
              exact CkP.bad (by decide) rfl (gb_next hgw (Below.next hbr (ab1 _ _)))
          · obtain rfl := hfe _ pe (by decide)
            have d1 : decide (f.num < 1) = false := by rw [decide_eq_false_iff_not]; omega
            have d2 : decide (127 < f.num) = false := by rw [decide_eq_false_iff_not]; omega
            have d3 : decide (f.num ≤ zp) = true := decide_eq_true (hz1 p3)
            clear hfe hnxt hz1 hz2 hpv hnx hA hT cN cP pe p1 p2 p3
            go_wp2_with fail
            go_ret
            exact CkP.bad (by decide) rfl (gb_next hgw (Below.next hbr (ab1 _ _)))
          · obtain rfl := hfe _ pe (by decide)
            have pe2 := Lib.hid (hz2 p1 p3)
            have d3 : decide (f.num ≤ zp) = false := decide_eq_false pe2.out
            clear hfe hnxt hz1 hpv hnx hA hT cP pe
            have d1 : decide (f.num < 1) = false := by rw [decide_eq_false_iff_not]; omega
            have d2 : decide (127 < f.num) = false := by rw [decide_eq_false_iff_not]; omega
            have d3 : decide (f.num ≤ zp) = false := decide_eq_false (hz2 p1 p3)
            have HA2 := Lib.hid (show adE (isN f.name) ((t.fields.take k).map Fd.name) f.name = 5 by unfold adE; rw [p4]; rfl)
            go_wp2_with fail
            refine cN.mono ?_
            rintro e w2 ⟨rfl, hg2, -, hq2⟩
            rw [HA2.out]
            clear hq2 p1 p2 p3 p4 hz2
            go_wp2_with fail
            go_ret
            exact CkP.bad (by decide) rfl (gb_next hgw ((Below.next hbr (ab1 _ _)).grown hg2 (Below.next hbr (ab1 _ _)).size (fun k hk => by cases hk; exact Nat.le_refl _)))
          · obtain rfl := hfe _ pe (by decide)
            clear hfe hnxt hz1 hpv hnx hA hT cP pe
            have d1 : decide (f.num < 1) = false := by rw [decide_eq_false_iff_not]; omega
            have d2 : decide (127 < f.num) = false := by rw [decide_eq_false_iff_not]; omega
            have d3 : decide (f.num ≤ zp) = false := decide_eq_false (hz2 p1 p3)
            have HA2 := Lib.hid (show adE (isN f.name) ((t.fields.take k).map Fd.name) f.name = 7 by unfold adE; rw [p4, p5]; rfl)
            go_wp2_with fail
            refine cN.mono ?_
            rintro e w2 ⟨rfl, hg2, -, hq2⟩
            rw [HA2.out]
            clear hq2 p1 p2 p3 p4 p5 hz2
            go_wp2_with fail
            go_ret
            exact CkP.bad (by decide) rfl (gb_next hgw ((Below.next hbr (ab1 _ _)).grown hg2 (Below.next hbr (ab1 _ _)).size (fun k hk => by cases hk; exact Nat.le_refl _)))
          · obtain rfl := hfe _ pe (by decide)
            clear hfe hnxt hz1 hpv hnx hA hT pe
            have d1 : decide (f.num < 1) = false := by rw [decide_eq_false_iff_not]; omega
            have d2 : decide (127 < f.num) = false := by rw [decide_eq_false_iff_not]; omega
            have d3 : decide (f.num ≤ zp) = false := decide_eq_false (hz2 p1 p3)
            have HA2 := Lib.hid (show adE (isN f.name) ((t.fields.take k).map Fd.name) f.name = 0 by unfold adE; rw [p4, p5]; rfl)
            go_wp2_with fail
            refine cN.mono ?_
            rintro e w2 ⟨rfl, hg2, -, hq2⟩
            rw [HA2.out]
            have hN2 := hq2 HA2.out
            have hB3 := (hBr.next (ab1 _ _)).kept hg2 (by omega)
            have hC3 := (hCr.next (ab1 _ _)).kept hg2 (by omega)
            have hG3 := hG.kept hg2 (by omega)
            have hb3 := (Below.next hbr (ab1 _ _)).grown hg2 (Below.next hbr (ab1 _ _)).size (fun k hk => by cases hk; exact Nat.le_refl _)
            have hbW3 := hbx.grown hg2 hbx.size (fun k hk => by cases hk; exact hb1.size)
            have c0 := hC3.c 0 rfl
            have c1 := hC3.c 1 rfl
            have k0 := hG3.c 0 rfl
            have k2 := hG3.c 2 rfl
            have k3 := hG3.c 3 rfl
            have k4 := hG3.c 4 rfl
            have k5 := hG3.c 5 rfl
            clear hq2 hz2 cN
            go_wp2_with fail
            refine (cP _ hbW3).mono ?_
            rintro e w3 ⟨rfl, hb4⟩
            rw [p6]
            clear p1 p2 p3 p4 p5 p6 cP c0 c1 k0 k2 k3 k4 k5
            go_wp2_with fail
            go_ret
            exact CkP.bad (by decide) rfl (gb_next hgw (Below.next hb3 hb4))
          · have HX := Lib.hid (hnxt pe)
            have HT := Lib.hid hnx
            have HP := Lib.hid hpv.symm
            clear hfe hnxt hz1 hpv hnx hA hT pe
            have d1 : decide (f.num < 1) = false := by rw [decide_eq_false_iff_not]; omega
            have d2 : decide (127 < f.num) = false := by rw [decide_eq_false_iff_not]; omega
            have d3 : decide (f.num ≤ zp) = false := decide_eq_false (hz2 p1 p3)
            have HA2 := Lib.hid (show adE (isN f.name) ((t.fields.take k).map Fd.name) f.name = 0 by unfold adE; rw [p4, p5]; rfl)
            go_wp2_with fail
            refine cN.mono ?_
            rintro e w2 ⟨rfl, hg2, -, hq2⟩
            rw [HA2.out]
            have hN2 := hq2 HA2.out
            have hB3 := (hBr.next (ab1 _ _)).kept hg2 (by omega)
            have hC3 := (hCr.next (ab1 _ _)).kept hg2 (by omega)
            have hG3 := hG.kept hg2 (by omega)
            have hb3 := (Below.next hbr (ab1 _ _)).grown hg2 (Below.next hbr (ab1 _ _)).size (fun k hk => by cases hk; exact Nat.le_refl _)
            have hbW3 := hbx.grown hg2 hbx.size (fun k hk => by cases hk; exact hb1.size)
            have c0 := hC3.c 0 rfl
            have c1 := hC3.c 1 rfl
            have k0 := hG3.c 0 rfl
            have k2 := hG3.c 2 rfl
            have k3 := hG3.c 3 rfl
            have k4 := hG3.c 4 rfl
            have k5 := hG3.c 5 rfl
            clear hq2 hz2 cN
            go_wp2_with fail
            refine (cP _ hbW3).mono ?_
            rintro e w3 ⟨rfl, hb4⟩
            rw [p6]
            clear p1 p2 p3 p4 p5 p6 cP c0 c1 k0 k2 k3 k4 k5
            have k0 := (hG3.next hb4).c 0 rfl
            go_wp2_with fail
            go_roundw
            case rel => exact ⟨k + 1, f.num, by omega, by go_num, rfl, HP, HX, hB3.next hb4, hC3.next hb4, HT.out ▸ hN2.next hb4, Below.next hb3 hb4⟩
            case measure => simp [intOf]; omega
        · obtain rfl : k = q := by omega
          have H0 := Lib.hid (show r = 0 by rw [← HR.out]; exact fe_zero hI.out)
          have x0 := hBr.c 0 rfl
          have x1 := hBr.c 1 rfl
          clear hI
          go_wp2_with fail
          go_ret
          exact CkP.ok H0.out (gb_next hgw hbr) (hM1.next hbr)
    · rw [g2, if_pos rfl] at hr
      subst hr
      have ha : adE true l t.name = 7 := by unfold adE; rw [g2]; rfl
      clear g1 g2
      go_enter Tryz.func66, Tryz.ntmps66
      go_wp2_with fail
      refine cA.mono ?_
      rintro e w1 ⟨rfl, hg, -, -⟩
      rw [HWA.out] at hg
      rw [ha]
      go_wp2_with fail
      go_ret
      exact CkP.bad (by decide) rfl (hga.trans hg)
end Go.Proofs.YtcilkcnddgacgaaGreatDoor
/-
  The developers' definitions by name: how they are made; the type within all lists. No conditions beyond those that each names.
-/
namespace Go.Proofs.YtcilkcnddgacgaaGreatDoor
open Go.RowKit Go.Maps
theorem DfM.nil {α : Type} (W : World) (b : Nat) (key : α → List UInt8) (V : World → α → Value → Prop) {D : DataW Value} (h : Mp W b 0 (fun _ => none) D) : DfM W b [] key V (fun _ => none) D :=
  ⟨⟨0, by omega, h⟩, fun _ => rfl, fun _ _ h => by cases h⟩
/-- One definition more. -/
theorem putF_is {α : Type} {l : List α} {key : α → List UInt8} {f : List UInt8 → Option Value} (h : ∀ x, (f x).isSome = (l.map key).contains x) (t : α) (u : Value) (x : List UInt8) : (putF f (key t) u x).isSome = ((l ++ [t]).map key).contains x := by
  unfold putF
  by_cases e : x = key t
  · subst e; rw [if_pos rfl]; simp
  · rw [if_neg e, h x]; simp [e]
theorem putF_val {α : Type} {l : List α} {key : α → List UInt8} {V : α → Value → Prop} {f : List UInt8 → Option Value} (h : ∀ x u, f x = some u → ∃ t ∈ l, key t = x ∧ V t u) {t : α} {u : Value} (hV : V t u) (x : List UInt8) (u' : Value) (e : putF f (key t) u x = some u') : ∃ t' ∈ l ++ [t], key t' = x ∧ V t' u' := by
  unfold putF at e
  split at e
  · rename_i e1
    cases e
    exact ⟨t, by simp, e1.symm, hV⟩
  · obtain ⟨t', h1, h2, h3⟩ := h x u' e
    exact ⟨t', by simp [h1], h2, h3⟩
theorem gb_setCell (w : World) (p : Addr) (u : Value) : w.grownBy (w.setCell p u) (some p.block) :=
  have b := Below.setCell (Below.refl 0 w) (Nat.zero_le p.block) u
  ⟨b.os, b.tape, b.output, b.size, fun i _ hne => Below.heap_setCell w p u i (fun e => hne (by rw [e]))⟩
/-- A map of so many definitions, whose values were read in the world w. -/
structure Dq {α : Type} (W w : World) (b n : Nat) (l : List α) (key : α → List UInt8) (V : World → α → Value → Prop) : Prop where
  ex : ∃ f D, Mp W b n f D ∧ (∀ x, (f x).isSome = (l.map key).contains x) ∧ ∀ x u, f x = some u → ∃ t ∈ l, key t = x ∧ V w t u
theorem Dq.kept {α : Type} {W W' w : World} {b n : Nat} {l : List α} {key : α → List UInt8} {V : World → α → Value → Prop} {row : Option Nat} (h : Dq W w b n l key V) (hg : W.grownBy W' row) (hne : some b ≠ row) : Dq W' w b n l key V := by
  obtain ⟨f, D, hm, h1, h2⟩ := h.ex
  exact ⟨f, D, hm.kept hg hne, h1, h2⟩
theorem Dq.lt {α : Type} {W w : World} {b n : Nat} {l : List α} {key : α → List UInt8} {V : World → α → Value → Prop} (h : Dq W w b n l key V) : b < W.heap.size := by
  obtain ⟨f, D, hm, -⟩ := h.ex
  exact hm.lt
theorem Dq.dm {α : Type} {W w : World} {b n : Nat} {l : List α} {key : α → List UInt8} {V : World → α → Value → Prop} (h : Dq W w b n l key V) (hn : n ≤ 1000) (hV : ∀ t u, V w t u → V W t u) : ∃ f D, DfM W b l key V f D := by
  obtain ⟨f, D, hm, h1, h2⟩ := h.ex
  exact ⟨f, D, ⟨n, hn, hm⟩, h1, fun x u e => by obtain ⟨t, a, c, d⟩ := h2 x u e; exact ⟨t, a, c, hV _ _ d⟩⟩
def DfP (S : Sch) (w : World) (e : Ending) (w' : World) : Prop := ∃ b1 b2, e = .returned (.agg #[.map (some b1), .map (some b2)]) ∧ Dm w' S b1 b2 ∧ Below w.heap.size w w'
/-- The same, with the world in which the values were read. -/
def DfQ (W0 : World) (S : Sch) (w : World) (e : Ending) (w' : World) : Prop := ∃ b1 b2, e = .returned (.agg #[.map (some b1), .map (some b2)]) ∧ Dq w' W0 b1 S.structs.length S.structs St.name StV ∧ Dq w' W0 b2 S.enums.length S.enums En.name EnV ∧ w.heap.size ≤ b1 ∧ w.heap.size ≤ b2 ∧ Below w.heap.size w w'
set_option maxRecDepth 100000 in
set_option maxHeartbeats 4000000 in
theorem define_at (W0 : World) (S : Sch) (v : Value) (w : World) (hv : ScV W0 S v) (h0 : Below W0.heap.size W0 w) (hn : S.enums.length ≤ 1000) (hm : S.structs.length ≤ 1000) (h1 : ∀ t ∈ S.structs, t.name.length ≤ 40) (h2 : ∀ x ∈ S.enums, x.name.length ≤ 40) :
    Calls Tryz.prog 64 #[v] w (DfQ W0 S w) := by
  have hmm := @run_makeMap Tryz.prog
  obtain ⟨A, c, A2, c2, rfl, hS⟩ := hv
  have hSe := hS.en
  have hSs := hS.st
  clear hS
  unfold DfQ
  obtain ⟨n, hn2⟩ : ∃ n, S.enums.length = n := ⟨_, rfl⟩
  obtain ⟨m, hm2⟩ : ∃ m, S.structs.length = m := ⟨_, rfl⟩
  have HN := Lib.hid hn2
  have HM := Lib.hid hm2
  rw [hn2] at hn ⊢
  rw [hm2] at hm ⊢
  clear hn2 hm2
  go_enter Tryz.func64, Tryz.ntmps64
  go_wp2_with fail
  have z1 : (w.alloc (Obj.cells #[.int .i64 S.ver, .slice A n c, .slice A2 m c2] 25)).heap.size = w.heap.size + 1 := by simp
  have z2 : ((w.alloc (Obj.cells #[.int .i64 S.ver, .slice A n c, .slice A2 m c2] 25)).alloc (Obj.cells #[.map none, .map none] 104)).heap.size = w.heap.size + 1 + 1 := by simp
  have z3 : (((w.alloc (Obj.cells #[.int .i64 S.ver, .slice A n c, .slice A2 m c2] 25)).alloc (Obj.cells #[.map none, .map none] 104)).alloc (Obj.map #[] 0)).heap.size = w.heap.size + 1 + 1 + 1 := by simp
  have z4 : ((((w.alloc (Obj.cells #[.int .i64 S.ver, .slice A n c, .slice A2 m c2] 25)).alloc (Obj.cells #[.map none, .map none] 104)).alloc (Obj.map #[] 0)).alloc (Obj.map #[] 0)).heap.size = w.heap.size + 1 + 1 + 1 + 1 := by simp
  have B1 := (Bx.new3 w 25 (.int .i64 S.ver) (.slice A n c) (.slice A2 m c2)).next (ab4 _ (Obj.cells #[.map none, .map none] 104) (Obj.map #[] 0) (Obj.map #[] 0) (Obj.cells #[.map (some (w.heap.size + 1 + 1)), .map (some (w.heap.size + 1 + 1 + 1))] 104))
  have B2 := (Bx.new2 (w.alloc (Obj.cells #[.int .i64 S.ver, .slice A n c, .slice A2 m c2] 25)) 104 (.map none) (.map none)).next (ab3 _ (Obj.map #[] 0) (Obj.map #[] 0) (Obj.cells #[.map (some (w.heap.size + 1 + 1)), .map (some (w.heap.size + 1 + 1 + 1))] 104))
  have M1 := (Mp.made ((w.alloc (Obj.cells #[.int .i64 S.ver, .slice A n c, .slice A2 m c2] 25)).alloc (Obj.cells #[.map none, .map none] 104))).next (ab2 _ (Obj.map #[] 0) (Obj.cells #[.map (some (w.heap.size + 1 + 1)), .map (some (w.heap.size + 1 + 1 + 1))] 104))
  have M2 := (Mp.made (((w.alloc (Obj.cells #[.int .i64 S.ver, .slice A n c, .slice A2 m c2] 25)).alloc (Obj.cells #[.map none, .map none] 104)).alloc (Obj.map #[] 0))).next (ab1 _ (Obj.cells #[.map (some (w.heap.size + 1 + 1)), .map (some (w.heap.size + 1 + 1 + 1))] 104))
  have B5 := Bx.new2 ((((w.alloc (Obj.cells #[.int .i64 S.ver, .slice A n c, .slice A2 m c2] 25)).alloc (Obj.cells #[.map none, .map none] 104)).alloc (Obj.map #[] 0)).alloc (Obj.map #[] 0)) 104 (.map (some (w.heap.size + 1 + 1))) (.map (some (w.heap.size + 1 + 1 + 1)))
  rw [z1] at B2
  rw [z2] at M1
  rw [z3] at M2
  rw [z4] at B5
  have hab : Below w.heap.size w (((((w.alloc (Obj.cells #[.int .i64 S.ver, .slice A n c, .slice A2 m c2] 25)).alloc (Obj.cells #[.map none, .map none] 104)).alloc (Obj.map #[] 0)).alloc (Obj.map #[] 0)).alloc (Obj.cells #[.map (some (w.heap.size + 1 + 1)), .map (some (w.heap.size + 1 + 1 + 1))] 104)) := (ab4 w _ _ _ _).alloc (by rw [z4]; omega) _
  have Q1 : Dq _ W0 (w.heap.size + 1 + 1) 0 ([] : List St) St.name StV := ⟨_, _, M1, fun _ => rfl, fun _ _ h => by cases h⟩
  have Q2 : Dq _ W0 (w.heap.size + 1 + 1 + 1) 0 ([] : List En) En.name EnV := ⟨_, _, M2, fun _ => rfl, fun _ _ h => by cases h⟩
  clear z1 z2 z3 z4 M1 M2
  go_loopw [14] (fun i wr => ∃ k : Nat, k ≤ m ∧ i = .int .i64 (k : Int) ∧ Bx wr w.heap.size [.int .i64 S.ver, .slice A n c, .slice A2 m c2] ∧ Bx wr (w.heap.size + 1) [.map none, .map none] ∧ Bx wr (w.heap.size + 1 + 1 + 1 + 1) [.map (some (w.heap.size + 1 + 1)), .map (some (w.heap.size + 1 + 1 + 1))] ∧ Dq wr W0 (w.heap.size + 1 + 1) k (S.structs.take k) St.name StV ∧ Dq wr W0 (w.heap.size + 1 + 1 + 1) 0 [] En.name EnV ∧ Below w.heap.size w wr) (fun i _ => m - (intOf i).toNat)
  case atStart => exact ⟨0, by omega, rfl, B1, B2, B5, Q1, Q2, hab⟩
  case round =>
    obtain ⟨k, hk, rfl, C1, C2, C5, R1, R2, hb⟩ := hrel
    have s2 := C1.c 2 rfl
    have s1 := C1.c 1 rfl
    have l1 := C1.lt
    have l5 := C5.lt
    have d0 := C5.c 0 rfl
    have d1 := C5.c 1 rfl
    clear B1 B2 B5 Q1 Q2 hab
    by_cases hlt : k < m
    · obtain ⟨a, rfl, hA⟩ := hSs.get (i := k) (by rw [HM.out]; exact hlt)
      have hkm : k < S.structs.length := by rw [HM.out]; exact hlt
      obtain ⟨A3, c3, e0, e1, hV⟩ := hA.val
      replace e0 := cell_next (Below.next h0 hb) e0
      replace e1 := cell_next (Below.next h0 hb) e1
      have hblk : (a.add (k * 2)).block < wr.heap.size := blk_lt e0
      have hT : S.structs.take (k + 1) = S.structs.take k ++ [S.structs[k]'hkm] := List.take_succ_eq_append_getElem hkm
      have h40 := h1 _ (List.getElem_mem hkm)
      generalize S.structs[k]'hkm = t at *
      obtain ⟨f, D, hMp, hi, hva⟩ := R1.ex
      have hM2 := hMp.next (ab1 wr (Obj.cells #[.string (bs t.name), .slice A3 t.fields.length c3] 37))
      have hk40 : t.name.length ≤ 9223372036854775807 := by omega
      have HT := Lib.hid hT
      have hb2 := Below.next hb (ab1 wr (Obj.cells #[.string (bs t.name), .slice A3 t.fields.length c3] 37))
      clear hT h40 hA
      go_wp2_with (at_mapUpdate; refine wpList_put (u := .agg #[.string (bs t.name), .slice A3 t.fields.length c3]) (k := t.name) _ rfl (.tmp 19) (.tmp 21) (.tmp 22) 101 37 rfl Tryz.underlying101 hM2 (by omega) rfl hk40 rfl rfl ?_; intro w2 hM3 hg2)
      have hg3 := (gb_of (ab1 wr (Obj.cells #[.string (bs t.name), .slice A3 t.fields.length c3] 37)) (some (w.heap.size + 1 + 1))).trans hg2
      have T1 : Dq w2 W0 (w.heap.size + 1 + 1) (k + 1) (S.structs.take (k + 1)) St.name StV := ⟨_, _, hM3, by rw [HT.out]; exact putF_is hi t _, by rw [HT.out]; exact putF_val hva hV⟩
      go_wp2_with fail
      go_roundw
      case rel => exact ⟨k + 1, by omega, by go_num, C1.kept hg3 (by omega), C2.kept hg3 (by omega), C5.kept hg3 (by omega), T1, R2.kept hg3 (by intro h; injection h with h; omega), hb.grown hg3 hb.size (fun j hj => by cases hj; omega)⟩
      case measure => simp [intOf]; omega
    · obtain rfl : k = m := by omega
      rw [List.take_of_length_le (by rw [HM.out]; exact Nat.le_refl _)] at R1
      go_wp2_with fail
      clear s1 s2 l1 l5 d0 d1
      rename World => wo
      go_loopw [27] (fun i wr => ∃ y : Nat, y ≤ n ∧ i = .int .i64 (y : Int) ∧ Bx wr w.heap.size [.int .i64 S.ver, .slice A n c, .slice A2 k c2] ∧ Bx wr (w.heap.size + 1) [.map none, .map none] ∧ Bx wr (w.heap.size + 1 + 1 + 1 + 1) [.map (some (w.heap.size + 1 + 1)), .map (some (w.heap.size + 1 + 1 + 1))] ∧ Dq wr W0 (w.heap.size + 1 + 1) k S.structs St.name StV ∧ Dq wr W0 (w.heap.size + 1 + 1 + 1) y (S.enums.take y) En.name EnV ∧ Below w.heap.size w wr) (fun i _ => n - (intOf i).toNat)
      case atStart => exact ⟨0, by omega, rfl, C1, C2, C5, R1, R2, hb⟩
      case round =>
        clear C1 C2 C5 R1 R2 hb
        obtain ⟨y, hy, rfl, C1, C2, C5, R1, R2, hb⟩ := hrel
        have s2 := C1.c 2 rfl
        have s1 := C1.c 1 rfl
        have l1 := C1.lt
        have l5 := C5.lt
        have l2 := C2.lt
        have d0 := C5.c 0 rfl
        have d1 := C5.c 1 rfl
        by_cases hlt : y < n
        · obtain ⟨a, rfl, hA⟩ := hSe.get (i := y) (by rw [HN.out]; exact hlt)
          have hkm : y < S.enums.length := by rw [HN.out]; exact hlt
          obtain ⟨A3, c3, A4, c4, e0, e1, e2, hV⟩ := hA.val
          replace e0 := cell_next (Below.next h0 hb) e0
          replace e1 := cell_next (Below.next h0 hb) e1
          replace e2 := cell_next (Below.next h0 hb) e2
          have hblk : (a.add (y * 3)).block < wr.heap.size := blk_lt e0
          have hT : S.enums.take (y + 1) = S.enums.take y ++ [S.enums[y]'hkm] := List.take_succ_eq_append_getElem hkm
          have h40 := h2 _ (List.getElem_mem hkm)
          generalize S.enums[y]'hkm = t at *
          obtain ⟨f, D, hMp, hi, hva⟩ := R2.ex
          have hM2 := hMp.next (ab1 wr (Obj.cells #[.string (bs t.name), .slice A3 t.names.length c3, .slice A4 t.nums.length c4] 94))
          have hk40 : t.name.length ≤ 9223372036854775807 := by omega
          have HT := Lib.hid hT
          clear hT h40 hA
          go_wp2_with (at_mapUpdate; refine wpList_put (u := .agg #[.string (bs t.name), .slice A3 t.names.length c3, .slice A4 t.nums.length c4]) (k := t.name) _ rfl (.tmp 32) (.tmp 34) (.tmp 35) 102 94 rfl Tryz.underlying102 hM2 (by omega) rfl hk40 rfl rfl ?_; intro w2 hM3 hg2)
          have hg3 := (gb_of (ab1 wr (Obj.cells #[.string (bs t.name), .slice A3 t.names.length c3, .slice A4 t.nums.length c4] 94)) (some (w.heap.size + 1 + 1 + 1))).trans hg2
          have T2 : Dq w2 W0 (w.heap.size + 1 + 1 + 1) (y + 1) (S.enums.take (y + 1)) En.name EnV := ⟨_, _, hM3, by rw [HT.out]; exact putF_is hi t _, by rw [HT.out]; exact putF_val hva hV⟩
          go_wp2_with fail
          go_roundw
          case rel => exact ⟨y + 1, by omega, by go_num, C1.kept hg3 (by omega), C2.kept hg3 (by omega), C5.kept hg3 (by omega), R1.kept hg3 (by intro h; injection h with h; omega), T2, hb.grown hg3 hb.size (fun j hj => by cases hj; omega)⟩
          case measure => simp [intOf]; omega
        · obtain rfl : y = n := by omega
          rw [List.take_of_length_le (by rw [HN.out]; exact Nat.le_refl _)] at R2
          have r0 := C2.f 0 rfl
          have r1 := C2.f 1 rfl
          have q0 := C2.c 0 rfl
          have q1 := C2.c 1 rfl
          go_wp2_with fail
          have hs := (gb_setCell wr ⟨w.heap.size + 1, 0, none⟩ (.map (some (w.heap.size + 1 + 1)))).trans (gb_setCell (wr.setCell ⟨w.heap.size + 1, 0, none⟩ (.map (some (w.heap.size + 1 + 1)))) ⟨w.heap.size + 1, 1, none⟩ (.map (some (w.heap.size + 1 + 1 + 1))))
          have hb9 := hb.grown hs hb.size (fun j hj => by cases hj; show w.heap.size ≤ w.heap.size + 1; omega)
          refine bodyPost_ret (v := .agg #[.map (some (w.heap.size + 1 + 1)), .map (some (w.heap.size + 1 + 1 + 1))]) (by simp [results, Tryz.results64, go_sem, q0, q1]) rfl ⟨_, _, rfl, ?_, ?_, by omega, by omega, hb9⟩
          · exact R1.kept hs (by intro h; injection h with h; have h : w.heap.size + 1 + 1 = w.heap.size + 1 := h; omega)
          · exact R2.kept hs (by intro h; injection h with h; have h : w.heap.size + 1 + 1 + 1 = w.heap.size + 1 := h; omega)
theorem define_any (S : Sch) (v : Value) (w : World) (hv : ScV w S v) (hn : S.enums.length ≤ 1000) (hm : S.structs.length ≤ 1000) (h1 : ∀ t ∈ S.structs, t.name.length ≤ 40) (h2 : ∀ x ∈ S.enums, x.name.length ≤ 40) :
    Calls Tryz.prog 64 #[v] w (DfP S w) :=
  (define_at w S v w hv (Below.refl _ _) hn hm h1 h2).mono fun _ _ ⟨b1, b2, e, q1, q2, _, _, hb⟩ => ⟨b1, b2, e, ⟨q1.dm hm fun _ _ => StV.next hb, q2.dm hn fun _ _ => EnV.next hb⟩, hb⟩
end Go.Proofs.YtcilkcnddgacgaaGreatDoor
/-
  The developers' type within all lists. No conditions beyond those that each names.
-/
namespace Go.Proofs.YtcilkcnddgacgaaGreatDoor
open Go.RowKit Go.Maps
theorem Mp.run_look {w : World} {b n : Nat} {f : List UInt8 → Option Value} {D : DataW Value} (hM : Mp w b n f D) {t e : TypeId} (ht : Tryz.prog.underlying t = some (.map 9 e)) {z : Value} (hz : (zeroValue e).run Tryz.prog w = .ok z w) {k : List UInt8} (hk : k.length ≤ 9223372036854775807) {v : Value} (hv : (f k).getD z = v) :
    (Instr.lookup t (.map (some b)) (.string (bs k)) false).run Tryz.prog w = .ok v w := by
  obtain ⟨u, ps, hrun, hu⟩ := hM.own.lookup strK ht hz (zd := .held z) (zp := []) rfl (key_of hk)
  have e : u = (f k).getD z := by
    rw [hM.at_] at hu
    cases h : f k with
    | none => rw [h] at hu; cases hu; rfl
    | some x => rw [h] at hu; cases hu; rfl
  rw [hrun, e, hv]
theorem Bx.put4 {w : World} {b : Nat} {x y z u : Value} (h : Bx w b [x, y, z, u]) (x' y' z' u' : Value) : Bx ((((w.setCell ⟨b, 0, none⟩ x').setCell ⟨b, 1, none⟩ y').setCell ⟨b, 2, none⟩ z').setCell ⟨b, 3, none⟩ u') b [x', y', z', u'] := by
  have c0 := h.c 0 rfl
  have c1 := h.c 1 rfl
  have c2 := h.c 2 rfl
  have c3 := h.c 3 rfl
  have nn : ∀ i j : Nat, i ≠ j → (⟨b, i, none⟩ : Addr) ≠ ⟨b, j, none⟩ := fun i j hij e => hij (by injection e)
  have fr : ∀ j, ((((w.setCell ⟨b, 0, none⟩ x').setCell ⟨b, 1, none⟩ y').setCell ⟨b, 2, none⟩ z').setCell ⟨b, 3, none⟩ u').frozen? ⟨b, j, none⟩ = w.frozen? ⟨b, j, none⟩ := fun j => by simp
  refine ⟨by simp; exact h.lt, fun j v e => ?_⟩
  rw [fr]
  match j, e with
  | 0, e =>
    cases e
    exact ⟨by rw [World.cell?_setCell_other (h := nn 3 0 (by decide)) .., World.cell?_setCell_other (h := nn 2 0 (by decide)) .., World.cell?_setCell_other (h := nn 1 0 (by decide)) .., World.cell?_setCell_same (h := c0) ..], h.f 0 rfl⟩
  | 1, e =>
    cases e
    exact ⟨by rw [World.cell?_setCell_other (h := nn 3 1 (by decide)) .., World.cell?_setCell_other (h := nn 2 1 (by decide)) .., World.cell?_setCell_same (h := (World.cell?_setCell_other (h := nn 0 1 (by decide)) ..).trans c1) ..], h.f 1 rfl⟩
  | 2, e =>
    cases e
    exact ⟨by rw [World.cell?_setCell_other (h := nn 3 2 (by decide)) .., World.cell?_setCell_same (h := (World.cell?_setCell_other (h := nn 1 2 (by decide)) ..).trans ((World.cell?_setCell_other (h := nn 0 2 (by decide)) ..).trans c2)) ..], h.f 2 rfl⟩
  | 3, e =>
    cases e
    exact ⟨by rw [World.cell?_setCell_same (h := (World.cell?_setCell_other (h := nn 2 3 (by decide)) ..).trans ((World.cell?_setCell_other (h := nn 1 3 (by decide)) ..).trans ((World.cell?_setCell_other (h := nn 0 3 (by decide)) ..).trans c3))) ..], h.f 3 rfl⟩
theorem gb_set4 (w : World) (b : Nat) (x' y' z' u' : Value) : w.grownBy ((((w.setCell ⟨b, 0, none⟩ x').setCell ⟨b, 1, none⟩ y').setCell ⟨b, 2, none⟩ z').setCell ⟨b, 3, none⟩ u') (some b) :=
  (((gb_setCell w ⟨b, 0, none⟩ x').trans (gb_setCell _ ⟨b, 1, none⟩ y')).trans (gb_setCell _ ⟨b, 2, none⟩ z')).trans (gb_setCell _ ⟨b, 3, none⟩ u')
theorem bl_set4 {B : Nat} {w : World} {b : Nat} (x' y' z' u' : Value) (hB : B ≤ b) (hs : B ≤ w.heap.size) : Below B w ((((w.setCell ⟨b, 0, none⟩ x').setCell ⟨b, 1, none⟩ y').setCell ⟨b, 2, none⟩ z').setCell ⟨b, 3, none⟩ u') := Below.ofGrown (gb_set4 w b x' y' z' u') hB hs
/-- What innermost returns. -/
def InP (t : Ty) (w : World) (e : Ending) (w' : World) : Prop := ∃ v, e = .returned (.tuple #[v, .int .i64 (lst t : Int)]) ∧ TyV w' (inn t) v ∧ Below w.heap.size w w'
set_option maxRecDepth 100000 in
set_option maxHeartbeats 4000000 in
theorem innermost_any (S : Sch) (t : Ty) (v : Value) (w : World) (hr : right S t = true) (hl : lst t ≤ 1000) (hv : TyV w t v) :
    Calls Tryz.prog 153 #[v] w (InP t w) := by
  obtain ⟨A, c, rfl, hR⟩ := hv
  have z1 : (w.alloc (Obj.cells #[.int .i64 t.kind, .int .i64 t.size, .string (bs t.name), .slice A t.elem.length c] 53)).heap.size = w.heap.size + 1 := by simp
  have B1 := (Bx.new4 w 53 (.int .i64 t.kind) (.int .i64 t.size) (.string (bs t.name)) (.slice A t.elem.length c)).next (ab1 _ (Obj.cells #[.int .i64 0, .int .i64 0, .string ⟨#[]⟩, .slice none 0 0] 53))
  have B2 := Bx.new4 (w.alloc (Obj.cells #[.int .i64 t.kind, .int .i64 t.size, .string (bs t.name), .slice A t.elem.length c] 53)) 53 (.int .i64 0) (.int .i64 0) (.string ⟨#[]⟩) (.slice none 0 0)
  rw [z1] at B2
  have hab := ab2 w (Obj.cells #[.int .i64 t.kind, .int .i64 t.size, .string (bs t.name), .slice A t.elem.length c] 53) (Obj.cells #[.int .i64 0, .int .i64 0, .string ⟨#[]⟩, .slice none 0 0] 53)
  have HR := Lib.hid hR
  have Hr := Lib.hid hr
  obtain ⟨L, hL⟩ : ∃ L, lst t = L := ⟨_, rfl⟩
  have HL := Lib.hid hL
  rw [hL] at hl
  clear hR hr z1 hL
  go_enter Tryz.func153, Tryz.ntmps153
  go_wp2_with fail
  go_loopw [4] (fun i wr => ∃ (u : Ty) (k : Nat) (A3 : Option Addr) (c3 : Nat), k ≤ L ∧ i = .int .i64 (k : Int) ∧ Hid (k + lst u = L) ∧ Hid (inn u = inn t) ∧ Hid (right S u = true) ∧ Hid (Rw TyA 4 w u.elem A3) ∧ Bx wr w.heap.size [.int .i64 u.kind, .int .i64 u.size, .string (bs u.name), .slice A3 u.elem.length c3] ∧ Bx wr (w.heap.size + 1) [.int .i64 0, .int .i64 0, .string ⟨#[]⟩, .slice none 0 0] ∧ Below w.heap.size w wr) (fun i _ => L - (intOf i).toNat)
  case atStart => exact ⟨t, 0, A, c, by omega, rfl, Lib.hid (by rw [Nat.zero_add]; exact HL.out), Lib.hid rfl, Hr, HR, B1, B2, hab⟩
  case round =>
    obtain ⟨u, k, A3, c3, hk, rfl, hkL, hin, hru, hRu, C1, C2, hb⟩ := hrel
    clear B1 B2 hab HR Hr
    have s0 := C1.c 0 rfl
    have s1 := C1.c 1 rfl
    have s2 := C1.c 2 rfl
    have s3 := C1.c 3 rfl
    have g0 := C1.f 0 rfl
    have g1 := C1.f 1 rfl
    have g2 := C1.f 2 rfl
    have g3 := C1.f 3 rfl
    by_cases h5 : u.kind = 5
    · have d5 : (u.kind == 5) = true := by simpa using h5
      obtain ⟨ku, su, nu, eu⟩ := u
      have h5 : ku = 5 := h5
      subst h5
      obtain ⟨rfl, y, rfl, hry⟩ := right_list hru.out
      obtain ⟨a, rfl, hA⟩ := hRu.out.get (i := 0) (by show 0 < 1; omega)
      rw [Nat.zero_mul] at hA
      have hA : TyA w y a := hA
      obtain ⟨e0, e1, e2, A4, c4, e3, hR4⟩ := hA.cells
      replace e0 := cell_next hb e0
      replace e1 := cell_next hb e1
      replace e2 := cell_next hb e2
      replace e3 := cell_next hb e3
      have hblk : a.block < w.heap.size := blk_lt (hA.cells.1)
      have hne : a.block ≠ w.heap.size := by omega
      have hl2 := hkL.out
      rw [lst_list] at hl2
      have hi2 := hin.out
      rw [inn_list] at hi2
      have H1 := Lib.hid (show k + 1 + lst y = L by omega)
      have H2 := Lib.hid hi2
      have H3 := Lib.hid hry
      have H4 := Lib.hid hR4
      have hkk : k + 1 ≤ L := by omega
      clear hl2 hi2 hry hR4 hkL hin hru hRu hA d5
      replace s0 : wr.cell? ⟨w.heap.size, 0, none⟩ = some (.int .i64 5) := s0
      replace s1 : wr.cell? ⟨w.heap.size, 1, none⟩ = some (.int .i64 su) := s1
      replace s2 : wr.cell? ⟨w.heap.size, 2, none⟩ = some (.string (bs [])) := s2
      replace s3 : wr.cell? ⟨w.heap.size, 3, none⟩ = some (.slice (some a) 1 c3) := s3
      go_wp2_with fail
      go_roundw
      case rel => exact ⟨y, k + 1, A4, c4, hkk, by go_num, H1, H2, H3, H4, C1.put4 _ _ _ _, C2.kept (gb_set4 wr _ _ _ _ _) (by omega), hb.trans (bl_set4 _ _ _ _ (Nat.le_refl _) hb.size)⟩
      case measure => simp [intOf]; omega
    · have d5 : (u.kind == 5) = false := by simpa using h5
      have hiu : inn u = u := by obtain ⟨ku, su, nu, eu⟩ := u; exact inn_not _ _ _ h5
      have hlu : lst u = 0 := by obtain ⟨ku, su, nu, eu⟩ := u; exact lst_not _ _ _ h5
      have hkL2 : k = L := by have := hkL.out; omega
      subst hkL2
      have q0 := C2.c 0 rfl
      have q1 := C2.c 1 rfl
      have q2 := C2.c 2 rfl
      have q3 := C2.c 3 rfl
      have r0 := C2.f 0 rfl
      have r1 := C2.f 1 rfl
      have r2 := C2.f 2 rfl
      have r3 := C2.f 3 rfl
      have HI := Lib.hid (hin.out.symm.trans hiu)
      clear hiu hlu h5
      go_wp2_with fail
      refine bodyPost_ret (v := .tuple #[.agg #[.int .i64 u.kind, .int .i64 u.size, .string (bs u.name), .slice A3 u.elem.length c3], .int .i64 (k : Int)]) (by simp [results, Tryz.results153, go_sem, q0, q1, q2, q3]) rfl ⟨_, by rw [HL.out], ?_, ?_⟩
      · rw [HI.out]
        exact (show TyV w u _ from ⟨A3, c3, rfl, hRu.out⟩).next (hb.trans (bl_set4 _ _ _ _ (Nat.le_succ _) hb.size))
      · exact hb.trans (bl_set4 _ _ _ _ (Nat.le_succ _) hb.size)
end Go.Proofs.YtcilkcnddgacgaaGreatDoor
/-
  The developers' visit of what a struct uses. No conditions beyond those that each names.
-/
namespace Go.Proofs.YtcilkcnddgacgaaGreatDoor
open Go.RowKit Go.Maps
/-- Valid types and different names, within bounds. -/
structure Okk (S : Sch) : Prop where
  rt : ∀ t ∈ S.structs, ∀ f ∈ t.fields, right S f.type = true
  nd : (sns S).Nodup
  ne : ∀ x, x ∈ sns S ∨ x ∈ ens S → x ≠ [] ∧ x.length ≤ 40
  dj : ∀ x, x ∈ sns S → x ∈ ens S → False
  ls : ∀ t ∈ S.structs, ∀ f ∈ t.fields, lst f.type ≤ 100
  fw : ∀ t ∈ S.structs, t.fields.length ≤ 18
  nn : S.structs.length + S.enums.length ≤ 36
/-- All names of definitions. -/
def univ (S : Sch) : List (List UInt8) := sns S ++ ens S
theorem univ_len {S : Sch} (h : Okk S) : (univ S).length ≤ 36 := by
  have := h.nn
  unfold univ sns ens
  simp
  omega
theorem fst_some {S : Sch} (h : Okk S) {t : St} (ht : t ∈ S.structs) : fst_ St.name S.structs t.name = some t := (fst_iff h.nd).2 ⟨ht, rfl⟩
/-- What a look-up by name finds. -/
theorem Dm.look {W : World} {S : Sch} {b1 b2 : Nat} (hD : Dm W S b1 b2) (hO : Okk S) (x : List UInt8) : ∃ f D n v, n ≤ 1000 ∧ Mp W b1 n f D ∧ (f x).getD (.agg #[.string ⟨#[]⟩, .slice none 0 0]) = v ∧ StV W ((fst_ St.name S.structs x).getD st0) v := by
  obtain ⟨f, D, h⟩ := hD.st
  obtain ⟨n, hn, hm⟩ := h.map
  refine ⟨f, D, n, _, hn, hm, rfl, ?_⟩
  cases hx : f x with
  | none =>
    have hi := h.is x
    rw [hx] at hi
    have : fst_ St.name S.structs x = none := by
      refine fst_none.2 fun t ht e => ?_
      have : (S.structs.map St.name).contains x = true := by rw [List.contains_iff_mem]; exact List.mem_map.2 ⟨t, ht, e⟩
      rw [this] at hi
      cases hi
    rw [this]
    exact StV.zero W
  | some u =>
    obtain ⟨t, ht, e, hv⟩ := h.val x u hx
    rw [← e, fst_some hO ht]
    exact hv
/-- What a visit leaves. -/
def ViP (S : Sch) (x : List UInt8) (seen : List (List UInt8)) (b : Nat) (w : World) (e : Ending) (w' : World) : Prop :=
  ∃ now u, e = .returned u ∧ w.grownBy w' (some b) ∧ Vis (nx S) seen x now ∧ Ms w' b now.length now
theorem nxs_take {t : St} {k : Nat} (h : k < t.fields.length) : (t.fields.take (k + 1)).flatMap (fun f => dir f.type) = (t.fields.take k).flatMap (fun f => dir f.type) ++ dir (t.fields[k]'h).type := by
  rw [List.take_succ_eq_append_getElem h, List.flatMap_append]
  simp
theorem nx_sub {S : Sch} (hO : Okk S) {x y : List UInt8} (h : y ∈ nx S x) : y ∈ univ S := by
  unfold nx nxs at h
  obtain ⟨f, hf, hy⟩ := List.mem_flatMap.1 h
  cases e : fst_ St.name S.structs x with
  | none => rw [e] at hf; cases hf
  | some t =>
    rw [e] at hf
    have ht := (fst_mem e).1
    have hr := right_dir f.type (hO.rt t ht f hf)
    unfold univ
    rcases hr with ⟨h1, h2⟩ | ⟨h1, -⟩
    · rw [h1] at hy
      obtain rfl : y = (inn f.type).name := by simpa using hy
      rcases h2 with h | h
      · exact List.mem_append_left _ h.2
      · exact List.mem_append_right _ h.2
    · rw [h1] at hy; cases hy
theorem vis_sub {S : Sch} (hO : Okk S) {old x done now} (h : Lp (nx S) old x done now) (hs : ∀ y ∈ old, y ∈ univ S) : ∀ y ∈ now, y ∈ univ S := fun y hy => by
  by_cases ho : y ∈ old
  · exact hs y ho
  · have := (h.new y hy ho).1
    cases this with
    | one h => exact nx_sub hO h
    | more _ h => exact nx_sub hO h
set_option maxRecDepth 100000 in
set_option maxHeartbeats 8000000 in
theorem visit_any (S : Sch) (hO : Okk S) (W0 : World) (b b1 b2 g1 g2 g3 : Nat) (hD : Dm W0 S b1 b2) (hlow : W0.heap.size ≤ b) (hg1 : g1 ≠ b) (hg2 : g2 ≠ b) (hg3 : g3 ≠ b) (N : Nat) : ∀ (x : List UInt8) (v : Value) (seen : List (List UInt8)) (w : World),
    (univ S).length - seen.length < N → seen.Nodup → (∀ y ∈ seen, y ∈ univ S) → StV W0 ((fst_ St.name S.structs x).getD st0) v → Below W0.heap.size W0 w → Ms w b seen.length seen →
    Bx w g1 [.map (some b)] → Bx w g2 [.func (.func 152) #[] #[.pointer (some ⟨g1, 0, none⟩), .pointer (some ⟨g2, 0, none⟩), .pointer (some ⟨g3, 0, none⟩)]] → Bx w g3 [.map (some b1), .map (some b2)] →
    Calls Tryz.prog 152 #[v, .pointer (some ⟨g1, 0, none⟩), .pointer (some ⟨g2, 0, none⟩), .pointer (some ⟨g3, 0, none⟩)] w (ViP S x seen b w) := by
  induction N with
  | zero => intro x v seen w h; omega
  | succ N ih =>
    intro x v seen w hN hnd hsub hv hb0 hM G1 G2 G3
    obtain ⟨t, ht⟩ : ∃ t, (fst_ St.name S.structs x).getD st0 = t := ⟨_, rfl⟩
    rw [ht] at hv
    have hnx : nx S x = nxs t := by unfold nx; rw [ht]
    have hrt : ∀ f ∈ t.fields, right S f.type = true ∧ lst f.type ≤ 100 := by
      intro f hf
      cases e : fst_ St.name S.structs x with
      | none => rw [e] at ht; rw [← ht] at hf; cases hf
      | some t2 =>
        rw [e] at ht
        have ht : t2 = t := ht
        rw [ht] at e
        exact ⟨hO.rt t (fst_mem e).1 f hf, hO.ls t (fst_mem e).1 f hf⟩
    have hfl : t.fields.length ≤ 18 := by
      cases e : fst_ St.name S.structs x with
      | none => rw [e] at ht; rw [← ht]; decide
      | some t2 =>
        rw [e] at ht
        have ht : t2 = t := ht
        rw [ht] at e
        exact hO.fw t (fst_mem e).1
    obtain ⟨A, c, rfl, hVf⟩ := hv
    obtain ⟨q, hm⟩ : ∃ q, t.fields.length = q := ⟨_, rfl⟩
    have HM := Lib.hid hm
    rw [hm] at hfl ⊢
    have hbw := hM.lt
    have B0 := Bx.new2 w 37 (.string (bs t.name)) (.slice A q c)
    have hL0 : Hid (Lp (nx S) seen x ((t.fields.take 0).flatMap fun f => dir f.type) seen) := Lib.hid (Lp.start _ _ _)
    have HNX := Lib.hid hnx
    have l1 := G1.lt
    have l2 := G2.lt
    have l3 := G3.lt
    clear hm ht hnx
    go_enter Tryz.func152, Tryz.ntmps152
    go_wp2_with fail
    go_loopw [12] (fun i wr => ∃ (k : Nat) (now : List (List UInt8)), k ≤ q ∧ i = .int .i64 (k : Int) ∧ Hid (Lp (nx S) seen x ((t.fields.take k).flatMap fun f => dir f.type) now) ∧ Ms wr b now.length now ∧ Bx wr g1 [.map (some b)] ∧ Bx wr g2 [.func (.func 152) #[] #[.pointer (some ⟨g1, 0, none⟩), .pointer (some ⟨g2, 0, none⟩), .pointer (some ⟨g3, 0, none⟩)]] ∧ Bx wr g3 [.map (some b1), .map (some b2)] ∧ Bx wr w.heap.size [.string (bs t.name), .slice A q c] ∧ w.grownBy wr (some b) ∧ Below W0.heap.size W0 wr) (fun i _ => q - (intOf i).toNat)
    case atStart => exact ⟨0, seen, by omega, rfl, hL0, hM.next (ab1 _ _), G1.next (ab1 _ _), G2.next (ab1 _ _), G3.next (ab1 _ _), B0, gb_of (ab1 _ _) _, hb0.alloc hb0.size _⟩
    case round =>
      obtain ⟨k, now, hk, rfl, hL, hMr, R1, R2, R3, C0, hgr, hbW⟩ := hrel
      clear B0 hL0 hM G1 G2 G3 hb0
      have hlw := C0.lt
      by_cases hlt : k < q
      · obtain ⟨a, rfl, hA⟩ := hVf.get (i := k) (by rw [HM.out]; exact hlt)
        have hkm : k < t.fields.length := by rw [HM.out]; exact hlt
        have hxt := nxs_take hkm
        obtain ⟨hr, hls⟩ := hrt _ (List.getElem_mem hkm)
        have hdir := right_dir _ hr
        have hinx : ∀ y ∈ dir (t.fields[k]'hkm).type, y ∈ nx S x := fun y hy => by
          rw [HNX.out]
          exact List.mem_flatMap.2 ⟨_, List.getElem_mem hkm, hy⟩
        obtain ⟨A3, c3, f0, f1, f2, f3, f4, f5, f6, -, hT⟩ := hA.val
        replace f0 := cell_next hbW f0
        replace f1 := cell_next hbW f1
        replace f2 := cell_next hbW f2
        replace f3 := cell_next hbW f3
        replace f4 := cell_next hbW f4
        replace f5 := cell_next hbW f5
        replace f6 := cell_next hbW f6
        have hblk : (a.add (k * 7)).block < wr.heap.size := blk_lt f0
        generalize t.fields[k]'hkm = f at *
        have hW1 := Below.next hbW (ab1 wr (Obj.cells #[.int .i64 f.num, .string (bs f.name), .int .i64 f.type.kind, .int .i64 f.type.size, .string (bs f.type.name), .slice A3 f.type.elem.length c3, .bool f.opt] 61))
        have cI := innermost_any S f.type _ (wr.alloc (Obj.cells #[.int .i64 f.num, .string (bs f.name), .int .i64 f.type.kind, .int .i64 f.type.size, .string (bs f.type.name), .slice A3 f.type.elem.length c3, .bool f.opt] 61)) hr (by omega) (hT.next hW1)
        have HX := Lib.hid hxt
        clear hxt hA hT hrt
        go_wp2_with fail
        refine cI.mono ?_
        rintro e w2 ⟨v2, rfl, hV2, hb2⟩
        have hbr2 := Below.next (ab1 wr _) hb2
        have hgrs := hgr.size
        obtain ⟨A5, c5, rfl, -⟩ := hV2
        have hW2 := Below.next hbW hbr2
        have hgr2 := gb_next hgr hbr2
        have hM2 := hMr.next hbr2
        have T1 := R1.next hbr2
        have T2 := R2.next hbr2
        have T3 := R3.next hbr2
        have T0 := C0.next hbr2
        generalize inn f.type = u at *
        have D0 := Bx.new4 w2 53 (.int .i64 u.kind) (.int .i64 u.size) (.string (bs u.name)) (.slice A5 u.elem.length c5)
        have U1 := T1.next (ab1 w2 (Obj.cells #[.int .i64 u.kind, .int .i64 u.size, .string (bs u.name), .slice A5 u.elem.length c5] 53))
        have U2 := T2.next (ab1 w2 (Obj.cells #[.int .i64 u.kind, .int .i64 u.size, .string (bs u.name), .slice A5 u.elem.length c5] 53))
        have U3 := T3.next (ab1 w2 (Obj.cells #[.int .i64 u.kind, .int .i64 u.size, .string (bs u.name), .slice A5 u.elem.length c5] 53))
        have U0 := T0.next (ab1 w2 (Obj.cells #[.int .i64 u.kind, .int .i64 u.size, .string (bs u.name), .slice A5 u.elem.length c5] 53))
        have hM3 := hM2.next (ab1 w2 (Obj.cells #[.int .i64 u.kind, .int .i64 u.size, .string (bs u.name), .slice A5 u.elem.length c5] 53))
        have hgr3 := gb_next hgr2 (ab1 w2 (Obj.cells #[.int .i64 u.kind, .int .i64 u.size, .string (bs u.name), .slice A5 u.elem.length c5] 53))
        have hW3 := Below.next hW2 (ab1 w2 (Obj.cells #[.int .i64 u.kind, .int .i64 u.size, .string (bs u.name), .slice A5 u.elem.length c5] 53))
        have p1 := T1.c 0 rfl
        have p2 := T2.c 0 rfl
        have p30 := T3.c 0 rfl
        have p31 := T3.c 1 rfl
        have lt1 := T1.lt
        have lt2 := T2.lt
        have lt3 := T3.lt
        have lt0 := T0.lt
        have hnds : now.Nodup := hL.out.nd hnd
        have hsbs := vis_sub hO hL.out hsub
        have hnl := nodup_le now (univ S) hnds hsbs
        have hul := univ_len hO
        clear T1 T2 T3 T0 hM2 hgr2 hMr hgr R1 R2 R3 C0 f0 f1 f2 f3 f4 f5 f6 cI
        rcases hdir with ⟨d1, d2⟩ | ⟨d1, d2, -, -⟩
        · have hmem : u.name ∈ sns S ∨ u.name ∈ ens S := d2.elim (fun h => .inl h.2) (fun h => .inr h.2)
          obtain ⟨hne, h40⟩ := hO.ne _ hmem
          have q0 : ¬ (bs u.name).toList = [] := by rw [toList_bs]; exact hne
          have q1 : ((bs u.name).toList == []) = false := by rw [toList_bs]; simpa using hne
          have q2 : ((bs u.name).toList = []) = False := by rw [toList_bs]; simpa using hne
          have hk9 : u.name.length ≤ 9223372036854775807 := by omega
          have hiny : u.name ∈ nx S x := hinx _ (by rw [d1]; simp)
          obtain ⟨Dn, hMp⟩ := hM3
          obtain ⟨fq, Dq_, nq, vq, hnq, hMq, hvq, hStq⟩ := hD.look hO u.name
          obtain ⟨A7, c7, rfl, hRw7⟩ := hStq
          have hStq : StV W0 ((fst_ St.name S.structs u.name).getD st0) (.agg #[.string (bs ((fst_ St.name S.structs u.name).getD st0).name), .slice A7 ((fst_ St.name S.structs u.name).getD st0).fields.length c7]) := ⟨A7, c7, rfl, hRw7⟩
          have HUN := Lib.hid (show u.name ∈ univ S from nx_sub hO hiny)
          have hbw2 : b < w2.heap.size := Nat.lt_of_lt_of_le hbw (Nat.le_trans hgrs hbr2.size)
          have hv3 := setF_getD now u.name
          cases hc : now.contains u.name
          · rw [hc] at hv3
            have hnot : u.name ∉ now := fun h => by rw [List.contains_iff_mem.2 h] at hc; cases hc
            clear d2 hmem hne hc
            have hlk := hMp.run_look Tryz.underlying106 (zeroBool _) hk9 hv3
            have KEY : ∀ w4, (w2.alloc (Obj.cells #[.int .i64 u.kind, .int .i64 u.size, .string (bs u.name), .slice A5 u.elem.length c5] 53)).grownBy w4 (some b) → Bx w4 g1 [.map (some b)] ∧ Bx w4 g2 [.func (.func 152) #[] #[.pointer (some ⟨g1, 0, none⟩), .pointer (some ⟨g2, 0, none⟩), .pointer (some ⟨g3, 0, none⟩)]] ∧ Bx w4 g3 [.map (some b1), .map (some b2)] ∧ Bx w4 w.heap.size [.string (bs t.name), .slice (some a) q c] ∧ Below W0.heap.size W0 w4 ∧
                w4.cell? ⟨g2, 0, none⟩ = some (.func (.func 152) #[] #[.pointer (some ⟨g1, 0, none⟩), .pointer (some ⟨g2, 0, none⟩), .pointer (some ⟨g3, 0, none⟩)]) ∧ w4.cell? ⟨g3, 0, none⟩ = some (.map (some b1)) ∧ w4.cell? ⟨g3, 1, none⟩ = some (.map (some b2)) ∧ w4.cell? ⟨w2.heap.size, 2, none⟩ = some (.string (bs u.name)) ∧
                (Instr.lookup 101 (.map (some b1)) (.string (bs u.name)) false).run Tryz.prog w4 = .ok (.agg #[.string (bs ((fst_ St.name S.structs u.name).getD st0).name), .slice A7 ((fst_ St.name S.structs u.name).getD st0).fields.length c7]) w4 := by
              intro w4 hg4
              have V2 := U2.kept hg4 hg2
              have V3 := U3.kept hg4 hg3
              have hW4 := hW3.grown hg4 hW3.size (fun j hj => by cases hj; exact hlow)
              exact ⟨U1.kept hg4 hg1, V2, V3, U0.kept hg4 (by omega), hW4, V2.c 0 rfl, V3.c 0 rfl, V3.c 1 rfl, (D0.kept hg4 (by omega)).c 2 rfl, (hMq.next hW4).run_look Tryz.underlying101 (zeroSt _) hk9 hvq⟩
            go_wp2_with (first | (at_mapUpdate; refine wpList_put (u := .bool true) (k := u.name) _ rfl (.tmp 31) (.tmp 33) (.const (.bool true)) 106 4 rfl Tryz.underlying106 hMp (by omega) rfl hk9 rfl rfl ?_; intro w4 hM4 hg4; obtain ⟨V1, V2, V3, V0, hW4, y2, y30, y31, z2, hlk2⟩ := KEY w4 hg4))
            have hM5 : Ms w4 b (now ++ [u.name]).length (now ++ [u.name]) := by
              rw [List.length_append]
              exact ⟨_, by rw [← setF_put]; exact hM4⟩
            have hnd2 : (now ++ [u.name]).Nodup := by
              rw [List.nodup_append]
              exact ⟨hnds, by simp, fun a ha b hb e => hnot (by rw [List.mem_singleton.1 hb] at e; rw [← e]; exact ha)⟩
            have hsb2 : ∀ y ∈ now ++ [u.name], y ∈ univ S := fun y hy => by
              rcases List.mem_append.1 hy with h | h
              · exact hsbs y h
              · rw [List.mem_singleton.1 h]; exact HUN.out
            have hsl := nodup_le seen now hnd hL.out.sub
            have hn1 := nodup_le _ _ hnd2 hsb2
            rw [List.length_append] at hn1
            have hn1 : now.length + 1 ≤ (univ S).length := hn1
            have cV := ih u.name _ (now ++ [u.name]) w4 (by rw [List.length_append]; show (univ S).length - (now.length + 1) < N; omega) hnd2 hsb2 hStq hW4 hM5 V1 V2 V3
            refine cV.mono ?_
            rintro e w5 ⟨now5, uu, rfl, hg5, hV5, hM6⟩
            have HL5 := Lib.hid (hL.out.new_ hiny hnot hV5)
            rw [← d1, ← HX.out] at HL5
            have hgA := (hgr3.trans hg4).trans hg5
            have hW5 := hW4.grown hg5 hW4.size (fun j hj => by cases hj; exact hlow)
            clear hlk hlk2 y2 y30 y31 z2
            go_wp2_with fail
            go_roundw
            case rel => exact ⟨k + 1, now5, by omega, by go_num, HL5, hM6, V1.kept hg5 hg1, V2.kept hg5 hg2, V3.kept hg5 hg3, V0.kept hg5 (by omega), hgA, hW5⟩
            case measure => simp [intOf]; omega
          · rw [hc] at hv3
            have hin : u.name ∈ now := List.contains_iff_mem.1 hc
            have HL5 := Lib.hid (hL.out.old_ hin)
            rw [← d1, ← HX.out] at HL5
            have hlk := hMp.run_look Tryz.underlying106 (zeroBool _) hk9 hv3
            clear d2 hmem hne hc hin hL
            go_wp2_with fail
            go_roundw
            case rel => exact ⟨k + 1, now, by omega, by go_num, HL5, ⟨Dn, hMp⟩, U1, U2, U3, U0, hgr3, hW3⟩
            case measure => simp [intOf]; omega
        · have q0 : (bs u.name).toList = [] := by rw [toList_bs]; exact d2
          have HL5 : Hid (Lp (nx S) seen x ((t.fields.take (k + 1)).flatMap fun f => dir f.type) now) := Lib.hid (by rw [HX.out, d1, List.append_nil]; exact hL.out)
          clear hL d1 d2
          go_wp2_with fail
          go_roundw
          case rel => exact ⟨k + 1, now, by omega, by go_num, HL5, hM3, U1, U2, U3, U0, hgr3, hW3⟩
          case measure => simp [intOf]; omega
      · obtain rfl : k = q := by omega
        have HF := Lib.hid (show Vis (nx S) seen x now by
          have := hL.out
          rw [List.take_of_length_le (by rw [HM.out]; exact Nat.le_refl _)] at this
          show Lp (nx S) seen x (nx S x) now
          rw [HNX.out]
          exact this)
        clear hL
        go_wp2_with fail
        go_end0
        exact ⟨now, _, rfl, hgr, HF.out, hMr⟩
end Go.Proofs.YtcilkcnddgacgaaGreatDoor


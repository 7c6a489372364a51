/-
  The developers' Widens. No conditions beyond those that each names.
-/
import Derived.Test.YtcilkcnddgacgaaGreatDoorQM16
import Derived.Deep.LoopGhost
import Derived.BigQuiet
import Derived.Deep.QuietTactic
import Derived.Test.YtcilkcnddgacgaaGreatDoorQM15
import Derived.Lib.Overlaps
import Derived.Lib.AppendZerosOnto
import Derived.Laws.CopyRow
import Derived.Laws.Externs
import Derived.Shelf.Spec.SlicesInsert
import Derived.Shelf.Spec.SlicesInsertGrow
import Derived.Laws.CopyOwn
import Derived.Test.YtcilkcnddgacgaaGreatDoorQM14
import Derived.Test.YtcilkcnddgacgaaGreatDoorQM11
namespace Go.Proofs.YtcilkcnddgacgaaGreatDoor
open Go.RowKit
theorem tyv_in {w : World} {t : Ty} {A : Option Addr} {c : Nat} (h : TyV w t (.agg #[.int .i64 t.kind, .int .i64 t.size, .string (bs t.name), .slice A t.elem.length c])) : Rw TyA 4 w t.elem A := by
  obtain ⟨A', c', e, hs⟩ := h
  injection e with e
  injection e with e
  injection e with e1 e
  injection e with e2 e
  injection e with e3 e
  injection e with e4 e
  injection e4 with e4
  rw [e4]
  exact hs
set_option maxRecDepth 100000 in
theorem listOfOne_any (k s : Int) (nm : List UInt8) (A : Option Addr) (n c : Nat) (w : World) :
    Calls Tryz.prog 50 #[.agg #[.int .i64 k, .int .i64 s, .string (bs nm), .slice A n c]] w (Ib (.bool (decide (k = 5 ∧ n = 1))) w) := by
  by_cases h5 : k = 5
  · subst h5
    by_cases h1 : n = 1
    · subst h1
      go_enter Tryz.func50, Tryz.ntmps50
      go_wp2_with fail
      go_ret
      exact ⟨rfl, ab1 _ _⟩
    · have d1 : ((n : Int) == 1) = false := by simp; omega
      rw [show decide ((5 : Int) = 5 ∧ n = 1) = false from decide_eq_false fun h => h1 h.2]
      clear h1
      go_enter Tryz.func50, Tryz.ntmps50
      go_wp2_with fail
      go_ret
      exact ⟨rfl, ab1 _ _⟩
  · have d1 : (k == 5) = false := by simpa using h5
    rw [show decide (k = 5 ∧ n = 1) = false from decide_eq_false fun h => h5 h.1]
    clear h5
    go_enter Tryz.func50, Tryz.ntmps50
    go_wp2_with fail
    go_ret
    exact ⟨rfl, ab1 _ _⟩
set_option maxRecDepth 100000 in
set_option maxHeartbeats 8000000 in
theorem devWidens_any (t u : Ty) (v v' : Value) (w : World) (hl : lok t) (hl' : lok u) (hv : TyV w t v) (hv' : TyV w u v') :
    Calls Tryz.prog 21 #[v, v'] w (Ib (.bool (wdB t u)) w) := by
  obtain ⟨A, c, rfl, hR⟩ := hv
  obtain ⟨A', c', rfl, hR'⟩ := hv'
  obtain ⟨r, hr⟩ : ∃ r, wdB t u = r := ⟨_, rfl⟩
  rw [hr]
  have HR := Lib.hid hr
  clear hr
  have D1 := (Bx.new4 w 53 (.int .i64 t.kind) (.int .i64 t.size) (.string (bs t.name)) (.slice A t.elem.length c)).next (ab1 _ (Obj.cells #[.int .i64 u.kind, .int .i64 u.size, .string (bs u.name), .slice A' u.elem.length c'] 53))
  have D2 := Bx.new4 (w.alloc (Obj.cells #[.int .i64 t.kind, .int .i64 t.size, .string (bs t.name), .slice A t.elem.length c] 53)) 53 (.int .i64 u.kind) (.int .i64 u.size) (.string (bs u.name)) (.slice A' u.elem.length c')
  rw [show (w.alloc (Obj.cells #[.int .i64 t.kind, .int .i64 t.size, .string (bs t.name), .slice A t.elem.length c] 53)).heap.size = w.heap.size + 1 by simp] at D2
  have hab := ab2 w (Obj.cells #[.int .i64 t.kind, .int .i64 t.size, .string (bs t.name), .slice A t.elem.length c] 53) (Obj.cells #[.int .i64 u.kind, .int .i64 u.size, .string (bs u.name), .slice A' u.elem.length c'] 53)
  have HT := Lib.hid hR
  have HU := Lib.hid hR'
  have HL := Lib.hid (And.intro hl hl')
  clear hR hR' hl hl'
  go_enter Tryz.func21, Tryz.ntmps21
  go_wp2_with fail
  go_loopg [4] (SizeOf.sizeOf t + 1) (fun N x wr => ∃ (t' u' : Ty) (B : Option Addr) (d : Nat) (B' : Option Addr) (d' : Nat), x = .bool false ∧ Hid (SizeOf.sizeOf t' < N) ∧ Hid (wdB t' u' = r) ∧ Hid (lok t' ∧ lok u') ∧ Bx wr w.heap.size [.int .i64 t'.kind, .int .i64 t'.size, .string (bs t'.name), .slice B t'.elem.length d] ∧ Bx wr (w.heap.size + 1) [.int .i64 u'.kind, .int .i64 u'.size, .string (bs u'.name), .slice B' u'.elem.length d'] ∧ Hid (Rw TyA 4 w t'.elem B) ∧ Hid (Rw TyA 4 w u'.elem B') ∧ Below w.heap.size w wr)
  case atStart => exact ⟨t, u, A, c, A', c', rfl, Lib.hid (Nat.lt_succ_self _), HR, HL, D1, D2, HT, HU, hab⟩
  case round =>
    obtain ⟨t', u', B, d, B', d', rfl, HN, HP, HK, E1, E2, HE, HF, hb⟩ := hrel
    clear D1 D2 hab HT HU HR HL
    obtain ⟨k, s, n, e⟩ := t'
    obtain ⟨k', s', n', e'⟩ := u'
    simp only [Ty.kind, Ty.size, Ty.name, Ty.elem] at *
    obtain ⟨q, hq⟩ : ∃ q, e.length = q := ⟨_, rfl⟩
    obtain ⟨q', hq'⟩ : ∃ q', e'.length = q' := ⟨_, rfl⟩
    rw [hq] at E1
    rw [hq'] at E2
    have HQ := Lib.hid (And.intro hq hq')
    clear hq hq'
    have c1 := fun W => listOfOne_any k s n B q d W
    have c2 := fun W => listOfOne_any k' s' n' B' q' d' W
    have f0 := E1.c 0 rfl
    have f1 := E1.c 1 rfl
    have f2 := E1.c 2 rfl
    have f3 := E1.c 3 rfl
    have fl := E1.lt
    have g0 := E2.c 0 rfl
    have g1 := E2.c 1 rfl
    have g2 := E2.c 2 rfl
    have g3 := E2.c 3 rfl
    have gl := E2.lt
    by_cases hA : k = 5 ∧ q = 1
    case pos =>
      obtain ⟨rfl, rfl⟩ := hA
      simp only [and_self, decide_true] at c1
      by_cases hB : k' = 5 ∧ q' = 1
      case pos =>
        obtain ⟨rfl, rfl⟩ := hB
        simp only [and_self, decide_true] at c2
        go_wp2_with fail
        refine (c1 _).mono ?_
        rintro en w3 ⟨rfl, hb3⟩
        replace E1 := E1.next hb3
        replace E2 := E2.next hb3
        replace hb := Below.next hb hb3
        clear f0 f1 f2 f3 fl g0 g1 g2 g3 gl hb3 c1
        have f0 := E1.c 0 rfl
        have f1 := E1.c 1 rfl
        have f2 := E1.c 2 rfl
        have f3 := E1.c 3 rfl
        have fl := E1.lt
        have g0 := E2.c 0 rfl
        have g1 := E2.c 1 rfl
        have g2 := E2.c 2 rfl
        have g3 := E2.c 3 rfl
        have gl := E2.lt
        go_wp2_with fail
        refine (c2 _).mono ?_
        rintro en w4 ⟨rfl, hb3⟩
        replace E1 := E1.next hb3
        replace E2 := E2.next hb3
        replace hb := Below.next hb hb3
        clear f0 f1 f2 f3 fl g0 g1 g2 g3 gl hb3 c2
        have f0 := E1.c 0 rfl
        have f1 := E1.c 1 rfl
        have f2 := E1.c 2 rfl
        have f3 := E1.c 3 rfl
        have fl := E1.lt
        have g0 := E2.c 0 rfl
        have g1 := E2.c 1 rfl
        have g2 := E2.c 2 rfl
        have g3 := E2.c 3 rfl
        have gl := E2.lt
        by_cases h3 : n = n'
        case neg =>
          have b3 := sn_f h3
          have b3p : ((bs n).toList = (bs n').toList) = False := by rw [toList_bs, toList_bs]; simpa using h3
          have hF : r = false := by rw [← HP.out]; exact wdB_no fun h => h3 (wd_kind h).2.1
          subst hF
          clear h3
          go_wp2_with fail
          go_ret
          exact ⟨rfl, hb⟩
        case pos =>
        subst h3
        have b3 := sn_t n
        by_cases hs : s ≤ s'
        case neg =>
          have hF : r = false := by rw [← HP.out]; exact wd_gt hs
          subst hF
          have d1 : decide (s' < s) = true := by rw [decide_eq_true_iff]; omega
          have d2 : decide (s > s') = true := d1
          clear hs
          go_wp2_with fail
          go_ret
          exact ⟨rfl, hb⟩
        case pos =>
        have d1 : decide (s' < s) = false := by rw [decide_eq_false_iff_not]; omega
        have d2 : decide (s > s') = false := d1
        obtain ⟨t, rfl⟩ : ∃ t, e = [t] := by
          match e, HQ.out.1 with
          | [t], _ => exact ⟨t, rfl⟩
        obtain ⟨u, rfl⟩ : ∃ u, e' = [u] := by
          match e', HQ.out.2 with
          | [u], _ => exact ⟨u, rfl⟩
        have HP2 := Lib.hid (show wdB t u = r by rw [← HP.out]; exact (wd_list1 hs).symm)
        have HN2 := Lib.hid (show SizeOf.sizeOf t < gk - 1 by have h8 := Ty.mk.sizeOf_spec 5 s n [t]; have h9 := List.cons.sizeOf_spec t []; have := HN.out; omega)
        have HNg := Lib.hid (show gk - 1 < gk by have := HN.out; omega)
        have HK2 := Lib.hid (And.intro (lok_get (t := .mk 5 s n [t]) HK.out.1 (i := 0) (by show 0 < 1; omega)) (lok_get (t := .mk 5 s' n [u]) HK.out.2 (i := 0) (by show 0 < 1; omega)))
        obtain ⟨a, rfl, hA⟩ := HE.out.get (i := 0) (by show 0 < 1; omega)
        obtain ⟨a', rfl, hA'⟩ := HF.out.get (i := 0) (by show 0 < 1; omega)
        rw [Nat.zero_mul] at hA hA'
        have hA : TyA w t a := hA
        have hA' : TyA w u a' := hA'
        obtain ⟨A4, c4, x0, x1, x2, x3, hV⟩ := hA.val
        obtain ⟨A5, c5, y0, y1, y2, y3, hV'⟩ := hA'.val
        have hb0 : a.block < w.heap.size := blk_lt x0
        have hb0' : a'.block < w.heap.size := blk_lt y0
        have n1 : ¬ a.block = w.heap.size := by omega
        have n2 : ¬ a.block = w.heap.size + 1 := by omega
        have n3 : ¬ a'.block = w.heap.size := by omega
        have n4 : ¬ a'.block = w.heap.size + 1 := by omega
        have HV1 := Lib.hid (show Rw TyA 4 w t.elem A4 from tyv_in hV)
        have HV2 := Lib.hid (show Rw TyA 4 w u.elem A5 from tyv_in hV')
        clear hb0 hb0' hV hV'
        replace x0 := cell_next hb x0
        replace x1 := cell_next hb x1
        replace x2 := cell_next hb x2
        replace x3 := cell_next hb x3
        replace y0 := cell_next hb y0
        replace y1 := cell_next hb y1
        replace y2 := cell_next hb y2
        replace y3 := cell_next hb y3
        obtain ⟨ab, ao, ar⟩ := a
        obtain ⟨ab', ao', ar'⟩ := a'
        simp only [nx1] at x0 x1 x2 x3 y0 y1 y2 y3 n1 n2 n3 n4
        have hblk : ab < w4.heap.size := blk_lt x0
        have hblk' : ab' < w4.heap.size := blk_lt y0
        clear HP HN HK HQ hs hA hA'
        have p0 := E1.f 0 rfl
        have p1 := E1.f 1 rfl
        have p2 := E1.f 2 rfl
        have p3 := E1.f 3 rfl
        have r0 := E2.f 0 rfl
        have r1 := E2.f 1 rfl
        have r2 := E2.f 2 rfl
        have r3 := E2.f 3 rfl
        go_upto_region 4 with (fail)
        have F1 := E1.put4' (.int .i64 t.kind) (.int .i64 t.size) (.string (bs t.name)) (.slice A4 t.elem.length c4)
        have G1 := gb_set4' w4 w.heap.size (.int .i64 t.kind) (.int .i64 t.size) (.string (bs t.name)) (.slice A4 t.elem.length c4)
        have F2 := (E2.gb G1 (by omega)).put4' (.int .i64 u.kind) (.int .i64 u.size) (.string (bs u.name)) (.slice A5 u.elem.length c5)
        have G2 := gb_set4' ((((w4.setCell ⟨w.heap.size, 0, none⟩ (.int .i64 t.kind)).setCell ⟨w.heap.size, 1, none⟩ (.int .i64 t.size)).setCell ⟨w.heap.size, 2, none⟩ (.string (bs t.name))).setCell ⟨w.heap.size, 3, none⟩ (.slice A4 t.elem.length c4)) (w.heap.size + 1) (.int .i64 u.kind) (.int .i64 u.size) (.string (bs u.name)) (.slice A5 u.elem.length c5)
        have F1' := F1.gb G2 (by omega)
        have hb4 := hb.grown G1 hb.size fun b e => by cases e; omega
        have hb5 := hb4.grown G2 hb4.size fun b e => by cases e; omega
        clear E1 E2 F1 G1 G2 hb4
        go_region
        clear f0 f1 f2 f3 fl g0 g1 g2 g3 gl x0 x1 x2 x3 y0 y1 y2 y3 p0 p1 p2 p3 r0 r1 r2 r3
        generalize ((((((((w4.setCell ⟨w.heap.size, 0, none⟩ (.int .i64 t.kind)).setCell ⟨w.heap.size, 1, none⟩ (.int .i64 t.size)).setCell ⟨w.heap.size, 2, none⟩ (.string (bs t.name))).setCell ⟨w.heap.size, 3, none⟩ (.slice A4 t.elem.length c4)).setCell ⟨w.heap.size + 1, 0, none⟩ (.int .i64 u.kind)).setCell ⟨w.heap.size + 1, 1, none⟩ (.int .i64 u.size)).setCell ⟨w.heap.size + 1, 2, none⟩ (.string (bs u.name))).setCell ⟨w.heap.size + 1, 3, none⟩ (.slice A5 u.elem.length c5)) = w5 at *
        have hbd : Below w5.heap.size w5 w5.drew := (Below.refl _ _).drew
        go_wp2_with fail
        go_roundg (gk - 1)
        case measure => exact HNg.out
        case rel => exact ⟨t, u, A4, c4, A5, c5, rfl, HN2, HP2, HK2, F1'.next hbd, F2.next hbd, HV1, HV2, Below.next hb5 hbd⟩
      case neg =>
        have hd : decide (k' = 5 ∧ q' = 1) = false := decide_eq_false hB
        rw [hd] at c2
        clear hd
        go_wp2_with fail
        refine (c1 _).mono ?_
        rintro en w3 ⟨rfl, hb3⟩
        replace E1 := E1.next hb3
        replace E2 := E2.next hb3
        replace hb := Below.next hb hb3
        clear f0 f1 f2 f3 fl g0 g1 g2 g3 gl hb3 c1
        have f0 := E1.c 0 rfl
        have f1 := E1.c 1 rfl
        have f2 := E1.c 2 rfl
        have f3 := E1.c 3 rfl
        have g0 := E2.c 0 rfl
        have g1 := E2.c 1 rfl
        have g2 := E2.c 2 rfl
        have g3 := E2.c 3 rfl
        have fl := E1.lt
        have gl := E2.lt
        go_wp2_with fail
        refine (c2 _).mono ?_
        rintro en w4 ⟨rfl, hb3⟩
        replace E1 := E1.next hb3
        replace E2 := E2.next hb3
        replace hb := Below.next hb hb3
        clear f0 f1 f2 f3 fl g0 g1 g2 g3 gl hb3 c2
        have f0 := E1.c 0 rfl
        have f1 := E1.c 1 rfl
        have f2 := E1.c 2 rfl
        have f3 := E1.c 3 rfl
        have g0 := E2.c 0 rfl
        have g1 := E2.c 1 rfl
        have g2 := E2.c 2 rfl
        have g3 := E2.c 3 rfl
        have fl := E1.lt
        have gl := E2.lt
        have HNO := Lib.hid (show ¬ ((Ty.mk 5 s n e).kind = 5 ∧ (Ty.mk 5 s n e).elem.length = 1 ∧ (Ty.mk k' s' n' e').kind = 5 ∧ (Ty.mk k' s' n' e').elem.length = 1) from fun h => hB ⟨h.2.2.1, HQ.out.2 ▸ h.2.2.2⟩)
        have hk : ¬ ((Ty.mk 5 s n e).kind = 2 ∨ (Ty.mk 5 s n e).kind = 3 ∨ (Ty.mk 5 s n e).kind = 4) := by simp [Ty.kind]
        have HM := Lib.hid (show eqT (.mk 5 s n e) (.mk k' s' n' e') = r by rw [← HP.out]; exact (wdB_of (by rw [eqT_iff]; exact (wd_else (t := .mk 5 s n e) (u := .mk k' s' n' e') hk HNO.out).symm)).symm)
        have c3 := devSame_any (SizeOf.sizeOf (Ty.mk 5 s n e) + 1) (.mk 5 s n e) (.mk k' s' n' e') (.agg #[.int .i64 5, .int .i64 s, .string (bs n), .slice B 1 d]) (.agg #[.int .i64 k', .int .i64 s', .string (bs n'), .slice B' q' d']) w4 (Nat.lt_succ_self _) HK.out.1 HK.out.2 ⟨B, d, by rw [← HQ.out.1]; rfl, HE.out.next fun x p => TyA.next hb x p⟩ ⟨B', d', by rw [← HQ.out.2]; rfl, HF.out.next fun x p => TyA.next hb x p⟩
        rw [HM.out] at c3
        clear hk HM HP HN HK HQ HE HF HNO
        go_wp2_with fail
        refine c3.mono ?_
        rintro en w8 ⟨rfl, hb8⟩
        clear c3
        go_wp2_with fail
        go_ret
        exact ⟨rfl, Below.next hb hb8⟩

    case neg =>
      have hd : decide (k = 5 ∧ q = 1) = false := decide_eq_false hA
      rw [hd] at c1
      clear hd c2
      go_wp2_with fail
      refine (c1 _).mono ?_
      rintro en w4 ⟨rfl, hb3⟩
      replace E1 := E1.next hb3
      replace E2 := E2.next hb3
      replace hb := Below.next hb hb3
      clear f0 f1 f2 f3 fl g0 g1 g2 g3 gl hb3 c1
      have f0 := E1.c 0 rfl
      have f1 := E1.c 1 rfl
      have f2 := E1.c 2 rfl
      have f3 := E1.c 3 rfl
      have g0 := E2.c 0 rfl
      have g1 := E2.c 1 rfl
      have g2 := E2.c 2 rfl
      have g3 := E2.c 3 rfl
      have fl := E1.lt
      have gl := E2.lt
      have HNO := Lib.hid (show ¬ ((Ty.mk k s n e).kind = 5 ∧ (Ty.mk k s n e).elem.length = 1 ∧ (Ty.mk k' s' n' e').kind = 5 ∧ (Ty.mk k' s' n' e').elem.length = 1) from fun h => hA ⟨h.1, HQ.out.1 ▸ h.2.1⟩)
      by_cases hk : k = 2 ∨ k = 3 ∨ k = 4
      case pos =>
        have HM := Lib.hid (show eqT (.mk k (max s s') n e) (.mk k' s' n' e') = r by rw [← HP.out]; exact (wdB_of (by rw [eqT_iff]; exact (wd_num hk).symm)).symm)
        have HL2 := Lib.hid (show lok (.mk k (max s s') n e) ∧ lok (.mk k' s' n' e') from ⟨by have := HK.out.1; simpa [lok] using this, HK.out.2⟩)
        obtain ⟨mx, hmx⟩ : ∃ mx, max s s' = mx := ⟨_, rfl⟩
        rw [hmx] at HM HL2
        have F1 := E1.put1 1 (.int .i64 mx)
        have G1 := gb_set1 w4 ⟨w.heap.size, 1, none⟩ (.int .i64 mx)
        have F2 := E2.gb G1 (by show w.heap.size + 1 ≠ w.heap.size; omega)
        have hb4 := hb.grown G1 hb.size fun b e => by cases e; exact Nat.le_refl _
        have F1 : Bx (w4.setCell ⟨w.heap.size, 1, none⟩ (.int .i64 mx)) w.heap.size [.int .i64 k, .int .i64 mx, .string (bs n), .slice B q d] := F1
        have c3 := devSame_any (SizeOf.sizeOf (Ty.mk k mx n e) + 1) (.mk k mx n e) (.mk k' s' n' e') (.agg #[.int .i64 k, .int .i64 mx, .string (bs n), .slice B q d]) (.agg #[.int .i64 k', .int .i64 s', .string (bs n'), .slice B' q' d']) (w4.setCell ⟨w.heap.size, 1, none⟩ (.int .i64 mx)) (Nat.lt_succ_self _) HL2.out.1 HL2.out.2 ⟨B, d, by rw [← HQ.out.1]; rfl, HE.out.next fun x p => TyA.next hb4 x p⟩ ⟨B', d', by rw [← HQ.out.2]; rfl, HF.out.next fun x p => TyA.next hb4 x p⟩
        rw [HM.out] at c3
        have p1 := E1.f 1 rfl
        clear E1 E2 G1 HM HL2 HP HN HK HQ HE HF HNO
        have HX := Lib.hid hmx
        rcases hk with rfl | rfl | rfl
        all_goals (
          go_upto_region 7 with (fail)
          clear hmx f0 f1 f2 f3 fl g0 g1 g2 g3 gl p1
          generalize w4.setCell ⟨w.heap.size, 1, none⟩ (.int .i64 mx) = w9 at *
          have f0 := F1.c 0 rfl
          have f1 := F1.c 1 rfl
          have f2 := F1.c 2 rfl
          have f3 := F1.c 3 rfl
          have g0 := F2.c 0 rfl
          have g1 := F2.c 1 rfl
          have g2 := F2.c 2 rfl
          have g3 := F2.c 3 rfl
          have fl := F1.lt
          have gl := F2.lt
          go_wp2_with fail
          refine c3.mono ?_
          rintro en w8 ⟨rfl, hb8⟩
          clear c3
          go_wp2_with fail
          go_ret
          exact ⟨rfl, Below.next hb4 hb8⟩)
      case neg =>
        have k2 : (k == 2) = false := by simpa using fun h => hk (.inl h)
        have k3 : (k == 3) = false := by simpa using fun h => hk (.inr (.inl h))
        have k4 : (k == 4) = false := by simpa using fun h => hk (.inr (.inr h))
        have HM := Lib.hid (show eqT (.mk k s n e) (.mk k' s' n' e') = r by rw [← HP.out]; exact (wdB_of (by rw [eqT_iff]; exact (wd_else (t := .mk k s n e) (u := .mk k' s' n' e') hk HNO.out).symm)).symm)
        have c3 := devSame_any (SizeOf.sizeOf (Ty.mk k s n e) + 1) (.mk k s n e) (.mk k' s' n' e') (.agg #[.int .i64 k, .int .i64 s, .string (bs n), .slice B q d]) (.agg #[.int .i64 k', .int .i64 s', .string (bs n'), .slice B' q' d']) w4 (Nat.lt_succ_self _) HK.out.1 HK.out.2 ⟨B, d, by rw [← HQ.out.1]; rfl, HE.out.next fun x p => TyA.next hb x p⟩ ⟨B', d', by rw [← HQ.out.2]; rfl, HF.out.next fun x p => TyA.next hb x p⟩
        rw [HM.out] at c3
        clear hk HM HP HN HK HQ HE HF HNO
        go_wp2_with fail
        refine c3.mono ?_
        rintro en w8 ⟨rfl, hb8⟩
        clear c3
        go_wp2_with fail
        go_ret
        exact ⟨rfl, Below.next hb hb8⟩

end Go.Proofs.YtcilkcnddgacgaaGreatDoor
/-
  How deep the law's types are. No conditions beyond those that each names.
-/
namespace Go.Proofs.YtcilkcnddgacgaaGreatDoor
open Go.RowKit Go.Sort
/-- The law's test of a type's levels. -/
def dpB : Nat → Ty → Bool
  | 0, _ => true
  | N + 1, .mk _ _ _ e => if 1 < e.length then true else match e with
    | [x] => dpB N x
    | _ => false
set_option maxRecDepth 100000 in
set_option maxHeartbeats 8000000 in
theorem deep_any : ∀ (N : Nat) (t : Ty) (v : Value) (w : World), N ≤ 1000 → lok t → TyV w t v →
    Calls Tryz.prog 20 #[v, .int .i64 (N : Int)] w (Ib (.bool (dpB N t)) w) := by
  intro N
  induction N with
  | zero =>
    rintro t v w - - ⟨A, c, rfl, -⟩
    obtain ⟨k, s, n, e⟩ := t
    rw [show dpB 0 (.mk k s n e) = true from rfl]
    simp only [Ty.kind, Ty.size, Ty.name, Ty.elem]
    generalize e.length = q
    go_enter Tryz.func20, Tryz.ntmps20
    go_wp2_with fail
    go_ret
    exact ⟨rfl, ab1 _ _⟩
  | succ N ih =>
    rintro t v w hN hl ⟨A, c, rfl, hR⟩
    have hlen := lok_len hl
    obtain ⟨k, s, n, e⟩ := t
    simp only [Ty.kind, Ty.size, Ty.name, Ty.elem] at *
    have d0 : decide (((N : Int) + 1) < 1) = false := by rw [decide_eq_false_iff_not]; omega
    have d0' : decide (((N + 1 : Nat) : Int) < 1) = false := by rw [decide_eq_false_iff_not]; omega
    have D1 := Bx.new4 w 53 (.int .i64 k) (.int .i64 s) (.string (bs n)) (.slice A e.length c)
    have hab := ab1 w (Obj.cells #[.int .i64 k, .int .i64 s, .string (bs n), .slice A e.length c] 53)
    by_cases h1 : 1 < e.length
    · rw [show dpB (N + 1) (.mk k s n e) = true from if_pos h1]
      have d1 : decide ((1 : Int) < (e.length : Int)) = true := by rw [decide_eq_true_iff]; omega
      have d2 : decide ((e.length : Int) > 1) = true := d1
      generalize e.length = q at *
      clear h1 ih hR
      go_enter Tryz.func20, Tryz.ntmps20
      go_wp2_with fail
      go_ret
      exact ⟨rfl, hab⟩
    · have d1 : decide ((1 : Int) < (e.length : Int)) = false := by rw [decide_eq_false_iff_not]; omega
      have d2 : decide ((e.length : Int) > 1) = false := d1
      match e, h1 with
      | [], _ =>
        rw [show dpB (N + 1) (.mk k s n []) = false from rfl]
        clear ih hR d1 d2 hlen
        go_enter Tryz.func20, Tryz.ntmps20
        go_wp2_with fail
        go_ret
        exact ⟨rfl, ab1 _ _⟩
      | [t], _ =>
        rw [show dpB (N + 1) (.mk k s n [t]) = dpB N t from rfl]
        obtain ⟨a, rfl, hA⟩ := hR.get (i := 0) (by show 0 < 1; omega)
        rw [Nat.zero_mul] at hA
        have hA : TyA w t a := hA
        have hab : Below w.heap.size w (w.alloc (Obj.cells #[.int .i64 k, .int .i64 s, .string (bs n), .slice (some a) 1 c] 53)) := ab1 w _
        obtain ⟨A4, c4, x0, x1, x2, x3, hV⟩ := (TyA.next hab _ _ hA).val
        have hblk : a.block < (w.alloc (Obj.cells #[.int .i64 k, .int .i64 s, .string (bs n), .slice (some a) 1 c] 53)).heap.size := blk_lt x0
        have cR := ih t _ _ (by omega) (lok_get (t := .mk k s n [t]) hl (i := 0) (by show 0 < 1; omega)) hV
        generalize dpB N t = r at *
        clear ih hR hA hV d1 d2 hlen hl
        have e1 : ((N : Int) + 1 - 1) = (N : Int) := by omega
        go_enter Tryz.func20, Tryz.ntmps20
        go_wp2_with fail
        refine cR.mono ?_
        rintro en w3 ⟨rfl, hb3⟩
        clear cR
        go_wp2_with fail
        go_ret
        exact ⟨rfl, Below.next hab hb3⟩
      | _ :: _ :: _, h => exact absurd (by simp) h
end Go.Proofs.YtcilkcnddgacgaaGreatDoor
/-
  'copy' between rows of elements of several cells; slices.Insert ahead of an element where there is room. No conditions beyond those that each names.
-/
namespace Go.Proofs.YtcilkcnddgacgaaGreatDoor
open Go.RowKit Go.Shelf
end Go.Proofs.YtcilkcnddgacgaaGreatDoor
/-
  slices.Insert ahead of an element, with or without room. No conditions beyond those that each names.
-/
namespace Go.Proofs.YtcilkcnddgacgaaGreatDoor
open Go.RowKit Go.Shelf Go.Lib
end Go.Proofs.YtcilkcnddgacgaaGreatDoor
/-
  'clear' of elements of several cells; slices.DeleteFunc of the entries with a number. No conditions beyond those that each names.
-/
namespace Go.Proofs.YtcilkcnddgacgaaGreatDoor
open Go.RowKit Go.Shelf Go.Sort
/-- How the row stands when the places before k have been gone through and i of them stay. -/
def DelM (p : Int × Vl → Bool) (l M : List (Int × Vl)) (i k : Nat) : Prop := M.length = l.length ∧ M.take i = (l.take k).filter p ∧ M.drop k = l.drop k
theorem DelM.get {p : Int × Vl → Bool} {l M : List (Int × Vl)} {i k : Nat} (h : DelM p l M i k) (hk : k < l.length) : M[k]'(by rw [h.1]; exact hk) = l[k]'hk := by
  have h1 := congrArg (fun x => x[0]?) h.2.2
  simp only [List.getElem?_drop, Nat.add_zero] at h1
  rw [List.getElem?_eq_getElem (by rw [h.1]; exact hk), List.getElem?_eq_getElem hk] at h1
  exact Option.some.inj h1
theorem drop_succ_of {α : Type} {l m : List α} {k : Nat} (h : m.drop k = l.drop k) : m.drop (k + 1) = l.drop (k + 1) := by
  rw [← List.drop_drop, ← List.drop_drop, h]
theorem DelM.skip {p : Int × Vl → Bool} {l M : List (Int × Vl)} {i k : Nat} (h : DelM p l M i k) (hk : k < l.length) (hp : p (l[k]'hk) = false) : DelM p l M i (k + 1) := by
  refine ⟨h.1, ?_, drop_succ_of h.2.2⟩
  rw [h.2.1, List.take_succ_eq_append_getElem hk, List.filter_append, List.filter_cons_of_neg (by rw [hp]; decide), List.filter_nil, List.append_nil]
theorem DelM.keep {p : Int × Vl → Bool} {l M : List (Int × Vl)} {i k : Nat} (h : DelM p l M i k) (hk : k < l.length) (hik : i < k) (hp : p (l[k]'hk) = true) : DelM p l (M.set i (l[k]'hk)) (i + 1) (k + 1) := by
  have hM : i < M.length := by rw [h.1]; omega
  refine ⟨by rw [List.length_set]; exact h.1, ?_, ?_⟩
  · rw [List.take_succ_eq_append_getElem (by rw [List.length_set]; exact hM), List.getElem_set_self, List.take_set_of_le (Nat.le_refl _), h.2.1, List.take_succ_eq_append_getElem hk, List.filter_append, List.filter_cons_of_pos hp, List.filter_nil]
  · rw [List.drop_set_of_lt (by omega)]
    exact drop_succ_of h.2.2
theorem DelM.first {p : Int × Vl → Bool} {l : List (Int × Vl)} {i : Nat} (hi : i < l.length) (h1 : p (l[i]'hi) = false) (h2 : ∀ j (hj : j < l.length), j < i → p (l[j]'hj) = true) : DelM p l l i (i + 1) := by
  refine ⟨rfl, ?_, rfl⟩
  rw [List.take_succ_eq_append_getElem hi, List.filter_append, List.filter_cons_of_neg (by rw [h1]; decide), List.filter_nil, List.append_nil]
  refine (List.filter_eq_self.2 fun x hx => ?_).symm
  obtain ⟨j, hj, rfl⟩ := List.getElem_of_mem hx
  rw [List.getElem_take]
  rw [List.length_take] at hj
  exact h2 j (by omega) (by omega)
theorem IL.take {α β : Type} {z : Nat} {enc : α → β → List Value} {P : α → β → Prop} {l : List α} {xs : List Value} (h : IL z enc (fun _ x s => P x s) l xs) (i : Nat) (hi : i ≤ l.length) : IL z enc (fun _ x s => P x s) (l.take i) (xs.take (i * z)) := by
  have hm : i * z ≤ l.length * z := Nat.mul_le_mul_right z hi
  refine ⟨by rw [List.length_take, List.length_take, h.1, Nat.min_eq_left hi, Nat.min_eq_left hm], fun j hj => ?_⟩
  rw [List.length_take] at hj
  obtain ⟨b, h1, h2⟩ := h.2 j (by omega)
  rw [List.getElem_take]
  refine ⟨b, fun q hq => ?_, h2⟩
  rw [List.getElem?_take, if_pos (mulz (k := i) (by omega) hq)]
  exact h1 q hq
end Go.Proofs.YtcilkcnddgacgaaGreatDoor
/-
  A region whose order Go leaves open, with one new variable into which one value is stored of which only a predicate is known. No conditions beyond those that it names.
-/
namespace Go.Proofs.YtcilkcnddgacgaaGreatDoor
open Go.RowKit
section
variable (ops : Array Oper) (F : Nat → Fact) (base : List Nat) (N : Nat) (g : Nat) (p k : Nat) (zs : List Value) (V : List Value → Prop)
structure YInv (a0 : Act) (w0 : World) (listed : Array Bool) (a : Act) (w : World) : Prop where
  tsize : a.tmps.size = N
  defers : a.defers = a0.defers
  base : ∀ t ∈ base, (F t).holds (a.tmps.getD t undef) w
  done : ∀ (i t : Nat), listed.getD i false = true → (ops[i]?).bind Oper.dst = some t → (F t).holds (a.tmps.getD t undef) w
  other : ∀ (t : Nat), (∀ (i : Nat), (ops[i]?).bind Oper.dst ≠ some t) → a.tmps.getD t undef = a0.tmps.getD t undef
  below : Below g w0 w
  gle : g ≤ w.heap.size
  made : ∀ i, listed.getD i false = true → (ops[i]?).bind Oper.dst = some p → ∃ b, a.tmps.getD p undef = ptr0 b ∧ g ≤ b ∧ (listed.getD k false = false → Bx w b zs) ∧ (listed.getD k false = true → ∃ vs, V vs ∧ Bx w b vs)
  closed : ∀ i o, ops[i]? = some o → listed.getD i false = true → ∀ e ∈ o.after, Region.binds .any e = true → listed.getD e.on false = true
/-- What an operation of such a region must show. -/
inductive YOb (f : Nat) (Q : Exit → Act → World → Prop) (i : Nat) (o : Oper) : Prop
  | plain (h : Ob ops Q F base N o) (hp : o.dst ≠ some p) (hk : i ≠ k) : YOb f Q i o
  | alloc (hd : o.dst = some p) (hg : o.guard = none) (hF : F p = Fact.any) (hk : i ≠ k) (hrun : ∀ (a : Act) (w : World), ∃ w', (execOp a.eval o).run Tryz.prog w = .ok (.value (ptr0 w.heap.size)) w' ∧ Below w.heap.size w w' ∧ Bx w' w.heap.size zs) : YOb f Q i o
  | store (hi : i = k) (hd : o.dst = none) (hg : o.guard = none) (hkn : known ops [] o p = true) (hk2 : known ops base o f = true)
      (hrun : ∀ (a : Act) (w : World) (b : Nat), a.tmps.getD p undef = ptr0 b → Bx w b zs → (F f).holds (a.tmps.getD f undef) w → ∃ w', (execOp a.eval o).run Tryz.prog w = .ok .skip w' ∧ w.grownBy w' (some b) ∧ ∃ vs, V vs ∧ Bx w' b vs) : YOb f Q i o
end
section
variable {ops : Array Oper} {Q : Exit → Act → World → Prop} {F : Nat → Fact} {base : List Nat} {N g : Nat} {p k f : Nat} {zs : List Value} {V : List Value → Prop}
theorem YInv.closed' {a0 : Act} {w0 : World} {listed : Array Bool} {a : Act} {w : World} (h : YInv ops F base N g p k zs V a0 w0 listed a w) (hs : listed.size = ops.size) {i : Nat} {o : Oper} (ho : ops[i]? = some o)
    (he : ∀ e ∈ o.after, Region.binds .any e = true → listed.getD e.on false = true) : ∀ j o', ops[j]? = some o' → (listed.setIfInBounds i true).getD j false = true → ∀ e ∈ o'.after, Region.binds .any e = true → (listed.setIfInBounds i true).getD e.on false = true := by
  have hlt : i < listed.size := by rw [hs]; exact (Array.getElem?_eq_some_iff.1 ho).1
  intro j o' ho' hl e hm hb
  rw [listed_set hlt] at hl ⊢
  rcases hl with rfl | hl
  · rw [ho] at ho'
    injection ho' with ho'
    subst ho'
    exact .inr (he e hm hb)
  · exact .inr (h.closed j o' ho' hl e hm hb)
theorem YInv.step (hok : formOk ops base N = true) (hsoft : ∀ t, (F t).SoftG g) (hobs : ∀ j o', ops[j]? = some o' → YOb ops F base N p k zs V f Q j o') {a0 : Act} {w0 : World} {listed : Array Bool} {a : Act} {w : World} (h : YInv ops F base N g p k zs V a0 w0 listed a w) (hs : listed.size = ops.size) {i : Nat} {o : Oper} (ho : ops[i]? = some o)
    (hl0 : listed.getD i false = false) (he : ∀ e ∈ o.after, Region.binds .any e = true → listed.getD e.on false = true) (K : Act → World → Prop) (hK : ∀ a' w', YInv ops F base N g p k zs V a0 w0 (listed.setIfInBounds i true) a' w' → K a' w') :
    (if Region.wanted o (yielded ops a.tmps) = true then Oper.wp Tryz.prog o a w K Q else K (a.put o.dst undef) w) := by
  have hdone : ∀ e ∈ o.after, Region.binds .any e = true → ∀ t, (ops[e.on]?).bind Oper.dst = some t → (F t).holds (a.tmps.getD t undef) w := fun e hm hb t ht => h.done e.on t (he e hm hb) ht
  have hlt : i < listed.size := by rw [hs]; exact (Array.getElem?_eq_some_iff.1 ho).1
  obtain ⟨_, hd⟩ := formOk_at hok ho
  cases hobs i o ho with
  | plain hob hp hk =>
    refine hob a w K h.tsize h.base hdone fun v w' hb hF => hK _ _ ?_
    refine ⟨?_, ?_, fun t ht => ?_, fun j t hj hjt => ?_, fun t ht => ?_, h.below.trans (hb.mono h.gle), Nat.le_trans h.gle hb.size, fun j hj hjd => ?_, h.closed' hs ho he⟩
    · cases o.dst <;> simpa [Act.put] using h.tsize
    · cases o.dst <;> simpa [Act.put] using h.defers
    · rw [getD_put_other (fun e => (hd t e).2.1 ht)]
      exact (F t).stable _ _ _ (h.base t ht) hb
    · by_cases hji : j = i
      · subst hji
        rw [ho] at hjt
        have hjt' : o.dst = some t := hjt
        rw [hjt', getD_put_same (by rw [h.tsize]; exact (hd t hjt').1)]
        exact hF t hjt'
      · have hl : listed.getD j false = true := ((listed_set hlt).1 hj).resolve_left hji
        rw [getD_put_other (fun e => (hd t e).2.2 j hji hjt)]
        exact (F t).stable _ _ _ (h.done j t hl hjt) hb
    · rw [getD_put_other (fun e => ht i (by rw [ho]; exact e))]
      exact h.other t ht
    · have hj' : listed.getD j false = true := ((listed_set hlt).1 hj).resolve_left (by
        rintro rfl
        rw [ho] at hjd
        exact hp hjd)
      obtain ⟨b, h1, h2, h3, h4⟩ := h.made j hj' hjd
      have hkk : (listed.setIfInBounds i true).getD k false = listed.getD k false := by
        have := listed_set (j := k) hlt
        cases hx : listed.getD k false
        · rw [Bool.eq_false_iff]
          intro hc
          rcases this.1 hc with e | e
          · exact hk e.symm
          · rw [hx] at e; cases e
        · exact this.2 (.inr hx)
      rw [hkk]
      exact ⟨b, by rw [getD_put_other hp]; exact h1, h2, fun hl => (h3 hl).next hb, fun hl => by obtain ⟨vs, hv, hx⟩ := h4 hl; exact ⟨vs, hv, hx.next hb⟩⟩
  | alloc hds hg hF hk hrun =>
    obtain ⟨w', hr, hb, hx⟩ := hrun a w
    rw [if_pos (by simp [Region.wanted, hg])]
    unfold Oper.wp
    rw [hr]
    have hps := (hd p hds)
    have hput : (a.put o.dst (ptr0 w.heap.size)).tmps.getD p undef = ptr0 w.heap.size := by
      rw [hds, getD_put_same (by rw [h.tsize]; exact hps.1)]
    have hold : ∀ t, t ≠ p → (a.put o.dst (ptr0 w.heap.size)).tmps.getD t undef = a.tmps.getD t undef := fun t ht => getD_put_other (by rw [hds]; intro e; injection e with e; exact ht e.symm)
    have hnk : listed.getD k false = false := by
      cases hc : listed.getD k false with
      | false => rfl
      | true =>
        exfalso
        have hlt2 : k < ops.size := by
          rcases Nat.lt_or_ge k listed.size with h1 | h1
          · rw [← hs]; exact h1
          · rw [Array.getD_eq_getD_getElem?, Array.getElem?_eq_none h1] at hc; cases hc
        have ho' : ops[k]? = some ops[k] := Array.getElem?_eq_getElem hlt2
        cases hobs k _ ho' with
        | plain _ _ h2 => exact h2 rfl
        | alloc _ _ _ h2 => exact h2 rfl
        | store _ _ _ hkn _ _ =>
          obtain ⟨e, hem, hb', hdst⟩ := known_opX hkn
          have h4 := h.closed _ _ ho' hc e hem hb'
          have h5 : e.on = i := by
            by_cases h6 : e.on = i
            · exact h6
            · exact absurd hdst (hps.2.2 e.on h6)
          rw [h5, hl0] at h4
          cases h4
    have hnk2 : (listed.setIfInBounds i true).getD k false = false := by
      rw [Bool.eq_false_iff]
      intro hc
      rcases (listed_set hlt).1 hc with e | e
      · exact hk e.symm
      · rw [hnk] at e; cases e
    refine hK _ _ ⟨?_, ?_, fun t ht => ?_, fun j t hj hjt => ?_, fun t ht => ?_, h.below.trans (hb.mono h.gle), Nat.le_trans h.gle hb.size, fun j hj hjd => ?_, h.closed' hs ho he⟩
    · cases o.dst <;> simpa [Act.put] using h.tsize
    · cases o.dst <;> simpa [Act.put] using h.defers
    · rw [hold t (fun e => hps.2.1 (e ▸ ht))]
      exact (F t).stable _ _ _ (h.base t ht) hb
    · by_cases hts : t = p
      · subst hts
        rw [hF]
        trivial
      · rw [hold t hts]
        refine (F t).stable _ _ _ (h.done j t (((listed_set hlt).1 hj).resolve_left ?_) hjt) hb
        rintro rfl
        rw [ho] at hjt
        exact hts (by have h5 : o.dst = some t := hjt; rw [hds] at h5; injection h5 with h5; exact h5.symm)
    · rw [hold t (by rintro rfl; exact ht i (by rw [ho]; exact hds))]
      exact h.other t ht
    · exact ⟨w.heap.size, hput, h.gle, fun _ => hx, fun hl => by rw [hnk2] at hl; cases hl⟩
  | store hi hd0 hg hkn hk2 hrun =>
    have hlk : listed.getD k false = false := by rw [← hi]; exact hl0
    rw [if_pos (by simp [Region.wanted, hg])]
    obtain ⟨e, hem, heb, hed⟩ := known_opX hkn
    obtain ⟨b, h1, h2, h3, _⟩ := h.made e.on (he e hem heb) hed
    have hf := known_fact h.base hdone hk2
    obtain ⟨w', hr, hgw, hx⟩ := hrun a w b h1 (h3 hlk) hf
    unfold Oper.wp
    rw [hr]
    have hput : a.put o.dst undef = a := by rw [hd0]; rfl
    show K (a.put o.dst undef) _
    rw [hput]
    have hold : ∀ m d, (listed.setIfInBounds i true).getD m false = true → (ops[m]?).bind Oper.dst = some d → listed.getD m false = true := fun m d hm hmd => ((listed_set hlt).1 hm).resolve_left (by
      rintro rfl
      rw [ho] at hmd
      have h5 : o.dst = some d := hmd
      rw [hd0] at h5; cases h5)
    have hii : (listed.setIfInBounds i true).getD k false = true := (listed_set hlt).2 (.inl hi.symm)
    exact hK _ _ ⟨h.tsize, h.defers, fun t ht => hsoft t _ _ _ _ (h.base t ht) h.gle h2 hgw, fun m t hm hmt => hsoft t _ _ _ _ (h.done m t (hold m t hm hmt) hmt) h.gle h2 hgw, h.other, h.below.grown hgw h.gle (fun j hj => by cases hj; exact h2), Nat.le_trans h.gle hgw.size, fun m hm hmd => ⟨b, h1, h2, fun hl => (by rw [hii] at hl; cases hl), fun _ => hx⟩, h.closed' hs ho he⟩
end
section
variable {ops : Array Oper} {Q : Exit → Act → World → Prop} {F : Nat → Fact} {base : List Nat} {N : Nat} {o : Oper} {W0 : World}
end
/-- A struct of two cells and of three, and a pair of one with a flag. -/
def A2 (u : Value) : Prop := ∃ s A n c, u = .agg #[.string s, .slice A n c]
def A3 (u : Value) : Prop := ∃ s A n c B m d, u = .agg #[.string s, .slice A n c, .slice B m d]
def T2 (P : Value → Prop) (b : Bool) (u : Value) : Prop := ∃ x, P x ∧ u = .tuple #[x, .bool b]
end Go.Proofs.YtcilkcnddgacgaaGreatDoor


import Derived.Test.YtnfdoflmdlomhaaGreatDoorM11
import Derived.Test.YtnfdoflmdlomhaaGreatDoorM05
import Derived.Test.YtnfdoflmdlomhaaGreatDoorM06
/-
  Equality of types: the developers' Same, and the reference's. No conditions beyond those that each names.
-/
namespace Go.Proofs.YtnfdoflmdlomhaaGreatDoor
open Go.RowKit
/-- Are the types equal? -/
noncomputable def eqT (t u : Ty) : Bool := @decide (t = u) (Classical.propDecidable _)
theorem eqT_iff {t u : Ty} : eqT t u = true ↔ t = u := @decide_eq_true_iff _ (Classical.propDecidable _)
theorem eqT_no {t u : Ty} (h : t ≠ u) : eqT t u = false := by
  cases e : eqT t u
  · rfl
  · exact absurd (eqT_iff.1 e) h
theorem eqT_mk (k s : Int) (n : List UInt8) (e e' : List Ty) (r : Bool) (hr : r = true ↔ e = e') : eqT (.mk k s n e) (.mk k s n e') = r := by
  rw [Bool.eq_iff_iff, eqT_iff, hr]
  exact ⟨fun h => by injection h, fun h => by rw [h]⟩
theorem exR (p : Prop) : ∃ r : Bool, r = true ↔ p := ⟨_, @decide_eq_true_iff p (Classical.propDecidable _)⟩
theorem take_ne {α : Type} {l m : List α} {k : Nat} (h : k < l.length) (h' : k < m.length) (e : l[k]'h ≠ m[k]'h') : l ≠ m := fun h2 => by subst h2; exact e rfl
theorem take_eq {α : Type} {l m : List α} {k : Nat} (h : k < l.length) (h' : k < m.length) (h1 : l.take k = m.take k) (e : l[k]'h = m[k]'h') : l.take (k + 1) = m.take (k + 1) := by
  rw [List.take_succ_eq_append_getElem h, List.take_succ_eq_append_getElem h', h1, e]
set_option maxRecDepth 100000 in
set_option maxHeartbeats 4000000 in
theorem equalFunc_any (e e' : List Ty) (A : Option Addr) (c : Nat) (A' : Option Addr) (c' : Nat) (w : World) (hR : Rw TyA 4 w e A) (hR' : Rw TyA 4 w e' A') (hl : e.length ≤ 9223372036854775807) (hl' : e'.length ≤ 9223372036854775807)
    (hc : ∀ i (h : i < e.length) (h' : i < e'.length) v v' w', TyV w' (e[i]'h) v → TyV w' (e'[i]'h') v' → Calls Tryz.prog 30 #[v, v'] w' (Ib (.bool (eqT (e[i]'h) (e'[i]'h'))) w')) (r : Bool) (hr : r = true ↔ e = e') :
    Calls Tryz.prog 58 #[.slice A e.length c, .slice A' e'.length c', .func (.func 30) #[] #[]] w (Ib (.bool r) w) := by
  obtain ⟨q, hq⟩ : ∃ q, e.length = q := ⟨_, rfl⟩
  obtain ⟨q', hq'⟩ : ∃ q', e'.length = q' := ⟨_, rfl⟩
  have HQ := Lib.hid hq
  have HQ' := Lib.hid hq'
  rw [hq] at hl
  rw [hq'] at hl'
  rw [hq, hq']
  by_cases h0 : q = q'
  · subst h0
    have HR := Lib.hid hr
    have d0 : ((q : Int) != (q : Int)) = false := by simp
    have H0 := Lib.hid (show e.take 0 = e'.take 0 by simp)
    clear hr hq hq'
    go_enter Tryz.func58, Tryz.ntmps58
    go_wp2_with fail
    go_loopw [17] (fun i wr => ∃ k : Nat, k ≤ q ∧ i = .int .i64 (k : Int) ∧ Hid (e.take k = e'.take k) ∧ Below w.heap.size w wr) (fun i _ => q - (intOf i).toNat)
    case atStart => exact ⟨0, by omega, rfl, H0, Below.refl _ _⟩
    case round =>
      obtain ⟨k, hk, rfl, HK, hb⟩ := hrel
      clear H0
      by_cases hlt : k < q
      · have h1 : k < e.length := by rw [HQ.out]; exact hlt
        have h2 : k < e'.length := by rw [HQ'.out]; exact hlt
        obtain ⟨a, rfl, hA⟩ := hR.get h1
        obtain ⟨a', rfl, hA'⟩ := hR'.get h2
        obtain ⟨B, d, e0, e1, e2, e3, hV⟩ := (TyA.next hb _ _ hA).val
        obtain ⟨B', d', f0, f1, f2, f3, hV'⟩ := (TyA.next hb _ _ hA').val
        have hblk : (a.add (k * 4)).block < wr.heap.size := blk_lt e0
        have hblk' : (a'.add (k * 4)).block < wr.heap.size := blk_lt f0
        have cS := fun o p => hc k h1 h2 _ _ _ (hV.next (ab2 wr o p)) (hV'.next (ab2 wr o p))
        have HN := Lib.hid (take_ne h1 h2)
        have HT := Lib.hid (take_eq h1 h2 HK.out)
        generalize e[k]'h1 = t at *
        generalize e'[k]'h2 = u at *
        obtain ⟨b, hbb⟩ : ∃ b, eqT t u = b := ⟨_, rfl⟩
        rw [hbb] at cS
        have HB := Lib.hid hbb
        clear hbb hA hA' hc
        have hab := ab2 wr (Obj.cells #[.int .i64 t.kind, .int .i64 t.size, .string (bs t.name), .slice B t.elem.length d] 45) (Obj.cells #[.int .i64 u.kind, .int .i64 u.size, .string (bs u.name), .slice B' u.elem.length d'] 45)
        have cS2 := cS (Obj.cells #[.int .i64 t.kind, .int .i64 t.size, .string (bs t.name), .slice B t.elem.length d] 45) (Obj.cells #[.int .i64 u.kind, .int .i64 u.size, .string (bs u.name), .slice B' u.elem.length d'] 45)
        clear cS
        go_wp2_with fail
        refine cS2.mono ?_
        rintro e9 w9 ⟨rfl, hb9⟩
        have hb5 := Below.next (Below.next hb hab) hb9
        clear cS2 e0 e1 e2 e3 f0 f1 f2 f3 hblk hblk'
        cases b
        · have hF : r = false := by
            cases r
            · rfl
            · exact absurd (HR.out.1 rfl) (HN.out fun h => by rw [eqT_iff.2 h] at HB; exact Bool.noConfusion HB.out)
          subst hF
          go_wp2_with fail
          go_ret
          exact ⟨rfl, hb5⟩
        · have HT2 := Lib.hid (HT.out (eqT_iff.1 HB.out))
          go_wp2_with fail
          go_roundw
          case rel => exact ⟨k + 1, by omega, by go_num, HT2, hb5⟩
          case measure => simp [intOf]; omega
      · obtain rfl : k = q := by omega
        have hF : r = true := HR.out.2 (by
          have := HK.out
          rwa [List.take_of_length_le (by rw [HQ.out]; exact Nat.le_refl _), List.take_of_length_le (by rw [HQ'.out]; exact Nat.le_refl _)] at this)
        subst hF
        clear hc
        go_wp2_with fail
        go_ret
        exact ⟨rfl, hb⟩
  · have hF : r = false := by
      cases r
      · rfl
      · have := hr.1 rfl
        rw [← hq, ← hq', this] at h0
        exact absurd rfl h0
    have d0 : ((q : Int) != (q' : Int)) = true := by simp; omega
    subst hF
    clear hr hq hq' hc
    go_enter Tryz.func58, Tryz.ntmps58
    go_wp2_with fail
    go_ret
    exact ⟨rfl, Below.refl _ _⟩
set_option maxRecDepth 100000 in
set_option maxHeartbeats 4000000 in
theorem devSame_any (N : Nat) : ∀ (t u : Ty) (v v' : Value) (w : World), SizeOf.sizeOf t < N → lok t → lok u → TyV w t v → TyV w u v' →
    Calls Tryz.prog 30 #[v, v'] w (Ib (.bool (eqT t u)) w) := by
  induction N with
  | zero => intro t u v v' w h; omega
  | succ N ih =>
    intro t u v v' w hN hl hl' hv hv'
    have hl1 := lok_len hl
    have hl2 := lok_len hl'
    have hg1 := fun i h => lok_get (t := t) (i := i) hl h
    have hg2 := fun i h => lok_get (t := u) (i := i) hl' h
    have hs1 := fun i h => size_elem (t := t) (i := i) h
    obtain ⟨A, c, rfl, hR⟩ := hv
    obtain ⟨A', c', rfl, hR'⟩ := hv'
    obtain ⟨k, s, n, e⟩ := t
    obtain ⟨k', s', n', e'⟩ := u
    simp only [Ty.kind, Ty.size, Ty.name, Ty.elem] at *
    have hab := fun o p => ab2 w o p
    by_cases h1 : k = k'
    · subst h1
      have b1 : (k == k) = true := by simp
      by_cases h2 : s = s'
      · subst h2
        have b2 : (s == s) = true := by simp
        by_cases h3 : n = n'
        · subst h3
          have b3 := sq_t n
          obtain ⟨r, hr⟩ := exR (e = e')
          rw [eqT_mk k s n e e' r hr]
          have cE := fun o p => equalFunc_any e e' A c A' c' _ (hR.next (fun x y => TyA.next (hab o p) x y)) (hR'.next (fun x y => TyA.next (hab o p) x y)) hl1 hl2 (fun i h h' v v' w' hV hV' => ih _ _ v v' w' (by have := hs1 i h; omega) (hg1 i h) (hg2 i h') hV hV') r hr
          clear ih hg1 hg2 hs1 hr hR hR' hl hl' hN
          have cE2 := cE (Obj.cells #[.int .i64 k, .int .i64 s, .string (bs n), .slice A e.length c] 45) (Obj.cells #[.int .i64 k, .int .i64 s, .string (bs n), .slice A' e'.length c'] 45)
          have hab2 := hab (Obj.cells #[.int .i64 k, .int .i64 s, .string (bs n), .slice A e.length c] 45) (Obj.cells #[.int .i64 k, .int .i64 s, .string (bs n), .slice A' e'.length c'] 45)
          clear cE hab
          generalize e.length = q at *
          generalize e'.length = q' at *
          go_enter Tryz.func30, Tryz.ntmps30
          go_wp2_with fail
          refine cE2.mono ?_
          rintro e9 w9 ⟨rfl, hb9⟩
          have hb5 := Below.next hab2 hb9
          go_wp2_with fail
          go_ret
          exact ⟨rfl, hb5⟩
        · have b3 := sq_f h3
          rw [eqT_no (fun h => h3 (by injection h))]
          clear ih hg1 hg2 hs1 hR hR' hl hl' hN h3
          go_enter Tryz.func30, Tryz.ntmps30
          go_wp2_with fail
          go_ret
          exact ⟨rfl, hab _ _⟩
      · have b2 : (s == s') = false := by simpa using h2
        rw [eqT_no (fun h => h2 (by injection h))]
        clear ih hg1 hg2 hs1 hR hR' hl hl' hN h2
        go_enter Tryz.func30, Tryz.ntmps30
        go_wp2_with fail
        go_ret
        exact ⟨rfl, hab _ _⟩
    · have b1 : (k == k') = false := by simpa using h1
      rw [eqT_no (fun h => h1 (by injection h))]
      clear ih hg1 hg2 hs1 hR hR' hl hl' hN h1
      go_enter Tryz.func30, Tryz.ntmps30
      go_wp2_with fail
      go_ret
      exact ⟨rfl, hab _ _⟩
end Go.Proofs.YtnfdoflmdlomhaaGreatDoor
/-
  The reference's Same. No conditions beyond those that each names.
-/
namespace Go.Proofs.YtnfdoflmdlomhaaGreatDoor
open Go.RowKit
set_option maxRecDepth 100000 in
set_option maxHeartbeats 4000000 in
theorem refSame_any (N : Nat) : ∀ (t u : Ty) (v v' : Value) (w : World), SizeOf.sizeOf t < N → lok t → lok u → TyV w t v → TyV w u v' →
    Calls Tryz.prog 31 #[v, v'] w (Ib (.bool (eqT t u)) w) := by
  induction N with
  | zero => intro t u v v' w h; omega
  | succ N ih =>
    intro t u v v' w hN hl hl' hv hv'
    have hl1 := lok_len hl
    have hl2 := lok_len hl'
    have hg1 := fun i h => lok_get (t := t) (i := i) hl h
    have hg2 := fun i h => lok_get (t := u) (i := i) hl' h
    have hs1 := fun i h => size_elem (t := t) (i := i) h
    obtain ⟨A, c, rfl, hR⟩ := hv
    obtain ⟨A', c', rfl, hR'⟩ := hv'
    obtain ⟨k, s, n, e⟩ := t
    obtain ⟨k', s', n', e'⟩ := u
    simp only [Ty.kind, Ty.size, Ty.name, Ty.elem] at *
    have hab := fun o p => ab2 w o p
    obtain ⟨q, hq⟩ : ∃ q, e.length = q := ⟨_, rfl⟩
    obtain ⟨q', hq'⟩ : ∃ q', e'.length = q' := ⟨_, rfl⟩
    have HQ := Lib.hid hq
    have HQ' := Lib.hid hq'
    rw [hq] at hl1 ⊢
    rw [hq'] at hl2 ⊢
    by_cases h1 : k = k'
    · subst h1
      have b1 : (k != k) = false := by simp
      by_cases h2 : s = s'
      · subst h2
        have b2 : (s != s) = false := by simp
        by_cases h3 : n = n'
        · subst h3
          have b3 := sn_t n
          by_cases h4 : q = q'
          · subst h4
            have b4 : ((q : Int) != (q : Int)) = false := by simp
            obtain ⟨r, hr⟩ := exR (e = e')
            rw [eqT_mk k s n e e' r hr]
            have z1 : (w.alloc (Obj.cells #[.int .i64 k, .int .i64 s, .string (bs n), .slice A q c] 45)).heap.size = w.heap.size + 1 := by simp
            have B1 := (Bx.new4 w 45 (.int .i64 k) (.int .i64 s) (.string (bs n)) (.slice A q c)).next (ab1 _ (Obj.cells #[.int .i64 k, .int .i64 s, .string (bs n), .slice A' q c'] 45))
            have B2 := Bx.new4 (w.alloc (Obj.cells #[.int .i64 k, .int .i64 s, .string (bs n), .slice A q c] 45)) 45 (.int .i64 k) (.int .i64 s) (.string (bs n)) (.slice A' q c')
            rw [z1] at B2
            have hab2 := hab (Obj.cells #[.int .i64 k, .int .i64 s, .string (bs n), .slice A q c] 45) (Obj.cells #[.int .i64 k, .int .i64 s, .string (bs n), .slice A' q c'] 45)
            have HR := Lib.hid hr
            have H0 := Lib.hid (show e.take 0 = e'.take 0 by simp)
            clear hr hq hq' z1 hl hl' hab
            go_enter Tryz.func31, Tryz.ntmps31
            go_wp2_with fail
            go_loopw [5] (fun i wr => ∃ y : Nat, y ≤ q ∧ i = .int .i64 (y : Int) ∧ Hid (e.take y = e'.take y) ∧ Bx wr w.heap.size [.int .i64 k, .int .i64 s, .string (bs n), .slice A q c] ∧ Bx wr (w.heap.size + 1) [.int .i64 k, .int .i64 s, .string (bs n), .slice A' q c'] ∧ Below w.heap.size w wr) (fun i _ => q - (intOf i).toNat)
            case atStart => exact ⟨0, by omega, rfl, H0, B1, B2, hab2⟩
            case round =>
              obtain ⟨y, hy, rfl, HK, hB1, hB2, hb⟩ := hrel
              clear H0 B1 B2 hab2
              have c3 := hB1.c 3 rfl
              have l1 := hB1.lt
              by_cases hlt : y < q
              · have h1 : y < e.length := by rw [HQ.out]; exact hlt
                have h2 : y < e'.length := by rw [HQ'.out]; exact hlt
                obtain ⟨a, rfl, hA⟩ := hR.get h1
                obtain ⟨a', rfl, hA'⟩ := hR'.get h2
                obtain ⟨B, d, e0, e1, e2, e3, hV⟩ := (TyA.next hb _ _ hA).val
                obtain ⟨B', d', f0, f1, f2, f3, hV'⟩ := (TyA.next hb _ _ hA').val
                have HN := Lib.hid (take_ne h1 h2)
                have HT := Lib.hid (take_eq h1 h2 HK.out)
                have cS := fun W' (hb9 : Below wr.heap.size wr W') => ih (e[y]'h1) (e'[y]'h2) _ _ W' (by have := hs1 y h1; omega) (hg1 y h1) (hg2 y h2) (hV.next hb9) (hV'.next hb9)
                generalize e[y]'h1 = t at *
                generalize e'[y]'h2 = u at *
                obtain ⟨b, hbb⟩ : ∃ b, eqT t u = b := ⟨_, rfl⟩
                rw [hbb] at cS
                have HB := Lib.hid hbb
                have hy0 : ¬ (y : Int) < 0 := by omega
                have hyq : ¬ (q : Int) ≤ (y : Int) := by omega
                have hyd : decide ((q : Int) ≤ (y : Int)) = false := by rw [decide_eq_false_iff_not]; exact hyq
                clear hbb hA hA' hg1 hg2 hs1 hN ih h1 h2
                go_upto_region 6 with (fail)
                refine wp_region_on (by kernel_rfl) (FF [(2, Fact.at_ wr (.pointer (some ⟨w.heap.size, 0, none⟩))), (3, Fact.at_ wr (.pointer (some ⟨w.heap.size + 1, 0, none⟩))), (5, Fact.at_ wr (.int .i64 (y : Int))), (41, Fact.at_ wr (.pointer (some ⟨w.heap.size, 3, none⟩))), (42, Fact.at_ wr (.slice (some a) q c)), (43, Fact.at_ wr (.int .i64 (y : Int))), (44, Fact.at_ wr (.pointer (some (a.add (y * 4))))), (45, Fact.at_ wr (.agg #[.int .i64 t.kind, .int .i64 t.size, .string (bs t.name), .slice B t.elem.length d])), (46, Fact.at_ wr (.pointer (some ⟨w.heap.size + 1, 3, none⟩))), (47, Fact.at_ wr (.slice (some a') q c')), (48, Fact.at_ wr (.int .i64 (y : Int))), (49, Fact.at_ wr (.pointer (some (a'.add (y * 4))))), (50, Fact.at_ wr (.agg #[.int .i64 u.kind, .int .i64 u.size, .string (bs u.name), .slice B' u.elem.length d'])), (51, Fact.at_ wr (.bool b)), (52, Fact.at_ wr (.bool (!b)))]) [2, 3, 5] 53 [41, 42, 43, 44, 45, 46, 47, 48, 49, 50, 51, 52] rfl (by kernel_rfl) (by kernel_rfl) ?_ ?_ ?_
                · intro t9 ht9
                  simp only [List.mem_cons, List.not_mem_nil, or_false] at ht9
                  rcases ht9 with rfl | rfl | rfl
                  · exact ⟨rfl, Below.refl _ _⟩
                  · exact ⟨rfl, Below.refl _ _⟩
                  · exact ⟨rfl, Below.refl _ _⟩
                · refine fcs ⟨at1 2 41 (.pointer (some ⟨w.heap.size, 0, none⟩)) (.pointer (some ⟨w.heap.size, 3, none⟩)) rfl (by first | exact .inl rfl | exact .inr ⟨_, _, _, rfl, rfl, by kernel_rfl, by decide, rfl⟩) (by kernel_rfl) rfl rfl (fun a9 W' hb9 h9 => by simp [execOp, h9] <;> go_simp), ?_⟩
                  refine fcs ⟨at1 41 42 (.pointer (some ⟨w.heap.size, 3, none⟩)) (.slice (some a) q c) rfl (by first | exact .inl rfl | exact .inr ⟨_, _, _, rfl, rfl, by kernel_rfl, by decide, rfl⟩) (by kernel_rfl) rfl rfl (fun a9 W' hb9 h9 => by have g3 := cell_next hb9 (hB1.c 3 rfl); simp [execOp, h9] <;> go_simp), ?_⟩
                  refine fcs ⟨atcopy 5 43 (.int .i64 (y : Int)) (.inl rfl) rfl (by first | exact .inl rfl | exact .inr ⟨_, _, _, rfl, rfl, by kernel_rfl, by decide, rfl⟩) (by kernel_rfl) rfl rfl, ?_⟩
                  refine fcs ⟨at2 42 43 44 (.slice (some a) q c) (.int .i64 (y : Int)) (.pointer (some (a.add (y * 4)))) rfl (by first | exact .inl rfl | exact .inr ⟨_, _, _, rfl, rfl, by kernel_rfl, by decide, rfl⟩) (by kernel_rfl) (by kernel_rfl) rfl rfl rfl (fun a9 W' hb9 h9 h8 => by simp [execOp, h9, h8] <;> go_simp), ?_⟩
                  refine fcs ⟨at1 44 45 (.pointer (some (a.add (y * 4)))) (.agg #[.int .i64 t.kind, .int .i64 t.size, .string (bs t.name), .slice B t.elem.length d]) rfl (by first | exact .inl rfl | exact .inr ⟨_, _, _, rfl, rfl, by kernel_rfl, by decide, rfl⟩) (by kernel_rfl) rfl rfl (fun a9 W' hb9 h9 => by have g0 := cell_next hb9 e0; have g1 := cell_next hb9 e1; have g2 := cell_next hb9 e2; have g3 := cell_next hb9 e3; simp [execOp, h9] <;> go_simp), ?_⟩
                  refine fcs ⟨at1 3 46 (.pointer (some ⟨w.heap.size + 1, 0, none⟩)) (.pointer (some ⟨w.heap.size + 1, 3, none⟩)) rfl (by first | exact .inl rfl | exact .inr ⟨_, _, _, rfl, rfl, by kernel_rfl, by decide, rfl⟩) (by kernel_rfl) rfl rfl (fun a9 W' hb9 h9 => by simp [execOp, h9] <;> go_simp), ?_⟩
                  refine fcs ⟨at1 46 47 (.pointer (some ⟨w.heap.size + 1, 3, none⟩)) (.slice (some a') q c') rfl (by first | exact .inl rfl | exact .inr ⟨_, _, _, rfl, rfl, by kernel_rfl, by decide, rfl⟩) (by kernel_rfl) rfl rfl (fun a9 W' hb9 h9 => by have g3 := cell_next hb9 (hB2.c 3 rfl); simp [execOp, h9] <;> go_simp), ?_⟩
                  refine fcs ⟨atcopy 5 48 (.int .i64 (y : Int)) (.inl rfl) rfl (by first | exact .inl rfl | exact .inr ⟨_, _, _, rfl, rfl, by kernel_rfl, by decide, rfl⟩) (by kernel_rfl) rfl rfl, ?_⟩
                  refine fcs ⟨at2 47 48 49 (.slice (some a') q c') (.int .i64 (y : Int)) (.pointer (some (a'.add (y * 4)))) rfl (by first | exact .inl rfl | exact .inr ⟨_, _, _, rfl, rfl, by kernel_rfl, by decide, rfl⟩) (by kernel_rfl) (by kernel_rfl) rfl rfl rfl (fun a9 W' hb9 h9 h8 => by simp [execOp, h9, h8] <;> go_simp), ?_⟩
                  refine fcs ⟨at1 49 50 (.pointer (some (a'.add (y * 4)))) (.agg #[.int .i64 u.kind, .int .i64 u.size, .string (bs u.name), .slice B' u.elem.length d']) rfl (by first | exact .inl rfl | exact .inr ⟨_, _, _, rfl, rfl, by kernel_rfl, by decide, rfl⟩) (by kernel_rfl) rfl rfl (fun a9 W' hb9 h9 => by have g0 := cell_next hb9 f0; have g1 := cell_next hb9 f1; have g2 := cell_next hb9 f2; have g3 := cell_next hb9 f3; simp [execOp, h9] <;> go_simp), ?_⟩
                  refine fcs ⟨atc2 31 45 50 51 (.agg #[.int .i64 t.kind, .int .i64 t.size, .string (bs t.name), .slice B t.elem.length d]) (.agg #[.int .i64 u.kind, .int .i64 u.size, .string (bs u.name), .slice B' u.elem.length d']) (.bool b) _ rfl rfl (by first | exact .inl rfl | exact .inr ⟨_, _, _, rfl, rfl, by kernel_rfl, by decide, rfl⟩) (by kernel_rfl) (by kernel_rfl) rfl rfl (by kernel_rfl) rfl (fun W' hb9 => cS W' hb9), ?_⟩
                  refine fcs ⟨at1 51 52 (.bool b) (.bool (!b)) rfl (by first | exact .inl rfl | exact .inr ⟨_, _, _, rfl, rfl, by kernel_rfl, by decide, rfl⟩) (by kernel_rfl) rfl rfl (fun a9 W' hb9 h9 => by simp [execOp, h9] <;> go_simp), ?_⟩
                  exact fnl
                intro vv wv hvv hbv
                have hv52 : vv 52 = .bool (!b) := (hvv 52 (by decide)).1
                simp only [lay, List.foldl_cons, List.foldl_nil, List.setIfInBounds_toArray, List.set_cons_succ, List.set_cons_zero, hv52]
                have hb5 := Below.next hb hbv
                have hB3 := hB1.next hbv
                have hB4 := hB2.next hbv
                clear hvv hB1 hB2 e0 e1 e2 e3 f0 f1 f2 f3 cS hb hbv c3 l1
                cases b
                · have hF : r = false := by
                    cases r
                    · rfl
                    · exact absurd (HR.out.1 rfl) (HN.out fun h => by rw [eqT_iff.2 h] at HB; exact Bool.noConfusion HB.out)
                  subst hF
                  go_wp2_with fail
                  go_ret
                  exact ⟨rfl, hb5⟩
                · have HT2 := Lib.hid (HT.out (eqT_iff.1 HB.out))
                  go_wp2_with fail
                  go_roundw
                  case rel => exact ⟨y + 1, by omega, by go_num, HT2, hB3, hB4, hb5⟩
                  case measure => simp [intOf]; omega
              · obtain rfl : y = q := by omega
                have hF : r = true := HR.out.2 (by
                  have := HK.out
                  rwa [List.take_of_length_le (by rw [HQ.out]; exact Nat.le_refl _), List.take_of_length_le (by rw [HQ'.out]; exact Nat.le_refl _)] at this)
                subst hF
                clear ih hg1 hg2 hs1 hN
                go_wp2_with fail
                go_ret
                exact ⟨rfl, hb⟩
          · have b4 : ((q : Int) != (q' : Int)) = true := by simp; omega
            rw [eqT_no (fun h => h4 (by injection h with _ _ _ h; rw [← hq, ← hq', h]))]
            clear ih hg1 hg2 hs1 hR hR' hl hl' hN h4 hq hq'
            go_enter Tryz.func31, Tryz.ntmps31
            go_wp2_with fail
            go_ret
            exact ⟨rfl, hab _ _⟩
        · have b3 := sn_f h3
          have b3e := sq_f h3
          have b3p : ((bs n).toList = (bs n').toList) = False := by rw [toList_bs, toList_bs]; simpa using h3
          rw [eqT_no (fun h => h3 (by injection h))]
          clear ih hg1 hg2 hs1 hR hR' hl hl' hN h3 hq hq'
          go_enter Tryz.func31, Tryz.ntmps31
          go_wp2_with fail
          go_ret
          exact ⟨rfl, hab _ _⟩
      · have b2 : (s != s') = true := by simpa using h2
        rw [eqT_no (fun h => h2 (by injection h))]
        clear ih hg1 hg2 hs1 hR hR' hl hl' hN h2 hq hq'
        go_enter Tryz.func31, Tryz.ntmps31
        go_wp2_with fail
        go_ret
        exact ⟨rfl, hab _ _⟩
    · have b1 : (k != k') = true := by simpa using h1
      rw [eqT_no (fun h => h1 (by injection h))]
      clear ih hg1 hg2 hs1 hR hR' hl hl' hN h1 hq hq'
      go_enter Tryz.func31, Tryz.ntmps31
      go_wp2_with fail
      go_ret
      exact ⟨rfl, hab _ _⟩
end Go.Proofs.YtnfdoflmdlomhaaGreatDoor
/-
  The reference's sizes of schemas: Few. No conditions beyond those that each names.
-/
namespace Go.Proofs.YtnfdoflmdlomhaaGreatDoor
open Go.RowKit
def shortN (x : List UInt8) : Bool := decide (x.length ≤ 40)
def fewE (x : En) : Bool := shortN x.name && (decide (x.names.length ≤ 18) && (decide (x.nums.length ≤ 18) && x.names.all shortN))
def fewF (f : Fd) : Bool := shortN f.name && fewT f.type
def fewS (t : St) : Bool := shortN t.name && (decide (t.fields.length ≤ 18) && t.fields.all fewF)
def few (S : Sch) : Bool := decide (S.enums.length ≤ 18) && (decide (S.structs.length ≤ 18) && (S.enums.all fewE && S.structs.all fewS))
def lokS (S : Sch) : Prop := ∀ t ∈ S.structs, ∀ f ∈ t.fields, lok f.type
theorem all_next {α : Type} {p : α → Bool} {l : List α} {k : Nat} (hI : ∀ j (h : j < l.length), j < k → p (l[j]'h) = true) (hk : k < l.length) (e : p (l[k]'hk) = true) : ∀ j (h : j < l.length), j < k + 1 → p (l[j]'h) = true := fun j h hj => by
  by_cases hjk : j < k
  · exact hI j h hjk
  · obtain rfl : j = k := by omega
    exact e
set_option maxRecDepth 100000 in
set_option maxHeartbeats 4000000 in
theorem few_any (S : Sch) (v : Value) (w : World) (hlk : lokS S) (hv : ScV w S v) :
    Calls Tryz.prog 10 #[v] w (Ib (.bool (few S)) w) := by
  obtain ⟨A, c, A2, c2, rfl, hS⟩ := hv
  have hSe := hS.en
  have hSs := hS.st
  clear hS
  obtain ⟨r, hr⟩ : ∃ r, few S = r := ⟨_, rfl⟩
  rw [hr]
  unfold few at hr
  obtain ⟨n, hn⟩ : ∃ n, S.enums.length = n := ⟨_, rfl⟩
  obtain ⟨m, hm⟩ : ∃ m, S.structs.length = m := ⟨_, rfl⟩
  have HN := Lib.hid hn
  have HM := Lib.hid hm
  rw [hn, hm] at hr
  rw [hn, hm]
  clear hn hm
  have hB := Bx.new3 w 25 (.int .i64 S.ver) (.slice A n c) (.slice A2 m c2)
  by_cases h1 : n ≤ 18
  · have d1 : decide ((18 : Int) < (n : Int)) = false := by rw [decide_eq_false_iff_not]; omega
    rw [decide_eq_true h1, Bool.true_and] at hr
    by_cases h2 : m ≤ 18
    · have d2 : decide ((18 : Int) < (m : Int)) = false := by rw [decide_eq_false_iff_not]; omega
      rw [decide_eq_true h2, Bool.true_and] at hr
      have HR := Lib.hid hr
      clear hr
      go_enter Tryz.func10, Tryz.ntmps10
      go_wp2_with fail
      clear d1 d2
      go_loop [3, 4] (fun i _ => ∃ k : Nat, k ≤ n ∧ i = .int .i64 (k : Int) ∧ Hid (∀ j (h : j < S.enums.length), j < k → fewE (S.enums[j]'h) = true)) (fun i _ => n - (intOf i).toNat)
      case atStart => exact ⟨0, by omega, rfl, Lib.hid fun j _ h => by omega⟩
      case round =>
        obtain ⟨k, hk, rfl, hI⟩ := hrel
        by_cases hlt : k < n
        · obtain ⟨a, rfl, hA⟩ := hSe.get (i := k) (by rw [HN.out]; exact hlt)
          obtain ⟨e0, ⟨A3, c3, e1, hVn⟩, A4, c4, e2, -⟩ := hA
          have hblk : (a.add (k * 3)).block < w.heap.size := blk_lt e0
          have hx : fewE (S.enums[k]'(by rw [HN.out]; exact hlt)) = false → r = false := fun e => by rw [← HR.out, all_at _ e]; rfl
          have hy := all_next (p := fewE) hI.out (k := k) (by rw [HN.out]; exact hlt)
          generalize S.enums[k]'(by rw [HN.out]; exact hlt) = x at *
          have hsz : (bs x.name).size = x.name.length := rfl
          by_cases g1 : x.name.length ≤ 40
          · have d1 : decide ((40 : Int) < (x.name.length : Int)) = false := by rw [decide_eq_false_iff_not]; omega
            by_cases g2 : x.names.length ≤ 18
            · have d2 : decide ((18 : Int) < (x.names.length : Int)) = false := by rw [decide_eq_false_iff_not]; omega
              by_cases g3 : x.nums.length ≤ 18
              · have d3 : decide ((18 : Int) < (x.nums.length : Int)) = false := by rw [decide_eq_false_iff_not]; omega
                have hE : fewE x = x.names.all shortN := by unfold fewE; rw [show shortN x.name = true from decide_eq_true g1, decide_eq_true g2, decide_eq_true g3]; rfl
                rw [hE] at hx hy
                obtain ⟨q, hq⟩ : ∃ q, x.names.length = q := ⟨_, rfl⟩
                have HQ := Lib.hid hq
                rw [hq] at d2 e1 g2
                have HX := Lib.hid hx
                have HY := Lib.hid hy
                clear hE g1 g3 hx hy hI hq
                go_wp2_with fail
                clear d1 d2 d3
                go_loop [4] (fun i => ∃ z : Nat, z ≤ q ∧ i = .int .i64 (z : Int) ∧ Hid (∀ j (h : j < x.names.length), j < z → shortN (x.names[j]'h) = true)) (fun i => q - (intOf i).toNat)
                case atStart => exact ⟨0, by omega, rfl, Lib.hid fun j _ h => by omega⟩
                case round =>
                  obtain ⟨z, hz, rfl, hJ⟩ := hrel
                  by_cases hzq : z < q
                  · obtain ⟨b, rfl, hb⟩ := hVn.get (i := z) (by rw [HQ.out]; exact hzq)
                    rw [Nat.mul_one] at hb
                    have hx2 : shortN (x.names[z]'(by rw [HQ.out]; exact hzq)) = false → r = false := fun e => HX.out (all_at _ e)
                    have hy2 := all_next (p := shortN) hJ.out (k := z) (by rw [HQ.out]; exact hzq)
                    generalize x.names[z]'(by rw [HQ.out]; exact hzq) = y at *
                    have b0 : w.cell? (b.add z) = some (.string (bs y)) := hb
                    have hblk3 : (b.add z).block < w.heap.size := blk_lt b0
                    have hsz2 : (bs y).size = y.length := rfl
                    by_cases g4 : y.length ≤ 40
                    · have d4 : decide ((40 : Int) < (y.length : Int)) = false := by rw [decide_eq_false_iff_not]; omega
                      have E := Lib.hid (hy2 (decide_eq_true g4))
                      clear hx2 hy2 hJ hb g4
                      go_wp2_with fail
                      go_round
                      case rel => exact ⟨z + 1, by omega, by go_num, E⟩
                      case measure => simp [intOf]; omega
                    · have d4 : decide ((40 : Int) < (y.length : Int)) = true := by rw [decide_eq_true_eq]; omega
                      obtain rfl := hx2 (decide_eq_false g4)
                      clear hx2 hy2 hJ hb g4
                      go_wp2_with fail
                      go_ret
                      exact ⟨rfl, ab1 _ _⟩
                  · obtain rfl : z = q := by omega
                    have E := Lib.hid (HY.out (all_end fun j h => hJ.out j h (by rw [← HQ.out]; exact h)))
                    clear hJ
                    go_wp2_with fail
                    go_round
                    case rel => exact ⟨k + 1, by omega, by go_num, E⟩
                    case measure => simp [intOf]; omega
              · have d3 : decide ((18 : Int) < (x.nums.length : Int)) = true := by rw [decide_eq_true_eq]; omega
                obtain rfl := hx (by unfold fewE; rw [decide_eq_false g3]; simp)
                clear hx hy hI g1 g2 g3
                go_wp2_with fail
                go_ret
                exact ⟨rfl, ab1 _ _⟩
            · have d2 : decide ((18 : Int) < (x.names.length : Int)) = true := by rw [decide_eq_true_eq]; omega
              obtain rfl := hx (by unfold fewE; rw [decide_eq_false g2]; simp)
              clear hx hy hI g1 g2
              go_wp2_with fail
              go_ret
              exact ⟨rfl, ab1 _ _⟩
          · have d1 : decide ((40 : Int) < (x.name.length : Int)) = true := by rw [decide_eq_true_eq]; omega
            obtain rfl := hx (by unfold fewE; rw [show shortN x.name = false from decide_eq_false g1]; simp)
            clear hx hy hI g1
            go_wp2_with fail
            go_ret
            exact ⟨rfl, ab1 _ _⟩
        · obtain rfl : k = n := by omega
          have HE : S.enums.all fewE = true := all_end fun j h => hI.out j h (by rw [← HN.out]; exact h)
          have HR2 := Lib.hid (show S.structs.all fewS = r by rw [← HR.out, HE, Bool.true_and])
          clear hI HE HR
          go_wp2_with fail
          go_loopw [5, 6] (fun i _ wr => ∃ y : Nat, y ≤ m ∧ i = .int .i64 (y : Int) ∧ Hid (∀ j (h : j < S.structs.length), j < y → fewS (S.structs[j]'h) = true) ∧ Bx wr w.heap.size [.int .i64 S.ver, .slice A k c, .slice A2 m c2] ∧ Below w.heap.size w wr) (fun i _ _ => m - (intOf i).toNat)
          case atStart => exact ⟨0, by omega, rfl, Lib.hid fun j _ h => by omega, hB, ab1 _ _⟩
          case round =>
            obtain ⟨k2, hk2, rfl, hI, hBr, hb⟩ := hrel
            have c2 := hBr.c 2 rfl
            clear hB
            by_cases hlt2 : k2 < m
            · obtain ⟨a, rfl, hA⟩ := hSs.get (i := k2) (by rw [HM.out]; exact hlt2)
              obtain ⟨e0, A3, c3, e1, hVf⟩ := hA.next hb
              have hblk : (a.add (k2 * 2)).block < wr.heap.size := blk_lt e0
              have hx : fewS (S.structs[k2]'(by rw [HM.out]; exact hlt2)) = false → r = false := fun e => by rw [← HR2.out, all_at _ e]
              have hy := all_next (p := fewS) hI.out (k := k2) (by rw [HM.out]; exact hlt2)
              have hlk2 := hlk _ (List.getElem_mem (by rw [HM.out]; exact hlt2 : k2 < S.structs.length))
              generalize S.structs[k2]'(by rw [HM.out]; exact hlt2) = x at *
              have hsz : (bs x.name).size = x.name.length := rfl
              by_cases g1 : x.name.length ≤ 40
              · have d1 : decide ((40 : Int) < (x.name.length : Int)) = false := by rw [decide_eq_false_iff_not]; omega
                by_cases g2 : x.fields.length ≤ 18
                · have d2 : decide ((18 : Int) < (x.fields.length : Int)) = false := by rw [decide_eq_false_iff_not]; omega
                  have hE : fewS x = x.fields.all fewF := by unfold fewS; rw [show shortN x.name = true from decide_eq_true g1, decide_eq_true g2]; rfl
                  rw [hE] at hx hy
                  obtain ⟨q, hq⟩ : ∃ q, x.fields.length = q := ⟨_, rfl⟩
                  have HQ := Lib.hid hq
                  rw [hq] at d2 e1 g2
                  have HX := Lib.hid hx
                  have HY := Lib.hid hy
                  clear hE g1 hx hy hI hq hA
                  rename World => wo
                  go_wp2_with fail
                  clear d1 d2
                  go_loopw [6] (fun i wr => ∃ z : Nat, z ≤ q ∧ i = .int .i64 (z : Int) ∧ Hid (∀ j (h : j < x.fields.length), j < z → fewF (x.fields[j]'h) = true) ∧ Below wo.heap.size wo wr) (fun i _ => q - (intOf i).toNat)
                  case atStart => exact ⟨0, by omega, rfl, Lib.hid fun j _ h => by omega, Below.refl _ _⟩
                  case round =>
                    obtain ⟨z, hz, rfl, hJ, hbq⟩ := hrel
                    have hBq := hBr.next hbq
                    have c2q := hBq.c 2 rfl
                    have e0q := cell_next hbq e0
                    have e1q := cell_next hbq e1
                    have hb3 := Below.next hb hbq
                    have hblkq : (a.add (k2 * 2)).block < wr.heap.size := Nat.lt_of_lt_of_le hblk hbq.size
                    clear c2 e0 e1 hblk
                    by_cases hzq : z < q
                    · obtain ⟨b, rfl, hbf⟩ := hVf.get (i := z) (by rw [HQ.out]; exact hzq)
                      obtain ⟨A5, c5, f0, f1, f2, f3, f4, f5, f6, -, hVt⟩ := (hbf.next hbq).val
                      have hblk2 : (b.add (z * 7)).block < wr.heap.size := blk_lt f0
                      have hlk3 := hlk2 _ (List.getElem_mem (by rw [HQ.out]; exact hzq : z < x.fields.length))
                      have cF := fewType_any (SizeOf.sizeOf (x.fields[z]'(by rw [HQ.out]; exact hzq)).type + 1) _ _ wr (by omega) hlk3 hVt
                      have hx2 : fewF (x.fields[z]'(by rw [HQ.out]; exact hzq)) = false → r = false := fun e => HX.out (all_at _ e)
                      have hy2 := all_next (p := fewF) hJ.out (k := z) (by rw [HQ.out]; exact hzq)
                      generalize x.fields[z]'(by rw [HQ.out]; exact hzq) = y at *
                      have hsz2 : (bs y.name).size = y.name.length := rfl
                      by_cases g4 : y.name.length ≤ 40
                      · have d4 : decide ((40 : Int) < (y.name.length : Int)) = false := by rw [decide_eq_false_iff_not]; omega
                        have hE2 : fewF y = fewT y.type := by unfold fewF; rw [show shortN y.name = true from decide_eq_true g4]; rfl
                        rw [hE2] at hx2 hy2
                        generalize fewT y.type = b at *
                        cases b
                        · obtain rfl := hx2 rfl
                          clear hx2 hy2 hJ hbf g4 hE2
                          go_wp2_with fail
                          refine cF.mono ?_
                          rintro e w2 ⟨rfl, hb2⟩
                          go_wp2_with fail
                          go_ret
                          exact ⟨rfl, Below.next hb3 hb2⟩
                        · have E := Lib.hid (hy2 rfl)
                          clear hx2 hy2 hJ hbf g4 hE2
                          go_wp2_with fail
                          refine cF.mono ?_
                          rintro e w2 ⟨rfl, hb2⟩
                          go_wp2_with fail
                          go_roundw
                          case rel => exact ⟨z + 1, by omega, by go_num, E, Below.next hbq hb2⟩
                          case measure => simp [intOf]; omega
                      · have d4 : decide ((40 : Int) < (y.name.length : Int)) = true := by rw [decide_eq_true_eq]; omega
                        obtain rfl := hx2 (by unfold fewF; rw [show shortN y.name = false from decide_eq_false g4]; rfl)
                        clear hx2 hy2 hJ hbf g4 cF
                        go_wp2_with fail
                        go_ret
                        exact ⟨rfl, hb3⟩
                    · obtain rfl : z = q := by omega
                      have E := Lib.hid (HY.out (all_end fun j h => hJ.out j h (by rw [← HQ.out]; exact h)))
                      clear hJ
                      go_wp2_with fail
                      go_roundw
                      case rel => exact ⟨k2 + 1, by omega, by go_num, E, hBq, hb3⟩
                      case measure => simp [intOf]; omega
                · have d2 : decide ((18 : Int) < (x.fields.length : Int)) = true := by rw [decide_eq_true_eq]; omega
                  obtain rfl := hx (by unfold fewS; rw [decide_eq_false g2]; simp)
                  clear hx hy hI g1 g2 hA
                  go_wp2_with fail
                  go_ret
                  exact ⟨rfl, hb⟩
              · have d1 : decide ((40 : Int) < (x.name.length : Int)) = true := by rw [decide_eq_true_eq]; omega
                obtain rfl := hx (by unfold fewS; rw [show shortN x.name = false from decide_eq_false g1]; simp)
                clear hx hy hI g1 hA
                go_wp2_with fail
                go_ret
                exact ⟨rfl, hb⟩
            · obtain rfl : k2 = m := by omega
              obtain rfl : true = r := by rw [← HR2.out]; exact (all_end fun j h => hI.out j h (by rw [← HM.out]; exact h)).symm
              clear hI
              go_wp2_with fail
              go_ret
              exact ⟨rfl, hb⟩
    · have d2 : decide ((18 : Int) < (m : Int)) = true := by rw [decide_eq_true_eq]; omega
      rw [decide_eq_false h2, Bool.false_and] at hr
      subst hr
      clear h1 h2
      go_enter Tryz.func10, Tryz.ntmps10
      go_wp2_with fail
      go_ret
      exact ⟨rfl, ab1 _ _⟩
  · have d1 : decide ((18 : Int) < (n : Int)) = true := by rw [decide_eq_true_eq]; omega
    rw [decide_eq_false h1, Bool.false_and] at hr
    subst hr
    clear h1
    go_enter Tryz.func10, Tryz.ntmps10
    go_wp2_with fail
    go_ret
    exact ⟨rfl, ab1 _ _⟩
end Go.Proofs.YtnfdoflmdlomhaaGreatDoor

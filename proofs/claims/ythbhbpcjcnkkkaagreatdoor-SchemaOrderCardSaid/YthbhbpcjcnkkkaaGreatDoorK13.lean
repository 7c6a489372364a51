/-
  Equality of types: the developers' Same, and the reference's. No conditions beyond those that each names.
-/
import Derived.Test.YthbhbpcjcnkkkaaGreatDoorK08
import Derived.Test.YthbhbpcjcnkkkaaGreatDoorK04
import Derived.Test.YthbhbpcjcnkkkaaGreatDoorShelfB
import Derived.Test.YthbhbpcjcnkkkaaGreatDoorK10
namespace Go.Proofs.YthbhbpcjcnkkkaaGreatDoor
open Go.RowKit
/-- Are the types equal? -/
noncomputable def eqT (t u : Ty) : Bool := @decide (t = u) (Classical.propDecidable _)
theorem eqT_iff {t u : Ty} : eqT t u = true ↔ t = u := @decide_eq_true_iff _ (Classical.propDecidable _)
theorem eqT_no {t u : Ty} (h : t ≠ u) : eqT t u = false := by
  cases e : eqT t u
  · rfl
  · exact absurd (eqT_iff.1 e) h
theorem eqT_mk (k s : Int) (n : List UInt8) (e e' : List Ty) (r : Bool) (hr : r = true ↔ e = e') : eqT (.mk k s n e) (.mk k s n e') = r := by
  rw [Bool.eq_iff_iff, eqT_iff, hr]
  exact ⟨fun h => by injection h, fun h => by rw [h]⟩
theorem exR (p : Prop) : ∃ r : Bool, r = true ↔ p := ⟨_, @decide_eq_true_iff p (Classical.propDecidable _)⟩
theorem take_ne {α : Type} {l m : List α} {k : Nat} (h : k < l.length) (h' : k < m.length) (e : l[k]'h ≠ m[k]'h') : l ≠ m := fun h2 => by subst h2; exact e rfl
theorem take_eq {α : Type} {l m : List α} {k : Nat} (h : k < l.length) (h' : k < m.length) (h1 : l.take k = m.take k) (e : l[k]'h = m[k]'h') : l.take (k + 1) = m.take (k + 1) := by
  rw [List.take_succ_eq_append_getElem h, List.take_succ_eq_append_getElem h', h1, e]
end Go.Proofs.YthbhbpcjcnkkkaaGreatDoor
/-
  The reference's Same. No conditions beyond those that each names.
-/
namespace Go.Proofs.YthbhbpcjcnkkkaaGreatDoor
open Go.RowKit
set_option maxRecDepth 100000 in
set_option maxHeartbeats 4000000 in
theorem refSame_any (N : Nat) : ∀ (t u : Ty) (v v' : Value) (w : World), SizeOf.sizeOf t < N → lok t → lok u → TyV w t v → TyV w u v' →
    Calls Tryz.prog 49 #[v, v'] w (Ib (.bool (eqT t u)) w) := by
  induction N with
  | zero => intro t u v v' w h; omega
  | succ N ih =>
    intro t u v v' w hN hl hl' hv hv'
    have hl1 := lok_len hl
    have hl2 := lok_len hl'
    have hg1 := fun i h => lok_get (t := t) (i := i) hl h
    have hg2 := fun i h => lok_get (t := u) (i := i) hl' h
    have hs1 := fun i h => size_elem (t := t) (i := i) h
    obtain ⟨A, c, rfl, hR⟩ := hv
    obtain ⟨A', c', rfl, hR'⟩ := hv'
    obtain ⟨k, s, n, e⟩ := t
    obtain ⟨k', s', n', e'⟩ := u
    simp only [Ty.kind, Ty.size, Ty.name, Ty.elem] at *
    have hab := fun o p => ab2 w o p
    obtain ⟨q, hq⟩ : ∃ q, e.length = q := ⟨_, rfl⟩
    obtain ⟨q', hq'⟩ : ∃ q', e'.length = q' := ⟨_, rfl⟩
    have HQ := Lib.hid hq
    have HQ' := Lib.hid hq'
    rw [hq] at hl1 ⊢
    rw [hq'] at hl2 ⊢
    by_cases h1 : k = k'
    · subst h1
      have b1 : (k != k) = false := by simp
      by_cases h2 : s = s'
      · subst h2
        have b2 : (s != s) = false := by simp
        by_cases h3 : n = n'
        · subst h3
          have b3 := sn_t n
          by_cases h4 : q = q'
          · subst h4
            have b4 : ((q : Int) != (q : Int)) = false := by simp
            obtain ⟨r, hr⟩ := exR (e = e')
            rw [eqT_mk k s n e e' r hr]
            have z1 : (w.alloc (Obj.cells #[.int .i64 k, .int .i64 s, .string (bs n), .slice A q c] 45)).heap.size = w.heap.size + 1 := by simp
            have B1 := (Bx.new4 w 45 (.int .i64 k) (.int .i64 s) (.string (bs n)) (.slice A q c)).next (ab1 _ (Obj.cells #[.int .i64 k, .int .i64 s, .string (bs n), .slice A' q c'] 45))
            have B2 := Bx.new4 (w.alloc (Obj.cells #[.int .i64 k, .int .i64 s, .string (bs n), .slice A q c] 45)) 45 (.int .i64 k) (.int .i64 s) (.string (bs n)) (.slice A' q c')
            rw [z1] at B2
            have hab2 := hab (Obj.cells #[.int .i64 k, .int .i64 s, .string (bs n), .slice A q c] 45) (Obj.cells #[.int .i64 k, .int .i64 s, .string (bs n), .slice A' q c'] 45)
            have HR := Lib.hid hr
            have H0 := Lib.hid (show e.take 0 = e'.take 0 by simp)
            clear hr hq hq' z1 hl hl' hab
            go_enter Tryz.func49, Tryz.ntmps49
            go_wp2_with fail
            go_loopw [5] (fun i wr => ∃ y : Nat, y ≤ q ∧ i = .int .i64 (y : Int) ∧ Hid (e.take y = e'.take y) ∧ Bx wr w.heap.size [.int .i64 k, .int .i64 s, .string (bs n), .slice A q c] ∧ Bx wr (w.heap.size + 1) [.int .i64 k, .int .i64 s, .string (bs n), .slice A' q c'] ∧ Below w.heap.size w wr) (fun i _ => q - (intOf i).toNat)
            case atStart => exact ⟨0, by omega, rfl, H0, B1, B2, hab2⟩
            case round =>
              obtain ⟨y, hy, rfl, HK, hB1, hB2, hb⟩ := hrel
              clear H0 B1 B2 hab2
              have c3 := hB1.c 3 rfl
              have l1 := hB1.lt
              by_cases hlt : y < q
              · have h1 : y < e.length := by rw [HQ.out]; exact hlt
                have h2 : y < e'.length := by rw [HQ'.out]; exact hlt
                obtain ⟨a, rfl, hA⟩ := hR.get h1
                obtain ⟨a', rfl, hA'⟩ := hR'.get h2
                obtain ⟨B, d, e0, e1, e2, e3, hV⟩ := (TyA.next hb _ _ hA).val
                obtain ⟨B', d', f0, f1, f2, f3, hV'⟩ := (TyA.next hb _ _ hA').val
                have HN := Lib.hid (take_ne h1 h2)
                have HT := Lib.hid (take_eq h1 h2 HK.out)
                have cS := fun W' (hb9 : Below wr.heap.size wr W') => ih (e[y]'h1) (e'[y]'h2) _ _ W' (by have := hs1 y h1; omega) (hg1 y h1) (hg2 y h2) (hV.next hb9) (hV'.next hb9)
                generalize e[y]'h1 = t at *
                generalize e'[y]'h2 = u at *
                obtain ⟨b, hbb⟩ : ∃ b, eqT t u = b := ⟨_, rfl⟩
                rw [hbb] at cS
                have HB := Lib.hid hbb
                have hy0 : ¬ (y : Int) < 0 := by omega
                have hyq : ¬ (q : Int) ≤ (y : Int) := by omega
                have hyd : decide ((q : Int) ≤ (y : Int)) = false := by rw [decide_eq_false_iff_not]; exact hyq
                clear hbb hA hA' hg1 hg2 hs1 hN ih h1 h2
                go_upto_region 6 with (fail)
                refine wp_region_on (by kernel_rfl) (FF [(2, Fact.at_ wr (.pointer (some ⟨w.heap.size, 0, none⟩))), (3, Fact.at_ wr (.pointer (some ⟨w.heap.size + 1, 0, none⟩))), (5, Fact.at_ wr (.int .i64 (y : Int))), (41, Fact.at_ wr (.pointer (some ⟨w.heap.size, 3, none⟩))), (42, Fact.at_ wr (.slice (some a) q c)), (43, Fact.at_ wr (.int .i64 (y : Int))), (44, Fact.at_ wr (.pointer (some (a.add (y * 4))))), (45, Fact.at_ wr (.agg #[.int .i64 t.kind, .int .i64 t.size, .string (bs t.name), .slice B t.elem.length d])), (46, Fact.at_ wr (.pointer (some ⟨w.heap.size + 1, 3, none⟩))), (47, Fact.at_ wr (.slice (some a') q c')), (48, Fact.at_ wr (.int .i64 (y : Int))), (49, Fact.at_ wr (.pointer (some (a'.add (y * 4))))), (50, Fact.at_ wr (.agg #[.int .i64 u.kind, .int .i64 u.size, .string (bs u.name), .slice B' u.elem.length d'])), (51, Fact.at_ wr (.bool b)), (52, Fact.at_ wr (.bool (!b)))]) [2, 3, 5] 53 [41, 42, 43, 44, 45, 46, 47, 48, 49, 50, 51, 52] rfl (by kernel_rfl) (by kernel_rfl) ?_ ?_ ?_
                · intro t9 ht9
                  simp only [List.mem_cons, List.not_mem_nil, or_false] at ht9
                  rcases ht9 with rfl | rfl | rfl
                  · exact ⟨rfl, Below.refl _ _⟩
                  · exact ⟨rfl, Below.refl _ _⟩
                  · exact ⟨rfl, Below.refl _ _⟩
                · refine fcs ⟨at1 2 41 (.pointer (some ⟨w.heap.size, 0, none⟩)) (.pointer (some ⟨w.heap.size, 3, none⟩)) rfl (by first | exact .inl rfl | exact .inr ⟨_, _, _, rfl, rfl, by kernel_rfl, by decide, rfl⟩) (by kernel_rfl) rfl rfl (fun a9 W' hb9 h9 => by simp [execOp, h9] <;> go_simp), ?_⟩
                  refine fcs ⟨at1 41 42 (.pointer (some ⟨w.heap.size, 3, none⟩)) (.slice (some a) q c) rfl (by first | exact .inl rfl | exact .inr ⟨_, _, _, rfl, rfl, by kernel_rfl, by decide, rfl⟩) (by kernel_rfl) rfl rfl (fun a9 W' hb9 h9 => by have g3 := cell_next hb9 (hB1.c 3 rfl); simp [execOp, h9] <;> go_simp), ?_⟩
                  refine fcs ⟨atcopy 5 43 (.int .i64 (y : Int)) (.inl rfl) rfl (by first | exact .inl rfl | exact .inr ⟨_, _, _, rfl, rfl, by kernel_rfl, by decide, rfl⟩) (by kernel_rfl) rfl rfl, ?_⟩
                  refine fcs ⟨at2 42 43 44 (.slice (some a) q c) (.int .i64 (y : Int)) (.pointer (some (a.add (y * 4)))) rfl (by first | exact .inl rfl | exact .inr ⟨_, _, _, rfl, rfl, by kernel_rfl, by decide, rfl⟩) (by kernel_rfl) (by kernel_rfl) rfl rfl rfl (fun a9 W' hb9 h9 h8 => by simp [execOp, h9, h8] <;> go_simp), ?_⟩
                  refine fcs ⟨at1 44 45 (.pointer (some (a.add (y * 4)))) (.agg #[.int .i64 t.kind, .int .i64 t.size, .string (bs t.name), .slice B t.elem.length d]) rfl (by first | exact .inl rfl | exact .inr ⟨_, _, _, rfl, rfl, by kernel_rfl, by decide, rfl⟩) (by kernel_rfl) rfl rfl (fun a9 W' hb9 h9 => by have g0 := cell_next hb9 e0; have g1 := cell_next hb9 e1; have g2 := cell_next hb9 e2; have g3 := cell_next hb9 e3; simp [execOp, h9] <;> go_simp), ?_⟩
                  refine fcs ⟨at1 3 46 (.pointer (some ⟨w.heap.size + 1, 0, none⟩)) (.pointer (some ⟨w.heap.size + 1, 3, none⟩)) rfl (by first | exact .inl rfl | exact .inr ⟨_, _, _, rfl, rfl, by kernel_rfl, by decide, rfl⟩) (by kernel_rfl) rfl rfl (fun a9 W' hb9 h9 => by simp [execOp, h9] <;> go_simp), ?_⟩
                  refine fcs ⟨at1 46 47 (.pointer (some ⟨w.heap.size + 1, 3, none⟩)) (.slice (some a') q c') rfl (by first | exact .inl rfl | exact .inr ⟨_, _, _, rfl, rfl, by kernel_rfl, by decide, rfl⟩) (by kernel_rfl) rfl rfl (fun a9 W' hb9 h9 => by have g3 := cell_next hb9 (hB2.c 3 rfl); simp [execOp, h9] <;> go_simp), ?_⟩
                  refine fcs ⟨atcopy 5 48 (.int .i64 (y : Int)) (.inl rfl) rfl (by first | exact .inl rfl | exact .inr ⟨_, _, _, rfl, rfl, by kernel_rfl, by decide, rfl⟩) (by kernel_rfl) rfl rfl, ?_⟩
                  refine fcs ⟨at2 47 48 49 (.slice (some a') q c') (.int .i64 (y : Int)) (.pointer (some (a'.add (y * 4)))) rfl (by first | exact .inl rfl | exact .inr ⟨_, _, _, rfl, rfl, by kernel_rfl, by decide, rfl⟩) (by kernel_rfl) (by kernel_rfl) rfl rfl rfl (fun a9 W' hb9 h9 h8 => by simp [execOp, h9, h8] <;> go_simp), ?_⟩
                  refine fcs ⟨at1 49 50 (.pointer (some (a'.add (y * 4)))) (.agg #[.int .i64 u.kind, .int .i64 u.size, .string (bs u.name), .slice B' u.elem.length d']) rfl (by first | exact .inl rfl | exact .inr ⟨_, _, _, rfl, rfl, by kernel_rfl, by decide, rfl⟩) (by kernel_rfl) rfl rfl (fun a9 W' hb9 h9 => by have g0 := cell_next hb9 f0; have g1 := cell_next hb9 f1; have g2 := cell_next hb9 f2; have g3 := cell_next hb9 f3; simp [execOp, h9] <;> go_simp), ?_⟩
                  refine fcs ⟨atc2 49 45 50 51 (.agg #[.int .i64 t.kind, .int .i64 t.size, .string (bs t.name), .slice B t.elem.length d]) (.agg #[.int .i64 u.kind, .int .i64 u.size, .string (bs u.name), .slice B' u.elem.length d']) (.bool b) _ rfl rfl (by first | exact .inl rfl | exact .inr ⟨_, _, _, rfl, rfl, by kernel_rfl, by decide, rfl⟩) (by kernel_rfl) (by kernel_rfl) rfl rfl (by kernel_rfl) rfl (fun W' hb9 => cS W' hb9), ?_⟩
                  refine fcs ⟨at1 51 52 (.bool b) (.bool (!b)) rfl (by first | exact .inl rfl | exact .inr ⟨_, _, _, rfl, rfl, by kernel_rfl, by decide, rfl⟩) (by kernel_rfl) rfl rfl (fun a9 W' hb9 h9 => by simp [execOp, h9] <;> go_simp), ?_⟩
                  exact fnl
                intro vv wv hvv hbv
                have hv52 : vv 52 = .bool (!b) := (hvv 52 (by decide)).1
                simp only [lay, List.foldl_cons, List.foldl_nil, List.setIfInBounds_toArray, List.set_cons_succ, List.set_cons_zero, hv52]
                have hb5 := Below.next hb hbv
                have hB3 := hB1.next hbv
                have hB4 := hB2.next hbv
                clear hvv hB1 hB2 e0 e1 e2 e3 f0 f1 f2 f3 cS hb hbv c3 l1
                cases b
                · have hF : r = false := by
                    cases r
                    · rfl
                    · exact absurd (HR.out.1 rfl) (HN.out fun h => by rw [eqT_iff.2 h] at HB; exact Bool.noConfusion HB.out)
                  subst hF
                  go_wp2_with fail
                  go_ret
                  exact ⟨rfl, hb5⟩
                · have HT2 := Lib.hid (HT.out (eqT_iff.1 HB.out))
                  go_wp2_with fail
                  go_roundw
                  case rel => exact ⟨y + 1, by omega, by go_num, HT2, hB3, hB4, hb5⟩
                  case measure => simp [intOf]; omega
              · obtain rfl : y = q := by omega
                have hF : r = true := HR.out.2 (by
                  have := HK.out
                  rwa [List.take_of_length_le (by rw [HQ.out]; exact Nat.le_refl _), List.take_of_length_le (by rw [HQ'.out]; exact Nat.le_refl _)] at this)
                subst hF
                clear ih hg1 hg2 hs1 hN
                go_wp2_with fail
                go_ret
                exact ⟨rfl, hb⟩
          · have b4 : ((q : Int) != (q' : Int)) = true := by simp; omega
            rw [eqT_no (fun h => h4 (by injection h with _ _ _ h; rw [← hq, ← hq', h]))]
            clear ih hg1 hg2 hs1 hR hR' hl hl' hN h4 hq hq'
            go_enter Tryz.func49, Tryz.ntmps49
            go_wp2_with fail
            go_ret
            exact ⟨rfl, hab _ _⟩
        · have b3 := sn_f h3
          have b3e := sq_f h3
          have b3p : ((bs n).toList = (bs n').toList) = False := by rw [toList_bs, toList_bs]; simpa using h3
          rw [eqT_no (fun h => h3 (by injection h))]
          clear ih hg1 hg2 hs1 hR hR' hl hl' hN h3 hq hq'
          go_enter Tryz.func49, Tryz.ntmps49
          go_wp2_with fail
          go_ret
          exact ⟨rfl, hab _ _⟩
      · have b2 : (s != s') = true := by simpa using h2
        rw [eqT_no (fun h => h2 (by injection h))]
        clear ih hg1 hg2 hs1 hR hR' hl hl' hN h2 hq hq'
        go_enter Tryz.func49, Tryz.ntmps49
        go_wp2_with fail
        go_ret
        exact ⟨rfl, hab _ _⟩
    · have b1 : (k != k') = true := by simpa using h1
      rw [eqT_no (fun h => h1 (by injection h))]
      clear ih hg1 hg2 hs1 hR hR' hl hl' hN h1 hq hq'
      go_enter Tryz.func49, Tryz.ntmps49
      go_wp2_with fail
      go_ret
      exact ⟨rfl, hab _ _⟩
end Go.Proofs.YthbhbpcjcnkkkaaGreatDoor
/-
  Types in new memory: what hangs on no memory but the call's own. No conditions beyond those that each names.
-/
namespace Go.Proofs.YthbhbpcjcnkkkaaGreatDoor
open Go.RowKit Go.Shelf
/-- From block lo on, what was there is as it was. -/
structure Kpl (lo : Nat) (w w' : World) : Prop where
  size : w.heap.size ≤ w'.heap.size
  blk : ∀ i, lo ≤ i → i < w.heap.size → w'.heap[i]? = w.heap[i]?
theorem Kpl.of {lo : Nat} {w w' : World} (hb : Below w.heap.size w w') : Kpl lo w w' := ⟨hb.size, fun i _ hi => hb.block i hi⟩
theorem Kpl.trans {lo : Nat} {w w1 w2 : World} (h : Kpl lo w w1) (k : Kpl lo w1 w2) : Kpl lo w w2 := ⟨Nat.le_trans h.size k.size, fun i h1 h2 => (k.blk i h1 (Nat.lt_of_lt_of_le h2 h.size)).trans (h.blk i h1 h2)⟩
theorem Kpl.mono {lo hi : Nat} {w w' : World} (h : Kpl lo w w') (hl : lo ≤ hi) : Kpl hi w w' := ⟨h.size, fun i h1 h2 => h.blk i (Nat.le_trans hl h1) h2⟩
theorem Kpl.gb {g : Nat} {w w' : World} (h : w.grownBy w' (some g)) : Kpl (g + 1) w w' := ⟨h.size, fun i h1 h2 => h.block i h2 (fun e => by cases e; omega)⟩
/-- The elements lie in new memory. -/
def NwR (lo : Nat) (w : World) (l : List Ty) (A : Option Addr) : Prop := ∀ w', Kpl lo w w' → Rw TyA 4 w' l A
theorem NwR.next {lo : Nat} {w w' : World} {l : List Ty} {A : Option Addr} (h : NwR lo w l A) (k : Kpl lo w w') : NwR lo w' l A := fun w2 k2 => h w2 (k.trans k2)
theorem NwR.rw_ {lo : Nat} {w : World} {l : List Ty} {A : Option Addr} (h : NwR lo w l A) : Rw TyA 4 w l A := h w ⟨Nat.le_refl _, fun _ _ _ => rfl⟩
theorem NwR.nil (lo : Nat) (w : World) (A : Option Addr) : NwR lo w [] A := fun _ _ => .inl rfl
theorem NwR.low {lo hi : Nat} {w : World} {l : List Ty} {A : Option Addr} (h : NwR hi w l A) (hl : lo ≤ hi) : NwR lo w l A := fun w2 k2 => h w2 (k2.mono hl)
/-- The cells of element j. -/
structure EL1 (xs : List Value) (j : Nat) (t : Ty) (A : Option Addr) (c : Nat) : Prop where
  e0 : xs[j * 4]? = some (.int .i64 t.kind)
  e1 : xs[j * 4 + 1]? = some (.int .i64 t.size)
  e2 : xs[j * 4 + 2]? = some (.string (bs t.name))
  e3 : xs[j * 4 + 3]? = some (.slice A t.elem.length c)
def EL (P : Nat → Ty → Option Addr → Prop) (l : List Ty) (xs : List Value) : Prop := ∀ j (h : j < l.length), ∃ A c, EL1 xs j (l[j]'h) A c ∧ P j (l[j]'h) A
theorem news_of {w : World} {b off : Nat} {l : List Ty} (h : ∀ i (h : i < l.length), TyA w (l[i]'h) ((⟨b, off, none⟩ : Addr).add (i * 4))) :
    ∃ xs : List Value, xs.length = l.length * 4 ∧ (∀ j u, xs[j]? = some u → w.cell? ⟨b, off + j, none⟩ = some u) ∧ (∀ u ∈ xs, u.oneCell' = true) ∧ EL (fun _ t A => Rw TyA 4 w t.elem A) l xs := by
  have hcell : ∀ q (hq : q < l.length), w.cell? ⟨b, off + q * 4, none⟩ = some (.int .i64 (l[q]'hq).kind) ∧ w.cell? ⟨b, off + (q * 4 + 1), none⟩ = some (.int .i64 (l[q]'hq).size) ∧ w.cell? ⟨b, off + (q * 4 + 2), none⟩ = some (.string (bs (l[q]'hq).name)) ∧ ∃ A c, w.cell? ⟨b, off + (q * 4 + 3), none⟩ = some (.slice A (l[q]'hq).elem.length c) ∧ Rw TyA 4 w (l[q]'hq).elem A := fun q hq => by
    have := (h q hq).cells
    rw [Addr.add_lit] at this
    simp only [nx1, Nat.add_assoc] at this
    exact this
  have hs : ∀ j, j < l.length * 4 → ∃ u, w.cell? ⟨b, off + j, none⟩ = some u ∧ u.oneCell' = true := fun j hj => by
    have hq : j / 4 < l.length := by omega
    obtain ⟨h0, h1, h2, A, c, h3, -⟩ := hcell (j / 4) hq
    have : j = j / 4 * 4 ∨ j = j / 4 * 4 + 1 ∨ j = j / 4 * 4 + 2 ∨ j = j / 4 * 4 + 3 := by omega
    rcases this with e | e | e | e
    · rw [← e] at h0; exact ⟨_, h0, rfl⟩
    · rw [← e] at h1; exact ⟨_, h1, rfl⟩
    · rw [← e] at h2; exact ⟨_, h2, rfl⟩
    · rw [← e] at h3; exact ⟨_, h3, rfl⟩
  have hget : ∀ j, j < l.length * 4 → ((List.range (l.length * 4)).map fun j => (w.cell? ⟨b, off + j, none⟩).getD undef)[j]? = some ((w.cell? ⟨b, off + j, none⟩).getD undef) := fun j hj => by simp [hj]
  refine ⟨(List.range (l.length * 4)).map fun j => (w.cell? ⟨b, off + j, none⟩).getD undef, by simp, fun j u hu => ?_, fun u hu => ?_, fun q hq => ?_⟩
  · have hj : j < l.length * 4 := by
      have := (List.getElem?_eq_some_iff.1 hu).1
      simpa using this
    rw [hget j hj] at hu
    obtain ⟨v, hv, -⟩ := hs j hj
    rw [hv] at hu ⊢
    exact hu
  · obtain ⟨j, hj, rfl⟩ := List.mem_map.1 hu
    obtain ⟨v, hv, h1⟩ := hs j (List.mem_range.1 hj)
    rw [hv]
    exact h1
  · obtain ⟨h0, h1, h2, A, c, h3, h4⟩ := hcell q hq
    refine ⟨A, c, ⟨?_, ?_, ?_, ?_⟩, h4⟩
    · rw [hget _ (by omega), h0]; rfl
    · rw [hget _ (by omega), h1]; rfl
    · rw [hget _ (by omega), h2]; rfl
    · rw [hget _ (by omega), h3]; rfl
/-- Four cells are set anew. -/
def set4 (xs : List Value) (k : Nat) (v0 v1 v2 v3 : Value) : List Value := (((xs.set (k * 4) v0).set (k * 4 + 1) v1).set (k * 4 + 2) v2).set (k * 4 + 3) v3
theorem set4_other {xs : List Value} {k i : Nat} (v0 v1 v2 v3 : Value) (h : ¬ (k * 4 ≤ i ∧ i ≤ k * 4 + 3)) : (set4 xs k v0 v1 v2 v3)[i]? = xs[i]? := by
  unfold set4
  rw [List.getElem?_set_ne (by omega), List.getElem?_set_ne (by omega), List.getElem?_set_ne (by omega), List.getElem?_set_ne (by omega)]
theorem EL1.set_other {xs : List Value} {j k : Nat} {t : Ty} {A : Option Addr} {c : Nat} (h : EL1 xs j t A c) (hne : j ≠ k) (v0 v1 v2 v3 : Value) : EL1 (set4 xs k v0 v1 v2 v3) j t A c :=
  ⟨(set4_other _ _ _ _ (by omega)).trans h.e0, (set4_other _ _ _ _ (by omega)).trans h.e1, (set4_other _ _ _ _ (by omega)).trans h.e2, (set4_other _ _ _ _ (by omega)).trans h.e3⟩
theorem EL1.set_same {xs : List Value} {k n : Nat} (t : Ty) (A : Option Addr) (c : Nat) (hl : xs.length = n * 4) (hk : k < n) : EL1 (set4 xs k (.int .i64 t.kind) (.int .i64 t.size) (.string (bs t.name)) (.slice A t.elem.length c)) k t A c := by
  unfold set4
  refine ⟨?_, ?_, ?_, ?_⟩
  · rw [List.getElem?_set_ne (by omega), List.getElem?_set_ne (by omega), List.getElem?_set_ne (by omega), List.getElem?_set_self (by omega)]
  · rw [List.getElem?_set_ne (by omega), List.getElem?_set_ne (by omega), List.getElem?_set_self (by simp; omega)]
  · rw [List.getElem?_set_ne (by omega), List.getElem?_set_self (by simp; omega)]
  · rw [List.getElem?_set_self (by simp; omega)]
theorem set4_len (xs : List Value) (k : Nat) (v0 v1 v2 v3 : Value) : (set4 xs k v0 v1 v2 v3).length = xs.length := by unfold set4; simp
/-- A row of the call's own whose elements lie in new memory is one. -/
theorem NwR.row {w : World} {lo g n cap : Nat} {e : TypeId} {l : List Ty} {xs : List Value} (hn : l.length = n) (ho : w.ownsRow lo e 4 (.slice (some ⟨g, 0, none⟩) n cap) n xs) (h : EL (fun _ t A => NwR (g + 1) w t.elem A) l xs) : NwR lo w l (some ⟨g, 0, none⟩) := fun w' k => by
  have hg := ho.lt g rfl
  refine .inr ⟨_, rfl, fun i hi => ?_⟩
  obtain ⟨A, c, hE, hP⟩ := h i hi
  have hc : ∀ j u, j < n * 4 → xs[j]? = some u → w'.cell? ⟨g, j, none⟩ = some u := fun j u hj hu => by
    rw [World.cell?_of_block (w := w) (k.blk g hg.1 hg.2), ho.cellAt j hj, hu]
  rw [Addr.add_lit, Nat.zero_add]
  exact TyA.of (hc (i * 4) _ (by omega) hE.e0) (hc (i * 4 + 1) _ (by omega) hE.e1) (hc (i * 4 + 2) _ (by omega) hE.e2) (hc (i * 4 + 3) _ (by omega) hE.e3) (hP w' (k.mono (by omega)))
/-- A type in new memory. -/
def NtP (t : Ty) (w : World) (e : Ending) (w' : World) : Prop := ∃ A c, e = .returned (.agg #[.int .i64 t.kind, .int .i64 t.size, .string (bs t.name), .slice A t.elem.length c]) ∧ NwR w.heap.size w' t.elem A ∧ Below w.heap.size w w'
def EtP (l : List Ty) (w : World) (e : Ending) (w' : World) : Prop := ∃ A c, e = .returned (.slice A l.length c) ∧ NwR w.heap.size w' l A ∧ Below w.heap.size w w'
theorem info104 : (Tryz.prog.info? 45).map (fun i => (i.zero, i.size, i.bytes)) = some (some (.agg #[.int .i64 0, .int .i64 0, .string ⟨#[]⟩, .slice none 0 0]), 4, 56) := by kernel_rfl
theorem spot_none0 {w : World} {a : Addr} {v : Value} (h : w.cell? a = some v) : a.spot = none := by
  unfold World.cell? at h
  split at h
  · split at h
    · cases h
    · rename_i h1; simpa using h1
  · cases h
/-- A copy of a list of types. -/
def ClP (n : Nat) (xs : List Value) (w : World) (e : Ending) (w' : World) : Prop := ∃ v', e = .returned v' ∧ w'.ownsRow w.heap.size 45 4 v' n xs ∧ Below w.heap.size w w'
set_option maxRecDepth 100000 in
set_option maxHeartbeats 2000000 in
theorem cloneZero_any (A : Option Addr) (c : Nat) (w : World) : Calls Tryz.prog 101 #[.slice A 0 c] w (ClP 0 [] w) := by
  cases A with
  | none => exact (AnyE.slices_Clone_nil Tryz.clone101 0 c w).mono fun e w' ⟨h1, h2⟩ => ⟨_, h1, World.ownsRow_nil _ _ _ _, by rw [h2]; exact Below.refl _ _⟩
  | some a =>
    obtain ⟨i, hi, hz, hs5, hby⟩ := info_parts info104
    have q22 : ∀ (w : World) (a : Option Addr) (n c n' c' : Nat), (binOp .eql 43 (.slice a n c) (.slice none n' c')).run Tryz.prog w = .ok (.bool a.isNone) w := fun w a n c n' c' => Lib.run_eql_slice_nil w _ _ a n c n' c' Tryz.underlying43
    go_enter Tryz.func101, Tryz.ntmps101
    go_wp2_with (at_builtin; refine wpList_append_own _ rfl _ _ 43 rfl w.heap.size 45 i _ 4 56 Tryz.underlying43 hi hz hs5 hby rfl (by decide) _ _ _ rfl (World.ownsRow_made w #[] 0 (Nat.le_refl _) (Nat.zero_le _) rfl) a 0 c [] rfl rfl (by intro j u hj; simp at hj) (by intro u hu; cases hu) (by unfold maxLen; omega) (by omega) (by simp) ?_)
    intro v' w1 hown hgrow hnil
    go_wp2
    go_ret
    exact ⟨v', rfl, by simpa using hown, ((Below.refl _ w).alloc (Nat.le_refl _) _).grown hgrow (by simp) (by intro k hk; simp [Value.ownBlock] at hk; omega)⟩
theorem cloneType_any (l : List Ty) (A : Option Addr) (c : Nat) (w : World) (hl : l.length ≤ 1000000) (hR : Rw TyA 4 w l A) :
    Calls Tryz.prog 101 #[.slice A l.length c] w fun e w' => ∃ xs, EL (fun _ t A => Rw TyA 4 w t.elem A) l xs ∧ xs.length = l.length * 4 ∧ ClP l.length xs w e w' := by
  by_cases h0 : l = []
  · subst h0
    exact (cloneZero_any A c w).mono fun e w' h => ⟨[], fun j h => absurd h (Nat.not_lt_zero _), rfl, h⟩
  · rcases hR with h | ⟨a, rfl, h⟩
    · exact absurd h h0
    · have h1 : 0 < l.length := List.length_pos_iff.2 h0
      have hs : a.spot = none := by
        have := spot_none0 ((h 0 h1).cells.1)
        simpa [Addr.add] using this
      obtain ⟨b, off, s⟩ := a
      have hs : s = none := hs
      subst hs
      obtain ⟨xs, hx1, hx2, hx3, hx4⟩ := news_of h
      obtain ⟨i, hi, hz, hs5, hby⟩ := info_parts info104
      exact (AnyE.slices_Clone Tryz.clone101 i _ 4 56 hi hz hs5 hby rfl (by decide) Tryz.sizeOf45 b off l.length c xs w hx1 (by unfold maxLen; omega) (by omega) hx2 hx3).mono fun e w' ⟨v', e1, e2, _, e4⟩ => ⟨xs, hx4, hx1, v', e1, e2, e4⟩
end Go.Proofs.YthbhbpcjcnkkkaaGreatDoor
/-
  The developers' types in new memory: newType, each. No conditions beyond those that each names.
-/
namespace Go.Proofs.YthbhbpcjcnkkkaaGreatDoor
open Go.RowKit Go.Shelf
/-- The condition on the elements of a row that is renewed: those before number k lie in new memory. -/
def Rn (w0 : World) (g : Nat) (w : World) (k : Nat) (j : Nat) (t : Ty) (A : Option Addr) : Prop := if j < k then NwR (g + 1) w t.elem A else Rw TyA 4 w0 t.elem A
theorem Rn.next {w0 : World} {g k : Nat} {w w' : World} {l : List Ty} {xs : List Value} (h : EL (Rn w0 g w k) l xs) (hk : Kpl (g + 1) w w') : EL (Rn w0 g w' k) l xs := fun j hj => by
  obtain ⟨A, c, h1, h2⟩ := h j hj
  refine ⟨A, c, h1, ?_⟩
  unfold Rn at h2 ⊢
  split
  · rename_i e; rw [if_pos e] at h2; exact h2.next hk
  · rename_i e; rw [if_neg e] at h2; exact h2
theorem Rn.step {w0 : World} {g k n : Nat} {w : World} {l : List Ty} {xs : List Value} (h : EL (Rn w0 g w k) l xs) (hx : xs.length = n * 4) (hn : l.length = n) (hk : k < l.length) {A : Option Addr} {c : Nat} (hA : NwR (g + 1) w (l[k]'hk).elem A) :
    EL (Rn w0 g w (k + 1)) l (set4 xs k (.int .i64 (l[k]'hk).kind) (.int .i64 (l[k]'hk).size) (.string (bs (l[k]'hk).name)) (.slice A (l[k]'hk).elem.length c)) := fun j hj => by
  by_cases e : j = k
  · subst e
    exact ⟨A, c, EL1.set_same _ _ _ hx (by omega), by unfold Rn; rw [if_pos (Nat.lt_succ_self _)]; exact hA⟩
  · obtain ⟨A', c', h1, h2⟩ := h j hj
    refine ⟨A', c', h1.set_other e _ _ _ _, ?_⟩
    unfold Rn at h2 ⊢
    by_cases e2 : j < k
    · rw [if_pos e2] at h2; rw [if_pos (by omega)]; exact h2
    · rw [if_neg e2] at h2; rw [if_neg (by omega)]; exact h2
theorem stored4 {w : World} {base g n cap : Nat} {e : TypeId} {xs : List Value} (h : w.ownsRow base e 4 (.slice (some ⟨g, 0, none⟩) n cap) n xs) (k : Nat) (v0 v1 v2 v3 : Value) :
    ((((w.setCell ⟨g, k * 4, none⟩ v0).setCell ⟨g, k * 4 + 1, none⟩ v1).setCell ⟨g, k * 4 + 2, none⟩ v2).setCell ⟨g, k * 4 + 3, none⟩ v3).ownsRow base e 4 (.slice (some ⟨g, 0, none⟩) n cap) n (set4 xs k v0 v1 v2 v3) ∧
      w.grownBy ((((w.setCell ⟨g, k * 4, none⟩ v0).setCell ⟨g, k * 4 + 1, none⟩ v1).setCell ⟨g, k * 4 + 2, none⟩ v2).setCell ⟨g, k * 4 + 3, none⟩ v3) (some g) := by
  obtain ⟨h1, g1⟩ := h.stored (k * 4) v0
  obtain ⟨h2, g2⟩ := h1.stored (k * 4 + 1) v1
  obtain ⟨h3, g3⟩ := h2.stored (k * 4 + 2) v2
  obtain ⟨h4, g4⟩ := h3.stored (k * 4 + 3) v3
  exact ⟨h4, ((g1.trans g2).trans g3).trans g4⟩
set_option maxRecDepth 100000 in
set_option maxHeartbeats 4000000 in
theorem eachType_any (l : List Ty) (A : Option Addr) (c : Nat) (w : World) (hl : l.length ≤ 1000000) (hR : Rw TyA 4 w l A)
    (hc : ∀ i (h : i < l.length) v w', TyV w' (l[i]'h) v → Calls Tryz.prog 72 #[v] w' (NtP (l[i]'h) w')) :
    Calls Tryz.prog 92 #[.slice A l.length c, .func (.func 72) #[] #[]] w (EtP l w) := by
  have cC := cloneType_any l A c w hl hR
  unfold EtP
  obtain ⟨n, hn⟩ : ∃ n, l.length = n := ⟨_, rfl⟩
  have HN := Lib.hid hn
  rw [hn] at cC hl ⊢
  clear hn
  go_enter Tryz.func92, Tryz.ntmps92
  go_wp2_with fail
  refine cC.mono ?_
  rintro e w1 ⟨xs, hE, hxl, v', rfl, hown, hb1⟩
  clear cC
  by_cases h0 : n = 0
  · subst h0
    obtain ⟨-, hh⟩ := hown
    have hv : ∃ B d, v' = .slice B 0 d := by
      rcases hh with ⟨h, -⟩ | ⟨g, cap, cur, h, -⟩
      · exact ⟨_, _, h⟩
      · exact ⟨_, _, h⟩
    obtain ⟨B, d, rfl⟩ := hv
    have hnil : l = [] := List.eq_nil_of_length_eq_zero HN.out
    clear hc hh
    go_wp2_with fail
    go_loopw [12] (fun i wr => i = .int .i64 0 ∧ Below w.heap.size w wr) (fun _ _ => 0)
    case atStart => exact ⟨rfl, hb1⟩
    case round =>
      obtain ⟨rfl, hb⟩ := hrel
      go_wp2_with fail
      go_ret
      exact ⟨B, d, rfl, by rw [hnil]; exact NwR.nil _ _ _, hb⟩
  · have hv : ∃ g d, v' = .slice (some ⟨g, 0, none⟩) n d := by
      rcases hown.2 with ⟨-, h⟩ | ⟨g, cap, cur, h, -⟩
      · exact absurd h h0
      · exact ⟨_, _, h⟩
    obtain ⟨g, d, rfl⟩ := hv
    have hg := hown.lt g rfl
    have HE : Hid (EL (Rn w g w1 0) l xs) := Lib.hid fun j hj => by
      obtain ⟨A', c', h1, h2⟩ := hE j hj
      exact ⟨A', c', h1, by unfold Rn; rw [if_neg (by omega)]; exact h2⟩
    clear hE
    go_wp2_with fail
    go_loopw [12] (fun i wr => ∃ (k : Nat) (ys : List Value), k ≤ n ∧ i = .int .i64 (k : Int) ∧ Hid (EL (Rn w g wr k) l ys) ∧ ys.length = n * 4 ∧ wr.ownsRow w.heap.size 45 4 (.slice (some ⟨g, 0, none⟩) n d) n ys ∧ Below w.heap.size w wr) (fun i _ => n - (intOf i).toNat)
    case atStart => exact ⟨0, xs, by omega, rfl, HE, hxl, hown, hb1⟩
    case round =>
      clear HE hown hb1 hxl
      obtain ⟨k, ys, hk, rfl, HE, hyl, hown, hb⟩ := hrel
      by_cases hlt : k < n
      · have hkl : k < l.length := by rw [HN.out]; exact hlt
        obtain ⟨A3, c3, hE1, hP⟩ := HE.out k hkl
        have hP : Rw TyA 4 w (l[k]'hkl).elem A3 := by unfold Rn at hP; rw [if_neg (by omega)] at hP; exact hP
        have e0 : wr.cell? ⟨g, k * 4, none⟩ = _ := (hown.cellAt (k * 4) (by omega)).trans hE1.e0
        have e1 : wr.cell? ⟨g, k * 4 + 1, none⟩ = _ := (hown.cellAt (k * 4 + 1) (by omega)).trans hE1.e1
        have e2 : wr.cell? ⟨g, k * 4 + 2, none⟩ = _ := (hown.cellAt (k * 4 + 2) (by omega)).trans hE1.e2
        have e3 : wr.cell? ⟨g, k * 4 + 3, none⟩ = _ := (hown.cellAt (k * 4 + 3) (by omega)).trans hE1.e3
        have hgl := (hown.lt g rfl).2
        have hstep := fun W A9 c9 (hE9 : EL (Rn w g W k) l ys) => Rn.step (c := c9) (A := A9) hE9 hyl HN.out hkl
        have HS := Lib.hid hstep
        have cN := hc k hkl
        generalize l[k]'hkl = t at *
        have hW1 := ab1 wr (Obj.cells #[.int .i64 t.kind, .int .i64 t.size, .string (bs t.name), .slice A3 t.elem.length c3] 45)
        have cN2 := cN _ (wr.alloc (Obj.cells #[.int .i64 t.kind, .int .i64 t.size, .string (bs t.name), .slice A3 t.elem.length c3] 45)) ⟨A3, c3, rfl, hP.next (fun x p => TyA.next (Below.next hb hW1) x p)⟩
        have hz : wr.heap.size ≤ (wr.alloc (Obj.cells #[.int .i64 t.kind, .int .i64 t.size, .string (bs t.name), .slice A3 t.elem.length c3] 45)).heap.size := hW1.size
        clear hstep cN hE1 hP hkl
        go_wp2_with fail
        refine cN2.mono ?_
        rintro e w3 ⟨A9, c9, rfl, hN9, hb9⟩
        have hb3 := Below.next hW1 hb9
        have hb4 := Below.next hb hb3
        have hown3 := hown.kept (gb_of hb3 none) (.inr (by simp [Value.ownBlock]))
        have f0 := hown3.frozenAt (k * 4)
        have f1 := hown3.frozenAt (k * 4 + 1)
        have f2 := hown3.frozenAt (k * 4 + 2)
        have f3 := hown3.frozenAt (k * 4 + 3)
        replace e0 := cell_next hb3 e0
        replace e1 := cell_next hb3 e1
        replace e2 := cell_next hb3 e2
        replace e3 := cell_next hb3 e3
        obtain ⟨hst, hgr⟩ := stored4 hown3 k (.int .i64 t.kind) (.int .i64 t.size) (.string (bs t.name)) (.slice A9 t.elem.length c9)
        have hE3 := Rn.next HE.out (Kpl.of (lo := g + 1) hb3)
        have hN3 : NwR (g + 1) w3 t.elem A9 := hN9.low (Nat.le_trans (Nat.succ_le_of_lt hgl) hz)
        have hE4 := Lib.hid (HS.out _ A9 c9 (Rn.next hE3 (Kpl.gb hgr)) (hN3.next (Kpl.gb hgr)))
        have hb5 := hb4.grown hgr hb4.size (fun j hj => by cases hj; exact (hown.lt g rfl).1)
        clear cN2 hW1 hb3 hb9 hb hown hE3
        go_wp2_with fail
        go_roundw
        case rel => exact ⟨k + 1, _, by omega, by go_num, hE4, by rw [set4_len]; exact hyl, hst, hb5⟩
        case measure => simp [intOf]; omega
      · obtain rfl : k = n := by omega
        have hF := NwR.row HN.out hown (fun j hj => by
          obtain ⟨A', c', h1, h2⟩ := HE.out j hj
          unfold Rn at h2
          rw [if_pos (by rw [← HN.out]; exact hj)] at h2
          exact ⟨A', c', h1, h2⟩)
        clear hc HE
        go_wp2_with fail
        go_ret
        exact ⟨_, _, rfl, hF, hb⟩
theorem Kpl.set {lo : Nat} {w w' : World} (h : Kpl lo w w') {p : Addr} (hp : p.block < lo) (u : Value) : Kpl lo w (w'.setCell p u) :=
  ⟨Nat.le_trans h.size (Below.setCell (Below.refl 0 w') (Nat.zero_le p.block) u).size, fun i hi h2 => (Below.heap_setCell w' p u i (by omega)).trans (h.blk i hi h2)⟩
set_option maxRecDepth 100000 in
set_option maxHeartbeats 4000000 in
theorem newType_any (N : Nat) : ∀ (t : Ty) (v : Value) (w : World), SizeOf.sizeOf t < N → fewT t = true → TyV w t v →
    Calls Tryz.prog 72 #[v] w (NtP t w) := by
  induction N with
  | zero => intro t v w h; omega
  | succ N ih =>
    intro t v w hN hf hv
    rw [fewT_eq] at hf
    simp only [Bool.and_eq_true, decide_eq_true_eq, List.all_eq_true] at hf
    obtain ⟨A, c, rfl, hR⟩ := hv
    have hs1 := fun i h => size_elem (t := t) (i := i) h
    have z1 : (w.alloc (Obj.cells #[.int .i64 t.kind, .int .i64 t.size, .string (bs t.name), .slice A t.elem.length c] 45)).heap.size = w.heap.size + 1 := by simp
    have hab := ab2 w (Obj.cells #[.int .i64 t.kind, .int .i64 t.size, .string (bs t.name), .slice A t.elem.length c] 45) (Obj.cells #[.int .i64 0, .int .i64 0, .string ⟨#[]⟩, .slice none 0 0] 45)
    have B1 := (Bx.new4 w 45 (.int .i64 t.kind) (.int .i64 t.size) (.string (bs t.name)) (.slice A t.elem.length c)).next (ab1 _ (Obj.cells #[.int .i64 0, .int .i64 0, .string ⟨#[]⟩, .slice none 0 0] 45))
    have B2 := Bx.new4 (w.alloc (Obj.cells #[.int .i64 t.kind, .int .i64 t.size, .string (bs t.name), .slice A t.elem.length c] 45)) 45 (.int .i64 0) (.int .i64 0) (.string ⟨#[]⟩) (.slice none 0 0)
    rw [z1] at B2
    have cE := eachType_any t.elem A c _ (by omega) (hR.next fun x p => TyA.next hab x p) (fun i h v w' hV => ih _ v w' (by have := hs1 i h; omega) (hf.2.2.2 _ (List.getElem_mem h)) hV)
    have hz : w.heap.size + 1 + 1 ≤ ((w.alloc (Obj.cells #[.int .i64 t.kind, .int .i64 t.size, .string (bs t.name), .slice A t.elem.length c] 45)).alloc (Obj.cells #[.int .i64 0, .int .i64 0, .string ⟨#[]⟩, .slice none 0 0] 45)).heap.size := by simp
    unfold NtP
    clear ih hs1 hf hR z1 hN
    generalize t.elem = e at *
    go_enter Tryz.func72, Tryz.ntmps72
    go_wp2_with fail
    refine cE.mono ?_
    rintro e3 w3 ⟨A9, c9, rfl, hN9, hb9⟩
    have hb3 := Below.next hab hb9
    have C1 := B1.next hb9
    have C2 := B2.next hb9
    have p0 := C1.c 0 rfl
    have p1 := C1.c 1 rfl
    have p2 := C1.c 2 rfl
    have p3 := C1.c 3 rfl
    have f3 := C1.f 3 rfl
    have r0 := C2.c 0 rfl
    have r1 := C2.c 1 rfl
    have r2 := C2.c 2 rfl
    have r3 := C2.c 3 rfl
    have s0 := C2.f 0 rfl
    have s1 := C2.f 1 rfl
    have s2 := C2.f 2 rfl
    have s3 := C2.f 3 rfl
    have l1 := C1.lt
    have l2 := C2.lt
    clear cE
    go_wp2_with fail
    refine bodyPost_ret (v := .agg #[.int .i64 t.kind, .int .i64 t.size, .string (bs t.name), .slice A9 e.length c9]) (by simp [results, Tryz.results72, go_sem, r0, r1, r2, r3]) rfl ⟨A9, c9, rfl, ?_, ?_⟩
    · refine (hN9.next ?_).low hab.size
      exact ((((Kpl.of (Below.refl _ _)).set (by show w.heap.size < _; omega) _).set (by show w.heap.size + 1 < _; omega) _).set (by show w.heap.size + 1 < _; omega) _ |>.set (by show w.heap.size + 1 < _; omega) _).set (by show w.heap.size + 1 < _; omega) _
    · exact ((((hb3.setCell (by simp) _).setCell (by simp) _).setCell (by simp) _).setCell (by simp) _).setCell (by simp) _
end Go.Proofs.YthbhbpcjcnkkkaaGreatDoor
/-
  The developers' fields in new memory: newField, each. No conditions beyond those that each names.
-/
namespace Go.Proofs.YthbhbpcjcnkkkaaGreatDoor
open Go.RowKit Go.Shelf
/-- The fields lie in new memory. -/
def NwF (lo : Nat) (w : World) (l : List Fd) (A : Option Addr) : Prop := ∀ w', Kpl lo w w' → Rw FdA 7 w' l A
theorem NwF.next {lo : Nat} {w w' : World} {l : List Fd} {A : Option Addr} (h : NwF lo w l A) (k : Kpl lo w w') : NwF lo w' l A := fun w2 k2 => h w2 (k.trans k2)
theorem NwF.rw_ {lo : Nat} {w : World} {l : List Fd} {A : Option Addr} (h : NwF lo w l A) : Rw FdA 7 w l A := h w ⟨Nat.le_refl _, fun _ _ _ => rfl⟩
theorem NwF.nil (lo : Nat) (w : World) (A : Option Addr) : NwF lo w [] A := fun _ _ => .inl rfl
theorem NwF.low {lo hi : Nat} {w : World} {l : List Fd} {A : Option Addr} (h : NwF hi w l A) (hl : lo ≤ hi) : NwF lo w l A := fun w2 k2 => h w2 (k2.mono hl)
/-- The cells of element j. -/
structure FL1 (xs : List Value) (j : Nat) (t : Fd) (A : Option Addr) (c : Nat) : Prop where
  e0 : xs[j * 7]? = some (.int .i64 t.num)
  e1 : xs[j * 7 + 1]? = some (.string (bs t.name))
  e2 : xs[j * 7 + 2]? = some (.int .i64 t.type.kind)
  e3 : xs[j * 7 + 3]? = some (.int .i64 t.type.size)
  e4 : xs[j * 7 + 4]? = some (.string (bs t.type.name))
  e5 : xs[j * 7 + 5]? = some (.slice A t.type.elem.length c)
  e6 : xs[j * 7 + 6]? = some (.bool t.opt)
def FL (P : Nat → Fd → Option Addr → Prop) (l : List Fd) (xs : List Value) : Prop := ∀ j (h : j < l.length), ∃ A c, FL1 xs j (l[j]'h) A c ∧ P j (l[j]'h) A
theorem newsF_of {w : World} {b off : Nat} {l : List Fd} (h : ∀ i (h : i < l.length), FdA w (l[i]'h) ((⟨b, off, none⟩ : Addr).add (i * 7))) :
    ∃ xs : List Value, xs.length = l.length * 7 ∧ (∀ j u, xs[j]? = some u → w.cell? ⟨b, off + j, none⟩ = some u) ∧ (∀ u ∈ xs, u.oneCell' = true) ∧ FL (fun _ t A => Rw TyA 4 w t.type.elem A) l xs := by
  have hcell : ∀ q (hq : q < l.length), w.cell? ⟨b, off + q * 7, none⟩ = some (.int .i64 (l[q]'hq).num) ∧ w.cell? ⟨b, off + (q * 7 + 1), none⟩ = some (.string (bs (l[q]'hq).name)) ∧ w.cell? ⟨b, off + (q * 7 + 2), none⟩ = some (.int .i64 (l[q]'hq).type.kind) ∧ w.cell? ⟨b, off + (q * 7 + 3), none⟩ = some (.int .i64 (l[q]'hq).type.size) ∧ w.cell? ⟨b, off + (q * 7 + 4), none⟩ = some (.string (bs (l[q]'hq).type.name)) ∧ ∃ A c, w.cell? ⟨b, off + (q * 7 + 5), none⟩ = some (.slice A (l[q]'hq).type.elem.length c) ∧ w.cell? ⟨b, off + (q * 7 + 6), none⟩ = some (.bool (l[q]'hq).opt) ∧ Rw TyA 4 w (l[q]'hq).type.elem A := fun q hq => by
    obtain ⟨h0, h1, h2, h3, h4, ⟨A, c, h5, h6⟩, h7⟩ := h q hq
    rw [Addr.add_lit] at h0 h1 h2 h3 h4 h5 h7
    simp only [nx1, Nat.add_assoc] at h1 h2 h3 h4 h5 h7
    exact ⟨h0, h1, h2, h3, h4, A, c, h5, h7, h6⟩
  have hs : ∀ j, j < l.length * 7 → ∃ u, w.cell? ⟨b, off + j, none⟩ = some u ∧ u.oneCell' = true := fun j hj => by
    have hq : j / 7 < l.length := by omega
    obtain ⟨h0, h1, h2, h3, h4, A, c, h5, h6, -⟩ := hcell (j / 7) hq
    have : j = j / 7 * 7 ∨ j = j / 7 * 7 + 1 ∨ j = j / 7 * 7 + 2 ∨ j = j / 7 * 7 + 3 ∨ j = j / 7 * 7 + 4 ∨ j = j / 7 * 7 + 5 ∨ j = j / 7 * 7 + 6 := by omega
    rcases this with e | e | e | e | e | e | e
    · rw [← e] at h0; exact ⟨_, h0, rfl⟩
    · rw [← e] at h1; exact ⟨_, h1, rfl⟩
    · rw [← e] at h2; exact ⟨_, h2, rfl⟩
    · rw [← e] at h3; exact ⟨_, h3, rfl⟩
    · rw [← e] at h4; exact ⟨_, h4, rfl⟩
    · rw [← e] at h5; exact ⟨_, h5, rfl⟩
    · rw [← e] at h6; exact ⟨_, h6, rfl⟩
  have hget : ∀ j, j < l.length * 7 → ((List.range (l.length * 7)).map fun j => (w.cell? ⟨b, off + j, none⟩).getD undef)[j]? = some ((w.cell? ⟨b, off + j, none⟩).getD undef) := fun j hj => by simp [hj]
  refine ⟨(List.range (l.length * 7)).map fun j => (w.cell? ⟨b, off + j, none⟩).getD undef, by simp, fun j u hu => ?_, fun u hu => ?_, fun q hq => ?_⟩
  · have hj : j < l.length * 7 := by
      have := (List.getElem?_eq_some_iff.1 hu).1
      simpa using this
    rw [hget j hj] at hu
    obtain ⟨v, hv, -⟩ := hs j hj
    rw [hv] at hu ⊢
    exact hu
  · obtain ⟨j, hj, rfl⟩ := List.mem_map.1 hu
    obtain ⟨v, hv, h1⟩ := hs j (List.mem_range.1 hj)
    rw [hv]
    exact h1
  · obtain ⟨h0, h1, h2, h3, h4, A, c, h5, h6, h7⟩ := hcell q hq
    refine ⟨A, c, ⟨?_, ?_, ?_, ?_, ?_, ?_, ?_⟩, h7⟩
    · rw [hget _ (by omega), h0]; rfl
    · rw [hget _ (by omega), h1]; rfl
    · rw [hget _ (by omega), h2]; rfl
    · rw [hget _ (by omega), h3]; rfl
    · rw [hget _ (by omega), h4]; rfl
    · rw [hget _ (by omega), h5]; rfl
    · rw [hget _ (by omega), h6]; rfl
/-- Seven cells are set anew. -/
def set7 (xs : List Value) (k : Nat) (v0 v1 v2 v3 v4 v5 v6 : Value) : List Value := (((((((xs.set (k * 7) v0).set (k * 7 + 1) v1).set (k * 7 + 2) v2).set (k * 7 + 3) v3).set (k * 7 + 4) v4).set (k * 7 + 5) v5).set (k * 7 + 6) v6)
theorem set7_other {xs : List Value} {k i : Nat} (v0 v1 v2 v3 v4 v5 v6 : Value) (h : ¬ (k * 7 ≤ i ∧ i ≤ k * 7 + 6)) : (set7 xs k v0 v1 v2 v3 v4 v5 v6)[i]? = xs[i]? := by
  unfold set7
  rw [List.getElem?_set_ne (by omega), List.getElem?_set_ne (by omega), List.getElem?_set_ne (by omega), List.getElem?_set_ne (by omega), List.getElem?_set_ne (by omega), List.getElem?_set_ne (by omega), List.getElem?_set_ne (by omega)]
theorem FL1.set_other {xs : List Value} {j k : Nat} {t : Fd} {A : Option Addr} {c : Nat} (h : FL1 xs j t A c) (hne : j ≠ k) (v0 v1 v2 v3 v4 v5 v6 : Value) : FL1 (set7 xs k v0 v1 v2 v3 v4 v5 v6) j t A c :=
  ⟨(set7_other _ _ _ _ _ _ _ (by omega)).trans h.e0, (set7_other _ _ _ _ _ _ _ (by omega)).trans h.e1, (set7_other _ _ _ _ _ _ _ (by omega)).trans h.e2, (set7_other _ _ _ _ _ _ _ (by omega)).trans h.e3, (set7_other _ _ _ _ _ _ _ (by omega)).trans h.e4, (set7_other _ _ _ _ _ _ _ (by omega)).trans h.e5, (set7_other _ _ _ _ _ _ _ (by omega)).trans h.e6⟩
theorem FL1.set_same {xs : List Value} {k n : Nat} (t : Fd) (A : Option Addr) (c : Nat) (hl : xs.length = n * 7) (hk : k < n) : FL1 (set7 xs k (.int .i64 t.num) (.string (bs t.name)) (.int .i64 t.type.kind) (.int .i64 t.type.size) (.string (bs t.type.name)) (.slice A t.type.elem.length c) (.bool t.opt)) k t A c := by
  unfold set7
  refine ⟨?_, ?_, ?_, ?_, ?_, ?_, ?_⟩
  · rw [List.getElem?_set_ne (by omega), List.getElem?_set_ne (by omega), List.getElem?_set_ne (by omega), List.getElem?_set_ne (by omega), List.getElem?_set_ne (by omega), List.getElem?_set_ne (by omega), List.getElem?_set_self (by first | omega | (simp; omega))]
  · rw [List.getElem?_set_ne (by omega), List.getElem?_set_ne (by omega), List.getElem?_set_ne (by omega), List.getElem?_set_ne (by omega), List.getElem?_set_ne (by omega), List.getElem?_set_self (by first | omega | (simp; omega))]
  · rw [List.getElem?_set_ne (by omega), List.getElem?_set_ne (by omega), List.getElem?_set_ne (by omega), List.getElem?_set_ne (by omega), List.getElem?_set_self (by first | omega | (simp; omega))]
  · rw [List.getElem?_set_ne (by omega), List.getElem?_set_ne (by omega), List.getElem?_set_ne (by omega), List.getElem?_set_self (by first | omega | (simp; omega))]
  · rw [List.getElem?_set_ne (by omega), List.getElem?_set_ne (by omega), List.getElem?_set_self (by first | omega | (simp; omega))]
  · rw [List.getElem?_set_ne (by omega), List.getElem?_set_self (by first | omega | (simp; omega))]
  · rw [List.getElem?_set_self (by first | omega | (simp; omega))]
theorem set7_len (xs : List Value) (k : Nat) (v0 v1 v2 v3 v4 v5 v6 : Value) : (set7 xs k v0 v1 v2 v3 v4 v5 v6).length = xs.length := by unfold set7; simp
/-- A row of the call's own whose elements lie in new memory is one. -/
theorem NwF.row {w : World} {lo g n cap : Nat} {e : TypeId} {l : List Fd} {xs : List Value} (hn : l.length = n) (ho : w.ownsRow lo e 7 (.slice (some ⟨g, 0, none⟩) n cap) n xs) (h : FL (fun _ t A => NwR (g + 1) w t.type.elem A) l xs) : NwF lo w l (some ⟨g, 0, none⟩) := fun w' k => by
  have hg := ho.lt g rfl
  refine .inr ⟨_, rfl, fun i hi => ?_⟩
  obtain ⟨A, c, hE, hP⟩ := h i hi
  have hc : ∀ j u, j < n * 7 → xs[j]? = some u → w'.cell? ⟨g, j, none⟩ = some u := fun j u hj hu => by
    rw [World.cell?_of_block (w := w) (k.blk g hg.1 hg.2), ho.cellAt j hj, hu]
  rw [Addr.add_lit, Nat.zero_add]
  exact ⟨hc (i * 7) _ (by omega) hE.e0, hc (i * 7 + 1) _ (by omega) hE.e1, hc (i * 7 + 2) _ (by omega) hE.e2, hc (i * 7 + 3) _ (by omega) hE.e3, hc (i * 7 + 4) _ (by omega) hE.e4, ⟨A, c, hc (i * 7 + 5) _ (by omega) hE.e5, hP w' (k.mono (by omega))⟩, hc (i * 7 + 6) _ (by omega) hE.e6⟩
/-- A field in new memory. -/
def FtP (t : Fd) (w : World) (e : Ending) (w' : World) : Prop := ∃ A c, e = .returned (.agg #[.int .i64 t.num, .string (bs t.name), .int .i64 t.type.kind, .int .i64 t.type.size, .string (bs t.type.name), .slice A t.type.elem.length c, .bool t.opt]) ∧ NwR w.heap.size w' t.type.elem A ∧ Below w.heap.size w w'
def EfP (l : List Fd) (w : World) (e : Ending) (w' : World) : Prop := ∃ A c, e = .returned (.slice A l.length c) ∧ NwF w.heap.size w' l A ∧ Below w.heap.size w w'
theorem info74 : (Tryz.prog.info? 47).map (fun i => (i.zero, i.size, i.bytes)) = some (some (.agg #[.int .i64 0, .string ⟨#[]⟩, .int .i64 0, .int .i64 0, .string ⟨#[]⟩, .slice none 0 0, .bool false]), 7, 88) := by kernel_rfl
/-- A copy of a list of fields. -/
def ClF (n : Nat) (xs : List Value) (w : World) (e : Ending) (w' : World) : Prop := ∃ v', e = .returned v' ∧ w'.ownsRow w.heap.size 47 7 v' n xs ∧ Below w.heap.size w w'
set_option maxRecDepth 100000 in
set_option maxHeartbeats 2000000 in
theorem cloneZeroF_any (A : Option Addr) (c : Nat) (w : World) : Calls Tryz.prog 71 #[.slice A 0 c] w (ClF 0 [] w) := by
  cases A with
  | none => exact (AnyE.slices_Clone_nil Tryz.clone71 0 c w).mono fun e w' ⟨h1, h2⟩ => ⟨_, h1, World.ownsRow_nil _ _ _ _, by rw [h2]; exact Below.refl _ _⟩
  | some a =>
    obtain ⟨i, hi, hz, hs5, hby⟩ := info_parts info74
    have q22 : ∀ (w : World) (a : Option Addr) (n c n' c' : Nat), (binOp .eql 30 (.slice a n c) (.slice none n' c')).run Tryz.prog w = .ok (.bool a.isNone) w := fun w a n c n' c' => Lib.run_eql_slice_nil w _ _ a n c n' c' Tryz.underlying30
    go_enter Tryz.func71, Tryz.ntmps71
    go_wp2_with (at_builtin; refine wpList_append_own _ rfl _ _ 30 rfl w.heap.size 47 i _ 7 88 Tryz.underlying30 hi hz hs5 hby rfl (by decide) _ _ _ rfl (World.ownsRow_made w #[] 0 (Nat.le_refl _) (Nat.zero_le _) rfl) a 0 c [] rfl rfl (by intro j u hj; simp at hj) (by intro u hu; cases hu) (by unfold maxLen; omega) (by omega) (by simp) ?_)
    intro v' w1 hown hgrow hnil
    go_wp2
    go_ret
    exact ⟨v', rfl, by simpa using hown, ((Below.refl _ w).alloc (Nat.le_refl _) _).grown hgrow (by simp) (by intro k hk; simp [Value.ownBlock] at hk; omega)⟩
theorem cloneField_any (l : List Fd) (A : Option Addr) (c : Nat) (w : World) (hl : l.length ≤ 1000000) (hR : Rw FdA 7 w l A) :
    Calls Tryz.prog 71 #[.slice A l.length c] w fun e w' => ∃ xs, FL (fun _ t A => Rw TyA 4 w t.type.elem A) l xs ∧ xs.length = l.length * 7 ∧ ClF l.length xs w e w' := by
  by_cases h0 : l = []
  · subst h0
    exact (cloneZeroF_any A c w).mono fun e w' h => ⟨[], fun j h => absurd h (Nat.not_lt_zero _), rfl, h⟩
  · rcases hR with h | ⟨a, rfl, h⟩
    · exact absurd h h0
    · have h1 : 0 < l.length := List.length_pos_iff.2 h0
      have hs : a.spot = none := by
        have := spot_none0 (h 0 h1).1
        simpa [Addr.add] using this
      obtain ⟨b, off, s⟩ := a
      have hs : s = none := hs
      subst hs
      obtain ⟨xs, hx1, hx2, hx3, hx4⟩ := newsF_of h
      obtain ⟨i, hi, hz, hs5, hby⟩ := info_parts info74
      exact (AnyE.slices_Clone Tryz.clone71 i _ 7 88 hi hz hs5 hby rfl (by decide) Tryz.sizeOf47 b off l.length c xs w hx1 (by unfold maxLen; omega) (by omega) hx2 hx3).mono fun e w' ⟨v', e1, e2, _, e4⟩ => ⟨xs, hx4, hx1, v', e1, e2, e4⟩
/-- The condition on the fields of a row that is renewed: those before number k lie in new memory. -/
def Rf (w0 : World) (g : Nat) (w : World) (k : Nat) (j : Nat) (t : Fd) (A : Option Addr) : Prop := if j < k then NwR (g + 1) w t.type.elem A else Rw TyA 4 w0 t.type.elem A
theorem Rf.next {w0 : World} {g k : Nat} {w w' : World} {l : List Fd} {xs : List Value} (h : FL (Rf w0 g w k) l xs) (hk : Kpl (g + 1) w w') : FL (Rf w0 g w' k) l xs := fun j hj => by
  obtain ⟨A, c, h1, h2⟩ := h j hj
  refine ⟨A, c, h1, ?_⟩
  unfold Rf at h2 ⊢
  split
  · rename_i e; rw [if_pos e] at h2; exact h2.next hk
  · rename_i e; rw [if_neg e] at h2; exact h2
theorem Rf.step {w0 : World} {g k n : Nat} {w : World} {l : List Fd} {xs : List Value} (h : FL (Rf w0 g w k) l xs) (hx : xs.length = n * 7) (hn : l.length = n) (hk : k < l.length) {A : Option Addr} {c : Nat} (hA : NwR (g + 1) w (l[k]'hk).type.elem A) :
    FL (Rf w0 g w (k + 1)) l (set7 xs k (.int .i64 (l[k]'hk).num) (.string (bs (l[k]'hk).name)) (.int .i64 (l[k]'hk).type.kind) (.int .i64 (l[k]'hk).type.size) (.string (bs (l[k]'hk).type.name)) (.slice A (l[k]'hk).type.elem.length c) (.bool (l[k]'hk).opt)) := fun j hj => by
  by_cases e : j = k
  · subst e
    exact ⟨A, c, FL1.set_same _ _ _ hx (by omega), by unfold Rf; rw [if_pos (Nat.lt_succ_self _)]; exact hA⟩
  · obtain ⟨A', c', h1, h2⟩ := h j hj
    refine ⟨A', c', h1.set_other e _ _ _ _ _ _ _, ?_⟩
    unfold Rf at h2 ⊢
    by_cases e2 : j < k
    · rw [if_pos e2] at h2; rw [if_pos (by omega)]; exact h2
    · rw [if_neg e2] at h2; rw [if_neg (by omega)]; exact h2
theorem stored7 {w : World} {base g n cap : Nat} {e : TypeId} {xs : List Value} (h : w.ownsRow base e 7 (.slice (some ⟨g, 0, none⟩) n cap) n xs) (k : Nat) (v0 v1 v2 v3 v4 v5 v6 : Value) :
    (((((((w.setCell ⟨g, k * 7, none⟩ v0).setCell ⟨g, k * 7 + 1, none⟩ v1).setCell ⟨g, k * 7 + 2, none⟩ v2).setCell ⟨g, k * 7 + 3, none⟩ v3).setCell ⟨g, k * 7 + 4, none⟩ v4).setCell ⟨g, k * 7 + 5, none⟩ v5).setCell ⟨g, k * 7 + 6, none⟩ v6).ownsRow base e 7 (.slice (some ⟨g, 0, none⟩) n cap) n (set7 xs k v0 v1 v2 v3 v4 v5 v6) ∧ w.grownBy (((((((w.setCell ⟨g, k * 7, none⟩ v0).setCell ⟨g, k * 7 + 1, none⟩ v1).setCell ⟨g, k * 7 + 2, none⟩ v2).setCell ⟨g, k * 7 + 3, none⟩ v3).setCell ⟨g, k * 7 + 4, none⟩ v4).setCell ⟨g, k * 7 + 5, none⟩ v5).setCell ⟨g, k * 7 + 6, none⟩ v6) (some g) := by
  obtain ⟨h0, g0⟩ := h.stored (k * 7) v0
  obtain ⟨h1, g1⟩ := h0.stored (k * 7 + 1) v1
  obtain ⟨h2, g2⟩ := h1.stored (k * 7 + 2) v2
  obtain ⟨h3, g3⟩ := h2.stored (k * 7 + 3) v3
  obtain ⟨h4, g4⟩ := h3.stored (k * 7 + 4) v4
  obtain ⟨h5, g5⟩ := h4.stored (k * 7 + 5) v5
  obtain ⟨h6, g6⟩ := h5.stored (k * 7 + 6) v6
  exact ⟨h6, (((((g0.trans g1).trans g2).trans g3).trans g4).trans g5).trans g6⟩
set_option maxRecDepth 100000 in
set_option maxHeartbeats 4000000 in
theorem eachField_any (l : List Fd) (A : Option Addr) (c : Nat) (w : World) (hl : l.length ≤ 1000000) (hR : Rw FdA 7 w l A)
    (hc : ∀ i (h : i < l.length) v w', FdV w' (l[i]'h) v → Calls Tryz.prog 46 #[v] w' (FtP (l[i]'h) w')) :
    Calls Tryz.prog 45 #[.slice A l.length c, .func (.func 46) #[] #[]] w (EfP l w) := by
  have cC := cloneField_any l A c w hl hR
  unfold EfP
  obtain ⟨n, hn⟩ : ∃ n, l.length = n := ⟨_, rfl⟩
  have HN := Lib.hid hn
  rw [hn] at cC hl ⊢
  clear hn
  go_enter Tryz.func45, Tryz.ntmps45
  go_wp2_with fail
  refine cC.mono ?_
  rintro e w1 ⟨xs, hE, hxl, v', rfl, hown, hb1⟩
  clear cC
  by_cases h0 : n = 0
  · subst h0
    obtain ⟨-, hh⟩ := hown
    have hv : ∃ B d, v' = .slice B 0 d := by
      rcases hh with ⟨h, -⟩ | ⟨g, cap, cur, h, -⟩
      · exact ⟨_, _, h⟩
      · exact ⟨_, _, h⟩
    obtain ⟨B, d, rfl⟩ := hv
    have hnil : l = [] := List.eq_nil_of_length_eq_zero HN.out
    clear hc hh
    go_wp2_with fail
    go_loopw [12] (fun i wr => i = .int .i64 0 ∧ Below w.heap.size w wr) (fun _ _ => 0)
    case atStart => exact ⟨rfl, hb1⟩
    case round =>
      obtain ⟨rfl, hb⟩ := hrel
      go_wp2_with fail
      go_ret
      exact ⟨B, d, rfl, by rw [hnil]; exact NwF.nil _ _ _, hb⟩
  · have hv : ∃ g d, v' = .slice (some ⟨g, 0, none⟩) n d := by
      rcases hown.2 with ⟨-, h⟩ | ⟨g, cap, cur, h, -⟩
      · exact absurd h h0
      · exact ⟨_, _, h⟩
    obtain ⟨g, d, rfl⟩ := hv
    have hg := hown.lt g rfl
    have HE : Hid (FL (Rf w g w1 0) l xs) := Lib.hid fun j hj => by
      obtain ⟨A', c', h1, h2⟩ := hE j hj
      exact ⟨A', c', h1, by unfold Rf; rw [if_neg (by omega)]; exact h2⟩
    clear hE
    go_wp2_with fail
    go_loopw [12] (fun i wr => ∃ (k : Nat) (ys : List Value), k ≤ n ∧ i = .int .i64 (k : Int) ∧ Hid (FL (Rf w g wr k) l ys) ∧ ys.length = n * 7 ∧ wr.ownsRow w.heap.size 47 7 (.slice (some ⟨g, 0, none⟩) n d) n ys ∧ Below w.heap.size w wr) (fun i _ => n - (intOf i).toNat)
    case atStart => exact ⟨0, xs, by omega, rfl, HE, hxl, hown, hb1⟩
    case round =>
      clear HE hown hb1 hxl
      obtain ⟨k, ys, hk, rfl, HE, hyl, hown, hb⟩ := hrel
      by_cases hlt : k < n
      · have hkl : k < l.length := by rw [HN.out]; exact hlt
        obtain ⟨A3, c3, hE1, hP⟩ := HE.out k hkl
        have hP : Rw TyA 4 w (l[k]'hkl).type.elem A3 := by unfold Rf at hP; rw [if_neg (by omega)] at hP; exact hP
        have e0 : wr.cell? ⟨g, k * 7, none⟩ = _ := (hown.cellAt (k * 7) (by omega)).trans hE1.e0
        have e1 : wr.cell? ⟨g, k * 7 + 1, none⟩ = _ := (hown.cellAt (k * 7 + 1) (by omega)).trans hE1.e1
        have e2 : wr.cell? ⟨g, k * 7 + 2, none⟩ = _ := (hown.cellAt (k * 7 + 2) (by omega)).trans hE1.e2
        have e3 : wr.cell? ⟨g, k * 7 + 3, none⟩ = _ := (hown.cellAt (k * 7 + 3) (by omega)).trans hE1.e3
        have e4 : wr.cell? ⟨g, k * 7 + 4, none⟩ = _ := (hown.cellAt (k * 7 + 4) (by omega)).trans hE1.e4
        have e5 : wr.cell? ⟨g, k * 7 + 5, none⟩ = _ := (hown.cellAt (k * 7 + 5) (by omega)).trans hE1.e5
        have e6 : wr.cell? ⟨g, k * 7 + 6, none⟩ = _ := (hown.cellAt (k * 7 + 6) (by omega)).trans hE1.e6
        have hgl := (hown.lt g rfl).2
        have hstep := fun W A9 c9 (hE9 : FL (Rf w g W k) l ys) => Rf.step (c := c9) (A := A9) hE9 hyl HN.out hkl
        have HS := Lib.hid hstep
        have cN := hc k hkl
        generalize l[k]'hkl = t at *
        have hW1 := ab1 wr (Obj.cells #[.int .i64 t.num, .string (bs t.name), .int .i64 t.type.kind, .int .i64 t.type.size, .string (bs t.type.name), .slice A3 t.type.elem.length c3, .bool t.opt] 47)
        have cN2 := cN _ (wr.alloc (Obj.cells #[.int .i64 t.num, .string (bs t.name), .int .i64 t.type.kind, .int .i64 t.type.size, .string (bs t.type.name), .slice A3 t.type.elem.length c3, .bool t.opt] 47)) ⟨A3, c3, rfl, hP.next (fun x p => TyA.next (Below.next hb hW1) x p)⟩
        have hz : wr.heap.size ≤ (wr.alloc (Obj.cells #[.int .i64 t.num, .string (bs t.name), .int .i64 t.type.kind, .int .i64 t.type.size, .string (bs t.type.name), .slice A3 t.type.elem.length c3, .bool t.opt] 47)).heap.size := hW1.size
        clear hstep cN hE1 hP hkl
        go_wp2_with fail
        refine cN2.mono ?_
        rintro e w3 ⟨A9, c9, rfl, hN9, hb9⟩
        have hb3 := Below.next hW1 hb9
        have hb4 := Below.next hb hb3
        have hown3 := hown.kept (gb_of hb3 none) (.inr (by simp [Value.ownBlock]))
        have f0 := hown3.frozenAt (k * 7)
        have f1 := hown3.frozenAt (k * 7 + 1)
        have f2 := hown3.frozenAt (k * 7 + 2)
        have f3 := hown3.frozenAt (k * 7 + 3)
        have f4 := hown3.frozenAt (k * 7 + 4)
        have f5 := hown3.frozenAt (k * 7 + 5)
        have f6 := hown3.frozenAt (k * 7 + 6)
        replace e0 := cell_next hb3 e0
        replace e1 := cell_next hb3 e1
        replace e2 := cell_next hb3 e2
        replace e3 := cell_next hb3 e3
        replace e4 := cell_next hb3 e4
        replace e5 := cell_next hb3 e5
        replace e6 := cell_next hb3 e6
        obtain ⟨hst, hgr⟩ := stored7 hown3 k (.int .i64 t.num) (.string (bs t.name)) (.int .i64 t.type.kind) (.int .i64 t.type.size) (.string (bs t.type.name)) (.slice A9 t.type.elem.length c9) (.bool t.opt)
        have hE3 := Rf.next HE.out (Kpl.of (lo := g + 1) hb3)
        have hN3 : NwR (g + 1) w3 t.type.elem A9 := hN9.low (Nat.le_trans (Nat.succ_le_of_lt hgl) hz)
        have hE4 := Lib.hid (HS.out _ A9 c9 (Rf.next hE3 (Kpl.gb hgr)) (hN3.next (Kpl.gb hgr)))
        have hb5 := hb4.grown hgr hb4.size (fun j hj => by cases hj; exact (hown.lt g rfl).1)
        clear cN2 hW1 hb3 hb9 hb hown hE3
        go_wp2_with fail
        go_roundw
        case rel => exact ⟨k + 1, _, by omega, by go_num, hE4, by rw [set7_len]; exact hyl, hst, hb5⟩
        case measure => simp [intOf]; omega
      · obtain rfl : k = n := by omega
        have hF := NwF.row HN.out hown (fun j hj => by
          obtain ⟨A', c', h1, h2⟩ := HE.out j hj
          unfold Rf at h2
          rw [if_pos (by rw [← HN.out]; exact hj)] at h2
          exact ⟨A', c', h1, h2⟩)
        clear hc HE
        go_wp2_with fail
        go_ret
        exact ⟨_, _, rfl, hF, hb⟩
set_option maxRecDepth 100000 in
set_option maxHeartbeats 4000000 in
theorem newField_any (t : Fd) (v : Value) (w : World) (hf : fewT t.type = true) (hv : FdV w t v) :
    Calls Tryz.prog 46 #[v] w (FtP t w) := by
  obtain ⟨A, c, rfl, hR⟩ := hv
  have z1 : (w.alloc (Obj.cells #[.int .i64 t.num, .string (bs t.name), .int .i64 t.type.kind, .int .i64 t.type.size, .string (bs t.type.name), .slice A t.type.elem.length c, .bool t.opt] 47)).heap.size = w.heap.size + 1 := by simp
  have hab := ab2 w (Obj.cells #[.int .i64 t.num, .string (bs t.name), .int .i64 t.type.kind, .int .i64 t.type.size, .string (bs t.type.name), .slice A t.type.elem.length c, .bool t.opt] 47) (Obj.cells #[.int .i64 0, .string ⟨#[]⟩, .int .i64 0, .int .i64 0, .string ⟨#[]⟩, .slice none 0 0, .bool false] 47)
  have B1 := (Bx.new7 w 47 (.int .i64 t.num) (.string (bs t.name)) (.int .i64 t.type.kind) (.int .i64 t.type.size) (.string (bs t.type.name)) (.slice A t.type.elem.length c) (.bool t.opt)).next (ab1 _ (Obj.cells #[.int .i64 0, .string ⟨#[]⟩, .int .i64 0, .int .i64 0, .string ⟨#[]⟩, .slice none 0 0, .bool false] 47))
  have B2 := Bx.new7 (w.alloc (Obj.cells #[.int .i64 t.num, .string (bs t.name), .int .i64 t.type.kind, .int .i64 t.type.size, .string (bs t.type.name), .slice A t.type.elem.length c, .bool t.opt] 47)) 47 (.int .i64 0) (.string ⟨#[]⟩) (.int .i64 0) (.int .i64 0) (.string ⟨#[]⟩) (.slice none 0 0) (.bool false)
  rw [z1] at B2
  have cE := newType_any (SizeOf.sizeOf t.type + 1) t.type _ _ (Nat.lt_succ_self _) hf ⟨A, c, rfl, hR.next fun x p => TyA.next hab x p⟩
  have hz : w.heap.size + 1 + 1 ≤ ((w.alloc (Obj.cells #[.int .i64 t.num, .string (bs t.name), .int .i64 t.type.kind, .int .i64 t.type.size, .string (bs t.type.name), .slice A t.type.elem.length c, .bool t.opt] 47)).alloc (Obj.cells #[.int .i64 0, .string ⟨#[]⟩, .int .i64 0, .int .i64 0, .string ⟨#[]⟩, .slice none 0 0, .bool false] 47)).heap.size := by simp
  unfold FtP
  unfold NtP at cE
  clear hf hR z1
  generalize t.type.elem = e at *
  go_enter Tryz.func46, Tryz.ntmps46
  go_wp2_with fail
  refine cE.mono ?_
  rintro e3 w3 ⟨A9, c9, rfl, hN9, hb9⟩
  have hb3 := Below.next hab hb9
  have C1 := B1.next hb9
  have C2 := B2.next hb9
  have p0 := C1.c 0 rfl
  have p1 := C1.c 1 rfl
  have p2 := C1.c 2 rfl
  have p3 := C1.c 3 rfl
  have p4 := C1.c 4 rfl
  have p5 := C1.c 5 rfl
  have p6 := C1.c 6 rfl
  have q2 := C1.f 2 rfl
  have q3 := C1.f 3 rfl
  have q4 := C1.f 4 rfl
  have q5 := C1.f 5 rfl
  have r0 := C2.c 0 rfl
  have s0 := C2.f 0 rfl
  have r1 := C2.c 1 rfl
  have s1 := C2.f 1 rfl
  have r2 := C2.c 2 rfl
  have s2 := C2.f 2 rfl
  have r3 := C2.c 3 rfl
  have s3 := C2.f 3 rfl
  have r4 := C2.c 4 rfl
  have s4 := C2.f 4 rfl
  have r5 := C2.c 5 rfl
  have s5 := C2.f 5 rfl
  have r6 := C2.c 6 rfl
  have s6 := C2.f 6 rfl
  have l1 := C1.lt
  have l2 := C2.lt
  clear cE
  go_wp2_with fail
  refine bodyPost_ret (v := .agg #[.int .i64 t.num, .string (bs t.name), .int .i64 t.type.kind, .int .i64 t.type.size, .string (bs t.type.name), .slice A9 e.length c9, .bool t.opt]) (by simp [results, Tryz.results46, go_sem, r0, r1, r2, r3, r4, r5, r6]) rfl ⟨A9, c9, rfl, ?_, ?_⟩
  · refine (hN9.next ?_).low hab.size
    iterate 11 refine Kpl.set ?_ (by first | (show w.heap.size < _; omega) | (show w.heap.size + 1 < _; omega)) _
    exact Kpl.of (Below.refl _ _)
  · iterate 11 refine Below.setCell ?_ (by simp) _
    exact hb3
end Go.Proofs.YthbhbpcjcnkkkaaGreatDoor

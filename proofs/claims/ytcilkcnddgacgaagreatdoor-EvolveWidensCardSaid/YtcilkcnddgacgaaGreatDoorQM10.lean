/-
  The reference's sizes of types: level, FewType. No conditions beyond those that each names.
-/
import Derived.Test.YtcilkcnddgacgaaGreatDoorQM09
import Derived.Test.YtcilkcnddgacgaaGreatDoorQM05
namespace Go.Proofs.YtcilkcnddgacgaaGreatDoor
open Go.RowKit
/-- How many lists a type has within one another. -/
def dpt : Ty → Nat
  | .mk _ _ _ e => dpts e
where dpts : List Ty → Nat
  | [] => 0
  | t :: ts => max (1 + dpt t) (dpts ts)
theorem foldl_max_snoc (l : List Nat) (x : Nat) : (l ++ [x]).foldl max 0 = max (l.foldl max 0) x := by rw [List.foldl_append]; rfl
theorem size_elem {t : Ty} {i : Nat} (h : i < t.elem.length) : SizeOf.sizeOf (t.elem[i]'h) < SizeOf.sizeOf t := by
  obtain ⟨k, s, n, e⟩ := t
  have h1 : SizeOf.sizeOf (e[i]'h) < SizeOf.sizeOf e := List.sizeOf_lt_of_mem (List.getElem_mem h)
  have h2 := Ty.mk.sizeOf_spec k s n e
  show SizeOf.sizeOf (e[i]'h) < SizeOf.sizeOf (Ty.mk k s n e)
  omega
/-- Go's own bound of a slice's length, at each list of elements. -/
def lok : Ty → Prop
  | .mk _ _ _ e => e.length ≤ 9223372036854775807 ∧ loks e
where loks : List Ty → Prop
  | [] => True
  | t :: ts => lok t ∧ loks ts
theorem loks_get : ∀ {e : List Ty} {i : Nat} (h : i < e.length), lok.loks e → lok (e[i]'h)
  | t :: ts, 0, _, hl => by rw [lok.loks] at hl; exact hl.1
  | t :: ts, i + 1, h, hl => by
    rw [lok.loks] at hl
    have := loks_get (e := ts) (i := i) (by simpa using h) hl.2
    simpa using this
theorem lok_get {t : Ty} (hl : lok t) {i : Nat} (h : i < t.elem.length) : lok (t.elem[i]'h) := by
  obtain ⟨k, s, n, e⟩ := t
  rw [lok] at hl
  exact loks_get h hl.2
theorem lok_len {t : Ty} (hl : lok t) : t.elem.length ≤ 9223372036854775807 := by
  obtain ⟨k, s, n, e⟩ := t
  rw [lok] at hl
  exact hl.1
/-- Small enough to be examined. -/
def fewT : Ty → Bool
  | .mk k s n e => decide (n.length ≤ 40) && (decide (e.length ≤ 3) && (decide (min 20 (dpt (.mk k s n e)) ≤ 8) && fews e))
where fews : List Ty → Bool
  | [] => true
  | t :: ts => fewT t && fews ts
theorem fews_all : ∀ e : List Ty, fewT.fews e = e.all fewT
  | [] => by rw [fewT.fews]; rfl
  | t :: ts => by rw [fewT.fews, fews_all ts]; rfl
theorem fewT_eq (t : Ty) : fewT t = (decide (t.name.length ≤ 40) && (decide (t.elem.length ≤ 3) && (decide (min 20 (dpt t) ≤ 8) && t.elem.all fewT))) := by
  obtain ⟨k, s, n, e⟩ := t
  rw [fewT, fews_all]
  rfl
end Go.Proofs.YtcilkcnddgacgaaGreatDoor
/-
  Equality of types: the developers' Same, and the reference's. No conditions beyond those that each names.
-/
namespace Go.Proofs.YtcilkcnddgacgaaGreatDoor
open Go.RowKit
/-- Are the types equal? -/
noncomputable def eqT (t u : Ty) : Bool := @decide (t = u) (Classical.propDecidable _)
theorem eqT_iff {t u : Ty} : eqT t u = true ↔ t = u := @decide_eq_true_iff _ (Classical.propDecidable _)
theorem eqT_no {t u : Ty} (h : t ≠ u) : eqT t u = false := by
  cases e : eqT t u
  · rfl
  · exact absurd (eqT_iff.1 e) h
theorem eqT_mk (k s : Int) (n : List UInt8) (e e' : List Ty) (r : Bool) (hr : r = true ↔ e = e') : eqT (.mk k s n e) (.mk k s n e') = r := by
  rw [Bool.eq_iff_iff, eqT_iff, hr]
  exact ⟨fun h => by injection h, fun h => by rw [h]⟩
theorem exR (p : Prop) : ∃ r : Bool, r = true ↔ p := ⟨_, @decide_eq_true_iff p (Classical.propDecidable _)⟩
theorem take_ne {α : Type} {l m : List α} {k : Nat} (h : k < l.length) (h' : k < m.length) (e : l[k]'h ≠ m[k]'h') : l ≠ m := fun h2 => by subst h2; exact e rfl
theorem take_eq {α : Type} {l m : List α} {k : Nat} (h : k < l.length) (h' : k < m.length) (h1 : l.take k = m.take k) (e : l[k]'h = m[k]'h') : l.take (k + 1) = m.take (k + 1) := by
  rw [List.take_succ_eq_append_getElem h, List.take_succ_eq_append_getElem h', h1, e]
set_option maxRecDepth 100000 in
set_option maxHeartbeats 4000000 in
theorem equalFunc_any (e e' : List Ty) (A : Option Addr) (c : Nat) (A' : Option Addr) (c' : Nat) (w : World) (hR : Rw TyA 4 w e A) (hR' : Rw TyA 4 w e' A') (hl : e.length ≤ 9223372036854775807) (hl' : e'.length ≤ 9223372036854775807)
    (hc : ∀ i (h : i < e.length) (h' : i < e'.length) v v' w', TyV w' (e[i]'h) v → TyV w' (e'[i]'h') v' → Calls Tryz.prog 51 #[v, v'] w' (Ib (.bool (eqT (e[i]'h) (e'[i]'h'))) w')) (r : Bool) (hr : r = true ↔ e = e') :
    Calls Tryz.prog 94 #[.slice A e.length c, .slice A' e'.length c', .func (.func 51) #[] #[]] w (Ib (.bool r) w) := by
  obtain ⟨q, hq⟩ : ∃ q, e.length = q := ⟨_, rfl⟩
  obtain ⟨q', hq'⟩ : ∃ q', e'.length = q' := ⟨_, rfl⟩
  have HQ := Lib.hid hq
  have HQ' := Lib.hid hq'
  rw [hq] at hl
  rw [hq'] at hl'
  rw [hq, hq']
  by_cases h0 : q = q'
  · subst h0
    have HR := Lib.hid hr
    have d0 : ((q : Int) != (q : Int)) = false := by simp
    have H0 := Lib.hid (show e.take 0 = e'.take 0 by simp)
    clear hr hq hq'
    go_enter Tryz.func94, Tryz.ntmps94
    go_wp2_with fail
    go_loopw [17] (fun i wr => ∃ k : Nat, k ≤ q ∧ i = .int .i64 (k : Int) ∧ Hid (e.take k = e'.take k) ∧ Below w.heap.size w wr) (fun i _ => q - (intOf i).toNat)
    case atStart => exact ⟨0, by omega, rfl, H0, Below.refl _ _⟩
    case round =>
      obtain ⟨k, hk, rfl, HK, hb⟩ := hrel
      clear H0
      by_cases hlt : k < q
      · have h1 : k < e.length := by rw [HQ.out]; exact hlt
        have h2 : k < e'.length := by rw [HQ'.out]; exact hlt
        obtain ⟨a, rfl, hA⟩ := hR.get h1
        obtain ⟨a', rfl, hA'⟩ := hR'.get h2
        obtain ⟨B, d, e0, e1, e2, e3, hV⟩ := (TyA.next hb _ _ hA).val
        obtain ⟨B', d', f0, f1, f2, f3, hV'⟩ := (TyA.next hb _ _ hA').val
        have hblk : (a.add (k * 4)).block < wr.heap.size := blk_lt e0
        have hblk' : (a'.add (k * 4)).block < wr.heap.size := blk_lt f0
        have cS := fun o p => hc k h1 h2 _ _ _ (hV.next (ab2 wr o p)) (hV'.next (ab2 wr o p))
        have HN := Lib.hid (take_ne h1 h2)
        have HT := Lib.hid (take_eq h1 h2 HK.out)
        generalize e[k]'h1 = t at *
        generalize e'[k]'h2 = u at *
        obtain ⟨b, hbb⟩ : ∃ b, eqT t u = b := ⟨_, rfl⟩
        rw [hbb] at cS
        have HB := Lib.hid hbb
        clear hbb hA hA' hc
        have hab := ab2 wr (Obj.cells #[.int .i64 t.kind, .int .i64 t.size, .string (bs t.name), .slice B t.elem.length d] 53) (Obj.cells #[.int .i64 u.kind, .int .i64 u.size, .string (bs u.name), .slice B' u.elem.length d'] 53)
        have cS2 := cS (Obj.cells #[.int .i64 t.kind, .int .i64 t.size, .string (bs t.name), .slice B t.elem.length d] 53) (Obj.cells #[.int .i64 u.kind, .int .i64 u.size, .string (bs u.name), .slice B' u.elem.length d'] 53)
        clear cS
        go_wp2_with fail
        refine cS2.mono ?_
        rintro e9 w9 ⟨rfl, hb9⟩
        have hb5 := Below.next (Below.next hb hab) hb9
        clear cS2 e0 e1 e2 e3 f0 f1 f2 f3 hblk hblk'
        cases b
        · have hF : r = false := by
            cases r
            · rfl
            · exact absurd (HR.out.1 rfl) (HN.out fun h => by rw [eqT_iff.2 h] at HB; exact Bool.noConfusion HB.out)
          subst hF
          go_wp2_with fail
          go_ret
          exact ⟨rfl, hb5⟩
        · have HT2 := Lib.hid (HT.out (eqT_iff.1 HB.out))
          go_wp2_with fail
          go_roundw
          case rel => exact ⟨k + 1, by omega, by go_num, HT2, hb5⟩
          case measure => simp [intOf]; omega
      · obtain rfl : k = q := by omega
        have hF : r = true := HR.out.2 (by
          have := HK.out
          rwa [List.take_of_length_le (by rw [HQ.out]; exact Nat.le_refl _), List.take_of_length_le (by rw [HQ'.out]; exact Nat.le_refl _)] at this)
        subst hF
        clear hc
        go_wp2_with fail
        go_ret
        exact ⟨rfl, hb⟩
  · have hF : r = false := by
      cases r
      · rfl
      · have := hr.1 rfl
        rw [← hq, ← hq', this] at h0
        exact absurd rfl h0
    have d0 : ((q : Int) != (q' : Int)) = true := by simp; omega
    subst hF
    clear hr hq hq' hc
    go_enter Tryz.func94, Tryz.ntmps94
    go_wp2_with fail
    go_ret
    exact ⟨rfl, Below.refl _ _⟩
set_option maxRecDepth 100000 in
set_option maxHeartbeats 4000000 in
theorem devSame_any (N : Nat) : ∀ (t u : Ty) (v v' : Value) (w : World), SizeOf.sizeOf t < N → lok t → lok u → TyV w t v → TyV w u v' →
    Calls Tryz.prog 51 #[v, v'] w (Ib (.bool (eqT t u)) w) := by
  induction N with
  | zero => intro t u v v' w h; omega
  | succ N ih =>
    intro t u v v' w hN hl hl' hv hv'
    have hl1 := lok_len hl
    have hl2 := lok_len hl'
    have hg1 := fun i h => lok_get (t := t) (i := i) hl h
    have hg2 := fun i h => lok_get (t := u) (i := i) hl' h
    have hs1 := fun i h => size_elem (t := t) (i := i) h
    obtain ⟨A, c, rfl, hR⟩ := hv
    obtain ⟨A', c', rfl, hR'⟩ := hv'
    obtain ⟨k, s, n, e⟩ := t
    obtain ⟨k', s', n', e'⟩ := u
    simp only [Ty.kind, Ty.size, Ty.name, Ty.elem] at *
    have hab := fun o p => ab2 w o p
    by_cases h1 : k = k'
    · subst h1
      have b1 : (k == k) = true := by simp
      by_cases h2 : s = s'
      · subst h2
        have b2 : (s == s) = true := by simp
        by_cases h3 : n = n'
        · subst h3
          have b3 := sq_t n
          obtain ⟨r, hr⟩ := exR (e = e')
          rw [eqT_mk k s n e e' r hr]
          have cE := fun o p => equalFunc_any e e' A c A' c' _ (hR.next (fun x y => TyA.next (hab o p) x y)) (hR'.next (fun x y => TyA.next (hab o p) x y)) hl1 hl2 (fun i h h' v v' w' hV hV' => ih _ _ v v' w' (by have := hs1 i h; omega) (hg1 i h) (hg2 i h') hV hV') r hr
          clear ih hg1 hg2 hs1 hr hR hR' hl hl' hN
          have cE2 := cE (Obj.cells #[.int .i64 k, .int .i64 s, .string (bs n), .slice A e.length c] 53) (Obj.cells #[.int .i64 k, .int .i64 s, .string (bs n), .slice A' e'.length c'] 53)
          have hab2 := hab (Obj.cells #[.int .i64 k, .int .i64 s, .string (bs n), .slice A e.length c] 53) (Obj.cells #[.int .i64 k, .int .i64 s, .string (bs n), .slice A' e'.length c'] 53)
          clear cE hab
          generalize e.length = q at *
          generalize e'.length = q' at *
          go_enter Tryz.func51, Tryz.ntmps51
          go_wp2_with fail
          refine cE2.mono ?_
          rintro e9 w9 ⟨rfl, hb9⟩
          have hb5 := Below.next hab2 hb9
          go_wp2_with fail
          go_ret
          exact ⟨rfl, hb5⟩
        · have b3 := sq_f h3
          rw [eqT_no (fun h => h3 (by injection h))]
          clear ih hg1 hg2 hs1 hR hR' hl hl' hN h3
          go_enter Tryz.func51, Tryz.ntmps51
          go_wp2_with fail
          go_ret
          exact ⟨rfl, hab _ _⟩
      · have b2 : (s == s') = false := by simpa using h2
        rw [eqT_no (fun h => h2 (by injection h))]
        clear ih hg1 hg2 hs1 hR hR' hl hl' hN h2
        go_enter Tryz.func51, Tryz.ntmps51
        go_wp2_with fail
        go_ret
        exact ⟨rfl, hab _ _⟩
    · have b1 : (k == k') = false := by simpa using h1
      rw [eqT_no (fun h => h1 (by injection h))]
      clear ih hg1 hg2 hs1 hR hR' hl hl' hN h1
      go_enter Tryz.func51, Tryz.ntmps51
      go_wp2_with fail
      go_ret
      exact ⟨rfl, hab _ _⟩
end Go.Proofs.YtcilkcnddgacgaaGreatDoor
/-
  Which type widens which: mathematics. No conditions beyond those that each names.
-/
namespace Go.Proofs.YtcilkcnddgacgaaGreatDoor
/-- The second type widens the first. -/
inductive Wd : Ty → Ty → Prop where
  | same (t : Ty) : Wd t t
  | num (k s s' : Int) (n : List UInt8) (e : List Ty) : k = 2 ∨ k = 3 ∨ k = 4 → s ≤ s' → Wd (.mk k s n e) (.mk k s' n e)
  | list (s s' : Int) (n : List UInt8) (t u : Ty) : s ≤ s' → Wd t u → Wd (.mk 5 s n [t]) (.mk 5 s' n [u])
theorem Wd.trans {a b c : Ty} (h : Wd a b) (k : Wd b c) : Wd a c := by
  induction h generalizing c with
  | same t => exact k
  | num k s s' n e hk hs =>
    cases k with
    | same _ => exact .num _ _ _ _ _ hk hs
    | num _ _ s2 _ _ _ h2 => exact .num _ _ _ _ _ hk (Int.le_trans hs h2)
    | list _ _ _ t u _ _ => rcases hk with h | h | h <;> cases h
  | list s s' n t u hs _ ih =>
    cases k with
    | same _ => rename_i h; exact .list _ _ _ _ _ hs h
    | num _ _ s2 _ _ h2 _ => rcases h2 with h | h | h <;> cases h
    | list _ s2 _ _ u2 h2 h3 => exact .list _ _ _ _ _ (Int.le_trans hs h2) (ih h3)
noncomputable def wdB (t u : Ty) : Bool := @decide (Wd t u) (Classical.propDecidable _)
theorem wdB_iff {t u : Ty} : wdB t u = true ↔ Wd t u := @decide_eq_true_iff _ (Classical.propDecidable _)
theorem wdB_of {t u : Ty} {p : Bool} (h : p = true ↔ Wd t u) : wdB t u = p := by rw [Bool.eq_iff_iff, wdB_iff, h]
theorem wdB_no {t u : Ty} (h : ¬ Wd t u) : wdB t u = false := by rw [Bool.eq_false_iff]; exact fun e => h (wdB_iff.1 e)
theorem wdB_self (t : Ty) : wdB t t = true := wdB_iff.2 (.same t)
theorem wdB_trans (a b c : Ty) : (!wdB a b || !wdB b c || wdB a c) = true := by
  cases h1 : wdB a b
  · rfl
  · cases h2 : wdB b c
    · rfl
    · rw [show wdB a c = true from wdB_iff.2 ((wdB_iff.1 h1).trans (wdB_iff.1 h2))]; rfl
/-- Two lists of one. -/
theorem wd_list {s s' : Int} {n n' : List UInt8} {t u : Ty} : Wd (.mk 5 s n [t]) (.mk 5 s' n' [u]) ↔ n = n' ∧ s ≤ s' ∧ Wd t u := by
  constructor
  · intro h
    cases h with
    | same => exact ⟨rfl, Int.le_refl _, .same _⟩
    | num _ _ _ _ _ h2 _ => rcases h2 with h | h | h <;> cases h
    | list _ _ _ _ _ h1 h2 => exact ⟨rfl, h1, h2⟩
  · rintro ⟨rfl, h1, h2⟩
    exact .list _ _ _ _ _ h1 h2
/-- A number or a text and something: the sizes' maximum makes them the same. -/
theorem wd_num {k s s' k' : Int} {n n' : List UInt8} {e e' : List Ty} (hk : k = 2 ∨ k = 3 ∨ k = 4) : Wd (.mk k s n e) (.mk k' s' n' e') ↔ Ty.mk k (max s s') n e = .mk k' s' n' e' := by
  constructor
  · intro h
    cases h with
    | same => rw [Int.max_self]
    | num _ _ _ _ _ _ h2 => rw [Int.max_eq_right h2]
    | list _ _ _ _ _ _ _ => rcases hk with h | h | h <;> cases h
  · intro h
    injection h with h1 h2 h3 h4
    subst h1 h3 h4
    exact .num _ _ _ _ _ hk (by omega)
/-- Anything else: only what is the same. -/
theorem wd_else {t u : Ty} (hk : ¬ (t.kind = 2 ∨ t.kind = 3 ∨ t.kind = 4)) (hl : ¬ (t.kind = 5 ∧ t.elem.length = 1 ∧ u.kind = 5 ∧ u.elem.length = 1)) : Wd t u ↔ t = u := by
  constructor
  · intro h
    cases h with
    | same => rfl
    | num _ _ _ _ _ h2 _ => exact absurd h2 hk
    | list _ _ _ _ _ _ _ => exact absurd ⟨rfl, rfl, rfl, rfl⟩ hl
  · rintro rfl; exact .same _
end Go.Proofs.YtcilkcnddgacgaaGreatDoor
/-
  The reference's Same. No conditions beyond those that each names.
-/
namespace Go.Proofs.YtcilkcnddgacgaaGreatDoor
open Go.RowKit
set_option maxRecDepth 100000 in
set_option maxHeartbeats 4000000 in
theorem refSame_any (N : Nat) : ∀ (t u : Ty) (v v' : Value) (w : World), SizeOf.sizeOf t < N → lok t → lok u → TyV w t v → TyV w u v' →
    Calls Tryz.prog 52 #[v, v'] w (Ib (.bool (eqT t u)) w) := by
  induction N with
  | zero => intro t u v v' w h; omega
  | succ N ih =>
    intro t u v v' w hN hl hl' hv hv'
    have hl1 := lok_len hl
    have hl2 := lok_len hl'
    have hg1 := fun i h => lok_get (t := t) (i := i) hl h
    have hg2 := fun i h => lok_get (t := u) (i := i) hl' h
    have hs1 := fun i h => size_elem (t := t) (i := i) h
    obtain ⟨A, c, rfl, hR⟩ := hv
    obtain ⟨A', c', rfl, hR'⟩ := hv'
    obtain ⟨k, s, n, e⟩ := t
    obtain ⟨k', s', n', e'⟩ := u
    simp only [Ty.kind, Ty.size, Ty.name, Ty.elem] at *
    have hab := fun o p => ab2 w o p
    obtain ⟨q, hq⟩ : ∃ q, e.length = q := ⟨_, rfl⟩
    obtain ⟨q', hq'⟩ : ∃ q', e'.length = q' := ⟨_, rfl⟩
    have HQ := Lib.hid hq
    have HQ' := Lib.hid hq'
    rw [hq] at hl1 ⊢
    rw [hq'] at hl2 ⊢
    by_cases h1 : k = k'
    · subst h1
      have b1 : (k != k) = false := by simp
      by_cases h2 : s = s'
      · subst h2
        have b2 : (s != s) = false := by simp
        by_cases h3 : n = n'
        · subst h3
          have b3 := sn_t n
          by_cases h4 : q = q'
          · subst h4
            have b4 : ((q : Int) != (q : Int)) = false := by simp
            obtain ⟨r, hr⟩ := exR (e = e')
            rw [eqT_mk k s n e e' r hr]
            have z1 : (w.alloc (Obj.cells #[.int .i64 k, .int .i64 s, .string (bs n), .slice A q c] 53)).heap.size = w.heap.size + 1 := by simp
            have B1 := (Bx.new4 w 53 (.int .i64 k) (.int .i64 s) (.string (bs n)) (.slice A q c)).next (ab1 _ (Obj.cells #[.int .i64 k, .int .i64 s, .string (bs n), .slice A' q c'] 53))
            have B2 := Bx.new4 (w.alloc (Obj.cells #[.int .i64 k, .int .i64 s, .string (bs n), .slice A q c] 53)) 53 (.int .i64 k) (.int .i64 s) (.string (bs n)) (.slice A' q c')
            rw [z1] at B2
            have hab2 := hab (Obj.cells #[.int .i64 k, .int .i64 s, .string (bs n), .slice A q c] 53) (Obj.cells #[.int .i64 k, .int .i64 s, .string (bs n), .slice A' q c'] 53)
            have HR := Lib.hid hr
            have H0 := Lib.hid (show e.take 0 = e'.take 0 by simp)
            clear hr hq hq' z1 hl hl' hab
            go_enter Tryz.func52, Tryz.ntmps52
            go_wp2_with fail
            go_loopw [5] (fun i wr => ∃ y : Nat, y ≤ q ∧ i = .int .i64 (y : Int) ∧ Hid (e.take y = e'.take y) ∧ Bx wr w.heap.size [.int .i64 k, .int .i64 s, .string (bs n), .slice A q c] ∧ Bx wr (w.heap.size + 1) [.int .i64 k, .int .i64 s, .string (bs n), .slice A' q c'] ∧ Below w.heap.size w wr) (fun i _ => q - (intOf i).toNat)
            case atStart => exact ⟨0, by omega, rfl, H0, B1, B2, hab2⟩
            case round =>
              obtain ⟨y, hy, rfl, HK, hB1, hB2, hb⟩ := hrel
              clear H0 B1 B2 hab2
              have c3 := hB1.c 3 rfl
              have l1 := hB1.lt
              by_cases hlt : y < q
              · have h1 : y < e.length := by rw [HQ.out]; exact hlt
                have h2 : y < e'.length := by rw [HQ'.out]; exact hlt
                obtain ⟨a, rfl, hA⟩ := hR.get h1
                obtain ⟨a', rfl, hA'⟩ := hR'.get h2
                obtain ⟨B, d, e0, e1, e2, e3, hV⟩ := (TyA.next hb _ _ hA).val
                obtain ⟨B', d', f0, f1, f2, f3, hV'⟩ := (TyA.next hb _ _ hA').val
                have HN := Lib.hid (take_ne h1 h2)
                have HT := Lib.hid (take_eq h1 h2 HK.out)
                have cS := fun W' (hb9 : Below wr.heap.size wr W') => ih (e[y]'h1) (e'[y]'h2) _ _ W' (by have := hs1 y h1; omega) (hg1 y h1) (hg2 y h2) (hV.next hb9) (hV'.next hb9)
                generalize e[y]'h1 = t at *
                generalize e'[y]'h2 = u at *
                obtain ⟨b, hbb⟩ : ∃ b, eqT t u = b := ⟨_, rfl⟩
                rw [hbb] at cS
                have HB := Lib.hid hbb
                have hy0 : ¬ (y : Int) < 0 := by omega
                have hyq : ¬ (q : Int) ≤ (y : Int) := by omega
                have hyd : decide ((q : Int) ≤ (y : Int)) = false := by rw [decide_eq_false_iff_not]; exact hyq
                clear hbb hA hA' hg1 hg2 hs1 hN ih h1 h2
                go_upto_region 6 with (fail)
                refine wp_region_on (by kernel_rfl) (FF [(2, Fact.at_ wr (.pointer (some ⟨w.heap.size, 0, none⟩))), (3, Fact.at_ wr (.pointer (some ⟨w.heap.size + 1, 0, none⟩))), (5, Fact.at_ wr (.int .i64 (y : Int))), (41, Fact.at_ wr (.pointer (some ⟨w.heap.size, 3, none⟩))), (42, Fact.at_ wr (.slice (some a) q c)), (43, Fact.at_ wr (.int .i64 (y : Int))), (44, Fact.at_ wr (.pointer (some (a.add (y * 4))))), (45, Fact.at_ wr (.agg #[.int .i64 t.kind, .int .i64 t.size, .string (bs t.name), .slice B t.elem.length d])), (46, Fact.at_ wr (.pointer (some ⟨w.heap.size + 1, 3, none⟩))), (47, Fact.at_ wr (.slice (some a') q c')), (48, Fact.at_ wr (.int .i64 (y : Int))), (49, Fact.at_ wr (.pointer (some (a'.add (y * 4))))), (50, Fact.at_ wr (.agg #[.int .i64 u.kind, .int .i64 u.size, .string (bs u.name), .slice B' u.elem.length d'])), (51, Fact.at_ wr (.bool b)), (52, Fact.at_ wr (.bool (!b)))]) [2, 3, 5] 53 [41, 42, 43, 44, 45, 46, 47, 48, 49, 50, 51, 52] rfl (by kernel_rfl) (by kernel_rfl) ?_ ?_ ?_
                · intro t9 ht9
                  simp only [List.mem_cons, List.not_mem_nil, or_false] at ht9
                  rcases ht9 with rfl | rfl | rfl
                  · exact ⟨rfl, Below.refl _ _⟩
                  · exact ⟨rfl, Below.refl _ _⟩
                  · exact ⟨rfl, Below.refl _ _⟩
                · refine fcs ⟨at1 2 41 (.pointer (some ⟨w.heap.size, 0, none⟩)) (.pointer (some ⟨w.heap.size, 3, none⟩)) rfl (by first | exact .inl rfl | exact .inr ⟨_, _, _, rfl, rfl, by kernel_rfl, by decide, rfl⟩) (by kernel_rfl) rfl rfl (fun a9 W' hb9 h9 => by simp [execOp, h9] <;> go_simp), ?_⟩
                  refine fcs ⟨at1 41 42 (.pointer (some ⟨w.heap.size, 3, none⟩)) (.slice (some a) q c) rfl (by first | exact .inl rfl | exact .inr ⟨_, _, _, rfl, rfl, by kernel_rfl, by decide, rfl⟩) (by kernel_rfl) rfl rfl (fun a9 W' hb9 h9 => by have g3 := cell_next hb9 (hB1.c 3 rfl); simp [execOp, h9] <;> go_simp), ?_⟩
                  refine fcs ⟨atcopy 5 43 (.int .i64 (y : Int)) (.inl rfl) rfl (by first | exact .inl rfl | exact .inr ⟨_, _, _, rfl, rfl, by kernel_rfl, by decide, rfl⟩) (by kernel_rfl) rfl rfl, ?_⟩
                  refine fcs ⟨at2 42 43 44 (.slice (some a) q c) (.int .i64 (y : Int)) (.pointer (some (a.add (y * 4)))) rfl (by first | exact .inl rfl | exact .inr ⟨_, _, _, rfl, rfl, by kernel_rfl, by decide, rfl⟩) (by kernel_rfl) (by kernel_rfl) rfl rfl rfl (fun a9 W' hb9 h9 h8 => by simp [execOp, h9, h8] <;> go_simp), ?_⟩
                  refine fcs ⟨at1 44 45 (.pointer (some (a.add (y * 4)))) (.agg #[.int .i64 t.kind, .int .i64 t.size, .string (bs t.name), .slice B t.elem.length d]) rfl (by first | exact .inl rfl | exact .inr ⟨_, _, _, rfl, rfl, by kernel_rfl, by decide, rfl⟩) (by kernel_rfl) rfl rfl (fun a9 W' hb9 h9 => by have g0 := cell_next hb9 e0; have g1 := cell_next hb9 e1; have g2 := cell_next hb9 e2; have g3 := cell_next hb9 e3; simp [execOp, h9] <;> go_simp), ?_⟩
                  refine fcs ⟨at1 3 46 (.pointer (some ⟨w.heap.size + 1, 0, none⟩)) (.pointer (some ⟨w.heap.size + 1, 3, none⟩)) rfl (by first | exact .inl rfl | exact .inr ⟨_, _, _, rfl, rfl, by kernel_rfl, by decide, rfl⟩) (by kernel_rfl) rfl rfl (fun a9 W' hb9 h9 => by simp [execOp, h9] <;> go_simp), ?_⟩
                  refine fcs ⟨at1 46 47 (.pointer (some ⟨w.heap.size + 1, 3, none⟩)) (.slice (some a') q c') rfl (by first | exact .inl rfl | exact .inr ⟨_, _, _, rfl, rfl, by kernel_rfl, by decide, rfl⟩) (by kernel_rfl) rfl rfl (fun a9 W' hb9 h9 => by have g3 := cell_next hb9 (hB2.c 3 rfl); simp [execOp, h9] <;> go_simp), ?_⟩
                  refine fcs ⟨atcopy 5 48 (.int .i64 (y : Int)) (.inl rfl) rfl (by first | exact .inl rfl | exact .inr ⟨_, _, _, rfl, rfl, by kernel_rfl, by decide, rfl⟩) (by kernel_rfl) rfl rfl, ?_⟩
                  refine fcs ⟨at2 47 48 49 (.slice (some a') q c') (.int .i64 (y : Int)) (.pointer (some (a'.add (y * 4)))) rfl (by first | exact .inl rfl | exact .inr ⟨_, _, _, rfl, rfl, by kernel_rfl, by decide, rfl⟩) (by kernel_rfl) (by kernel_rfl) rfl rfl rfl (fun a9 W' hb9 h9 h8 => by simp [execOp, h9, h8] <;> go_simp), ?_⟩
                  refine fcs ⟨at1 49 50 (.pointer (some (a'.add (y * 4)))) (.agg #[.int .i64 u.kind, .int .i64 u.size, .string (bs u.name), .slice B' u.elem.length d']) rfl (by first | exact .inl rfl | exact .inr ⟨_, _, _, rfl, rfl, by kernel_rfl, by decide, rfl⟩) (by kernel_rfl) rfl rfl (fun a9 W' hb9 h9 => by have g0 := cell_next hb9 f0; have g1 := cell_next hb9 f1; have g2 := cell_next hb9 f2; have g3 := cell_next hb9 f3; simp [execOp, h9] <;> go_simp), ?_⟩
                  refine fcs ⟨atc2 52 45 50 51 (.agg #[.int .i64 t.kind, .int .i64 t.size, .string (bs t.name), .slice B t.elem.length d]) (.agg #[.int .i64 u.kind, .int .i64 u.size, .string (bs u.name), .slice B' u.elem.length d']) (.bool b) _ rfl rfl (by first | exact .inl rfl | exact .inr ⟨_, _, _, rfl, rfl, by kernel_rfl, by decide, rfl⟩) (by kernel_rfl) (by kernel_rfl) rfl rfl (by kernel_rfl) rfl (fun W' hb9 => cS W' hb9), ?_⟩
                  refine fcs ⟨at1 51 52 (.bool b) (.bool (!b)) rfl (by first | exact .inl rfl | exact .inr ⟨_, _, _, rfl, rfl, by kernel_rfl, by decide, rfl⟩) (by kernel_rfl) rfl rfl (fun a9 W' hb9 h9 => by simp [execOp, h9] <;> go_simp), ?_⟩
                  exact fnl
                intro vv wv hvv hbv
                have hv52 : vv 52 = .bool (!b) := (hvv 52 (by decide)).1
                simp only [lay, List.foldl_cons, List.foldl_nil, List.setIfInBounds_toArray, List.set_cons_succ, List.set_cons_zero, hv52]
                have hb5 := Below.next hb hbv
                have hB3 := hB1.next hbv
                have hB4 := hB2.next hbv
                clear hvv hB1 hB2 e0 e1 e2 e3 f0 f1 f2 f3 cS hb hbv c3 l1
                cases b
                · have hF : r = false := by
                    cases r
                    · rfl
                    · exact absurd (HR.out.1 rfl) (HN.out fun h => by rw [eqT_iff.2 h] at HB; exact Bool.noConfusion HB.out)
                  subst hF
                  go_wp2_with fail
                  go_ret
                  exact ⟨rfl, hb5⟩
                · have HT2 := Lib.hid (HT.out (eqT_iff.1 HB.out))
                  go_wp2_with fail
                  go_roundw
                  case rel => exact ⟨y + 1, by omega, by go_num, HT2, hB3, hB4, hb5⟩
                  case measure => simp [intOf]; omega
              · obtain rfl : y = q := by omega
                have hF : r = true := HR.out.2 (by
                  have := HK.out
                  rwa [List.take_of_length_le (by rw [HQ.out]; exact Nat.le_refl _), List.take_of_length_le (by rw [HQ'.out]; exact Nat.le_refl _)] at this)
                subst hF
                clear ih hg1 hg2 hs1 hN
                go_wp2_with fail
                go_ret
                exact ⟨rfl, hb⟩
          · have b4 : ((q : Int) != (q' : Int)) = true := by simp; omega
            rw [eqT_no (fun h => h4 (by injection h with _ _ _ h; rw [← hq, ← hq', h]))]
            clear ih hg1 hg2 hs1 hR hR' hl hl' hN h4 hq hq'
            go_enter Tryz.func52, Tryz.ntmps52
            go_wp2_with fail
            go_ret
            exact ⟨rfl, hab _ _⟩
        · have b3 := sn_f h3
          have b3e := sq_f h3
          have b3p : ((bs n).toList = (bs n').toList) = False := by rw [toList_bs, toList_bs]; simpa using h3
          rw [eqT_no (fun h => h3 (by injection h))]
          clear ih hg1 hg2 hs1 hR hR' hl hl' hN h3 hq hq'
          go_enter Tryz.func52, Tryz.ntmps52
          go_wp2_with fail
          go_ret
          exact ⟨rfl, hab _ _⟩
      · have b2 : (s != s') = true := by simpa using h2
        rw [eqT_no (fun h => h2 (by injection h))]
        clear ih hg1 hg2 hs1 hR hR' hl hl' hN h2 hq hq'
        go_enter Tryz.func52, Tryz.ntmps52
        go_wp2_with fail
        go_ret
        exact ⟨rfl, hab _ _⟩
    · have b1 : (k != k') = true := by simpa using h1
      rw [eqT_no (fun h => h1 (by injection h))]
      clear ih hg1 hg2 hs1 hR hR' hl hl' hN h1 hq hq'
      go_enter Tryz.func52, Tryz.ntmps52
      go_wp2_with fail
      go_ret
      exact ⟨rfl, hab _ _⟩
end Go.Proofs.YtcilkcnddgacgaaGreatDoor
/-
  The reference's equality of element types. No conditions beyond those that each names.
-/
namespace Go.Proofs.YtcilkcnddgacgaaGreatDoor
open Go.RowKit
set_option maxRecDepth 100000 in
set_option maxHeartbeats 4000000 in
theorem refSameL_any (e e' : List Ty) (q : Nat) (hq : e.length = q) (hq' : e'.length = q) (hl1 : q ≤ 9223372036854775807) (A : Option Addr) (c : Nat) (A' : Option Addr) (c' : Nat) (w : World) (hR : Rw TyA 4 w e A) (hR' : Rw TyA 4 w e' A') (hg1 : ∀ i (h : i < e.length), lok (e[i]'h)) (hg2 : ∀ i (h : i < e'.length), lok (e'[i]'h)) (r : Bool) (hr : r = true ↔ e = e') :
    Calls Tryz.prog 53 #[.slice A q c, .slice A' q c'] w (Ib (.bool r) w) := by
  have HQ := Lib.hid hq
  have HQ' := Lib.hid hq'
  have HR := Lib.hid hr
  have H0 := Lib.hid (show e.take 0 = e'.take 0 by simp)
  clear hr hq hq'
  go_enter Tryz.func53, Tryz.ntmps53
  go_wp2_with fail
  go_loopw [5] (fun i wr => ∃ y : Nat, y ≤ q ∧ i = .int .i64 (y : Int) ∧ Hid (e.take y = e'.take y) ∧ Below w.heap.size w wr) (fun i _ => q - (intOf i).toNat)
  case atStart => exact ⟨0, by omega, rfl, H0, Below.refl _ _⟩
  case round =>
    obtain ⟨y, hy, rfl, HK, hb⟩ := hrel
    clear H0
    by_cases hlt : y < q
    · have h1 : y < e.length := by rw [HQ.out]; exact hlt
      have h2 : y < e'.length := by rw [HQ'.out]; exact hlt
      obtain ⟨a, rfl, hA⟩ := hR.get h1
      obtain ⟨a', rfl, hA'⟩ := hR'.get h2
      obtain ⟨B, d, e0, e1, e2, e3, hV⟩ := (TyA.next hb _ _ hA).val
      obtain ⟨B', d', f0, f1, f2, f3, hV'⟩ := (TyA.next hb _ _ hA').val
      have HN := Lib.hid (take_ne h1 h2)
      have HT := Lib.hid (take_eq h1 h2 HK.out)
      have cS := fun W' (hb9 : Below wr.heap.size wr W') => refSame_any (SizeOf.sizeOf (e[y]'h1) + 1) (e[y]'h1) (e'[y]'h2) _ _ W' (Nat.lt_succ_self _) (hg1 y h1) (hg2 y h2) (hV.next hb9) (hV'.next hb9)
      generalize e[y]'h1 = t at *
      generalize e'[y]'h2 = u at *
      obtain ⟨b, hbb⟩ : ∃ b, eqT t u = b := ⟨_, rfl⟩
      rw [hbb] at cS
      have HB := Lib.hid hbb
      have hy0 : ¬ (y : Int) < 0 := by omega
      have hyq : ¬ (q : Int) ≤ (y : Int) := by omega
      have hyd : decide ((q : Int) ≤ (y : Int)) = false := by rw [decide_eq_false_iff_not]; exact hyq
      clear hbb hA hA' hg1 hg2 h1 h2
      go_upto_region 4 with (fail)
      refine wp_region_on (by kernel_rfl) (FF [(0, Fact.at_ wr (.slice (some a) q c)), (1, Fact.at_ wr (.slice (some a') q c')), (5, Fact.at_ wr (.int .i64 (y : Int))), (12, Fact.at_ wr (.slice (some a) q c)), (13, Fact.at_ wr (.int .i64 (y : Int))), (14, Fact.at_ wr (.pointer (some (a.add (y * 4))))), (15, Fact.at_ wr (.agg #[.int .i64 t.kind, .int .i64 t.size, .string (bs t.name), .slice B t.elem.length d])), (16, Fact.at_ wr (.slice (some a') q c')), (17, Fact.at_ wr (.int .i64 (y : Int))), (18, Fact.at_ wr (.pointer (some (a'.add (y * 4))))), (19, Fact.at_ wr (.agg #[.int .i64 u.kind, .int .i64 u.size, .string (bs u.name), .slice B' u.elem.length d'])), (20, Fact.at_ wr (.bool b)), (21, Fact.at_ wr (.bool (!b)))]) [0, 1, 5] 22 [12, 13, 14, 15, 16, 17, 18, 19, 20, 21] rfl (by kernel_rfl) (by kernel_rfl) ?_ ?_ ?_
      · intro t9 ht9
        simp only [List.mem_cons, List.not_mem_nil, or_false] at ht9
        rcases ht9 with rfl | rfl | rfl
        · exact ⟨rfl, Below.refl _ _⟩
        · exact ⟨rfl, Below.refl _ _⟩
        · exact ⟨rfl, Below.refl _ _⟩
      · refine fcs ⟨atcopy 0 12 (.slice (some a) q c) (.inl rfl) rfl (by first | exact .inl rfl | exact .inr ⟨_, _, _, rfl, rfl, by kernel_rfl, by decide, rfl⟩) (by kernel_rfl) rfl rfl, ?_⟩
        refine fcs ⟨atcopy 5 13 (.int .i64 (y : Int)) (.inl rfl) rfl (by first | exact .inl rfl | exact .inr ⟨_, _, _, rfl, rfl, by kernel_rfl, by decide, rfl⟩) (by kernel_rfl) rfl rfl, ?_⟩
        refine fcs ⟨at2 12 13 14 (.slice (some a) q c) (.int .i64 (y : Int)) (.pointer (some (a.add (y * 4)))) rfl (by first | exact .inl rfl | exact .inr ⟨_, _, _, rfl, rfl, by kernel_rfl, by decide, rfl⟩) (by kernel_rfl) (by kernel_rfl) rfl rfl rfl (fun a9 W' hb9 h9 h8 => by simp [execOp, h9, h8] <;> go_simp), ?_⟩
        refine fcs ⟨at1 14 15 (.pointer (some (a.add (y * 4)))) (.agg #[.int .i64 t.kind, .int .i64 t.size, .string (bs t.name), .slice B t.elem.length d]) rfl (by first | exact .inl rfl | exact .inr ⟨_, _, _, rfl, rfl, by kernel_rfl, by decide, rfl⟩) (by kernel_rfl) rfl rfl (fun a9 W' hb9 h9 => by have g0 := cell_next hb9 e0; have g1 := cell_next hb9 e1; have g2 := cell_next hb9 e2; have g3 := cell_next hb9 e3; simp [execOp, h9] <;> go_simp), ?_⟩
        refine fcs ⟨atcopy 1 16 (.slice (some a') q c') (.inl rfl) rfl (by first | exact .inl rfl | exact .inr ⟨_, _, _, rfl, rfl, by kernel_rfl, by decide, rfl⟩) (by kernel_rfl) rfl rfl, ?_⟩
        refine fcs ⟨atcopy 5 17 (.int .i64 (y : Int)) (.inl rfl) rfl (by first | exact .inl rfl | exact .inr ⟨_, _, _, rfl, rfl, by kernel_rfl, by decide, rfl⟩) (by kernel_rfl) rfl rfl, ?_⟩
        refine fcs ⟨at2 16 17 18 (.slice (some a') q c') (.int .i64 (y : Int)) (.pointer (some (a'.add (y * 4)))) rfl (by first | exact .inl rfl | exact .inr ⟨_, _, _, rfl, rfl, by kernel_rfl, by decide, rfl⟩) (by kernel_rfl) (by kernel_rfl) rfl rfl rfl (fun a9 W' hb9 h9 h8 => by simp [execOp, h9, h8] <;> go_simp), ?_⟩
        refine fcs ⟨at1 18 19 (.pointer (some (a'.add (y * 4)))) (.agg #[.int .i64 u.kind, .int .i64 u.size, .string (bs u.name), .slice B' u.elem.length d']) rfl (by first | exact .inl rfl | exact .inr ⟨_, _, _, rfl, rfl, by kernel_rfl, by decide, rfl⟩) (by kernel_rfl) rfl rfl (fun a9 W' hb9 h9 => by have g0 := cell_next hb9 f0; have g1 := cell_next hb9 f1; have g2 := cell_next hb9 f2; have g3 := cell_next hb9 f3; simp [execOp, h9] <;> go_simp), ?_⟩
        refine fcs ⟨atc2 52 15 19 20 (.agg #[.int .i64 t.kind, .int .i64 t.size, .string (bs t.name), .slice B t.elem.length d]) (.agg #[.int .i64 u.kind, .int .i64 u.size, .string (bs u.name), .slice B' u.elem.length d']) (.bool b) _ rfl rfl (by first | exact .inl rfl | exact .inr ⟨_, _, _, rfl, rfl, by kernel_rfl, by decide, rfl⟩) (by kernel_rfl) (by kernel_rfl) rfl rfl (by kernel_rfl) rfl (fun W' hb9 => cS W' hb9), ?_⟩
        refine fcs ⟨at1 20 21 (.bool b) (.bool (!b)) rfl (by first | exact .inl rfl | exact .inr ⟨_, _, _, rfl, rfl, by kernel_rfl, by decide, rfl⟩) (by kernel_rfl) rfl rfl (fun a9 W' hb9 h9 => by simp [execOp, h9] <;> go_simp), ?_⟩
        exact fnl
      intro vv wv hvv hbv
      have hv21 : vv 21 = .bool (!b) := (hvv 21 (by decide)).1
      simp only [lay, List.foldl_cons, List.foldl_nil, List.setIfInBounds_toArray, List.set_cons_succ, List.set_cons_zero, hv21]
      have hb5 := Below.next hb hbv
      clear hvv e0 e1 e2 e3 f0 f1 f2 f3 cS hb hbv
      cases b
      · have hF : r = false := by
          cases r
          · rfl
          · exact absurd (HR.out.1 rfl) (HN.out fun h => by rw [eqT_iff.2 h] at HB; exact Bool.noConfusion HB.out)
        subst hF
        go_wp2_with fail
        go_ret
        exact ⟨rfl, hb5⟩
      · have HT2 := Lib.hid (HT.out (eqT_iff.1 HB.out))
        go_wp2_with fail
        go_roundw
        case rel => exact ⟨y + 1, by omega, by go_num, HT2, hb5⟩
        case measure => simp [intOf]; omega
    · obtain rfl : y = q := by omega
      have hF : r = true := HR.out.2 (by
        have := HK.out
        rwa [List.take_of_length_le (by rw [HQ.out]; exact Nat.le_refl _), List.take_of_length_le (by rw [HQ'.out]; exact Nat.le_refl _)] at this)
      subst hF
      clear hg1 hg2
      go_wp2_with fail
      go_ret
      exact ⟨rfl, hb⟩
end Go.Proofs.YtcilkcnddgacgaaGreatDoor


/-
  The developers' Compare and Equal: the library's comparisons. No conditions beyond those that each names.
-/
import Derived.Test.YtlebppjldoodgaaM08
import Derived.Test.YtlebppjldoodgaaM02
import Derived.Test.YtlebppjldoodgaaM07
import Derived.Test.YtlebppjldoodgaaShelfB
import Derived.Laws.OwnMore
namespace Go.Proofs.Ytlebppjldoodgaa
open Go.RowKit Go.Sort
set_option maxRecDepth 100000 in
theorem cmpInt_any (a b : Int) (w : World) : Calls Try.prog 32 #[.int .i64 a, .int .i64 b] w (Is (.int .i64 (sg a b)) w) := by
  have d0 : (a != a) = false := by simp
  have e0 : (b != b) = false := by simp
  by_cases h1 : a < b
  · have d1 : decide (a < b) = true := decide_eq_true h1
    rw [sg_lt h1]
    clear h1
    go_enter Try.func32, Try.ntmps32
    go_wp2_with (go_in)
    go_ret
    exact ⟨rfl, rfl⟩
  · have d1 : decide (a < b) = false := decide_eq_false h1
    by_cases h2 : b < a
    · have d2 : decide (b < a) = true := decide_eq_true h2
      rw [sg_gt h2]
      clear h1 h2
      go_enter Try.func32, Try.ntmps32
      go_wp2_with (go_in)
      go_ret
      exact ⟨rfl, rfl⟩
    · have d2 : decide (b < a) = false := decide_eq_false h2
      obtain rfl : a = b := by omega
      rw [sg_eq]
      clear h1 h2
      go_enter Try.func32, Try.ntmps32
      go_wp2_with (go_in)
      go_ret
      exact ⟨rfl, rfl⟩
set_option maxRecDepth 100000 in
theorem cmpI64_any (a b : Int) (w : World) : Calls Try.prog 33 #[.int .i64 a, .int .i64 b] w (Is (.int .i64 (sg a b)) w) := by
  have d0 : (a != a) = false := by simp
  have e0 : (b != b) = false := by simp
  by_cases h1 : a < b
  · have d1 : decide (a < b) = true := decide_eq_true h1
    rw [sg_lt h1]
    clear h1
    go_enter Try.func33, Try.ntmps33
    go_wp2_with (go_in)
    go_ret
    exact ⟨rfl, rfl⟩
  · have d1 : decide (a < b) = false := decide_eq_false h1
    by_cases h2 : b < a
    · have d2 : decide (b < a) = true := decide_eq_true h2
      rw [sg_gt h2]
      clear h1 h2
      go_enter Try.func33, Try.ntmps33
      go_wp2_with (go_in)
      go_ret
      exact ⟨rfl, rfl⟩
    · have d2 : decide (b < a) = false := decide_eq_false h2
      obtain rfl : a = b := by omega
      rw [sg_eq]
      clear h1 h2
      go_enter Try.func33, Try.ntmps33
      go_wp2_with (go_in)
      go_ret
      exact ⟨rfl, rfl⟩
theorem bytesLess_ob : ∀ a b : List UInt8, Op.bytesLess a b = decide (ob a b < 0)
  | [], [] => rfl
  | [], _ :: _ => rfl
  | _ :: _, [] => rfl
  | a :: r, b :: q => by
    rw [Op.bytesLess, bytesLess_ob r q, ob]
    rw [Bool.eq_iff_iff]
    simp only [Bool.or_eq_true, Bool.and_eq_true, decide_eq_true_eq, beq_iff_eq, UInt8.lt_iff_toNat_lt, ← UInt8.toNat_inj]
    unfold o1 sg
    split <;> omega
theorem ob_zero : ∀ {a b : List UInt8}, ob a b = 0 ↔ a = b
  | [], [] => by simp [ob]
  | [], _ :: _ => by simp [ob]
  | _ :: _, [] => by simp [ob]
  | a :: r, b :: q => by
    rw [ob, List.cons.injEq, ← ob_zero (a := r) (b := q), ← UInt8.toNat_inj]
    unfold o1 sg
    split <;> omega
theorem ob_in (a b : List UInt8) : ob a b = -1 ∨ ob a b = 0 ∨ ob a b = 1 := by
  induction a generalizing b with
  | nil => cases b <;> simp [ob]
  | cons x r ih =>
    cases b with
    | nil => simp [ob]
    | cons y q =>
      rw [ob]
      unfold o1 sg
      have := ih q
      split <;> omega
set_option maxRecDepth 100000 in
theorem cmpStr_any (a b : List UInt8) (w : World) : Calls Try.prog 34 #[.string (bs a), .string (bs b)] w (Is (.int .i64 (ob a b)) w) := by
  obtain ⟨z, hz⟩ : ∃ z, ob a b = z := ⟨_, rfl⟩
  have f1 : Op.bytesLess (bs a).toList (bs b).toList = decide (z < 0) := by rw [toList_bs, toList_bs, bytesLess_ob, hz]
  have f2 : ((bs a).toList == (bs b).toList) = decide (z = 0) := by rw [toList_bs, toList_bs, Bool.eq_iff_iff, beq_iff_eq, decide_eq_true_eq, ← hz, ob_zero]
  have hin := ob_in a b
  rw [hz] at hin ⊢
  clear hz
  rcases hin with rfl | rfl | rfl
  · have g1 : Op.bytesLess (bs a).toList (bs b).toList = true := f1
    clear f1 f2
    go_enter Try.func34, Try.ntmps34
    go_wp2_with (go_in)
    go_ret
    exact ⟨rfl, rfl⟩
  · have g1 : Op.bytesLess (bs a).toList (bs b).toList = false := f1
    have g2 : (!(bs a).toList == (bs b).toList) = false := by rw [f2]; rfl
    clear f1 f2
    go_enter Try.func34, Try.ntmps34
    go_wp2_with (go_in)
    go_ret
    exact ⟨rfl, rfl⟩
  · have g1 : Op.bytesLess (bs a).toList (bs b).toList = false := f1
    have g2 : (!(bs a).toList == (bs b).toList) = true := by rw [f2]; rfl
    clear f1 f2
    go_enter Try.func34, Try.ntmps34
    go_wp2_with (go_in)
    go_ret
    exact ⟨rfl, rfl⟩
end Go.Proofs.Ytlebppjldoodgaa
/-
  The developers' Compare and Equal. No conditions beyond those that each names.
-/
namespace Go.Proofs.Ytlebppjldoodgaa
open Go.RowKit Go.Sort
theorem is_ib {v : Value} {w w' : World} {e : Ending} (h : Is v w e w') : Ib v w e w' := ⟨h.1, by rw [← h.2]; exact Below.refl _ _⟩
set_option maxRecDepth 100000 in
set_option maxHeartbeats 2000000 in
theorem cmpOr_any (x y z : Int) (g : Nat) (c : Nat) (w : World) (h0 : w.cell? ⟨g, 0, none⟩ = some (.int .i64 x)) (h1 : w.cell? ⟨g, 1, none⟩ = some (.int .i64 y)) (h2 : w.cell? ⟨g, 2, none⟩ = some (.int .i64 z)) :
    Calls Try.prog 31 #[.slice (some ⟨g, 0, none⟩) 3 c] w (Is (.int .i64 (o1 x (o1 y z))) w) := by
  obtain ⟨r, hr⟩ : ∃ r, o1 x (o1 y z) = r := ⟨_, rfl⟩
  rw [hr]
  have HR := Lib.hid hr
  clear hr
  have hblk : g < w.heap.size := blk_lt h0
  go_enter Try.func31, Try.ntmps31
  go_wp2_with fail
  go_loopw [8] (fun i wr => ∃ k : Nat, k ≤ 3 ∧ i = .int .i64 (k : Int) ∧ wr = w ∧ Hid (o1 (if k ≤ 0 then x else 0) (o1 (if k ≤ 1 then y else 0) (if k ≤ 2 then z else 0)) = r)) (fun i _ => 3 - (intOf i).toNat)
  case atStart => exact ⟨0, by omega, rfl, rfl, HR⟩
  case round =>
    obtain ⟨k, hk, rfl, rfl, hI⟩ := hrel
    clear HR
    by_cases k0 : k = 0
    · subst k0
      have hI := hI.out
      simp only [Nat.le_refl, if_true, Nat.zero_le] at hI
      by_cases hx : x = 0
      · subst hx
        rw [o1_r] at hI
        have HE := Lib.hid hI
        clear hI
        go_wp2_with fail
        go_roundw
        case rel => exact ⟨1, by omega, by first | rfl | go_num, by first | rfl | trivial, Lib.hid (by simpa [o1] using HE.out)⟩
        case measure => simp [intOf]
      · have d0 : (x != 0) = true := by simpa using hx
        rw [o1_l hx] at hI
        have HE := Lib.hid hI
        clear hI hx
        go_wp2_with fail
        go_ret
        obtain rfl := HE.out
        exact ⟨rfl, rfl⟩
    by_cases k1 : k = 1
    · subst k1
      have hI := hI.out
      rw [if_neg (by decide), o1_r, if_pos (by decide), if_pos (by decide)] at hI
      by_cases hx : y = 0
      · subst hx
        rw [o1_r] at hI
        have HE := Lib.hid hI
        clear hI
        go_wp2_with fail
        go_roundw
        case rel => exact ⟨2, by omega, by first | rfl | go_num, by first | rfl | trivial, Lib.hid (by simpa [o1] using HE.out)⟩
        case measure => simp [intOf]
      · have d0 : (y != 0) = true := by simpa using hx
        rw [o1_l hx] at hI
        have HE := Lib.hid hI
        clear hI hx
        go_wp2_with fail
        go_ret
        obtain rfl := HE.out
        exact ⟨rfl, rfl⟩
    by_cases k2 : k = 2
    · subst k2
      have hI := hI.out
      rw [if_neg (by decide), o1_r, if_neg (by decide), o1_r, if_pos (by decide)] at hI
      by_cases hx : z = 0
      · subst hx
        have HE := Lib.hid hI
        clear hI
        go_wp2_with fail
        go_roundw
        case rel => exact ⟨3, by omega, by first | rfl | go_num, by first | rfl | trivial, Lib.hid (by simpa [o1] using HE.out)⟩
        case measure => simp [intOf]
      · have d0 : (z != 0) = true := by simpa using hx
        have HE := Lib.hid hI
        clear hI hx
        go_wp2_with fail
        go_ret
        obtain rfl := HE.out
        exact ⟨rfl, rfl⟩
    · obtain rfl : k = 3 := by omega
      have HE := Lib.hid (show (0 : Int) = r by simpa [o1] using hI.out)
      clear hI
      go_wp2_with fail
      go_ret
      obtain rfl := HE.out
      exact ⟨rfl, rfl⟩
/-- The order of entries. -/
def ecm (x y : Int × Vl) : Int := o1 (sg x.1 y.1) (cm x.2 y.2)
theorem o1_assoc (a b c : Int) : o1 (o1 a b) c = o1 a (o1 b c) := by
  by_cases h : a = 0
  · subst h; rw [o1_r, o1_r]
  · rw [o1_l h, o1_l h, o1_l h]
theorem cmf_drop2 {a b : List (Int × Vl)} {k : Nat} (h1 : k < a.length) (h2 : k < b.length) : cmf (a.drop k) (b.drop k) = o1 (ecm (a[k]'h1) (b[k]'h2)) (cmf (a.drop (k + 1)) (b.drop (k + 1))) := by
  rw [cmf_drop h1 h2, ecm, o1_assoc]
/-- An entry as a value. -/
def EtV (w : World) (x : Int × Vl) (v : Value) : Prop := ∃ A c A2 c2, v = .agg #[.int .i64 x.1, .int .i64 x.2.kind, .int .i64 x.2.n, .string (bs x.2.s), .slice A x.2.l.length c, .slice A2 x.2.f.length c2] ∧ Rw VlA 5 w x.2.l A ∧ Rw EtA 6 w x.2.f A2
theorem EtV.next {w w' : World} (hb : Below w.heap.size w w') {t : Int × Vl} {v : Value} (h : EtV w t v) : EtV w' t v := by
  obtain ⟨A, c, A2, c2, e, h1, h2⟩ := h
  exact ⟨A, c, A2, c2, e, h1.next fun x p => VlA.next hb x p, h2.next fun x p => EtA.next hb x p⟩
theorem EtA.val2 {w : World} {x : Int × Vl} {p : Addr} (h : EtA w x p) : ∃ A c A2 c2, w.cell? p = some (.int .i64 x.1) ∧ w.cell? (nx1 p 1) = some (.int .i64 x.2.kind) ∧ w.cell? (nx1 p 2) = some (.int .i64 x.2.n) ∧ w.cell? (nx1 p 3) = some (.string (bs x.2.s)) ∧ w.cell? (nx1 p 4) = some (.slice A x.2.l.length c) ∧ w.cell? (nx1 p 5) = some (.slice A2 x.2.f.length c2) ∧ EtV w x (.agg #[.int .i64 x.1, .int .i64 x.2.kind, .int .i64 x.2.n, .string (bs x.2.s), .slice A x.2.l.length c, .slice A2 x.2.f.length c2]) := by
  obtain ⟨A, c, A2, c2, h0, h1, h2, h3, h4, h5, ⟨B, d, B2, d2, e, k1, k2⟩⟩ := h.val
  refine ⟨A, c, A2, c2, h0, h1, h2, h3, h4, h5, B, d, B2, d2, ?_, k1, k2⟩
  injection e with e
  injection e with e
  injection e with _ e
  injection e with _ e
  injection e with _ e
  injection e with e1 e
  injection e with e2 e
  rw [e1, e2]
set_option maxRecDepth 100000 in
set_option maxHeartbeats 4000000 in
theorem cmpVl_any (e e' : List Vl) (A : Option Addr) (c : Nat) (A' : Option Addr) (c' : Nat) (w : World) (hR : Rw VlA 5 w e A) (hR' : Rw VlA 5 w e' A') (hl : e.length ≤ 9223372036854775807) (hl' : e'.length ≤ 9223372036854775807)
    (hc : ∀ i (h : i < e.length) (h' : i < e'.length) v v' w', VlV w' (e[i]'h) v → VlV w' (e'[i]'h') v' → Calls Try.prog 13 #[v, v'] w' (Ib (.int .i64 (cm (e[i]'h) (e'[i]'h'))) w')) :
    Calls Try.prog 35 #[.slice A e.length c, .slice A' e'.length c', .func (.func 13) #[] #[]] w (Ib (.int .i64 (cml e e')) w) := by
  obtain ⟨q, hq⟩ : ∃ q, e.length = q := ⟨_, rfl⟩
  obtain ⟨q', hq'⟩ : ∃ q', e'.length = q' := ⟨_, rfl⟩
  obtain ⟨r, hr⟩ : ∃ r, cml e e' = r := ⟨_, rfl⟩
  have HQ := Lib.hid hq
  have HQ' := Lib.hid hq'
  rw [hq] at hl
  rw [hq'] at hl'
  rw [hq, hq', hr]
  have H0 := Lib.hid (show cml (e.drop 0) (e'.drop 0) = r from hr)
  clear hr hq hq'
  go_enter Try.func35, Try.ntmps35
  go_wp2_with fail
  go_loopw [13] (fun i wr => ∃ k : Nat, k ≤ q ∧ k ≤ q' ∧ i = .int .i64 (k : Int) ∧ Hid (cml (e.drop k) (e'.drop k) = r) ∧ Below w.heap.size w wr) (fun i _ => q - (intOf i).toNat)
  case atStart => exact ⟨0, by omega, by omega, rfl, H0, Below.refl _ _⟩
  case round =>
    obtain ⟨k, hk, hk', rfl, HK, hb⟩ := hrel
    clear H0
    by_cases hlt : k < q
    · have h1 : k < e.length := by rw [HQ.out]; exact hlt
      obtain ⟨a, rfl, hA⟩ := hR.get h1
      obtain ⟨B, p, B2, p2, x0, x1, x2, x3, x4, hV⟩ := (VlA.next hb _ _ hA).val
      have hblk : (a.add (k * 5)).block < wr.heap.size := blk_lt x0
      by_cases hlt' : k < q'
      · have h2 : k < e'.length := by rw [HQ'.out]; exact hlt'
        obtain ⟨a', rfl, hA'⟩ := hR'.get h2
        obtain ⟨B', p', B2', p2', y0, y1, y2, y3, y4, hV'⟩ := (VlA.next hb _ _ hA').val
        have hblk' : (a'.add (k * 5)).block < wr.heap.size := blk_lt y0
        have cS := fun o p => hc k h1 h2 _ _ _ (hV.next (ab2 wr o p)) (hV'.next (ab2 wr o p))
        have HD := HK.out
        rw [cml_drop h1 h2] at HD
        generalize e[k]'h1 = t at *
        generalize e'[k]'h2 = u at *
        obtain ⟨b, hbb⟩ : ∃ b, cm t u = b := ⟨_, rfl⟩
        rw [hbb] at cS HD
        clear hbb hA hA' hc HK
        have hab := ab2 wr (Obj.cells #[.int .i64 t.kind, .int .i64 t.n, .string (bs t.s), .slice B t.l.length p, .slice B2 t.f.length p2] 25) (Obj.cells #[.int .i64 u.kind, .int .i64 u.n, .string (bs u.s), .slice B' u.l.length p', .slice B2' u.f.length p2'] 25)
        have cS2 := cS (Obj.cells #[.int .i64 t.kind, .int .i64 t.n, .string (bs t.s), .slice B t.l.length p, .slice B2 t.f.length p2] 25) (Obj.cells #[.int .i64 u.kind, .int .i64 u.n, .string (bs u.s), .slice B' u.l.length p', .slice B2' u.f.length p2'] 25)
        clear cS
        by_cases h0 : b = 0
        · subst h0
          rw [o1_r] at HD
          have HE := Lib.hid HD
          clear HD
          go_wp2_with fail
          refine cS2.mono ?_
          rintro e9 w9 ⟨rfl, hb9⟩
          have hb5 := Below.next (Below.next hb hab) hb9
          clear cS2 x0 x1 x2 x3 x4 y0 y1 y2 y3 y4 hblk hblk'
          go_wp2_with fail
          go_roundw
          case rel => exact ⟨k + 1, by omega, by omega, by go_num, HE, hb5⟩
          case measure => simp [intOf]; omega
        · have d0 : (b != 0) = true := by simpa using h0
          rw [o1_l h0] at HD
          have HE := Lib.hid HD
          clear HD h0
          go_wp2_with fail
          refine cS2.mono ?_
          rintro e9 w9 ⟨rfl, hb9⟩
          have hb5 := Below.next (Below.next hb hab) hb9
          clear cS2 x0 x1 x2 x3 x4 y0 y1 y2 y3 y4 hblk hblk'
          go_wp2_with fail
          go_ret
          obtain rfl := HE.out
          exact ⟨rfl, hb5⟩
      · obtain rfl : k = q' := by omega
        have HE := Lib.hid (show (1 : Int) = r by
          rw [← HK.out, cml_end e e' k (by rw [HQ.out, HQ'.out]; omega) (by rw [HQ.out]; exact hk) (by rw [HQ'.out]; exact hk'), HQ.out, HQ'.out, sg_gt (by omega)])
        have hab := ab1 wr (Obj.cells #[.int .i64 (e[k]'h1).kind, .int .i64 (e[k]'h1).n, .string (bs (e[k]'h1).s), .slice B (e[k]'h1).l.length p, .slice B2 (e[k]'h1).f.length p2] 25)
        generalize e[k]'h1 = t at *
        clear hc HK hV hA
        go_wp2_with fail
        go_ret
        obtain rfl := HE.out
        exact ⟨rfl, Below.next hb (ab1 _ _)⟩
    · obtain rfl : k = q := by omega
      have HE := HK.out
      rw [cml_end e e' k (by rw [HQ.out, HQ'.out]; omega) (by rw [HQ.out]; exact hk) (by rw [HQ'.out]; exact hk'), HQ.out, HQ'.out] at HE
      clear HK hc hR hR'
      by_cases h3 : k < q'
      · have d3 : decide (k < q') = true := decide_eq_true h3
        have HE := Lib.hid (show (-1 : Int) = r by rw [← HE, sg_lt (by omega)])
        go_wp2_with fail
        go_ret
        obtain rfl := HE.out
        exact ⟨rfl, hb⟩
      · obtain rfl : k = q' := by omega
        have HE := Lib.hid (show (0 : Int) = r by rw [← HE, sg_eq])
        go_wp2_with fail
        go_ret
        obtain rfl := HE.out
        exact ⟨rfl, hb⟩
set_option maxRecDepth 100000 in
set_option maxHeartbeats 4000000 in
theorem compareEntries_any (x y : Int × Vl) (v v' : Value) (w : World) (hv : EtV w x v) (hv' : EtV w y v') (hc : ∀ v v' w', VlV w' x.2 v → VlV w' y.2 v' → Calls Try.prog 13 #[v, v'] w' (Ib (.int .i64 (cm x.2 y.2)) w')) :
    Calls Try.prog 37 #[v, v'] w (Ib (.int .i64 (ecm x y)) w) := by
  obtain ⟨B, p, B2, p2, rfl, hR, hR2⟩ := hv
  obtain ⟨B', p', B2', p2', rfl, hR', hR2'⟩ := hv'
  obtain ⟨a, t⟩ := x
  obtain ⟨b, u⟩ := y
  obtain ⟨z, hz⟩ : ∃ z, cm t u = z := ⟨_, rfl⟩
  have hE : ecm (a, t) (b, u) = o1 (sg a b) z := by rw [← hz]; rfl
  obtain ⟨r, hr⟩ : ∃ r, ecm (a, t) (b, u) = r := ⟨_, rfl⟩
  rw [hr] at hE ⊢
  have cI := cmpInt_any a b
  have hab := ab2 w (Obj.cells #[.int .i64 a, .int .i64 t.kind, .int .i64 t.n, .string (bs t.s), .slice B t.l.length p, .slice B2 t.f.length p2] 72) (Obj.cells #[.int .i64 b, .int .i64 u.kind, .int .i64 u.n, .string (bs u.s), .slice B' u.l.length p', .slice B2' u.f.length p2'] 72)
  have cC := hc _ _ _ (VlV.next hab ⟨B, p, B2, p2, rfl, hR, hR2⟩) (VlV.next hab ⟨B', p', B2', p2', rfl, hR', hR2'⟩)
  rw [hz] at cC
  clear hc hR hR2 hR' hR2' hr hz
  obtain ⟨s, hs⟩ : ∃ s, sg a b = s := ⟨_, rfl⟩
  rw [hs] at hE cI
  clear hs
  by_cases h0 : s = 0
  · subst h0
    rw [o1_r] at hE
    subst hE
    go_enter Try.func37, Try.ntmps37
    go_wp2_with fail
    refine (cI _).mono ?_
    rintro e w2 ⟨rfl, rfl⟩
    go_wp2_with fail
    refine cC.mono ?_
    rintro e w2 ⟨rfl, hb⟩
    go_wp2_with fail
    go_ret
    exact ⟨rfl, Below.next (ab2 _ _ _) hb⟩
  · have d0 : (s != 0) = true := by simpa using h0
    rw [o1_l h0] at hE
    subst hE
    clear h0
    go_enter Try.func37, Try.ntmps37
    go_wp2_with fail
    refine (cI _).mono ?_
    rintro e w2 ⟨rfl, rfl⟩
    go_wp2_with fail
    go_ret
    exact ⟨rfl, ab2 _ _ _⟩
set_option maxRecDepth 100000 in
set_option maxHeartbeats 4000000 in
theorem cmpEt_any (e e' : List (Int × Vl)) (A : Option Addr) (c : Nat) (A' : Option Addr) (c' : Nat) (w : World) (hR : Rw EtA 6 w e A) (hR' : Rw EtA 6 w e' A') (hl : e.length ≤ 9223372036854775807) (hl' : e'.length ≤ 9223372036854775807)
    (hc : ∀ i (h : i < e.length) (h' : i < e'.length) v v' w', EtV w' (e[i]'h) v → EtV w' (e'[i]'h') v' → Calls Try.prog 37 #[v, v'] w' (Ib (.int .i64 (ecm (e[i]'h) (e'[i]'h'))) w')) :
    Calls Try.prog 36 #[.slice A e.length c, .slice A' e'.length c', .func (.func 37) #[] #[]] w (Ib (.int .i64 (cmf e e')) w) := by
  obtain ⟨q, hq⟩ : ∃ q, e.length = q := ⟨_, rfl⟩
  obtain ⟨q', hq'⟩ : ∃ q', e'.length = q' := ⟨_, rfl⟩
  obtain ⟨r, hr⟩ : ∃ r, cmf e e' = r := ⟨_, rfl⟩
  have HQ := Lib.hid hq
  have HQ' := Lib.hid hq'
  rw [hq] at hl
  rw [hq'] at hl'
  rw [hq, hq', hr]
  have H0 := Lib.hid (show cmf (e.drop 0) (e'.drop 0) = r from hr)
  clear hr hq hq'
  go_enter Try.func36, Try.ntmps36
  go_wp2_with fail
  go_loopw [13] (fun i wr => ∃ k : Nat, k ≤ q ∧ k ≤ q' ∧ i = .int .i64 (k : Int) ∧ Hid (cmf (e.drop k) (e'.drop k) = r) ∧ Below w.heap.size w wr) (fun i _ => q - (intOf i).toNat)
  case atStart => exact ⟨0, by omega, by omega, rfl, H0, Below.refl _ _⟩
  case round =>
    obtain ⟨k, hk, hk', rfl, HK, hb⟩ := hrel
    clear H0
    by_cases hlt : k < q
    · have h1 : k < e.length := by rw [HQ.out]; exact hlt
      obtain ⟨a, rfl, hA⟩ := hR.get h1
      obtain ⟨B, p, B2, p2, x0, x1, x2, x3, x4, x5, hV⟩ := (EtA.next hb _ _ hA).val2
      have hblk : (a.add (k * 6)).block < wr.heap.size := blk_lt x0
      by_cases hlt' : k < q'
      · have h2 : k < e'.length := by rw [HQ'.out]; exact hlt'
        obtain ⟨a', rfl, hA'⟩ := hR'.get h2
        obtain ⟨B', p', B2', p2', y0, y1, y2, y3, y4, y5, hV'⟩ := (EtA.next hb _ _ hA').val2
        have hblk' : (a'.add (k * 6)).block < wr.heap.size := blk_lt y0
        have cS := fun o p => hc k h1 h2 _ _ _ (hV.next (ab2 wr o p)) (hV'.next (ab2 wr o p))
        have HD := HK.out
        rw [cmf_drop2 h1 h2] at HD
        generalize e[k]'h1 = t at *
        generalize e'[k]'h2 = u at *
        obtain ⟨b, hbb⟩ : ∃ b, ecm t u = b := ⟨_, rfl⟩
        rw [hbb] at cS HD
        clear hbb hA hA' hc HK
        have hab := ab2 wr (Obj.cells #[.int .i64 t.1, .int .i64 t.2.kind, .int .i64 t.2.n, .string (bs t.2.s), .slice B t.2.l.length p, .slice B2 t.2.f.length p2] 72) (Obj.cells #[.int .i64 u.1, .int .i64 u.2.kind, .int .i64 u.2.n, .string (bs u.2.s), .slice B' u.2.l.length p', .slice B2' u.2.f.length p2'] 72)
        have cS2 := cS (Obj.cells #[.int .i64 t.1, .int .i64 t.2.kind, .int .i64 t.2.n, .string (bs t.2.s), .slice B t.2.l.length p, .slice B2 t.2.f.length p2] 72) (Obj.cells #[.int .i64 u.1, .int .i64 u.2.kind, .int .i64 u.2.n, .string (bs u.2.s), .slice B' u.2.l.length p', .slice B2' u.2.f.length p2'] 72)
        clear cS
        by_cases h0 : b = 0
        · subst h0
          rw [o1_r] at HD
          have HE := Lib.hid HD
          clear HD
          go_wp2_with fail
          refine cS2.mono ?_
          rintro e9 w9 ⟨rfl, hb9⟩
          have hb5 := Below.next (Below.next hb hab) hb9
          clear cS2 x0 x1 x2 x3 x4 x5 y0 y1 y2 y3 y4 y5 hblk hblk'
          go_wp2_with fail
          go_roundw
          case rel => exact ⟨k + 1, by omega, by omega, by go_num, HE, hb5⟩
          case measure => simp [intOf]; omega
        · have d0 : (b != 0) = true := by simpa using h0
          rw [o1_l h0] at HD
          have HE := Lib.hid HD
          clear HD h0
          go_wp2_with fail
          refine cS2.mono ?_
          rintro e9 w9 ⟨rfl, hb9⟩
          have hb5 := Below.next (Below.next hb hab) hb9
          clear cS2 x0 x1 x2 x3 x4 x5 y0 y1 y2 y3 y4 y5 hblk hblk'
          go_wp2_with fail
          go_ret
          obtain rfl := HE.out
          exact ⟨rfl, hb5⟩
      · obtain rfl : k = q' := by omega
        have HE := Lib.hid (show (1 : Int) = r by
          rw [← HK.out, cmf_end e e' k (by rw [HQ.out, HQ'.out]; omega) (by rw [HQ.out]; exact hk) (by rw [HQ'.out]; exact hk'), HQ.out, HQ'.out, sg_gt (by omega)])
        have hab := ab1 wr (Obj.cells #[.int .i64 (e[k]'h1).1, .int .i64 (e[k]'h1).2.kind, .int .i64 (e[k]'h1).2.n, .string (bs (e[k]'h1).2.s), .slice B (e[k]'h1).2.l.length p, .slice B2 (e[k]'h1).2.f.length p2] 72)
        generalize e[k]'h1 = t at *
        clear hc HK hV hA
        go_wp2_with fail
        go_ret
        obtain rfl := HE.out
        exact ⟨rfl, Below.next hb (ab1 _ _)⟩
    · obtain rfl : k = q := by omega
      have HE := HK.out
      rw [cmf_end e e' k (by rw [HQ.out, HQ'.out]; omega) (by rw [HQ.out]; exact hk) (by rw [HQ'.out]; exact hk'), HQ.out, HQ'.out] at HE
      clear HK hc hR hR'
      by_cases h3 : k < q'
      · have d3 : decide (k < q') = true := decide_eq_true h3
        have HE := Lib.hid (show (-1 : Int) = r by rw [← HE, sg_lt (by omega)])
        go_wp2_with fail
        go_ret
        obtain rfl := HE.out
        exact ⟨rfl, hb⟩
      · obtain rfl : k = q' := by omega
        have HE := Lib.hid (show (0 : Int) = r by rw [← HE, sg_eq])
        go_wp2_with fail
        go_ret
        obtain rfl := HE.out
        exact ⟨rfl, hb⟩
set_option maxRecDepth 100000 in
set_option maxHeartbeats 8000000 in
theorem devCompare_any (N : Nat) : ∀ (t u : Vl) (v v' : Value) (w : World), SizeOf.sizeOf t < N → vok t → vok u → VlV w t v → VlV w u v' →
    Calls Try.prog 13 #[v, v'] w (Ib (.int .i64 (cm t u)) w) := by
  induction N with
  | zero => intro t u v v' w h; omega
  | succ N ih =>
    intro t u v v' w hN hok hok' hv hv'
    obtain ⟨hs, ⟨hl, hlo⟩, hf, hfo⟩ := vok_iff.1 hok
    obtain ⟨hs', ⟨hl', hlo'⟩, hf', hfo'⟩ := vok_iff.1 hok'
    have cL0 : ∀ (i : Nat) (h : i < t.l.length) (h' : i < u.l.length) v v' w, VlV w (t.l[i]'h) v → VlV w (u.l[i]'h') v' → Calls Try.prog 13 #[v, v'] w (Ib (.int .i64 (cm (t.l[i]'h) (u.l[i]'h'))) w) := fun i h h' v v' w => ih _ _ v v' w (by have := size_l h; omega) (hlo _ (List.getElem_mem h)) (hlo' _ (List.getElem_mem h'))
    have cF0 : ∀ (i : Nat) (h : i < t.f.length) (h' : i < u.f.length) v v' w, EtV w (t.f[i]'h) v → EtV w (u.f[i]'h') v' → Calls Try.prog 37 #[v, v'] w (Ib (.int .i64 (ecm (t.f[i]'h) (u.f[i]'h'))) w) := fun i h h' v v' w hv hv' => compareEntries_any _ _ v v' w hv hv' fun v v' w => ih _ _ v v' w (by have := size_f h; omega) (hfo _ (List.getElem_mem h)) (hfo' _ (List.getElem_mem h'))
    have hE := cm_eq t u
    obtain ⟨A, c, A2, c2, rfl, hR, hR2⟩ := hv
    obtain ⟨A', c', A2', c2', rfl, hR', hR2'⟩ := hv'
    have cL := fun W (h : Below w.heap.size w W) => cmpVl_any t.l u.l A c A' c' W (hR.next fun x p => VlA.next h x p) (hR'.next fun x p => VlA.next h x p) hl hl' cL0
    have cF := fun W (h : Below w.heap.size w W) => cmpEt_any t.f u.f A2 c2 A2' c2' W (hR2.next fun x p => EtA.next h x p) (hR2'.next fun x p => EtA.next h x p) hf hf' cF0
    have cx := fun W => (cmpInt_any t.kind u.kind W).mono fun e w' => is_ib
    have cy := fun W => (cmpI64_any t.n u.n W).mono fun e w' => is_ib
    have cz := fun W => (cmpStr_any t.s u.s W).mono fun e w' => is_ib
    obtain ⟨m, hm⟩ : ∃ m, t.l.length = m := ⟨_, rfl⟩
    obtain ⟨n, hn⟩ : ∃ n, t.f.length = n := ⟨_, rfl⟩
    obtain ⟨m', hm'⟩ : ∃ m', u.l.length = m' := ⟨_, rfl⟩
    obtain ⟨n', hn'⟩ : ∃ n', u.f.length = n' := ⟨_, rfl⟩
    obtain ⟨r, hr⟩ : ∃ r, cm t u = r := ⟨_, rfl⟩
    rw [hm, hm'] at cL
    rw [hn, hn'] at cF
    rw [hm, hn, hm', hn', hr]
    rw [hr] at hE
    have hB := (Bx.new5 w 25 (.int .i64 t.kind) (.int .i64 t.n) (.string (bs t.s)) (.slice A m c) (.slice A2 n c2)).next (ab1 _ (Obj.cells #[.int .i64 u.kind, .int .i64 u.n, .string (bs u.s), .slice A' m' c', .slice A2' n' c2'] 25))
    have hB' := Bx.new5 (w.alloc (Obj.cells #[.int .i64 t.kind, .int .i64 t.n, .string (bs t.s), .slice A m c, .slice A2 n c2] 25)) 25 (.int .i64 u.kind) (.int .i64 u.n) (.string (bs u.s)) (.slice A' m' c') (.slice A2' n' c2')
    have hab := ab2 w (Obj.cells #[.int .i64 t.kind, .int .i64 t.n, .string (bs t.s), .slice A m c, .slice A2 n c2] 25) (Obj.cells #[.int .i64 u.kind, .int .i64 u.n, .string (bs u.s), .slice A' m' c', .slice A2' n' c2'] 25)
    have z1 : (w.alloc (Obj.cells #[.int .i64 t.kind, .int .i64 t.n, .string (bs t.s), .slice A m c, .slice A2 n c2] 25)).heap.size = w.heap.size + 1 := by simp
    rw [z1] at hB'
    clear hm hn hm' hn' hr ih hok hok' hlo hfo hlo' hfo' hN z1 hs hs' cL0 cF0 hR hR2 hR' hR2' hl hl' hf hf'
    have s0 := hB.c 0 rfl
    have s1 := hB.c 1 rfl
    have s2 := hB.c 2 rfl
    have r0 := hB'.c 0 rfl
    have r1 := hB'.c 1 rfl
    have r2 := hB'.c 2 rfl
    obtain ⟨x, hx⟩ : ∃ x, sg t.kind u.kind = x := ⟨_, rfl⟩
    obtain ⟨y, hy⟩ : ∃ y, sg t.n u.n = y := ⟨_, rfl⟩
    obtain ⟨z, hz⟩ : ∃ z, ob t.s u.s = z := ⟨_, rfl⟩
    rw [hx] at cx hE
    rw [hy] at cy hE
    rw [hz] at cz hE
    clear hx hy hz
    go_enter Try.func13, Try.ntmps13
    go_upto_region 1 with (fail)
    generalize (w.alloc (Obj.cells #[.int .i64 t.kind, .int .i64 t.n, .string (bs t.s), .slice A m c, .slice A2 n c2] 25)).alloc (Obj.cells #[.int .i64 u.kind, .int .i64 u.n, .string (bs u.s), .slice A' m' c', .slice A2' n' c2'] 25) = W1 at *
    refine wp_region_seqN (by kernel_rfl) (FF [(2, Fact.at_ W1 (.pointer (some ⟨w.heap.size, 0, none⟩))), (3, Fact.at_ W1 (.pointer (some ⟨(w.heap.size + 1), 0, none⟩))), (6, Fact.at_ W1 (.pointer (some ⟨w.heap.size, 0, none⟩))), (7, Fact.at_ W1 (.int .i64 t.kind)), (8, Fact.at_ W1 (.pointer (some ⟨(w.heap.size + 1), 0, none⟩))), (9, Fact.at_ W1 (.int .i64 u.kind)), (10, Fact.at_ W1 (.int .i64 x)), (11, Fact.at_ W1 (.pointer (some ⟨w.heap.size, 1, none⟩))), (12, Fact.at_ W1 (.int .i64 t.n)), (13, Fact.at_ W1 (.pointer (some ⟨(w.heap.size + 1), 1, none⟩))), (14, Fact.at_ W1 (.int .i64 u.n)), (15, Fact.at_ W1 (.int .i64 y)), (16, Fact.at_ W1 (.pointer (some ⟨w.heap.size, 2, none⟩))), (17, Fact.at_ W1 (.string (bs t.s))), (18, Fact.at_ W1 (.pointer (some ⟨(w.heap.size + 1), 2, none⟩))), (19, Fact.at_ W1 (.string (bs u.s))), (20, Fact.at_ W1 (.int .i64 z))]) [2, 3] [] 38 15 [6, 7, 8, 9, 10, 11, 12, 13, 14, 15, 16, 17, 18, 19, 20] rfl (by kernel_rfl) (by kernel_rfl) (by decide) (by kernel_rfl) (by kernel_rfl) ?_ ?_ ?_
    · intro t9 ht9
      simp only [List.mem_cons, List.not_mem_nil, or_false] at ht9
      rcases ht9 with rfl | rfl
      · exact ⟨rfl, Below.refl _ _⟩
      · exact ⟨rfl, Below.refl _ _⟩
    · refine fcs ⟨Ob.new_ (at1 2 6 (.pointer (some ⟨w.heap.size, 0, none⟩)) (.pointer (some ⟨w.heap.size, 0, none⟩)) rfl (by first | exact .inl rfl | exact .inr ⟨_, _, _, rfl, rfl, by kernel_rfl, by decide, rfl⟩) (by kernel_rfl) rfl rfl (fun a9 W9 hb9 h9 => by simp [execOp, h9] <;> go_simp)) (by kernel_rfl), ?_⟩
      refine fcs ⟨Ob.new_ (at1 6 7 (.pointer (some ⟨w.heap.size, 0, none⟩)) (.int .i64 t.kind) rfl (by first | exact .inl rfl | exact .inr ⟨_, _, _, rfl, rfl, by kernel_rfl, by decide, rfl⟩) (by kernel_rfl) rfl rfl (fun a9 W9 hb9 h9 => by have g0 := cell_next hb9 s0; simp [execOp, h9] <;> go_simp)) (by kernel_rfl), ?_⟩
      refine fcs ⟨Ob.new_ (at1 3 8 (.pointer (some ⟨(w.heap.size + 1), 0, none⟩)) (.pointer (some ⟨(w.heap.size + 1), 0, none⟩)) rfl (by first | exact .inl rfl | exact .inr ⟨_, _, _, rfl, rfl, by kernel_rfl, by decide, rfl⟩) (by kernel_rfl) rfl rfl (fun a9 W9 hb9 h9 => by simp [execOp, h9] <;> go_simp)) (by kernel_rfl), ?_⟩
      refine fcs ⟨Ob.new_ (at1 8 9 (.pointer (some ⟨(w.heap.size + 1), 0, none⟩)) (.int .i64 u.kind) rfl (by first | exact .inl rfl | exact .inr ⟨_, _, _, rfl, rfl, by kernel_rfl, by decide, rfl⟩) (by kernel_rfl) rfl rfl (fun a9 W9 hb9 h9 => by have g0 := cell_next hb9 r0; simp [execOp, h9] <;> go_simp)) (by kernel_rfl), ?_⟩
      refine fcs ⟨Ob.new_ (atc2 32 7 9 10 (.int .i64 t.kind) (.int .i64 u.kind) (.int .i64 x) _ rfl rfl (by first | exact .inl rfl | exact .inr ⟨_, _, _, rfl, rfl, by kernel_rfl, by decide, rfl⟩) (by kernel_rfl) (by kernel_rfl) rfl rfl (by kernel_rfl) rfl (fun W9 hb9 => cx W9)) (by kernel_rfl), ?_⟩
      refine fcs ⟨Ob.new_ (at1 2 11 (.pointer (some ⟨w.heap.size, 0, none⟩)) (.pointer (some ⟨w.heap.size, 1, none⟩)) rfl (by first | exact .inl rfl | exact .inr ⟨_, _, _, rfl, rfl, by kernel_rfl, by decide, rfl⟩) (by kernel_rfl) rfl rfl (fun a9 W9 hb9 h9 => by simp [execOp, h9] <;> go_simp)) (by kernel_rfl), ?_⟩
      refine fcs ⟨Ob.new_ (at1 11 12 (.pointer (some ⟨w.heap.size, 1, none⟩)) (.int .i64 t.n) rfl (by first | exact .inl rfl | exact .inr ⟨_, _, _, rfl, rfl, by kernel_rfl, by decide, rfl⟩) (by kernel_rfl) rfl rfl (fun a9 W9 hb9 h9 => by have g0 := cell_next hb9 s1; simp [execOp, h9] <;> go_simp)) (by kernel_rfl), ?_⟩
      refine fcs ⟨Ob.new_ (at1 3 13 (.pointer (some ⟨(w.heap.size + 1), 0, none⟩)) (.pointer (some ⟨(w.heap.size + 1), 1, none⟩)) rfl (by first | exact .inl rfl | exact .inr ⟨_, _, _, rfl, rfl, by kernel_rfl, by decide, rfl⟩) (by kernel_rfl) rfl rfl (fun a9 W9 hb9 h9 => by simp [execOp, h9] <;> go_simp)) (by kernel_rfl), ?_⟩
      refine fcs ⟨Ob.new_ (at1 13 14 (.pointer (some ⟨(w.heap.size + 1), 1, none⟩)) (.int .i64 u.n) rfl (by first | exact .inl rfl | exact .inr ⟨_, _, _, rfl, rfl, by kernel_rfl, by decide, rfl⟩) (by kernel_rfl) rfl rfl (fun a9 W9 hb9 h9 => by have g0 := cell_next hb9 r1; simp [execOp, h9] <;> go_simp)) (by kernel_rfl), ?_⟩
      refine fcs ⟨Ob.new_ (atc2 33 12 14 15 (.int .i64 t.n) (.int .i64 u.n) (.int .i64 y) _ rfl rfl (by first | exact .inl rfl | exact .inr ⟨_, _, _, rfl, rfl, by kernel_rfl, by decide, rfl⟩) (by kernel_rfl) (by kernel_rfl) rfl rfl (by kernel_rfl) rfl (fun W9 hb9 => cy W9)) (by kernel_rfl), ?_⟩
      refine fcs ⟨Ob.new_ (at1 2 16 (.pointer (some ⟨w.heap.size, 0, none⟩)) (.pointer (some ⟨w.heap.size, 2, none⟩)) rfl (by first | exact .inl rfl | exact .inr ⟨_, _, _, rfl, rfl, by kernel_rfl, by decide, rfl⟩) (by kernel_rfl) rfl rfl (fun a9 W9 hb9 h9 => by simp [execOp, h9] <;> go_simp)) (by kernel_rfl), ?_⟩
      refine fcs ⟨Ob.new_ (at1 16 17 (.pointer (some ⟨w.heap.size, 2, none⟩)) (.string (bs t.s)) rfl (by first | exact .inl rfl | exact .inr ⟨_, _, _, rfl, rfl, by kernel_rfl, by decide, rfl⟩) (by kernel_rfl) rfl rfl (fun a9 W9 hb9 h9 => by have g0 := cell_next hb9 s2; simp [execOp, h9] <;> go_simp)) (by kernel_rfl), ?_⟩
      refine fcs ⟨Ob.new_ (at1 3 18 (.pointer (some ⟨(w.heap.size + 1), 0, none⟩)) (.pointer (some ⟨(w.heap.size + 1), 2, none⟩)) rfl (by first | exact .inl rfl | exact .inr ⟨_, _, _, rfl, rfl, by kernel_rfl, by decide, rfl⟩) (by kernel_rfl) rfl rfl (fun a9 W9 hb9 h9 => by simp [execOp, h9] <;> go_simp)) (by kernel_rfl), ?_⟩
      refine fcs ⟨Ob.new_ (at1 18 19 (.pointer (some ⟨(w.heap.size + 1), 2, none⟩)) (.string (bs u.s)) rfl (by first | exact .inl rfl | exact .inr ⟨_, _, _, rfl, rfl, by kernel_rfl, by decide, rfl⟩) (by kernel_rfl) rfl rfl (fun a9 W9 hb9 h9 => by have g0 := cell_next hb9 r2; simp [execOp, h9] <;> go_simp)) (by kernel_rfl), ?_⟩
      refine fcs ⟨Ob.new_ (atc2 34 17 19 20 (.string (bs t.s)) (.string (bs u.s)) (.int .i64 z) _ rfl rfl (by first | exact .inl rfl | exact .inr ⟨_, _, _, rfl, rfl, by kernel_rfl, by decide, rfl⟩) (by kernel_rfl) (by kernel_rfl) rfl rfl (by kernel_rfl) rfl (fun W9 hb9 => cz W9)) (by kernel_rfl), ?_⟩
      exact fnl
    intro vv wv hvv hbv _ _
    have hv10 : vv 10 = (.int .i64 x) := (hvv 10 (by decide)).1
    have hv15 : vv 15 = (.int .i64 y) := (hvv 15 (by decide)).1
    have hv20 : vv 20 = (.int .i64 z) := (hvv 20 (by decide)).1
    simp only [lay, List.foldl_cons, List.foldl_nil, List.setIfInBounds_toArray, List.set_cons_succ, List.set_cons_zero, hv10, hv15, hv20, List.drop_succ_cons, List.drop_zero]
    clear hvv cx cy cz s0 s1 s2 r0 r1 r2
    have hb := Below.next hab hbv
    have C1 := (hB.next hbv).next (ab1 wv (Obj.cells #[.int .i64 x, .int .i64 y, .int .i64 z] 3))
    have C2 := (hB'.next hbv).next (ab1 wv (Obj.cells #[.int .i64 x, .int .i64 y, .int .i64 z] 3))
    have hb2 := Below.next hb (ab1 wv (Obj.cells #[.int .i64 x, .int .i64 y, .int .i64 z] 3))
    clear hB hB' hab hbv hb
    have cO := cmpOr_any x y z wv.heap.size 3 (wv.alloc (Obj.cells #[.int .i64 x, .int .i64 y, .int .i64 z] 3)) (by simp) (by simp) (by simp)
    have c3 := C1.c 3 rfl
    have c4 := C1.c 4 rfl
    have d3 := C2.c 3 rfl
    have d4 := C2.c 4 rfl
    rw [← o1_assoc y, ← o1_assoc x] at hE
    obtain ⟨q, hq⟩ : ∃ q, o1 x (o1 y z) = q := ⟨_, rfl⟩
    rw [hq] at cO hE
    clear hq
    have cL1 := cL _ hb2
    by_cases hq : q = 0
    case neg =>
      have e1 : (q == 0) = false := by simpa using hq
      rw [o1_l hq] at hE
      subst hE
      clear cL cF hq cL1
      go_wp2_with fail
      refine cO.mono ?_
      rintro e w2 ⟨rfl, rfl⟩
      go_wp2_with fail
      go_ret
      exact ⟨rfl, hb2⟩
    case pos =>
    subst hq
    rw [o1_r] at hE
    obtain ⟨p, hp⟩ : ∃ p, cml t.l u.l = p := ⟨_, rfl⟩
    rw [hp] at cL1 hE
    clear hp cL
    go_wp2_with fail
    refine cO.mono ?_
    rintro e w2 ⟨rfl, rfl⟩
    clear cO
    go_wp2_with fail
    refine cL1.mono ?_
    rintro e w2 ⟨rfl, hb3⟩
    have hb4 := Below.next hb2 hb3
    have E1 := C1.next hb3
    have E2 := C2.next hb3
    clear c3 c4 d3 d4 cL1 C1 C2 hb2 hb3
    have c4 := E1.c 4 rfl
    have d4 := E2.c 4 rfl
    by_cases hp : p = 0
    case neg =>
      have e1 : (p == 0) = false := by simpa using hp
      rw [o1_l hp] at hE
      subst hE
      clear cF hp
      go_wp2_with fail
      go_ret
      exact ⟨rfl, hb4⟩
    case pos =>
    subst hp
    rw [o1_r] at hE
    have cF1 := cF _ hb4
    rw [← hE] at cF1
    clear cF hE
    go_wp2_with fail
    refine cF1.mono ?_
    rintro e w3 ⟨rfl, hb5⟩
    go_wp2_with fail
    go_ret
    exact ⟨rfl, Below.next hb4 hb5⟩
set_option maxRecDepth 100000 in
theorem devEqual_any (t u : Vl) (v v' : Value) (w : World) (hok : vok t) (hok' : vok u) (hv : VlV w t v) (hv' : VlV w u v') :
    Calls Try.prog 15 #[v, v'] w (Ib (.bool (cm t u == 0)) w) := by
  have cC := fun W h => devCompare_any (SizeOf.sizeOf t + 1) t u v v' W (by omega) hok hok' (hv.next h) (hv'.next h)
  obtain ⟨A, c, A2, c2, rfl, -, -⟩ := hv
  obtain ⟨A', c', A2', c2', rfl, -, -⟩ := hv'
  obtain ⟨z, hz⟩ : ∃ z, cm t u = z := ⟨_, rfl⟩
  rw [hz] at cC ⊢
  have c1 := cC _ (ab2 w (Obj.cells #[.int .i64 t.kind, .int .i64 t.n, .string (bs t.s), .slice A t.l.length c, .slice A2 t.f.length c2] 25) (Obj.cells #[.int .i64 u.kind, .int .i64 u.n, .string (bs u.s), .slice A' u.l.length c', .slice A2' u.f.length c2'] 25))
  clear cC hz
  go_enter Try.func15, Try.ntmps15
  go_wp2_with fail
  refine c1.mono ?_
  rintro e w2 ⟨rfl, hb⟩
  go_wp2_with fail
  go_ret
  exact ⟨rfl, Below.next (ab2 _ _ _) hb⟩
end Go.Proofs.Ytlebppjldoodgaa
/-
  Rows of structs that a call owns; values and entries in new memory; copies of lists. No conditions beyond those that each names.
-/
namespace Go.Proofs.Ytlebppjldoodgaa
open Go.RowKit Go.Shelf
/-- From block lo on, what was there is as it was. -/
structure Kpl (lo : Nat) (w w' : World) : Prop where
  size : w.heap.size ≤ w'.heap.size
  blk : ∀ i, lo ≤ i → i < w.heap.size → w'.heap[i]? = w.heap[i]?
theorem Kpl.refl (lo : Nat) (w : World) : Kpl lo w w := ⟨Nat.le_refl _, fun _ _ _ => rfl⟩
theorem Kpl.of {lo : Nat} {w w' : World} (hb : Below w.heap.size w w') : Kpl lo w w' := ⟨hb.size, fun i _ hi => hb.block i hi⟩
theorem Kpl.trans {lo : Nat} {w w1 w2 : World} (h : Kpl lo w w1) (k : Kpl lo w1 w2) : Kpl lo w w2 := ⟨Nat.le_trans h.size k.size, fun i h1 h2 => (k.blk i h1 (Nat.lt_of_lt_of_le h2 h.size)).trans (h.blk i h1 h2)⟩
theorem Kpl.mono {lo hi : Nat} {w w' : World} (h : Kpl lo w w') (hl : lo ≤ hi) : Kpl hi w w' := ⟨h.size, fun i h1 h2 => h.blk i (Nat.le_trans hl h1) h2⟩
theorem Kpl.gb {g hi : Nat} {w w' : World} (h : w.grownBy w' (some g)) (hg : g < hi) : Kpl hi w w' := ⟨h.size, fun i h1 h2 => h.block i h2 (fun e => by cases e; omega)⟩
theorem Kpl.gb0 {hi : Nat} {w w' : World} {q : Option Nat} (h : w.grownBy w' q) (hg : ∀ g, q = some g → g < hi) : Kpl hi w w' := ⟨h.size, fun i h1 h2 => h.block i h2 (fun e => by have := hg i e.symm; omega)⟩
theorem Kpl.set {lo : Nat} {w w' : World} (h : Kpl lo w w') {p : Addr} (hp : p.block < lo) (u : Value) : Kpl lo w (w'.setCell p u) :=
  ⟨Nat.le_trans h.size (Below.setCell (Below.refl 0 w') (Nat.zero_le p.block) u).size, fun i hi h2 => (Below.heap_setCell w' p u i (by omega)).trans (h.blk i hi h2)⟩
theorem gbq_of {w w' : World} (hb : Below w.heap.size w w') (row : Option Nat) : w.grownBy w' row := ⟨hb.os, hb.tape, hb.output, hb.size, fun i hi _ => hb.block i hi⟩
theorem own_next {w w' : World} {base : Nat} {e : TypeId} {z n : Nat} {v : Value} {xs : List Value} (h : w.ownsRow base e z v n xs) (hb : Below w.heap.size w w') : w'.ownsRow base e z v n xs := by
  cases hv : v.ownBlock with
  | none => exact h.kept (gbq_of hb none) (.inl hv)
  | some g => exact h.kept (gbq_of hb none) (.inr (by rw [hv]; simp))
theorem own_mono {w : World} {base base' : Nat} {e : TypeId} {z n : Nat} {v : Value} {xs : List Value} (h : w.ownsRow base e z v n xs) (hb : base' ≤ base) : w.ownsRow base' e z v n xs := by
  refine ⟨h.1, ?_⟩
  rcases h.2 with h1 | ⟨g, cap, cur, h1, h2, h3⟩
  · exact .inl h1
  · exact .inr ⟨g, cap, cur, h1, Nat.le_trans hb h2, h3⟩
theorem szl_mem : ∀ {l : List Vl} {i : Nat} (h : i < l.length), sz (l[i]'h) + (l.length - 1) ≤ sz.szl l
  | t :: ts, 0, _ => by
    have := szl_len ts
    rw [sz.szl]; simp; omega
  | t :: ts, i + 1, h => by
    have := szl_mem (l := ts) (i := i) (by simpa using h)
    have := sz_pos t
    rw [sz.szl]; simp at h ⊢; omega
where
  sz_pos : ∀ t : Vl, 1 ≤ sz t := fun t => by rw [sz_eq]; omega
  szl_len : ∀ l : List Vl, l.length ≤ sz.szl l
  | [] => by simp
  | t :: ts => by have := szl_len ts; have := sz_pos t; rw [sz.szl]; simp; omega
theorem sz_pos (t : Vl) : 1 ≤ sz t := by rw [sz_eq]; omega
theorem szl_len : ∀ l : List Vl, l.length ≤ sz.szl l
  | [] => by simp
  | t :: ts => by have := szl_len ts; have := sz_pos t; rw [sz.szl]; simp; omega
theorem szf_len : ∀ l : List (Int × Vl), l.length ≤ sz.szf l
  | [] => by simp
  | (n, t) :: ts => by have := szf_len ts; have := sz_pos t; rw [sz.szf]; simp; omega
theorem szf_mem : ∀ {l : List (Int × Vl)} {i : Nat} (h : i < l.length), sz (l[i]'h).2 ≤ sz.szf l
  | (n, t) :: ts, 0, _ => by rw [sz.szf]; simp
  | (n, t) :: ts, i + 1, h => by
    have := szf_mem (l := ts) (i := i) (by simpa using h)
    rw [sz.szf]; simp at h ⊢; omega
theorem sz_l {t : Vl} {i : Nat} (h : i < t.l.length) : sz (t.l[i]'h) < sz t := by have := szl_mem h; rw [sz_eq t]; omega
theorem sz_f {t : Vl} {i : Nat} (h : i < t.f.length) : sz (t.f[i]'h).2 < sz t := by have := szf_mem h; rw [sz_eq t]; omega
theorem sz_ll (t : Vl) : t.l.length < sz t := by have := szl_len t.l; rw [sz_eq t]; omega
theorem sz_fl (t : Vl) : t.f.length < sz t := by have := szf_len t.f; rw [sz_eq t]; omega
/-- Values from place p on. -/
def putAt : List Value → Nat → List Value → List Value
  | xs, _, [] => xs
  | xs, p, v :: vs => putAt (xs.set p v) (p + 1) vs
theorem putAt_len : ∀ (vs xs : List Value) (p : Nat), (putAt xs p vs).length = xs.length
  | [], _, _ => rfl
  | v :: vs, xs, p => by rw [putAt, putAt_len vs, List.length_set]
theorem putAt_other : ∀ (vs xs : List Value) (p i : Nat), (i < p ∨ p + vs.length ≤ i) → (putAt xs p vs)[i]? = xs[i]?
  | [], _, _, _, _ => rfl
  | v :: vs, xs, p, i, h => by
    rw [List.length_cons] at h
    rw [putAt, putAt_other vs _ _ _ (by omega), List.getElem?_set_ne (by omega)]
theorem putAt_same : ∀ (vs xs : List Value) (p i : Nat), i < vs.length → p + vs.length ≤ xs.length → (putAt xs p vs)[p + i]? = vs[i]?
  | v :: vs, xs, p, 0, _, hx => by
    rw [List.length_cons] at hx
    rw [putAt, putAt_other vs _ _ _ (by omega), Nat.add_zero, List.getElem?_set_self (by omega)]
    rfl
  | v :: vs, xs, p, i + 1, hi, hx => by
    rw [List.length_cons] at hx hi
    rw [putAt, show p + (i + 1) = p + 1 + i by omega, putAt_same vs _ _ _ (by omega) (by rw [List.length_set]; omega)]
    rfl
/-- Cells of block g are set anew. -/
def setCs : World → Nat → Nat → List Value → World
  | w, _, _, [] => w
  | w, g, p, v :: vs => setCs (w.setCell ⟨g, p, none⟩ v) g (p + 1) vs
theorem storedN {base g n cap z : Nat} {e : TypeId} : ∀ (vs : List Value) {w : World} {xs : List Value} (_ : w.ownsRow base e z (.slice (some ⟨g, 0, none⟩) n cap) n xs) (p : Nat),
    (setCs w g p vs).ownsRow base e z (.slice (some ⟨g, 0, none⟩) n cap) n (putAt xs p vs) ∧ w.grownBy (setCs w g p vs) (some g)
  | [], w, xs, h, p => ⟨h, World.grownBy.refl _ _⟩
  | v :: vs, w, xs, h, p => by
    obtain ⟨h1, g1⟩ := h.stored p v
    obtain ⟨h2, g2⟩ := storedN vs h1 (p + 1)
    exact ⟨h2, g1.trans g2⟩
/-- The elements of a row, z cells each. -/
def IL {α β : Type} (z : Nat) (enc : α → β → List Value) (P : Nat → α → β → Prop) (l : List α) (xs : List Value) : Prop :=
  xs.length = l.length * z ∧ ∀ j (h : j < l.length), ∃ b, (∀ i, i < z → xs[j * z + i]? = (enc (l[j]'h) b)[i]?) ∧ P j (l[j]'h) b
theorem IL.mono {α β : Type} {z : Nat} {enc : α → β → List Value} {P Q : Nat → α → β → Prop} {l : List α} {xs : List Value} (h : IL z enc P l xs) (hPQ : ∀ j (h : j < l.length) b, P j (l[j]'h) b → Q j (l[j]'h) b) : IL z enc Q l xs :=
  ⟨h.1, fun j hj => by obtain ⟨b, h1, h2⟩ := h.2 j hj; exact ⟨b, h1, hPQ j hj b h2⟩⟩
theorem IL.nil {α β : Type} (z : Nat) (enc : α → β → List Value) (P : Nat → α → β → Prop) : IL z enc P [] [] := ⟨by simp, fun j h => absurd h (Nat.not_lt_zero _)⟩
theorem mulz {j k z i : Nat} (h : j < k) (hi : i < z) : j * z + i < k * z := by
  have h1 : (j + 1) * z ≤ k * z := Nat.mul_le_mul_right z h
  rw [Nat.add_mul, Nat.one_mul] at h1
  omega
theorem IL.put {α β : Type} {z : Nat} {enc : α → β → List Value} {P Q : Nat → α → β → Prop} {l : List α} {xs : List Value} (h : IL z enc P l xs) {k : Nat} (hk : k < l.length) (y : α) (b : β) (hz : (enc y b).length = z)
    (hP : ∀ j (h : j < l.length) b, j ≠ k → P j (l[j]'h) b → Q j (l[j]'h) b) (hQ : Q k y b) : IL z enc Q (l.set k y) (putAt xs (k * z) (enc y b)) := by
  refine ⟨by rw [putAt_len, h.1, List.length_set], fun j hj => ?_⟩
  have hj2 : j < l.length := by simpa using hj
  by_cases e : j = k
  · subst e
    refine ⟨b, fun i hi => ?_, ?_⟩
    · rw [putAt_same _ _ _ _ (by omega) (by rw [h.1, hz]; have := mulz (z := z) hk (i := 0) (by omega); have h1 : (j + 1) * z ≤ l.length * z := Nat.mul_le_mul_right z hk; rw [Nat.add_mul, Nat.one_mul] at h1; omega)]
      rw [List.getElem_set_self]
    · rw [List.getElem_set_self]; exact hQ
  · obtain ⟨b', h1, h2⟩ := h.2 j hj2
    rw [List.getElem_set_ne (by omega)]
    refine ⟨b', fun i hi => ?_, hP j hj2 b' e h2⟩
    rw [putAt_other _ _ _ _ ?_, h1 i hi]
    rw [hz]
    rcases Nat.lt_or_gt_of_ne e with h3 | h3
    · exact .inl (by have := mulz h3 hi; omega)
    · right
      have h1 : (k + 1) * z ≤ j * z := Nat.mul_le_mul_right z h3
      rw [Nat.add_mul, Nat.one_mul] at h1
      omega
theorem news_gen {α β : Type} {z : Nat} {enc : α → β → List Value} {P : Nat → α → β → Prop} (hz : ∀ x b, (enc x b).length = z) (h0 : 0 < z) (hone : ∀ x b u, u ∈ enc x b → u.oneCell' = true) {w : World} {b off : Nat} {l : List α}
    (h : ∀ q (hq : q < l.length), ∃ bb, (∀ i, i < z → w.cell? ⟨b, off + (q * z + i), none⟩ = (enc (l[q]'hq) bb)[i]?) ∧ P q (l[q]'hq) bb) :
    ∃ xs : List Value, (∀ j u, xs[j]? = some u → w.cell? ⟨b, off + j, none⟩ = some u) ∧ (∀ u ∈ xs, u.oneCell' = true) ∧ IL z enc P l xs := by
  have hs : ∀ j, j < l.length * z → ∃ u, w.cell? ⟨b, off + j, none⟩ = some u ∧ u.oneCell' = true := fun j hj => by
    have hq : j / z < l.length := (Nat.div_lt_iff_lt_mul h0).2 hj
    obtain ⟨bb, h1, -⟩ := h (j / z) hq
    have hm : j % z < z := Nat.mod_lt _ h0
    have h2 := h1 (j % z) hm
    rw [show j / z * z + j % z = j by rw [Nat.mul_comm]; exact Nat.div_add_mod j z, List.getElem?_eq_getElem (by rw [hz]; exact hm)] at h2
    exact ⟨_, h2, hone _ _ _ (List.getElem_mem _)⟩
  have hget : ∀ j, j < l.length * z → ((List.range (l.length * z)).map fun j => (w.cell? ⟨b, off + j, none⟩).getD undef)[j]? = some ((w.cell? ⟨b, off + j, none⟩).getD undef) := fun j hj => by simp [hj]
  refine ⟨(List.range (l.length * z)).map fun j => (w.cell? ⟨b, off + j, none⟩).getD undef, fun j u hu => ?_, fun u hu => ?_, by simp, fun q hq => ?_⟩
  · have hj : j < l.length * z := by
      have := (List.getElem?_eq_some_iff.1 hu).1
      simpa using this
    rw [hget j hj] at hu
    obtain ⟨v, hv, -⟩ := hs j hj
    rw [hv] at hu ⊢
    exact hu
  · obtain ⟨j, hj, rfl⟩ := List.mem_map.1 hu
    obtain ⟨v, hv, h1⟩ := hs j (List.mem_range.1 hj)
    rw [hv]
    exact h1
  · obtain ⟨bb, h1, h2⟩ := h q hq
    refine ⟨bb, fun i hi => ?_, h2⟩
    have hj := mulz hq hi
    rw [hget _ hj, ← h1 i hi]
    obtain ⟨v, hv, -⟩ := hs _ hj
    rw [hv]
    rfl
/-- Where a value's lists lie. -/
structure Sb where
  A : Option Addr
  c : Nat
  B : Option Addr
  d : Nat
def encV (t : Vl) (s : Sb) : List Value := [.int .i64 t.kind, .int .i64 t.n, .string (bs t.s), .slice s.A t.l.length s.c, .slice s.B t.f.length s.d]
def encE (x : Int × Vl) (s : Sb) : List Value := [.int .i64 x.1, .int .i64 x.2.kind, .int .i64 x.2.n, .string (bs x.2.s), .slice s.A x.2.l.length s.c, .slice s.B x.2.f.length s.d]
/-- What a value's lists are. -/
def RdV (w : World) (t : Vl) (s : Sb) : Prop := Rw VlA 5 w t.l s.A ∧ Rw EtA 6 w t.f s.B
/-- The same, whatever becomes of blocks before hi. -/
def NwV (hi : Nat) (w : World) (t : Vl) (s : Sb) : Prop := ∀ w', Kpl hi w w' → RdV w' t s
theorem RdV.next {w w' : World} {t : Vl} {s : Sb} (hb : Below w.heap.size w w') (h : RdV w t s) : RdV w' t s := ⟨h.1.next fun x p => VlA.next hb x p, h.2.next fun x p => EtA.next hb x p⟩
theorem NwV.next {hi : Nat} {w w' : World} {t : Vl} {s : Sb} (h : NwV hi w t s) (k : Kpl hi w w') : NwV hi w' t s := fun w2 k2 => h w2 (k.trans k2)
theorem NwV.rd {hi : Nat} {w : World} {t : Vl} {s : Sb} (h : NwV hi w t s) : RdV w t s := h w (Kpl.refl _ _)
theorem NwV.low {lo hi : Nat} {w : World} {t : Vl} {s : Sb} (h : NwV hi w t s) (hl : lo ≤ hi) : NwV lo w t s := fun w2 k2 => h w2 (k2.mono hl)
theorem rdV_iff {w : World} {t : Vl} {v : Value} : VlV w t v ↔ ∃ s, v = .agg (encV t s).toArray ∧ RdV w t s :=
  ⟨fun ⟨A, c, B, d, e, h1, h2⟩ => ⟨⟨A, c, B, d⟩, e, h1, h2⟩, fun ⟨s, e, h1, h2⟩ => ⟨s.A, s.c, s.B, s.d, e, h1, h2⟩⟩
theorem vlA_lit {w : World} {t : Vl} {b o : Nat} (h : VlA w t ⟨b, o, none⟩) : ∃ s, (∀ i, i < 5 → w.cell? ⟨b, o + i, none⟩ = (encV t s)[i]?) ∧ RdV w t s := by
  obtain ⟨h0, h1, h2, ⟨A, c, h3, h4⟩, B, d, h5, h6⟩ := h.cells
  refine ⟨⟨A, c, B, d⟩, fun i hi => ?_, h4, h6⟩
  match i, hi with
  | 0, _ => exact h0
  | 1, _ => exact h1
  | 2, _ => exact h2
  | 3, _ => exact h3
  | 4, _ => exact h5
theorem etA_lit {w : World} {x : Int × Vl} {b o : Nat} (h : EtA w x ⟨b, o, none⟩) : ∃ s, (∀ i, i < 6 → w.cell? ⟨b, o + i, none⟩ = (encE x s)[i]?) ∧ RdV w x.2 s := by
  obtain ⟨hn, h⟩ := h
  obtain ⟨h0, h1, h2, ⟨A, c, h3, h4⟩, B, d, h5, h6⟩ := h.cells
  refine ⟨⟨A, c, B, d⟩, fun i hi => ?_, h4, h6⟩
  match i, hi with
  | 0, _ => exact hn
  | 1, _ => exact h0
  | 2, _ => exact h1
  | 3, _ => exact h2
  | 4, _ => exact h3
  | 5, _ => exact h5
theorem vlA_of {w : World} {t : Vl} {b o : Nat} {s : Sb} (h : ∀ i, i < 5 → w.cell? ⟨b, o + i, none⟩ = (encV t s)[i]?) (hr : RdV w t s) : VlA w t ⟨b, o, none⟩ :=
  VlA.of (h 0 (by omega)) (h 1 (by omega)) (h 2 (by omega)) (h 3 (by omega)) hr.1 (h 4 (by omega)) hr.2
theorem etA_of {w : World} {x : Int × Vl} {b o : Nat} {s : Sb} (h : ∀ i, i < 6 → w.cell? ⟨b, o + i, none⟩ = (encE x s)[i]?) (hr : RdV w x.2 s) : EtA w x ⟨b, o, none⟩ :=
  ⟨h 0 (by omega), VlA.of (h 1 (by omega)) (h 2 (by omega)) (h 3 (by omega)) (h 4 (by omega)) hr.1 (h 5 (by omega)) hr.2⟩
/-- A row of values that a call owns, in a later world that kept its block. -/
theorem rowV_of {w w' : World} {lo n cap g : Nat} {e : TypeId} {l : List Vl} {xs : List Value} (ho : w.ownsRow lo e 5 (.slice (some ⟨g, 0, none⟩) n cap) n xs) (hk : w'.heap[g]? = w.heap[g]?) (hn : l.length = n) (h : IL 5 encV (fun _ t s => RdV w' t s) l xs) : Rw VlA 5 w' l (some ⟨g, 0, none⟩) := by
  refine .inr ⟨_, rfl, fun i hi => ?_⟩
  obtain ⟨s, h1, h2⟩ := h.2 i hi
  rw [Addr.add_lit]
  refine vlA_of (s := s) (fun j hj => ?_) h2
  rw [World.cell?_of_block (w := w) hk, Nat.zero_add, ho.cellAt _ (by rw [← hn]; exact mulz hi hj)]
  exact h1 j hj
theorem rowE_of {w w' : World} {lo n cap g : Nat} {e : TypeId} {l : List (Int × Vl)} {xs : List Value} (ho : w.ownsRow lo e 6 (.slice (some ⟨g, 0, none⟩) n cap) n xs) (hk : w'.heap[g]? = w.heap[g]?) (hn : l.length = n) (h : IL 6 encE (fun _ t s => RdV w' t.2 s) l xs) : Rw EtA 6 w' l (some ⟨g, 0, none⟩) := by
  refine .inr ⟨_, rfl, fun i hi => ?_⟩
  obtain ⟨s, h1, h2⟩ := h.2 i hi
  rw [Addr.add_lit]
  refine etA_of (s := s) (fun j hj => ?_) h2
  rw [World.cell?_of_block (w := w) hk, Nat.zero_add, ho.cellAt _ (by rw [← hn]; exact mulz hi hj)]
  exact h1 j hj
theorem infoV : (Try.prog.info? 25).map (fun i => (i.zero, i.size, i.bytes)) = some (some (.agg #[.int .i64 0, .int .i64 0, .string ⟨#[]⟩, .slice none 0 0, .slice none 0 0]), 5, 80) := by kernel_rfl
theorem infoE : (Try.prog.info? 72).map (fun i => (i.zero, i.size, i.bytes)) = some (some (.agg #[.int .i64 0, .int .i64 0, .int .i64 0, .string ⟨#[]⟩, .slice none 0 0, .slice none 0 0]), 6, 88) := by kernel_rfl
theorem spot_none0 {w : World} {a : Addr} {v : Value} (h : w.cell? a = some v) : a.spot = none := by
  unfold World.cell? at h
  split at h
  · split at h
    · cases h
    · rename_i h1; simpa using h1
  · cases h
theorem oneV (x : Vl) (b : Sb) (u : Value) (h : u ∈ encV x b) : u.oneCell' = true := by
  simp only [encV, List.mem_cons, List.not_mem_nil, or_false] at h
  rcases h with rfl | rfl | rfl | rfl | rfl <;> rfl
theorem oneE (x : Int × Vl) (b : Sb) (u : Value) (h : u ∈ encE x b) : u.oneCell' = true := by
  simp only [encE, List.mem_cons, List.not_mem_nil, or_false] at h
  rcases h with rfl | rfl | rfl | rfl | rfl | rfl <;> rfl
theorem lit_next {w w' : World} (hb : Below w.heap.size w w') {p : Addr} {l : List Value} {i : Nat} (h : w.cell? p = l[i]?) (hi : i < l.length) : w'.cell? p = l[i]? := by
  rw [List.getElem?_eq_getElem hi] at h ⊢
  exact cell_next hb h
/-- A copy. -/
def ClP (e : TypeId) (z : Nat) (n : Nat) (xs : List Value) (w : World) (en : Ending) (w' : World) : Prop := ∃ v', en = .returned v' ∧ w'.ownsRow w.heap.size e z v' n xs ∧ Below w.heap.size w w'
set_option maxRecDepth 100000 in
set_option maxHeartbeats 2000000 in
theorem cloneV0_any (A : Option Addr) (c : Nat) (w : World) : Calls Try.prog 68 #[.slice A 0 c] w (ClP 25 5 0 [] w) := by
  cases A with
  | none => exact (AnyE.slices_Clone_nil Try.clone68 0 c w).mono fun e w' ⟨h1, h2⟩ => ⟨_, h1, World.ownsRow_nil _ _ _ _, by rw [h2]; exact Below.refl _ _⟩
  | some a =>
    obtain ⟨i, hi, hz, hs5, hby⟩ := info_parts infoV
    have q22 : ∀ (w : World) (a : Option Addr) (n c n' c' : Nat), (binOp .eql 22 (.slice a n c) (.slice none n' c')).run Try.prog w = .ok (.bool a.isNone) w := fun w a n c n' c' => Lib.run_eql_slice_nil w _ _ a n c n' c' Try.underlying22
    go_enter Try.func68, Try.ntmps68
    go_wp2_with (at_builtin; refine wpList_append_own _ rfl _ _ 22 rfl w.heap.size 25 i _ 5 80 Try.underlying22 hi hz hs5 hby rfl (by decide) _ _ _ rfl (World.ownsRow_made w #[] 0 (Nat.le_refl _) (Nat.zero_le _) rfl) a 0 c [] rfl rfl (by intro j u hj; simp at hj) (by intro u hu; cases hu) (by unfold maxLen; omega) (by omega) (by simp) ?_)
    intro v' w1 hown hgrow hnil
    go_wp2
    go_ret
    exact ⟨v', rfl, by simpa using hown, ((Below.refl _ w).alloc (Nat.le_refl _) _).grown hgrow (by simp) (by intro k hk; simp [Value.ownBlock] at hk; omega)⟩
set_option maxRecDepth 100000 in
set_option maxHeartbeats 2000000 in
theorem cloneE0_any (A : Option Addr) (c : Nat) (w : World) : Calls Try.prog 69 #[.slice A 0 c] w (ClP 72 6 0 [] w) := by
  cases A with
  | none => exact (AnyE.slices_Clone_nil Try.clone69 0 c w).mono fun e w' ⟨h1, h2⟩ => ⟨_, h1, World.ownsRow_nil _ _ _ _, by rw [h2]; exact Below.refl _ _⟩
  | some a =>
    obtain ⟨i, hi, hz, hs5, hby⟩ := info_parts infoE
    have q22 : ∀ (w : World) (a : Option Addr) (n c n' c' : Nat), (binOp .eql 23 (.slice a n c) (.slice none n' c')).run Try.prog w = .ok (.bool a.isNone) w := fun w a n c n' c' => Lib.run_eql_slice_nil w _ _ a n c n' c' Try.underlying23
    go_enter Try.func69, Try.ntmps69
    go_wp2_with (at_builtin; refine wpList_append_own _ rfl _ _ 23 rfl w.heap.size 72 i _ 6 88 Try.underlying23 hi hz hs5 hby rfl (by decide) _ _ _ rfl (World.ownsRow_made w #[] 0 (Nat.le_refl _) (Nat.zero_le _) rfl) a 0 c [] rfl rfl (by intro j u hj; simp at hj) (by intro u hu; cases hu) (by unfold maxLen; omega) (by omega) (by simp) ?_)
    intro v' w1 hown hgrow hnil
    go_wp2
    go_ret
    exact ⟨v', rfl, by simpa using hown, ((Below.refl _ w).alloc (Nat.le_refl _) _).grown hgrow (by simp) (by intro k hk; simp [Value.ownBlock] at hk; omega)⟩
theorem cloneV_any (l : List Vl) (A : Option Addr) (c : Nat) (W0 w : World) (hb0 : Below W0.heap.size W0 w) (hl : l.length ≤ 2000000) (hR : Rw VlA 5 W0 l A) :
    Calls Try.prog 68 #[.slice A l.length c] w fun e w' => ∃ xs, IL 5 encV (fun _ t s => RdV W0 t s) l xs ∧ ClP 25 5 l.length xs w e w' := by
  by_cases h0 : l = []
  · subst h0
    exact (cloneV0_any A c w).mono fun e w' h => ⟨[], IL.nil _ _ _, h⟩
  · rcases hR with h | ⟨a, rfl, h⟩
    · exact absurd h h0
    · have h1 : 0 < l.length := List.length_pos_iff.2 h0
      have hs : a.spot = none := by
        have := spot_none0 ((h 0 h1).cells.1)
        simpa [Addr.add] using this
      obtain ⟨b, off, s⟩ := a
      have hs : s = none := hs
      subst hs
      obtain ⟨xs, hx2, hx3, hx4⟩ := news_gen (z := 5) (enc := encV) (P := fun _ t s => RdV W0 t s) (fun _ _ => rfl) (by decide) oneV (w := w) (b := b) (off := off) (l := l) (fun q hq => by
        have := h q hq
        rw [Addr.add_lit] at this
        obtain ⟨s, k1, k2⟩ := vlA_lit this
        exact ⟨s, fun i hi => by rw [← Nat.add_assoc]; exact lit_next hb0 (k1 i hi) (by show i < _; exact hi), k2⟩)
      obtain ⟨i, hi, hz, hs5, hby⟩ := info_parts infoV
      exact (AnyE.slices_Clone Try.clone68 i _ 5 80 hi hz hs5 hby rfl (by decide) Try.sizeOf25 b off l.length c xs w hx4.1 (by unfold maxLen; omega) (by omega) hx2 hx3).mono fun e w' ⟨v', e1, e2, _, e4⟩ => ⟨xs, hx4, v', e1, e2, e4⟩
theorem cloneE_any (l : List (Int × Vl)) (A : Option Addr) (c : Nat) (W0 w : World) (hb0 : Below W0.heap.size W0 w) (hl : l.length ≤ 2000000) (hR : Rw EtA 6 W0 l A) :
    Calls Try.prog 69 #[.slice A l.length c] w fun e w' => ∃ xs, IL 6 encE (fun _ t s => RdV W0 t.2 s) l xs ∧ ClP 72 6 l.length xs w e w' := by
  by_cases h0 : l = []
  · subst h0
    exact (cloneE0_any A c w).mono fun e w' h => ⟨[], IL.nil _ _ _, h⟩
  · rcases hR with h | ⟨a, rfl, h⟩
    · exact absurd h h0
    · have h1 : 0 < l.length := List.length_pos_iff.2 h0
      have hs : a.spot = none := by
        have := spot_none0 ((h 0 h1).1)
        simpa [Addr.add] using this
      obtain ⟨b, off, s⟩ := a
      have hs : s = none := hs
      subst hs
      obtain ⟨xs, hx2, hx3, hx4⟩ := news_gen (z := 6) (enc := encE) (P := fun _ t s => RdV W0 t.2 s) (fun _ _ => rfl) (by decide) oneE (w := w) (b := b) (off := off) (l := l) (fun q hq => by
        have := h q hq
        rw [Addr.add_lit] at this
        obtain ⟨s, k1, k2⟩ := etA_lit this
        exact ⟨s, fun i hi => by rw [← Nat.add_assoc]; exact lit_next hb0 (k1 i hi) (by show i < _; exact hi), k2⟩)
      obtain ⟨i, hi, hz, hs5, hby⟩ := info_parts infoE
      exact (AnyE.slices_Clone Try.clone69 i _ 6 88 hi hz hs5 hby rfl (by decide) Try.sizeOf72 b off l.length c xs w hx4.1 (by unfold maxLen; omega) (by omega) hx2 hx3).mono fun e w' ⟨v', e1, e2, _, e4⟩ => ⟨xs, hx4, v', e1, e2, e4⟩
end Go.Proofs.Ytlebppjldoodgaa

import Derived.Test.YtlebppjldoodgaaYd
import Derived.Test.YtlebppjldoodgaaUx
/-
  The developers' Compare and Equal. No conditions beyond those that each names.
-/
namespace Go.Proofs.Ytlebppjldoodgaa
open Go.RowKit Go.Sort
theorem is_ib {v : Value} {w w' : World} {e : Ending} (h : Is v w e w') : Ib v w e w' := ⟨h.1, by rw [← h.2]; exact Below.refl _ _⟩
set_option maxRecDepth 100000 in
set_option maxHeartbeats 2000000 in
theorem cmpOr_any (x y z : Int) (g : Nat) (c : Nat) (w : World) (h0 : w.cell? ⟨g, 0, none⟩ = some (.int .i64 x)) (h1 : w.cell? ⟨g, 1, none⟩ = some (.int .i64 y)) (h2 : w.cell? ⟨g, 2, none⟩ = some (.int .i64 z)) :
    Calls Try.prog 31 #[.slice (some ⟨g, 0, none⟩) 3 c] w (Is (.int .i64 (o1 x (o1 y z))) w) := by
  obtain ⟨r, hr⟩ : ∃ r, o1 x (o1 y z) = r := ⟨_, rfl⟩
  rw [hr]
  have HR := Lib.hid hr
  clear hr
  have hblk : g < w.heap.size := blk_lt h0
  go_enter Try.func31, Try.ntmps31
  go_wp2_with fail
  go_loopw [8] (fun i wr => ∃ k : Nat, k ≤ 3 ∧ i = .int .i64 (k : Int) ∧ wr = w ∧ Hid (o1 (if k ≤ 0 then x else 0) (o1 (if k ≤ 1 then y else 0) (if k ≤ 2 then z else 0)) = r)) (fun i _ => 3 - (intOf i).toNat)
  case atStart => exact ⟨0, by omega, rfl, rfl, HR⟩
  case round =>
    obtain ⟨k, hk, rfl, rfl, hI⟩ := hrel
    clear HR
    by_cases k0 : k = 0
    · subst k0
      have hI := hI.out
      simp only [Nat.le_refl, if_true, Nat.zero_le] at hI
      by_cases hx : x = 0
      · subst hx
        rw [o1_r] at hI
        have HE := Lib.hid hI
        clear hI
        go_wp2_with fail
        go_roundw
        case rel => exact ⟨1, by omega, by first | rfl | go_num, by first | rfl | trivial, Lib.hid (by simpa [o1] using HE.out)⟩
        case measure => simp [intOf]
      · have d0 : (x != 0) = true := by simpa using hx
        rw [o1_l hx] at hI
        have HE := Lib.hid hI
        clear hI hx
        go_wp2_with fail
        go_ret
        obtain rfl := HE.out
        exact ⟨rfl, rfl⟩
    by_cases k1 : k = 1
    · subst k1
      have hI := hI.out
      rw [if_neg (by decide), o1_r, if_pos (by decide), if_pos (by decide)] at hI
      by_cases hx : y = 0
      · subst hx
        rw [o1_r] at hI
        have HE := Lib.hid hI
        clear hI
        go_wp2_with fail
        go_roundw
        case rel => exact ⟨2, by omega, by first | rfl | go_num, by first | rfl | trivial, Lib.hid (by simpa [o1] using HE.out)⟩
        case measure => simp [intOf]
      · have d0 : (y != 0) = true := by simpa using hx
        rw [o1_l hx] at hI
        have HE := Lib.hid hI
        clear hI hx
        go_wp2_with fail
        go_ret
        obtain rfl := HE.out
        exact ⟨rfl, rfl⟩
    by_cases k2 : k = 2
    · subst k2
      have hI := hI.out
      rw [if_neg (by decide), o1_r, if_neg (by decide), o1_r, if_pos (by decide)] at hI
      by_cases hx : z = 0
      · subst hx
        have HE := Lib.hid hI
        clear hI
        go_wp2_with fail
        go_roundw
        case rel => exact ⟨3, by omega, by first | rfl | go_num, by first | rfl | trivial, Lib.hid (by simpa [o1] using HE.out)⟩
        case measure => simp [intOf]
      · have d0 : (z != 0) = true := by simpa using hx
        have HE := Lib.hid hI
        clear hI hx
        go_wp2_with fail
        go_ret
        obtain rfl := HE.out
        exact ⟨rfl, rfl⟩
    · obtain rfl : k = 3 := by omega
      have HE := Lib.hid (show (0 : Int) = r by simpa [o1] using hI.out)
      clear hI
      go_wp2_with fail
      go_ret
      obtain rfl := HE.out
      exact ⟨rfl, rfl⟩
/-- The order of entries. -/
def ecm (x y : Int × Vl) : Int := o1 (sg x.1 y.1) (cm x.2 y.2)
theorem o1_assoc (a b c : Int) : o1 (o1 a b) c = o1 a (o1 b c) := by
  by_cases h : a = 0
  · subst h; rw [o1_r, o1_r]
  · rw [o1_l h, o1_l h, o1_l h]
theorem cmf_drop2 {a b : List (Int × Vl)} {k : Nat} (h1 : k < a.length) (h2 : k < b.length) : cmf (a.drop k) (b.drop k) = o1 (ecm (a[k]'h1) (b[k]'h2)) (cmf (a.drop (k + 1)) (b.drop (k + 1))) := by
  rw [cmf_drop h1 h2, ecm, o1_assoc]
/-- An entry as a value. -/
def EtV (w : World) (x : Int × Vl) (v : Value) : Prop := ∃ A c A2 c2, v = .agg #[.int .i64 x.1, .int .i64 x.2.kind, .int .i64 x.2.n, .string (bs x.2.s), .slice A x.2.l.length c, .slice A2 x.2.f.length c2] ∧ Rw VlA 5 w x.2.l A ∧ Rw EtA 6 w x.2.f A2
theorem EtV.next {w w' : World} (hb : Below w.heap.size w w') {t : Int × Vl} {v : Value} (h : EtV w t v) : EtV w' t v := by
  obtain ⟨A, c, A2, c2, e, h1, h2⟩ := h
  exact ⟨A, c, A2, c2, e, h1.next fun x p => VlA.next hb x p, h2.next fun x p => EtA.next hb x p⟩
theorem EtA.val2 {w : World} {x : Int × Vl} {p : Addr} (h : EtA w x p) : ∃ A c A2 c2, w.cell? p = some (.int .i64 x.1) ∧ w.cell? (nx1 p 1) = some (.int .i64 x.2.kind) ∧ w.cell? (nx1 p 2) = some (.int .i64 x.2.n) ∧ w.cell? (nx1 p 3) = some (.string (bs x.2.s)) ∧ w.cell? (nx1 p 4) = some (.slice A x.2.l.length c) ∧ w.cell? (nx1 p 5) = some (.slice A2 x.2.f.length c2) ∧ EtV w x (.agg #[.int .i64 x.1, .int .i64 x.2.kind, .int .i64 x.2.n, .string (bs x.2.s), .slice A x.2.l.length c, .slice A2 x.2.f.length c2]) := by
  obtain ⟨A, c, A2, c2, h0, h1, h2, h3, h4, h5, ⟨B, d, B2, d2, e, k1, k2⟩⟩ := h.val
  refine ⟨A, c, A2, c2, h0, h1, h2, h3, h4, h5, B, d, B2, d2, ?_, k1, k2⟩
  injection e with e
  injection e with e
  injection e with _ e
  injection e with _ e
  injection e with _ e
  injection e with e1 e
  injection e with e2 e
  rw [e1, e2]
set_option maxRecDepth 100000 in
set_option maxHeartbeats 4000000 in
theorem cmpVl_any (e e' : List Vl) (A : Option Addr) (c : Nat) (A' : Option Addr) (c' : Nat) (w : World) (hR : Rw VlA 5 w e A) (hR' : Rw VlA 5 w e' A') (hl : e.length ≤ 9223372036854775807) (hl' : e'.length ≤ 9223372036854775807)
    (hc : ∀ i (h : i < e.length) (h' : i < e'.length) v v' w', VlV w' (e[i]'h) v → VlV w' (e'[i]'h') v' → Calls Try.prog 13 #[v, v'] w' (Ib (.int .i64 (cm (e[i]'h) (e'[i]'h'))) w')) :
    Calls Try.prog 35 #[.slice A e.length c, .slice A' e'.length c', .func (.func 13) #[] #[]] w (Ib (.int .i64 (cml e e')) w) := by
  obtain ⟨q, hq⟩ : ∃ q, e.length = q := ⟨_, rfl⟩
  obtain ⟨q', hq'⟩ : ∃ q', e'.length = q' := ⟨_, rfl⟩
  obtain ⟨r, hr⟩ : ∃ r, cml e e' = r := ⟨_, rfl⟩
  have HQ := Lib.hid hq
  have HQ' := Lib.hid hq'
  rw [hq] at hl
  rw [hq'] at hl'
  rw [hq, hq', hr]
  have H0 := Lib.hid (show cml (e.drop 0) (e'.drop 0) = r from hr)
  clear hr hq hq'
  go_enter Try.func35, Try.ntmps35
  go_wp2_with fail
  go_loopw [13] (fun i wr => ∃ k : Nat, k ≤ q ∧ k ≤ q' ∧ i = .int .i64 (k : Int) ∧ Hid (cml (e.drop k) (e'.drop k) = r) ∧ Below w.heap.size w wr) (fun i _ => q - (intOf i).toNat)
  case atStart => exact ⟨0, by omega, by omega, rfl, H0, Below.refl _ _⟩
  case round =>
    obtain ⟨k, hk, hk', rfl, HK, hb⟩ := hrel
    clear H0
    by_cases hlt : k < q
    · have h1 : k < e.length := by rw [HQ.out]; exact hlt
      obtain ⟨a, rfl, hA⟩ := hR.get h1
      obtain ⟨B, p, B2, p2, x0, x1, x2, x3, x4, hV⟩ := (VlA.next hb _ _ hA).val
      have hblk : (a.add (k * 5)).block < wr.heap.size := blk_lt x0
      by_cases hlt' : k < q'
      · have h2 : k < e'.length := by rw [HQ'.out]; exact hlt'
        obtain ⟨a', rfl, hA'⟩ := hR'.get h2
        obtain ⟨B', p', B2', p2', y0, y1, y2, y3, y4, hV'⟩ := (VlA.next hb _ _ hA').val
        have hblk' : (a'.add (k * 5)).block < wr.heap.size := blk_lt y0
        have cS := fun o p => hc k h1 h2 _ _ _ (hV.next (ab2 wr o p)) (hV'.next (ab2 wr o p))
        have HD := HK.out
        rw [cml_drop h1 h2] at HD
        generalize e[k]'h1 = t at *
        generalize e'[k]'h2 = u at *
        obtain ⟨b, hbb⟩ : ∃ b, cm t u = b := ⟨_, rfl⟩
        rw [hbb] at cS HD
        clear hbb hA hA' hc HK
        have hab := ab2 wr (Obj.cells #[.int .i64 t.kind, .int .i64 t.n, .string (bs t.s), .slice B t.l.length p, .slice B2 t.f.length p2] 25) (Obj.cells #[.int .i64 u.kind, .int .i64 u.n, .string (bs u.s), .slice B' u.l.length p', .slice B2' u.f.length p2'] 25)
        have cS2 := cS (Obj.cells #[.int .i64 t.kind, .int .i64 t.n, .string (bs t.s), .slice B t.l.length p, .slice B2 t.f.length p2] 25) (Obj.cells #[.int .i64 u.kind, .int .i64 u.n, .string (bs u.s), .slice B' u.l.length p', .slice B2' u.f.length p2'] 25)
        clear cS
        by_cases h0 : b = 0
        · subst h0
          rw [o1_r] at HD
          have HE := Lib.hid HD
          clear HD
          go_wp2_with fail
          refine cS2.mono ?_
          rintro e9 w9 ⟨rfl, hb9⟩
          have hb5 := Below.next (Below.next hb hab) hb9
          clear cS2 x0 x1 x2 x3 x4 y0 y1 y2 y3 y4 hblk hblk'
          go_wp2_with fail
          go_roundw
          case rel => exact ⟨k + 1, by omega, by omega, by go_num, HE, hb5⟩
          case measure => simp [intOf]; omega
        · have d0 : (b != 0) = true := by simpa using h0
          rw [o1_l h0] at HD
          have HE := Lib.hid HD
          clear HD h0
          go_wp2_with fail
          refine cS2.mono ?_
          rintro e9 w9 ⟨rfl, hb9⟩
          have hb5 := Below.next (Below.next hb hab) hb9
          clear cS2 x0 x1 x2 x3 x4 y0 y1 y2 y3 y4 hblk hblk'
          go_wp2_with fail
          go_ret
          obtain rfl := HE.out
          exact ⟨rfl, hb5⟩
      · obtain rfl : k = q' := by omega
        have HE := Lib.hid (show (1 : Int) = r by
          rw [← HK.out, cml_end e e' k (by rw [HQ.out, HQ'.out]; omega) (by rw [HQ.out]; exact hk) (by rw [HQ'.out]; exact hk'), HQ.out, HQ'.out, sg_gt (by omega)])
        have hab := ab1 wr (Obj.cells #[.int .i64 (e[k]'h1).kind, .int .i64 (e[k]'h1).n, .string (bs (e[k]'h1).s), .slice B (e[k]'h1).l.length p, .slice B2 (e[k]'h1).f.length p2] 25)
        generalize e[k]'h1 = t at *
        clear hc HK hV hA
        go_wp2_with fail
        go_ret
        obtain rfl := HE.out
        exact ⟨rfl, Below.next hb (ab1 _ _)⟩
    · obtain rfl : k = q := by omega
      have HE := HK.out
      rw [cml_end e e' k (by rw [HQ.out, HQ'.out]; omega) (by rw [HQ.out]; exact hk) (by rw [HQ'.out]; exact hk'), HQ.out, HQ'.out] at HE
      clear HK hc hR hR'
      by_cases h3 : k < q'
      · have d3 : decide (k < q') = true := decide_eq_true h3
        have HE := Lib.hid (show (-1 : Int) = r by rw [← HE, sg_lt (by omega)])
        go_wp2_with fail
        go_ret
        obtain rfl := HE.out
        exact ⟨rfl, hb⟩
      · obtain rfl : k = q' := by omega
        have HE := Lib.hid (show (0 : Int) = r by rw [← HE, sg_eq])
        go_wp2_with fail
        go_ret
        obtain rfl := HE.out
        exact ⟨rfl, hb⟩
set_option maxRecDepth 100000 in
set_option maxHeartbeats 4000000 in
theorem compareEntries_any (x y : Int × Vl) (v v' : Value) (w : World) (hv : EtV w x v) (hv' : EtV w y v') (hc : ∀ v v' w', VlV w' x.2 v → VlV w' y.2 v' → Calls Try.prog 13 #[v, v'] w' (Ib (.int .i64 (cm x.2 y.2)) w')) :
    Calls Try.prog 37 #[v, v'] w (Ib (.int .i64 (ecm x y)) w) := by
  obtain ⟨B, p, B2, p2, rfl, hR, hR2⟩ := hv
  obtain ⟨B', p', B2', p2', rfl, hR', hR2'⟩ := hv'
  obtain ⟨a, t⟩ := x
  obtain ⟨b, u⟩ := y
  obtain ⟨z, hz⟩ : ∃ z, cm t u = z := ⟨_, rfl⟩
  have hE : ecm (a, t) (b, u) = o1 (sg a b) z := by rw [← hz]; rfl
  obtain ⟨r, hr⟩ : ∃ r, ecm (a, t) (b, u) = r := ⟨_, rfl⟩
  rw [hr] at hE ⊢
  have cI := cmpInt_any a b
  have hab := ab2 w (Obj.cells #[.int .i64 a, .int .i64 t.kind, .int .i64 t.n, .string (bs t.s), .slice B t.l.length p, .slice B2 t.f.length p2] 72) (Obj.cells #[.int .i64 b, .int .i64 u.kind, .int .i64 u.n, .string (bs u.s), .slice B' u.l.length p', .slice B2' u.f.length p2'] 72)
  have cC := hc _ _ _ (VlV.next hab ⟨B, p, B2, p2, rfl, hR, hR2⟩) (VlV.next hab ⟨B', p', B2', p2', rfl, hR', hR2'⟩)
  rw [hz] at cC
  clear hc hR hR2 hR' hR2' hr hz
  obtain ⟨s, hs⟩ : ∃ s, sg a b = s := ⟨_, rfl⟩
  rw [hs] at hE cI
  clear hs
  by_cases h0 : s = 0
  · subst h0
    rw [o1_r] at hE
    subst hE
    go_enter Try.func37, Try.ntmps37
    go_wp2_with fail
    refine (cI _).mono ?_
    rintro e w2 ⟨rfl, rfl⟩
    go_wp2_with fail
    refine cC.mono ?_
    rintro e w2 ⟨rfl, hb⟩
    go_wp2_with fail
    go_ret
    exact ⟨rfl, Below.next (ab2 _ _ _) hb⟩
  · have d0 : (s != 0) = true := by simpa using h0
    rw [o1_l h0] at hE
    subst hE
    clear h0
    go_enter Try.func37, Try.ntmps37
    go_wp2_with fail
    refine (cI _).mono ?_
    rintro e w2 ⟨rfl, rfl⟩
    go_wp2_with fail
    go_ret
    exact ⟨rfl, ab2 _ _ _⟩
set_option maxRecDepth 100000 in
set_option maxHeartbeats 4000000 in
theorem cmpEt_any (e e' : List (Int × Vl)) (A : Option Addr) (c : Nat) (A' : Option Addr) (c' : Nat) (w : World) (hR : Rw EtA 6 w e A) (hR' : Rw EtA 6 w e' A') (hl : e.length ≤ 9223372036854775807) (hl' : e'.length ≤ 9223372036854775807)
    (hc : ∀ i (h : i < e.length) (h' : i < e'.length) v v' w', EtV w' (e[i]'h) v → EtV w' (e'[i]'h') v' → Calls Try.prog 37 #[v, v'] w' (Ib (.int .i64 (ecm (e[i]'h) (e'[i]'h'))) w')) :
    Calls Try.prog 36 #[.slice A e.length c, .slice A' e'.length c', .func (.func 37) #[] #[]] w (Ib (.int .i64 (cmf e e')) w) := by
  obtain ⟨q, hq⟩ : ∃ q, e.length = q := ⟨_, rfl⟩
  obtain ⟨q', hq'⟩ : ∃ q', e'.length = q' := ⟨_, rfl⟩
  obtain ⟨r, hr⟩ : ∃ r, cmf e e' = r := ⟨_, rfl⟩
  have HQ := Lib.hid hq
  have HQ' := Lib.hid hq'
  rw [hq] at hl
  rw [hq'] at hl'
  rw [hq, hq', hr]
  have H0 := Lib.hid (show cmf (e.drop 0) (e'.drop 0) = r from hr)
  clear hr hq hq'
  go_enter Try.func36, Try.ntmps36
  go_wp2_with fail
  go_loopw [13] (fun i wr => ∃ k : Nat, k ≤ q ∧ k ≤ q' ∧ i = .int .i64 (k : Int) ∧ Hid (cmf (e.drop k) (e'.drop k) = r) ∧ Below w.heap.size w wr) (fun i _ => q - (intOf i).toNat)
  case atStart => exact ⟨0, by omega, by omega, rfl, H0, Below.refl _ _⟩
  case round =>
    obtain ⟨k, hk, hk', rfl, HK, hb⟩ := hrel
    clear H0
    by_cases hlt : k < q
    · have h1 : k < e.length := by rw [HQ.out]; exact hlt
      obtain ⟨a, rfl, hA⟩ := hR.get h1
      obtain ⟨B, p, B2, p2, x0, x1, x2, x3, x4, x5, hV⟩ := (EtA.next hb _ _ hA).val2
      have hblk : (a.add (k * 6)).block < wr.heap.size := blk_lt x0
      by_cases hlt' : k < q'
      · have h2 : k < e'.length := by rw [HQ'.out]; exact hlt'
        obtain ⟨a', rfl, hA'⟩ := hR'.get h2
        obtain ⟨B', p', B2', p2', y0, y1, y2, y3, y4, y5, hV'⟩ := (EtA.next hb _ _ hA').val2
        have hblk' : (a'.add (k * 6)).block < wr.heap.size := blk_lt y0
        have cS := fun o p => hc k h1 h2 _ _ _ (hV.next (ab2 wr o p)) (hV'.next (ab2 wr o p))
        have HD := HK.out
        rw [cmf_drop2 h1 h2] at HD
        generalize e[k]'h1 = t at *
        generalize e'[k]'h2 = u at *
        obtain ⟨b, hbb⟩ : ∃ b, ecm t u = b := ⟨_, rfl⟩
        rw [hbb] at cS HD
        clear hbb hA hA' hc HK
        have hab := ab2 wr (Obj.cells #[.int .i64 t.1, .int .i64 t.2.kind, .int .i64 t.2.n, .string (bs t.2.s), .slice B t.2.l.length p, .slice B2 t.2.f.length p2] 72) (Obj.cells #[.int .i64 u.1, .int .i64 u.2.kind, .int .i64 u.2.n, .string (bs u.2.s), .slice B' u.2.l.length p', .slice B2' u.2.f.length p2'] 72)
        have cS2 := cS (Obj.cells #[.int .i64 t.1, .int .i64 t.2.kind, .int .i64 t.2.n, .string (bs t.2.s), .slice B t.2.l.length p, .slice B2 t.2.f.length p2] 72) (Obj.cells #[.int .i64 u.1, .int .i64 u.2.kind, .int .i64 u.2.n, .string (bs u.2.s), .slice B' u.2.l.length p', .slice B2' u.2.f.length p2'] 72)
        clear cS
        by_cases h0 : b = 0
        · subst h0
          rw [o1_r] at HD
          have HE := Lib.hid HD
          clear HD
          go_wp2_with fail
          refine cS2.mono ?_
          rintro e9 w9 ⟨rfl, hb9⟩
          have hb5 := Below.next (Below.next hb hab) hb9
          clear cS2 x0 x1 x2 x3 x4 x5 y0 y1 y2 y3 y4 y5 hblk hblk'
          go_wp2_with fail
          go_roundw
          case rel => exact ⟨k + 1, by omega, by omega, by go_num, HE, hb5⟩
          case measure => simp [intOf]; omega
        · have d0 : (b != 0) = true := by simpa using h0
          rw [o1_l h0] at HD
          have HE := Lib.hid HD
          clear HD h0
          go_wp2_with fail
          refine cS2.mono ?_
          rintro e9 w9 ⟨rfl, hb9⟩
          have hb5 := Below.next (Below.next hb hab) hb9
          clear cS2 x0 x1 x2 x3 x4 x5 y0 y1 y2 y3 y4 y5 hblk hblk'
          go_wp2_with fail
          go_ret
          obtain rfl := HE.out
          exact ⟨rfl, hb5⟩
      · obtain rfl : k = q' := by omega
        have HE := Lib.hid (show (1 : Int) = r by
          rw [← HK.out, cmf_end e e' k (by rw [HQ.out, HQ'.out]; omega) (by rw [HQ.out]; exact hk) (by rw [HQ'.out]; exact hk'), HQ.out, HQ'.out, sg_gt (by omega)])
        have hab := ab1 wr (Obj.cells #[.int .i64 (e[k]'h1).1, .int .i64 (e[k]'h1).2.kind, .int .i64 (e[k]'h1).2.n, .string (bs (e[k]'h1).2.s), .slice B (e[k]'h1).2.l.length p, .slice B2 (e[k]'h1).2.f.length p2] 72)
        generalize e[k]'h1 = t at *
        clear hc HK hV hA
        go_wp2_with fail
        go_ret
        obtain rfl := HE.out
        exact ⟨rfl, Below.next hb (ab1 _ _)⟩
    · obtain rfl : k = q := by omega
      have HE := HK.out
      rw [cmf_end e e' k (by rw [HQ.out, HQ'.out]; omega) (by rw [HQ.out]; exact hk) (by rw [HQ'.out]; exact hk'), HQ.out, HQ'.out] at HE
      clear HK hc hR hR'
      by_cases h3 : k < q'
      · have d3 : decide (k < q') = true := decide_eq_true h3
        have HE := Lib.hid (show (-1 : Int) = r by rw [← HE, sg_lt (by omega)])
        go_wp2_with fail
        go_ret
        obtain rfl := HE.out
        exact ⟨rfl, hb⟩
      · obtain rfl : k = q' := by omega
        have HE := Lib.hid (show (0 : Int) = r by rw [← HE, sg_eq])
        go_wp2_with fail
        go_ret
        obtain rfl := HE.out
        exact ⟨rfl, hb⟩
set_option maxRecDepth 100000 in
set_option maxHeartbeats 8000000 in
theorem devCompare_any (N : Nat) : ∀ (t u : Vl) (v v' : Value) (w : World), SizeOf.sizeOf t < N → vok t → vok u → VlV w t v → VlV w u v' →
    Calls Try.prog 13 #[v, v'] w (Ib (.int .i64 (cm t u)) w) := by
  induction N with
  | zero => intro t u v v' w h; omega
  | succ N ih =>
    intro t u v v' w hN hok hok' hv hv'
    obtain ⟨hs, ⟨hl, hlo⟩, hf, hfo⟩ := vok_iff.1 hok
    obtain ⟨hs', ⟨hl', hlo'⟩, hf', hfo'⟩ := vok_iff.1 hok'
    have cL0 : ∀ (i : Nat) (h : i < t.l.length) (h' : i < u.l.length) v v' w, VlV w (t.l[i]'h) v → VlV w (u.l[i]'h') v' → Calls Try.prog 13 #[v, v'] w (Ib (.int .i64 (cm (t.l[i]'h) (u.l[i]'h'))) w) := fun i h h' v v' w => ih _ _ v v' w (by have := size_l h; omega) (hlo _ (List.getElem_mem h)) (hlo' _ (List.getElem_mem h'))
    have cF0 : ∀ (i : Nat) (h : i < t.f.length) (h' : i < u.f.length) v v' w, EtV w (t.f[i]'h) v → EtV w (u.f[i]'h') v' → Calls Try.prog 37 #[v, v'] w (Ib (.int .i64 (ecm (t.f[i]'h) (u.f[i]'h'))) w) := fun i h h' v v' w hv hv' => compareEntries_any _ _ v v' w hv hv' fun v v' w => ih _ _ v v' w (by have := size_f h; omega) (hfo _ (List.getElem_mem h)) (hfo' _ (List.getElem_mem h'))
    have hE := cm_eq t u
    obtain ⟨A, c, A2, c2, rfl, hR, hR2⟩ := hv
    obtain ⟨A', c', A2', c2', rfl, hR', hR2'⟩ := hv'
    have cL := fun W (h : Below w.heap.size w W) => cmpVl_any t.l u.l A c A' c' W (hR.next fun x p => VlA.next h x p) (hR'.next fun x p => VlA.next h x p) hl hl' cL0
    have cF := fun W (h : Below w.heap.size w W) => cmpEt_any t.f u.f A2 c2 A2' c2' W (hR2.next fun x p => EtA.next h x p) (hR2'.next fun x p => EtA.next h x p) hf hf' cF0
    have cx := fun W => (cmpInt_any t.kind u.kind W).mono fun e w' => is_ib
    have cy := fun W => (cmpI64_any t.n u.n W).mono fun e w' => is_ib
    have cz := fun W => (cmpStr_any t.s u.s W).mono fun e w' => is_ib
    obtain ⟨m, hm⟩ : ∃ m, t.l.length = m := ⟨_, rfl⟩
    obtain ⟨n, hn⟩ : ∃ n, t.f.length = n := ⟨_, rfl⟩
    obtain ⟨m', hm'⟩ : ∃ m', u.l.length = m' := ⟨_, rfl⟩
    obtain ⟨n', hn'⟩ : ∃ n', u.f.length = n' := ⟨_, rfl⟩
    obtain ⟨r, hr⟩ : ∃ r, cm t u = r := ⟨_, rfl⟩
    rw [hm, hm'] at cL
    rw [hn, hn'] at cF
    rw [hm, hn, hm', hn', hr]
    rw [hr] at hE
    have hB := (Bx.new5 w 25 (.int .i64 t.kind) (.int .i64 t.n) (.string (bs t.s)) (.slice A m c) (.slice A2 n c2)).next (ab1 _ (Obj.cells #[.int .i64 u.kind, .int .i64 u.n, .string (bs u.s), .slice A' m' c', .slice A2' n' c2'] 25))
    have hB' := Bx.new5 (w.alloc (Obj.cells #[.int .i64 t.kind, .int .i64 t.n, .string (bs t.s), .slice A m c, .slice A2 n c2] 25)) 25 (.int .i64 u.kind) (.int .i64 u.n) (.string (bs u.s)) (.slice A' m' c') (.slice A2' n' c2')
    have hab := ab2 w (Obj.cells #[.int .i64 t.kind, .int .i64 t.n, .string (bs t.s), .slice A m c, .slice A2 n c2] 25) (Obj.cells #[.int .i64 u.kind, .int .i64 u.n, .string (bs u.s), .slice A' m' c', .slice A2' n' c2'] 25)
    have z1 : (w.alloc (Obj.cells #[.int .i64 t.kind, .int .i64 t.n, .string (bs t.s), .slice A m c, .slice A2 n c2] 25)).heap.size = w.heap.size + 1 := by simp
    rw [z1] at hB'
    clear hm hn hm' hn' hr ih hok hok' hlo hfo hlo' hfo' hN z1 hs hs' cL0 cF0 hR hR2 hR' hR2' hl hl' hf hf'
    have s0 := hB.c 0 rfl
    have s1 := hB.c 1 rfl
    have s2 := hB.c 2 rfl
    have r0 := hB'.c 0 rfl
    have r1 := hB'.c 1 rfl
    have r2 := hB'.c 2 rfl
    obtain ⟨x, hx⟩ : ∃ x, sg t.kind u.kind = x := ⟨_, rfl⟩
    obtain ⟨y, hy⟩ : ∃ y, sg t.n u.n = y := ⟨_, rfl⟩
    obtain ⟨z, hz⟩ : ∃ z, ob t.s u.s = z := ⟨_, rfl⟩
    rw [hx] at cx hE
    rw [hy] at cy hE
    rw [hz] at cz hE
    clear hx hy hz
    go_enter Try.func13, Try.ntmps13
    go_upto_region 1 with (fail)
    generalize (w.alloc (Obj.cells #[.int .i64 t.kind, .int .i64 t.n, .string (bs t.s), .slice A m c, .slice A2 n c2] 25)).alloc (Obj.cells #[.int .i64 u.kind, .int .i64 u.n, .string (bs u.s), .slice A' m' c', .slice A2' n' c2'] 25) = W1 at *
    refine wp_region_seqN (by kernel_rfl) (FF [(2, Fact.at_ W1 (.pointer (some ⟨w.heap.size, 0, none⟩))), (3, Fact.at_ W1 (.pointer (some ⟨(w.heap.size + 1), 0, none⟩))), (6, Fact.at_ W1 (.pointer (some ⟨w.heap.size, 0, none⟩))), (7, Fact.at_ W1 (.int .i64 t.kind)), (8, Fact.at_ W1 (.pointer (some ⟨(w.heap.size + 1), 0, none⟩))), (9, Fact.at_ W1 (.int .i64 u.kind)), (10, Fact.at_ W1 (.int .i64 x)), (11, Fact.at_ W1 (.pointer (some ⟨w.heap.size, 1, none⟩))), (12, Fact.at_ W1 (.int .i64 t.n)), (13, Fact.at_ W1 (.pointer (some ⟨(w.heap.size + 1), 1, none⟩))), (14, Fact.at_ W1 (.int .i64 u.n)), (15, Fact.at_ W1 (.int .i64 y)), (16, Fact.at_ W1 (.pointer (some ⟨w.heap.size, 2, none⟩))), (17, Fact.at_ W1 (.string (bs t.s))), (18, Fact.at_ W1 (.pointer (some ⟨(w.heap.size + 1), 2, none⟩))), (19, Fact.at_ W1 (.string (bs u.s))), (20, Fact.at_ W1 (.int .i64 z))]) [2, 3] [] 38 15 [6, 7, 8, 9, 10, 11, 12, 13, 14, 15, 16, 17, 18, 19, 20] rfl (by kernel_rfl) (by kernel_rfl) (by decide) (by kernel_rfl) (by kernel_rfl) ?_ ?_ ?_
    · intro t9 ht9
      simp only [List.mem_cons, List.not_mem_nil, or_false] at ht9
      rcases ht9 with rfl | rfl
      · exact ⟨rfl, Below.refl _ _⟩
      · exact ⟨rfl, Below.refl _ _⟩
    · refine fcs ⟨Ob.new_ (at1 2 6 (.pointer (some ⟨w.heap.size, 0, none⟩)) (.pointer (some ⟨w.heap.size, 0, none⟩)) rfl (by first | exact .inl rfl | exact .inr ⟨_, _, _, rfl, rfl, by kernel_rfl, by decide, rfl⟩) (by kernel_rfl) rfl rfl (fun a9 W9 hb9 h9 => by simp [execOp, h9] <;> go_simp)) (by kernel_rfl), ?_⟩
      refine fcs ⟨Ob.new_ (at1 6 7 (.pointer (some ⟨w.heap.size, 0, none⟩)) (.int .i64 t.kind) rfl (by first | exact .inl rfl | exact .inr ⟨_, _, _, rfl, rfl, by kernel_rfl, by decide, rfl⟩) (by kernel_rfl) rfl rfl (fun a9 W9 hb9 h9 => by have g0 := cell_next hb9 s0; simp [execOp, h9] <;> go_simp)) (by kernel_rfl), ?_⟩
      refine fcs ⟨Ob.new_ (at1 3 8 (.pointer (some ⟨(w.heap.size + 1), 0, none⟩)) (.pointer (some ⟨(w.heap.size + 1), 0, none⟩)) rfl (by first | exact .inl rfl | exact .inr ⟨_, _, _, rfl, rfl, by kernel_rfl, by decide, rfl⟩) (by kernel_rfl) rfl rfl (fun a9 W9 hb9 h9 => by simp [execOp, h9] <;> go_simp)) (by kernel_rfl), ?_⟩
      refine fcs ⟨Ob.new_ (at1 8 9 (.pointer (some ⟨(w.heap.size + 1), 0, none⟩)) (.int .i64 u.kind) rfl (by first | exact .inl rfl | exact .inr ⟨_, _, _, rfl, rfl, by kernel_rfl, by decide, rfl⟩) (by kernel_rfl) rfl rfl (fun a9 W9 hb9 h9 => by have g0 := cell_next hb9 r0; simp [execOp, h9] <;> go_simp)) (by kernel_rfl), ?_⟩
      refine fcs ⟨Ob.new_ (atc2 32 7 9 10 (.int .i64 t.kind) (.int .i64 u.kind) (.int .i64 x) _ rfl rfl (by first | exact .inl rfl | exact .inr ⟨_, _, _, rfl, rfl, by kernel_rfl, by decide, rfl⟩) (by kernel_rfl) (by kernel_rfl) rfl rfl (by kernel_rfl) rfl (fun W9 hb9 => cx W9)) (by kernel_rfl), ?_⟩
      refine fcs ⟨Ob.new_ (at1 2 11 (.pointer (some ⟨w.heap.size, 0, none⟩)) (.pointer (some ⟨w.heap.size, 1, none⟩)) rfl (by first | exact .inl rfl | exact .inr ⟨_, _, _, rfl, rfl, by kernel_rfl, by decide, rfl⟩) (by kernel_rfl) rfl rfl (fun a9 W9 hb9 h9 => by simp [execOp, h9] <;> go_simp)) (by kernel_rfl), ?_⟩
      refine fcs ⟨Ob.new_ (at1 11 12 (.pointer (some ⟨w.heap.size, 1, none⟩)) (.int .i64 t.n) rfl (by first | exact .inl rfl | exact .inr ⟨_, _, _, rfl, rfl, by kernel_rfl, by decide, rfl⟩) (by kernel_rfl) rfl rfl (fun a9 W9 hb9 h9 => by have g0 := cell_next hb9 s1; simp [execOp, h9] <;> go_simp)) (by kernel_rfl), ?_⟩
      refine fcs ⟨Ob.new_ (at1 3 13 (.pointer (some ⟨(w.heap.size + 1), 0, none⟩)) (.pointer (some ⟨(w.heap.size + 1), 1, none⟩)) rfl (by first | exact .inl rfl | exact .inr ⟨_, _, _, rfl, rfl, by kernel_rfl, by decide, rfl⟩) (by kernel_rfl) rfl rfl (fun a9 W9 hb9 h9 => by simp [execOp, h9] <;> go_simp)) (by kernel_rfl), ?_⟩
      refine fcs ⟨Ob.new_ (at1 13 14 (.pointer (some ⟨(w.heap.size + 1), 1, none⟩)) (.int .i64 u.n) rfl (by first | exact .inl rfl | exact .inr ⟨_, _, _, rfl, rfl, by kernel_rfl, by decide, rfl⟩) (by kernel_rfl) rfl rfl (fun a9 W9 hb9 h9 => by have g0 := cell_next hb9 r1; simp [execOp, h9] <;> go_simp)) (by kernel_rfl), ?_⟩
      refine fcs ⟨Ob.new_ (atc2 33 12 14 15 (.int .i64 t.n) (.int .i64 u.n) (.int .i64 y) _ rfl rfl (by first | exact .inl rfl | exact .inr ⟨_, _, _, rfl, rfl, by kernel_rfl, by decide, rfl⟩) (by kernel_rfl) (by kernel_rfl) rfl rfl (by kernel_rfl) rfl (fun W9 hb9 => cy W9)) (by kernel_rfl), ?_⟩
      refine fcs ⟨Ob.new_ (at1 2 16 (.pointer (some ⟨w.heap.size, 0, none⟩)) (.pointer (some ⟨w.heap.size, 2, none⟩)) rfl (by first | exact .inl rfl | exact .inr ⟨_, _, _, rfl, rfl, by kernel_rfl, by decide, rfl⟩) (by kernel_rfl) rfl rfl (fun a9 W9 hb9 h9 => by simp [execOp, h9] <;> go_simp)) (by kernel_rfl), ?_⟩
      refine fcs ⟨Ob.new_ (at1 16 17 (.pointer (some ⟨w.heap.size, 2, none⟩)) (.string (bs t.s)) rfl (by first | exact .inl rfl | exact .inr ⟨_, _, _, rfl, rfl, by kernel_rfl, by decide, rfl⟩) (by kernel_rfl) rfl rfl (fun a9 W9 hb9 h9 => by have g0 := cell_next hb9 s2; simp [execOp, h9] <;> go_simp)) (by kernel_rfl), ?_⟩
      refine fcs ⟨Ob.new_ (at1 3 18 (.pointer (some ⟨(w.heap.size + 1), 0, none⟩)) (.pointer (some ⟨(w.heap.size + 1), 2, none⟩)) rfl (by first | exact .inl rfl | exact .inr ⟨_, _, _, rfl, rfl, by kernel_rfl, by decide, rfl⟩) (by kernel_rfl) rfl rfl (fun a9 W9 hb9 h9 => by simp [execOp, h9] <;> go_simp)) (by kernel_rfl), ?_⟩
      refine fcs ⟨Ob.new_ (at1 18 19 (.pointer (some ⟨(w.heap.size + 1), 2, none⟩)) (.string (bs u.s)) rfl (by first | exact .inl rfl | exact .inr ⟨_, _, _, rfl, rfl, by kernel_rfl, by decide, rfl⟩) (by kernel_rfl) rfl rfl (fun a9 W9 hb9 h9 => by have g0 := cell_next hb9 r2; simp [execOp, h9] <;> go_simp)) (by kernel_rfl), ?_⟩
      refine fcs ⟨Ob.new_ (atc2 34 17 19 20 (.string (bs t.s)) (.string (bs u.s)) (.int .i64 z) _ rfl rfl (by first | exact .inl rfl | exact .inr ⟨_, _, _, rfl, rfl, by kernel_rfl, by decide, rfl⟩) (by kernel_rfl) (by kernel_rfl) rfl rfl (by kernel_rfl) rfl (fun W9 hb9 => cz W9)) (by kernel_rfl), ?_⟩
      exact fnl
    intro vv wv hvv hbv _ _
    have hv10 : vv 10 = (.int .i64 x) := (hvv 10 (by decide)).1
    have hv15 : vv 15 = (.int .i64 y) := (hvv 15 (by decide)).1
    have hv20 : vv 20 = (.int .i64 z) := (hvv 20 (by decide)).1
    simp only [lay, List.foldl_cons, List.foldl_nil, List.setIfInBounds_toArray, List.set_cons_succ, List.set_cons_zero, hv10, hv15, hv20, List.drop_succ_cons, List.drop_zero]
    clear hvv cx cy cz s0 s1 s2 r0 r1 r2
    have hb := Below.next hab hbv
    have C1 := (hB.next hbv).next (ab1 wv (Obj.cells #[.int .i64 x, .int .i64 y, .int .i64 z] 3))
    have C2 := (hB'.next hbv).next (ab1 wv (Obj.cells #[.int .i64 x, .int .i64 y, .int .i64 z] 3))
    have hb2 := Below.next hb (ab1 wv (Obj.cells #[.int .i64 x, .int .i64 y, .int .i64 z] 3))
    clear hB hB' hab hbv hb
    have cO := cmpOr_any x y z wv.heap.size 3 (wv.alloc (Obj.cells #[.int .i64 x, .int .i64 y, .int .i64 z] 3)) (by simp) (by simp) (by simp)
    have c3 := C1.c 3 rfl
    have c4 := C1.c 4 rfl
    have d3 := C2.c 3 rfl
    have d4 := C2.c 4 rfl
    rw [← o1_assoc y, ← o1_assoc x] at hE
    obtain ⟨q, hq⟩ : ∃ q, o1 x (o1 y z) = q := ⟨_, rfl⟩
    rw [hq] at cO hE
    clear hq
    have cL1 := cL _ hb2
    by_cases hq : q = 0
    case neg =>
      have e1 : (q == 0) = false := by simpa using hq
      rw [o1_l hq] at hE
      subst hE
      clear cL cF hq cL1
      go_wp2_with fail
      refine cO.mono ?_
      rintro e w2 ⟨rfl, rfl⟩
      go_wp2_with fail
      go_ret
      exact ⟨rfl, hb2⟩
    case pos =>
    subst hq
    rw [o1_r] at hE
    obtain ⟨p, hp⟩ : ∃ p, cml t.l u.l = p := ⟨_, rfl⟩
    rw [hp] at cL1 hE
    clear hp cL
    go_wp2_with fail
    refine cO.mono ?_
    rintro e w2 ⟨rfl, rfl⟩
    clear cO
    go_wp2_with fail
    refine cL1.mono ?_
    rintro e w2 ⟨rfl, hb3⟩
    have hb4 := Below.next hb2 hb3
    have E1 := C1.next hb3
    have E2 := C2.next hb3
    clear c3 c4 d3 d4 cL1 C1 C2 hb2 hb3
    have c4 := E1.c 4 rfl
    have d4 := E2.c 4 rfl
    by_cases hp : p = 0
    case neg =>
      have e1 : (p == 0) = false := by simpa using hp
      rw [o1_l hp] at hE
      subst hE
      clear cF hp
      go_wp2_with fail
      go_ret
      exact ⟨rfl, hb4⟩
    case pos =>
    subst hp
    rw [o1_r] at hE
    have cF1 := cF _ hb4
    rw [← hE] at cF1
    clear cF hE
    go_wp2_with fail
    refine cF1.mono ?_
    rintro e w3 ⟨rfl, hb5⟩
    go_wp2_with fail
    go_ret
    exact ⟨rfl, Below.next hb4 hb5⟩
set_option maxRecDepth 100000 in
theorem devEqual_any (t u : Vl) (v v' : Value) (w : World) (hok : vok t) (hok' : vok u) (hv : VlV w t v) (hv' : VlV w u v') :
    Calls Try.prog 15 #[v, v'] w (Ib (.bool (cm t u == 0)) w) := by
  have cC := fun W h => devCompare_any (SizeOf.sizeOf t + 1) t u v v' W (by omega) hok hok' (hv.next h) (hv'.next h)
  obtain ⟨A, c, A2, c2, rfl, -, -⟩ := hv
  obtain ⟨A', c', A2', c2', rfl, -, -⟩ := hv'
  obtain ⟨z, hz⟩ : ∃ z, cm t u = z := ⟨_, rfl⟩
  rw [hz] at cC ⊢
  have c1 := cC _ (ab2 w (Obj.cells #[.int .i64 t.kind, .int .i64 t.n, .string (bs t.s), .slice A t.l.length c, .slice A2 t.f.length c2] 25) (Obj.cells #[.int .i64 u.kind, .int .i64 u.n, .string (bs u.s), .slice A' u.l.length c', .slice A2' u.f.length c2'] 25))
  clear cC hz
  go_enter Try.func15, Try.ntmps15
  go_wp2_with fail
  refine c1.mono ?_
  rintro e w2 ⟨rfl, hb⟩
  go_wp2_with fail
  go_ret
  exact ⟨rfl, Below.next (ab2 _ _ _) hb⟩
end Go.Proofs.Ytlebppjldoodgaa

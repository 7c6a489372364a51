import Derived.Test.YtlebppjldoodgaaYb
import Derived.Lib.QuietBelow
/-
  The reference's Compare and Equal. No conditions beyond those that each names.
-/
namespace Go.Proofs.Ytlebppjldoodgaa
open Go.RowKit Go.Sort
theorem cml_drop {a b : List Vl} {k : Nat} (h1 : k < a.length) (h2 : k < b.length) : cml (a.drop k) (b.drop k) = o1 (cm (a[k]'h1) (b[k]'h2)) (cml (a.drop (k + 1)) (b.drop (k + 1))) := by
  rw [List.drop_eq_getElem_cons h1, List.drop_eq_getElem_cons h2, cml]
theorem cml_end (a b : List Vl) (k : Nat) (h : a.length ≤ k ∨ b.length ≤ k) (h1 : k ≤ a.length) (h2 : k ≤ b.length) : cml (a.drop k) (b.drop k) = sg (a.length : Int) (b.length : Int) := by
  rcases h with h | h
  · obtain rfl : k = a.length := by omega
    rw [List.drop_length]
    by_cases e : b.length = a.length
    · rw [← e, List.drop_length, cml]; unfold sg; omega
    · rw [List.drop_eq_getElem_cons (show a.length < b.length by omega), cml]; unfold sg; rw [if_pos (by omega)]
  · obtain rfl : k = b.length := by omega
    rw [List.drop_length]
    by_cases e : a.length = b.length
    · rw [← e, List.drop_length, cml]; unfold sg; omega
    · rw [List.drop_eq_getElem_cons (show b.length < a.length by omega), cml]; unfold sg; rw [if_neg (by omega), if_pos (by omega)]
theorem cmf_drop {a b : List (Int × Vl)} {k : Nat} (h1 : k < a.length) (h2 : k < b.length) : cmf (a.drop k) (b.drop k) = o1 (sg (a[k]'h1).1 (b[k]'h2).1) (o1 (cm (a[k]'h1).2 (b[k]'h2).2) (cmf (a.drop (k + 1)) (b.drop (k + 1)))) := by
  rw [List.drop_eq_getElem_cons h1, List.drop_eq_getElem_cons h2]
  obtain ⟨n, x⟩ := a[k]'h1
  obtain ⟨m, y⟩ := b[k]'h2
  rw [cmf]
theorem cmf_end (a b : List (Int × Vl)) (k : Nat) (h : a.length ≤ k ∨ b.length ≤ k) (h1 : k ≤ a.length) (h2 : k ≤ b.length) : cmf (a.drop k) (b.drop k) = sg (a.length : Int) (b.length : Int) := by
  rcases h with h | h
  · obtain rfl : k = a.length := by omega
    rw [List.drop_length]
    by_cases e : b.length = a.length
    · rw [← e, List.drop_length, cmf]; unfold sg; omega
    · rw [List.drop_eq_getElem_cons (show a.length < b.length by omega), cmf]; unfold sg; rw [if_pos (by omega)]
  · obtain rfl : k = b.length := by omega
    rw [List.drop_length]
    by_cases e : a.length = b.length
    · rw [← e, List.drop_length, cmf]; unfold sg; omega
    · rw [List.drop_eq_getElem_cons (show b.length < a.length by omega), cmf]; unfold sg; rw [if_neg (by omega), if_pos (by omega)]
theorem cm_eq (t u : Vl) : cm t u = o1 (sg t.kind u.kind) (o1 (sg t.n u.n) (o1 (ob t.s u.s) (o1 (cml t.l u.l) (cmf t.f u.f)))) := by
  obtain ⟨k, n, s, l, f⟩ := t
  obtain ⟨k', n', s', l', f'⟩ := u
  rw [cm]
  rfl
theorem o1_l {a b : Int} (h : a ≠ 0) : o1 a b = a := by unfold o1; rw [if_pos h]
theorem o1_r (b : Int) : o1 0 b = b := by unfold o1; rw [if_neg (by decide)]
theorem sg_lt {a b : Int} (h : a < b) : sg a b = -1 := by unfold sg; rw [if_pos h]
theorem sg_gt {a b : Int} (h : b < a) : sg a b = 1 := by unfold sg; rw [if_neg (by omega), if_pos h]
theorem sg_eq (a : Int) : sg a a = 0 := by unfold sg; rw [if_neg (by omega), if_neg (by omega)]
theorem sg_ne {a b : Int} (h : a ≠ b) : sg a b ≠ 0 := by unfold sg; split; decide; split; decide; omega
set_option maxRecDepth 100000 in
set_option maxHeartbeats 8000000 in
theorem refCompare_any (N : Nat) : ∀ (t u : Vl) (v v' : Value) (w : World), SizeOf.sizeOf t < N → vok t → vok u → VlV w t v → VlV w u v' →
    Calls Try.prog 14 #[v, v'] w (Ib (.int .i64 (cm t u)) w) := by
  induction N with
  | zero => intro t u v v' w h; omega
  | succ N ih =>
    intro t u v v' w hN hok hok' hv hv'
    obtain ⟨hs, ⟨hl, hlo⟩, hf, hfo⟩ := vok_iff.1 hok
    obtain ⟨hs', ⟨hl', hlo'⟩, hf', hfo'⟩ := vok_iff.1 hok'
    have cL : ∀ (i : Nat) (h : i < t.l.length) (h' : i < u.l.length) v v' w, VlV w (t.l[i]'h) v → VlV w (u.l[i]'h') v' → Calls Try.prog 14 #[v, v'] w (Ib (.int .i64 (cm (t.l[i]'h) (u.l[i]'h'))) w) := fun i h h' v v' w => ih _ _ v v' w (by have := size_l h; omega) (hlo _ (List.getElem_mem h)) (hlo' _ (List.getElem_mem h'))
    have cF : ∀ (i : Nat) (h : i < t.f.length) (h' : i < u.f.length) v v' w, VlV w (t.f[i]'h).2 v → VlV w (u.f[i]'h').2 v' → Calls Try.prog 14 #[v, v'] w (Ib (.int .i64 (cm (t.f[i]'h).2 (u.f[i]'h').2)) w) := fun i h h' v v' w => ih _ _ v v' w (by have := size_f h; omega) (hfo _ (List.getElem_mem h)) (hfo' _ (List.getElem_mem h'))
    have hE := cm_eq t u
    have cO := fun W => refOrder_any t.s u.s W hs hs'
    obtain ⟨A, c, A2, c2, rfl, hR, hR2⟩ := hv
    obtain ⟨A', c', A2', c2', rfl, hR', hR2'⟩ := hv'
    obtain ⟨m, hm⟩ : ∃ m, t.l.length = m := ⟨_, rfl⟩
    obtain ⟨n, hn⟩ : ∃ n, t.f.length = n := ⟨_, rfl⟩
    obtain ⟨m', hm'⟩ : ∃ m', u.l.length = m' := ⟨_, rfl⟩
    obtain ⟨n', hn'⟩ : ∃ n', u.f.length = n' := ⟨_, rfl⟩
    obtain ⟨z, hz⟩ : ∃ z, cm t u = z := ⟨_, rfl⟩
    have HM := Lib.hid hm
    have HN := Lib.hid hn
    have HM' := Lib.hid hm'
    have HN' := Lib.hid hn'
    rw [hm] at hl ⊢
    rw [hn] at hf ⊢
    rw [hm'] at hl' ⊢
    rw [hn'] at hf' ⊢
    rw [hz] at hE ⊢
    have hB := (Bx.new5 w 25 (.int .i64 t.kind) (.int .i64 t.n) (.string (bs t.s)) (.slice A m c) (.slice A2 n c2)).next (ab1 _ (Obj.cells #[.int .i64 u.kind, .int .i64 u.n, .string (bs u.s), .slice A' m' c', .slice A2' n' c2'] 25))
    have hB' := Bx.new5 (w.alloc (Obj.cells #[.int .i64 t.kind, .int .i64 t.n, .string (bs t.s), .slice A m c, .slice A2 n c2] 25)) 25 (.int .i64 u.kind) (.int .i64 u.n) (.string (bs u.s)) (.slice A' m' c') (.slice A2' n' c2')
    have hab := ab2 w (Obj.cells #[.int .i64 t.kind, .int .i64 t.n, .string (bs t.s), .slice A m c, .slice A2 n c2] 25) (Obj.cells #[.int .i64 u.kind, .int .i64 u.n, .string (bs u.s), .slice A' m' c', .slice A2' n' c2'] 25)
    have z1 : (w.alloc (Obj.cells #[.int .i64 t.kind, .int .i64 t.n, .string (bs t.s), .slice A m c, .slice A2 n c2] 25)).heap.size = w.heap.size + 1 := by simp
    rw [z1] at hB'
    clear hm hn hm' hn' hz ih hok hok' hlo hfo hlo' hfo' hN z1 hs hs'
    have cS := fun a b W => refSign_any a b W
    by_cases h1 : t.kind = u.kind
    case neg =>
      have d1 : (t.kind != u.kind) = true := by simpa using h1
      have HE := Lib.hid (show sg t.kind u.kind = z by rw [hE, o1_l (sg_ne h1)])
      clear hE hR hR' hR2 hR2' cL cF hB hB' cO
      go_enter Try.func14, Try.ntmps14
      go_wp2_with fail
      refine (cS _ _ _).mono ?_
      rintro e w2 ⟨rfl, rfl⟩
      go_wp2_with fail
      go_ret
      obtain rfl := HE.out
      exact ⟨rfl, hab⟩
    case pos =>
    have d1 : (t.kind != u.kind) = false := by simpa using h1
    rw [h1, sg_eq, o1_r] at hE
    clear h1
    by_cases h2 : t.n < u.n
    · have d2 : decide (t.n < u.n) = true := decide_eq_true h2
      have HE := Lib.hid (show (-1 : Int) = z by rw [hE, sg_lt h2, o1_l (by decide)])
      clear hE hR hR' hR2 hR2' cL cF hB hB' cO
      go_enter Try.func14, Try.ntmps14
      go_wp2_with fail
      go_ret
      obtain rfl := HE.out
      exact ⟨rfl, hab⟩
    have d2 : decide (t.n < u.n) = false := decide_eq_false h2
    by_cases h3 : u.n < t.n
    · have d3 : decide (u.n < t.n) = true := decide_eq_true h3
      have HE := Lib.hid (show (1 : Int) = z by rw [hE, sg_gt h3, o1_l (by decide)])
      clear hE hR hR' hR2 hR2' cL cF hB hB' cO
      go_enter Try.func14, Try.ntmps14
      go_wp2_with fail
      go_ret
      obtain rfl := HE.out
      exact ⟨rfl, hab⟩
    have d3 : decide (u.n < t.n) = false := decide_eq_false h3
    rw [show t.n = u.n by omega, sg_eq, o1_r] at hE
    obtain ⟨o, ho⟩ : ∃ o, ob t.s u.s = o := ⟨_, rfl⟩
    rw [ho] at cO hE
    clear ho
    by_cases h4 : o = 0
    case neg =>
      have d4 : (o != 0) = true := by simpa using h4
      have HE := Lib.hid (show o = z by rw [hE, o1_l h4])
      clear h4
      clear hE hR hR' hR2 hR2' cL cF hB hB'
      go_enter Try.func14, Try.ntmps14
      go_wp2_with fail
      refine (cO _).mono ?_
      rintro e w2 ⟨qn, rfl, rfl⟩
      go_wp2_with fail
      go_ret
      obtain rfl := HE.out
      exact ⟨rfl, below_drewN hab qn⟩
    case pos =>
    subst h4
    rw [o1_r] at hE
    have H0 := Lib.hid (show o1 (cml (t.l.drop 0) (u.l.drop 0)) (cmf t.f u.f) = z from hE.symm)
    clear hE
    go_enter Try.func14, Try.ntmps14
    go_wp2_with fail
    refine (cO _).mono ?_
    rintro e w2 ⟨qn, rfl, rfl⟩
    have hab2 := below_drewN hab qn
    have hC := hB.next (below_drewN (Below.refl _ _) qn)
    have hC' := hB'.next (below_drewN (Below.refl _ _) qn)
    clear cO hab hB hB' d1 d2 d3 h2 h3
    go_wp2_with fail
    go_loopw [6] (fun i wr => ∃ (k : Nat), k ≤ m ∧ k ≤ m' ∧ i = .int .i64 (k : Int) ∧ Hid (o1 (cml (t.l.drop k) (u.l.drop k)) (cmf t.f u.f) = z) ∧ Bx wr w.heap.size [.int .i64 t.kind, .int .i64 t.n, .string (bs t.s), .slice A m c, .slice A2 n c2] ∧ Bx wr (w.heap.size + 1) [.int .i64 u.kind, .int .i64 u.n, .string (bs u.s), .slice A' m' c', .slice A2' n' c2'] ∧ Below w.heap.size w wr) (fun i _ => m - (intOf i).toNat)
    case atStart => exact ⟨0, by omega, by omega, rfl, H0, hC, hC', hab2⟩
    case round =>
      clear hC hC' hab2
      obtain ⟨k, hk, hk', rfl, hI, hC, hC', hb⟩ := hrel
      have c3 := hC.c 3 rfl
      have c4 := hC.c 4 rfl
      have c3' := hC'.c 3 rfl
      have c4' := hC'.c 4 rfl
      clear H0
      by_cases hlt : k < m ∧ k < m'
      · obtain ⟨g1, g2⟩ := hlt
        have e1 : k < t.l.length := by rw [HM.out]; exact g1
        have e2 : k < u.l.length := by rw [HM'.out]; exact g2
        have hI := hI.out
        rw [cml_drop e1 e2] at hI
        obtain ⟨a, rfl, hA⟩ := hR.get e1
        obtain ⟨a', rfl, hA'⟩ := hR'.get e2
        obtain ⟨B, p, B2, p2, x0, x1, x2, x3, x4, hV⟩ := (VlA.next hb _ _ hA).val
        obtain ⟨B', p', B2', p2', y0, y1, y2, y3, y4, hV'⟩ := (VlA.next hb _ _ hA').val
        have hblk : (a.add (k * 5)).block < wr.heap.size := blk_lt x0
        have hblk' : (a'.add (k * 5)).block < wr.heap.size := blk_lt y0
        have cR := fun W (h : Below wr.heap.size wr W) => cL k e1 e2 _ _ W (hV.next h) (hV'.next h)
        generalize t.l[k]'e1 = x at *
        generalize u.l[k]'e2 = y at *
        generalize cm x y = r at *
        have j3 := fun d os => cell_regrown c3 d os
        have j3' := fun d os => cell_regrown c3' d os
        have i0 := fun d os => cell_regrown x0 d os
        have i1 := fun d os => cell_regrown x1 d os
        have i2 := fun d os => cell_regrown x2 d os
        have i3 := fun d os => cell_regrown x3 d os
        have i4 := fun d os => cell_regrown x4 d os
        have i0' := fun d os => cell_regrown y0 d os
        have i1' := fun d os => cell_regrown y1 d os
        have i2' := fun d os => cell_regrown y2 d os
        have i3' := fun d os => cell_regrown y3 d os
        have i4' := fun d os => cell_regrown y4 d os
        have cN := fun d os => Calls.regrown_of (cR (grow (redrawn wr d) os) (below_regrown _ d os))
        clear cL cF hR hR' hR2 hR2' hA hA' hV hV' cR
        by_cases hr : r = 0
        · subst hr
          rw [o1_r] at hI
          have HI := Lib.hid hI
          clear hI
          go_wp2_with fail
          refine wp_region_quiet_below (by kernel_rfl) (by kernel_rfl) ?_
          repeat (quiet_step (exact cN _ _))
          refine wpQuiet_nil ?_
          intro _ hw'
          obtain ⟨⟨dq, osq⟩, hw''⟩ := hw'
          subst hw''
          have hb2 := below_regrown wr dq osq
          clear j3 j3' i0 i1 i2 i3 i4 i0' i1' i2' i3' i4' cN x0 x1 x2 x3 x4 y0 y1 y2 y3 y4
          go_wp2_with fail
          go_roundw
          case rel => exact ⟨k + 1, by omega, by omega, by go_num, HI, hC.next hb2, hC'.next hb2, Below.next hb hb2⟩
          case measure => simp [intOf]; omega
        · have d5 : (r != 0) = true := by simpa using hr
          rw [o1_l (show o1 r _ ≠ 0 by rw [o1_l hr]; exact hr), o1_l hr] at hI
          have HI := Lib.hid hI
          clear hI
          go_wp2_with fail
          refine wp_region_quiet_below (by kernel_rfl) (by kernel_rfl) ?_
          repeat (quiet_step (exact cN _ _))
          refine wpQuiet_nil ?_
          intro _ hw'
          obtain ⟨⟨dq, osq⟩, hw''⟩ := hw'
          subst hw''
          have hb2 := below_regrown wr dq osq
          clear j3 j3' i0 i1 i2 i3 i4 i0' i1' i2' i3' i4' cN x0 x1 x2 x3 x4 y0 y1 y2 y3 y4
          go_wp2_with fail
          go_ret
          obtain rfl := HI.out
          exact ⟨rfl, Below.next hb hb2⟩
      · have hI := hI.out
        rw [cml_end t.l u.l k (by rw [HM.out, HM'.out]; omega) (by rw [HM.out]; exact hk) (by rw [HM'.out]; exact hk'), HM.out, HM'.out] at hI
        clear cL hR hR'
        by_cases hmm : m = m'
        case neg =>
          have d5 : ((m : Int) != (m' : Int)) = true := by simp; omega
          rw [o1_l (sg_ne (show (m : Int) ≠ (m' : Int) by omega))] at hI
          have HI := Lib.hid hI
          clear hI cF hR2 hR2'
          by_cases g1 : k < m
          · obtain rfl : k = m' := by omega
            go_wp2_with fail
            refine (cS _ _ _).mono ?_
            rintro e w2 ⟨rfl, rfl⟩
            go_wp2_with fail
            go_ret
            obtain rfl := HI.out
            exact ⟨rfl, hb⟩
          · obtain rfl : k = m := by omega
            go_wp2_with fail
            refine (cS _ _ _).mono ?_
            rintro e w2 ⟨rfl, rfl⟩
            go_wp2_with fail
            go_ret
            obtain rfl := HI.out
            exact ⟨rfl, hb⟩
        case pos =>
        subst hmm
        obtain rfl : k = m := by omega
        rw [sg_eq, o1_r] at hI
        have H0 := Lib.hid (show cmf (t.f.drop 0) (u.f.drop 0) = z from hI)
        clear hI hlt
        go_wp2_with fail
        go_loopw [8] (fun i wr => ∃ (j : Nat), j ≤ n ∧ j ≤ n' ∧ i = .int .i64 (j : Int) ∧ Hid (cmf (t.f.drop j) (u.f.drop j) = z) ∧ Bx wr w.heap.size [.int .i64 t.kind, .int .i64 t.n, .string (bs t.s), .slice A k c, .slice A2 n c2] ∧ Bx wr (w.heap.size + 1) [.int .i64 u.kind, .int .i64 u.n, .string (bs u.s), .slice A' k c', .slice A2' n' c2'] ∧ Below w.heap.size w wr) (fun i _ => n - (intOf i).toNat)
        case atStart => exact ⟨0, by omega, by omega, rfl, H0, hC, hC', hb⟩
        case round =>
          clear hC hC' hb c3 c4 c3' c4' H0
          obtain ⟨j, hj, hj', rfl, hI, hC, hC', hb⟩ := hrel
          have c4 := hC.c 4 rfl
          have c4' := hC'.c 4 rfl
          by_cases hlt : j < n ∧ j < n'
          · obtain ⟨g1, g2⟩ := hlt
            have e1 : j < t.f.length := by rw [HN.out]; exact g1
            have e2 : j < u.f.length := by rw [HN'.out]; exact g2
            have hI := hI.out
            rw [cmf_drop e1 e2] at hI
            obtain ⟨a, rfl, hA⟩ := hR2.get e1
            obtain ⟨a', rfl, hA'⟩ := hR2'.get e2
            obtain ⟨B, p, B2, p2, xn, x0, x1, x2, x3, x4, hV⟩ := (EtA.next hb _ _ hA).val
            obtain ⟨B', p', B2', p2', yn, y0, y1, y2, y3, y4, hV'⟩ := (EtA.next hb _ _ hA').val
            have hblk : (a.add (j * 6)).block < wr.heap.size := blk_lt xn
            have hblk' : (a'.add (j * 6)).block < wr.heap.size := blk_lt yn
            have cR := fun W (h : Below wr.heap.size wr W) => cF j e1 e2 _ _ W (hV.next h) (hV'.next h)
            generalize (t.f[j]'e1).1 = xn' at *
            generalize (u.f[j]'e2).1 = yn' at *
            generalize (t.f[j]'e1).2 = x at *
            generalize (u.f[j]'e2).2 = y at *
            generalize cm x y = r at *
            clear cF hR2 hR2' hA hA'
            by_cases hnn : xn' = yn'
            case neg =>
              have d5 : (xn' != yn') = true := by simpa using hnn
              rw [o1_l (sg_ne hnn)] at hI
              have HI := Lib.hid hI
              clear hI hV hV' cR hnn
              go_wp2_with fail
              go_quiet (fail)
              have cN := fun d os => Calls.regrown_of ((cS xn' yn' (grow (redrawn (wr.drewN nq) d) os)).mono fun e w' h => (show Ib (.int .i64 (sg xn' yn')) _ e w' from ⟨h.1, by rw [← h.2]; exact Below.refl _ _⟩))
              have j4 := fun d os => cell_regrown (w := wr.drewN nq) c4 d os
              have j4' := fun d os => cell_regrown (w := wr.drewN nq) c4' d os
              have hn0 := fun d os => cell_regrown (w := wr.drewN nq) xn d os
              have hn0' := fun d os => cell_regrown (w := wr.drewN nq) yn d os
              go_wp2_with fail
              refine wp_region_quiet_below (by kernel_rfl) (by kernel_rfl) ?_
              repeat (quiet_step (exact cN _ _))
              refine wpQuiet_nil ?_
              intro _ hw'
              obtain ⟨⟨dq, osq⟩, hw''⟩ := hw'
              subst hw''
              have hb2 := Below.next (below_drewN (Below.refl _ wr) nq) (below_regrown (wr.drewN nq) dq osq)
              clear j4 j4' hn0 hn0' cN
              go_wp2_with fail
              go_ret
              obtain rfl := HI.out
              exact ⟨rfl, Below.next hb hb2⟩
            case pos =>
            subst hnn
            have d5 : (xn' != xn') = false := by simp
            rw [sg_eq, o1_r] at hI
            have HI := Lib.hid hI
            clear hI hV hV'
            go_wp2_with fail
            go_quiet (fail)
            have cN := fun d os => Calls.regrown_of (cR (grow (redrawn (wr.drewN nq) d) os) (Below.next (below_drewN (Below.refl _ wr) nq) (below_regrown (wr.drewN nq) d os)))
            clear cR
            have j4 := fun d os => cell_regrown (w := wr.drewN nq) c4 d os
            have j4' := fun d os => cell_regrown (w := wr.drewN nq) c4' d os
            have i0 := fun d os => cell_regrown (w := wr.drewN nq) x0 d os
            have i1 := fun d os => cell_regrown (w := wr.drewN nq) x1 d os
            have i2 := fun d os => cell_regrown (w := wr.drewN nq) x2 d os
            have i3 := fun d os => cell_regrown (w := wr.drewN nq) x3 d os
            have i4 := fun d os => cell_regrown (w := wr.drewN nq) x4 d os
            have i0' := fun d os => cell_regrown (w := wr.drewN nq) y0 d os
            have i1' := fun d os => cell_regrown (w := wr.drewN nq) y1 d os
            have i2' := fun d os => cell_regrown (w := wr.drewN nq) y2 d os
            have i3' := fun d os => cell_regrown (w := wr.drewN nq) y3 d os
            have i4' := fun d os => cell_regrown (w := wr.drewN nq) y4 d os
            go_wp2_with fail
            refine wp_region_quiet_below (by kernel_rfl) (by kernel_rfl) ?_
            repeat (quiet_step (exact cN _ _))
            refine wpQuiet_nil ?_
            intro _ hw'
            obtain ⟨⟨dq, osq⟩, hw''⟩ := hw'
            subst hw''
            have hb2 := Below.next (below_drewN (Below.refl _ wr) nq) (below_regrown (wr.drewN nq) dq osq)
            clear j4 j4' i0 i1 i2 i3 i4 i0' i1' i2' i3' i4' cN x0 x1 x2 x3 x4 y0 y1 y2 y3 y4
            by_cases hr : r = 0
            · subst hr
              have HI2 := Lib.hid (show cmf (t.f.drop (j + 1)) (u.f.drop (j + 1)) = z from HI.out)
              go_wp2_with fail
              go_roundw
              case rel => exact ⟨j + 1, by omega, by omega, by go_num, HI2, hC.next hb2, hC'.next hb2, Below.next hb hb2⟩
              case measure => simp [intOf]; omega
            · have d6 : (r != 0) = true := by simpa using hr
              have HI2 := Lib.hid (show r = z by rw [← HI.out, o1_l hr])
              clear hr HI
              go_wp2_with fail
              go_ret
              obtain rfl := HI2.out
              exact ⟨rfl, Below.next hb hb2⟩
          · have hI := hI.out
            rw [cmf_end t.f u.f j (by rw [HN.out, HN'.out]; omega) (by rw [HN.out]; exact hj) (by rw [HN'.out]; exact hj'), HN.out, HN'.out] at hI
            have HI := Lib.hid hI
            clear hI cF hR2 hR2'
            by_cases g1 : j < n
            · obtain rfl : j = n' := by omega
              go_wp2_with fail
              refine (cS _ _ _).mono ?_
              rintro e w2 ⟨rfl, rfl⟩
              go_wp2_with fail
              go_ret
              obtain rfl := HI.out
              exact ⟨rfl, hb⟩
            · obtain rfl : j = n := by omega
              go_wp2_with fail
              refine (cS _ _ _).mono ?_
              rintro e w2 ⟨rfl, rfl⟩
              go_wp2_with fail
              go_ret
              obtain rfl := HI.out
              exact ⟨rfl, hb⟩
set_option maxRecDepth 100000 in
theorem refEqual_any (t u : Vl) (v v' : Value) (w : World) (hok : vok t) (hok' : vok u) (hv : VlV w t v) (hv' : VlV w u v') :
    Calls Try.prog 20 #[v, v'] w (Ib (.bool (cm t u == 0)) w) := by
  have cC := fun W h => refCompare_any (SizeOf.sizeOf t + 1) t u v v' W (by omega) hok hok' (hv.next h) (hv'.next h)
  obtain ⟨A, c, A2, c2, rfl, -, -⟩ := hv
  obtain ⟨A', c', A2', c2', rfl, -, -⟩ := hv'
  obtain ⟨z, hz⟩ : ∃ z, cm t u = z := ⟨_, rfl⟩
  rw [hz] at cC ⊢
  have c1 := cC _ (ab2 w (Obj.cells #[.int .i64 t.kind, .int .i64 t.n, .string (bs t.s), .slice A t.l.length c, .slice A2 t.f.length c2] 25) (Obj.cells #[.int .i64 u.kind, .int .i64 u.n, .string (bs u.s), .slice A' u.l.length c', .slice A2' u.f.length c2'] 25))
  clear cC hz
  go_enter Try.func20, Try.ntmps20
  go_wp2_with fail
  refine c1.mono ?_
  rintro e w2 ⟨rfl, hb⟩
  go_wp2_with fail
  go_ret
  exact ⟨rfl, Below.next (ab2 _ _ _) hb⟩
end Go.Proofs.Ytlebppjldoodgaa

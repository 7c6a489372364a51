/-
  The reference's order of texts, sizes and levels. No conditions beyond those that each names.
-/
import Derived.Test.YthfodpbecddheaaGreatDoorQM07
import Derived.Lib.QuietBelow
import Derived.Test.YthfodpbecddheaaGreatDoorQM01
import Derived.Test.YthfodpbecddheaaGreatDoorShelfB
import Derived.Laws.OwnMore
namespace Go.Proofs.YthfodpbecddheaaGreatDoor
open Go.RowKit
set_option maxRecDepth 100000 in
set_option maxHeartbeats 2000000 in
theorem refSign_any (a b : Int) (w : World) : Calls Tryz.prog 65 #[.int .i64 a, .int .i64 b] w (Is (.int .i64 (sg a b)) w) := by
  by_cases h1 : a < b
  · have d1 : decide (a < b) = true := decide_eq_true h1
    have e : sg a b = -1 := by unfold sg; rw [if_pos h1]
    rw [e]
    clear e
    go_enter Tryz.func65, Tryz.ntmps65
    go_wp2_with fail
    go_ret
    exact ⟨rfl, rfl⟩
  · have d1 : decide (a < b) = false := decide_eq_false h1
    by_cases h2 : b < a
    · have d2 : decide (b < a) = true := decide_eq_true h2
      have e : sg a b = 1 := by unfold sg; rw [if_neg h1, if_pos h2]
      rw [e]
      clear e
      go_enter Tryz.func65, Tryz.ntmps65
      go_wp2_with fail
      go_ret
      exact ⟨rfl, rfl⟩
    · have d2 : decide (b < a) = false := decide_eq_false h2
      have e : sg a b = 0 := by unfold sg; rw [if_neg h1, if_neg h2]
      rw [e]
      clear e
      go_enter Tryz.func65, Tryz.ntmps65
      go_wp2_with fail
      go_ret
      exact ⟨rfl, rfl⟩
theorem ob_drop {a b : List UInt8} {k : Nat} (h1 : k < a.length) (h2 : k < b.length) : ob (a.drop k) (b.drop k) = o1 (sg ((a[k]'h1).toNat : Int) ((b[k]'h2).toNat : Int)) (ob (a.drop (k + 1)) (b.drop (k + 1))) := by
  rw [List.drop_eq_getElem_cons h1, List.drop_eq_getElem_cons h2, ob]
theorem ob_end (a b : List UInt8) (k : Nat) (h : a.length ≤ k ∨ b.length ≤ k) (h1 : k ≤ a.length) (h2 : k ≤ b.length) : ob (a.drop k) (b.drop k) = sg (a.length : Int) (b.length : Int) := by
  rcases h with h | h
  · obtain rfl : k = a.length := by omega
    rw [List.drop_length]
    by_cases e : b.length = a.length
    · rw [← e, List.drop_length, ob]; unfold sg; omega
    · rw [List.drop_eq_getElem_cons (show a.length < b.length by omega), ob]; unfold sg; rw [if_pos (by omega)]
  · obtain rfl : k = b.length := by omega
    rw [List.drop_length]
    by_cases e : a.length = b.length
    · rw [← e, List.drop_length, ob]; unfold sg; omega
    · rw [List.drop_eq_getElem_cons (show b.length < a.length by omega), ob]; unfold sg; rw [if_neg (by omega), if_pos (by omega)]
set_option maxRecDepth 100000 in
set_option maxHeartbeats 2000000 in
theorem refOrder_any (a b : List UInt8) (w : World) (ha : a.length ≤ 9223372036854775807) (hb : b.length ≤ 9223372036854775807) : Calls Tryz.prog 66 #[.string (bs a), .string (bs b)] w (Iq (.int .i64 (ob a b)) w) := by
  obtain ⟨m, hm⟩ : ∃ m, a.length = m := ⟨_, rfl⟩
  obtain ⟨n, hn⟩ : ∃ n, b.length = n := ⟨_, rfl⟩
  obtain ⟨r, hr⟩ : ∃ r, ob a b = r := ⟨_, rfl⟩
  have HM := Lib.hid hm
  have HN := Lib.hid hn
  have z1 : (bs a).size = m := by rw [bs_size, hm]
  have z2 : (bs b).size = n := by rw [bs_size, hn]
  rw [hr]
  have H0 := Lib.hid (show ob (a.drop 0) (b.drop 0) = r from hr)
  rw [hm] at ha
  rw [hn] at hb
  clear hm hn hr
  go_enter Tryz.func66, Tryz.ntmps66
  go_wp2_with fail
  go_loopw [5] (fun i wr => ∃ (k q : Nat), k ≤ m ∧ k ≤ n ∧ i = .int .i64 (k : Int) ∧ wr = w.drewN q ∧ Hid (ob (a.drop k) (b.drop k) = r)) (fun i _ => m - (intOf i).toNat)
  case atStart => exact ⟨0, 0, by omega, by omega, rfl, rfl, H0⟩
  case round =>
    obtain ⟨k, q, hk, hk2, rfl, rfl, hI⟩ := hrel
    clear H0
    by_cases hlt : k < m ∧ k < n
    · obtain ⟨g1, g2⟩ := hlt
      have h1 : k < a.length := by rw [HM.out]; exact g1
      have h2 : k < b.length := by rw [HN.out]; exact g2
      have hE := hI.out
      rw [ob_drop h1 h2] at hE
      have l1 : k < (bs a).size := by rw [z1]; exact g1
      have l2 : k < (bs b).size := by rw [z2]; exact g2
      have e1 : ((bs a)[k]'l1).toNat = (a[k]'h1).toNat := rfl
      have e2 : ((bs b)[k]'l2).toNat = (b[k]'h2).toNat := rfl
      generalize (a[k]'h1).toNat = x at *
      generalize (b[k]'h2).toNat = y at *
      clear hI
      by_cases c1 : x < y
      · have d1 : decide (x < y) = true := decide_eq_true c1
        have HE := Lib.hid (show (-1 : Int) = r by rw [← hE]; unfold o1 sg; rw [if_pos (show (x : Int) < y by omega)]; rfl)
        clear hE
        go_wp2_with fail
        go_quiet (fail)
        go_wp2_with fail
        go_ret
        obtain rfl := HE.out
        exact ⟨_, rfl, by simp only [drewN_add]; rfl⟩
      · have d1 : decide (x < y) = false := decide_eq_false c1
        by_cases c2 : y < x
        · have d2 : decide (y < x) = true := decide_eq_true c2
          have HE := Lib.hid (show (1 : Int) = r by rw [← hE]; unfold o1 sg; rw [if_neg (show ¬ (x : Int) < y by omega), if_pos (show (y : Int) < x by omega)]; rfl)
          clear hE
          go_wp2_with fail
          go_quiet (fail)
          go_wp2_with fail
          go_quiet (fail)
          go_wp2_with fail
          go_ret
          obtain rfl := HE.out
          exact ⟨_, rfl, by simp only [drewN_add]; rfl⟩
        · have d2 : decide (y < x) = false := decide_eq_false c2
          have HE := Lib.hid (show ob (a.drop (k + 1)) (b.drop (k + 1)) = r by rw [← hE]; unfold o1 sg; rw [if_neg (show ¬ (x : Int) < y by omega), if_neg (show ¬ (y : Int) < x by omega)]; rfl)
          clear hE
          go_wp2_with fail
          go_quiet (fail)
          go_wp2_with fail
          go_quiet (fail)
          go_wp2_with fail
          go_roundw
          case rel => exact ⟨k + 1, _, by omega, by omega, by go_num, rfl, HE⟩
          case measure => simp [intOf]; omega
    · have hE := hI.out
      rw [ob_end a b k (by rw [HM.out, HN.out]; omega) (by rw [HM.out]; exact hk) (by rw [HN.out]; exact hk2), HM.out, HN.out] at hE
      have HE := Lib.hid hE
      clear hI hE
      have cS := fun W => refSign_any (m : Int) (n : Int) W
      by_cases g1 : k < m
      · obtain rfl : k = n := by omega
        go_wp2_with fail
        refine (cS _).mono ?_
        rintro e w2 ⟨rfl, rfl⟩
        go_wp2_with fail
        go_ret
        obtain rfl := HE.out
        exact ⟨_, rfl, rfl⟩
      · obtain rfl : k = m := by omega
        go_wp2_with fail
        refine (cS _).mono ?_
        rintro e w2 ⟨rfl, rfl⟩
        go_wp2_with fail
        go_ret
        obtain rfl := HE.out
        exact ⟨_, rfl, rfl⟩
end Go.Proofs.YthfodpbecddheaaGreatDoor
/-
  The reference's Compare and Equal. No conditions beyond those that each names.
-/
namespace Go.Proofs.YthfodpbecddheaaGreatDoor
open Go.RowKit Go.Sort
theorem cml_drop {a b : List Vl} {k : Nat} (h1 : k < a.length) (h2 : k < b.length) : cml (a.drop k) (b.drop k) = o1 (cm (a[k]'h1) (b[k]'h2)) (cml (a.drop (k + 1)) (b.drop (k + 1))) := by
  rw [List.drop_eq_getElem_cons h1, List.drop_eq_getElem_cons h2, cml]
theorem cml_end (a b : List Vl) (k : Nat) (h : a.length ≤ k ∨ b.length ≤ k) (h1 : k ≤ a.length) (h2 : k ≤ b.length) : cml (a.drop k) (b.drop k) = sg (a.length : Int) (b.length : Int) := by
  rcases h with h | h
  · obtain rfl : k = a.length := by omega
    rw [List.drop_length]
    by_cases e : b.length = a.length
    · rw [← e, List.drop_length, cml]; unfold sg; omega
    · rw [List.drop_eq_getElem_cons (show a.length < b.length by omega), cml]; unfold sg; rw [if_pos (by omega)]
  · obtain rfl : k = b.length := by omega
    rw [List.drop_length]
    by_cases e : a.length = b.length
    · rw [← e, List.drop_length, cml]; unfold sg; omega
    · rw [List.drop_eq_getElem_cons (show b.length < a.length by omega), cml]; unfold sg; rw [if_neg (by omega), if_pos (by omega)]
theorem cmf_drop {a b : List (Int × Vl)} {k : Nat} (h1 : k < a.length) (h2 : k < b.length) : cmf (a.drop k) (b.drop k) = o1 (sg (a[k]'h1).1 (b[k]'h2).1) (o1 (cm (a[k]'h1).2 (b[k]'h2).2) (cmf (a.drop (k + 1)) (b.drop (k + 1)))) := by
  rw [List.drop_eq_getElem_cons h1, List.drop_eq_getElem_cons h2]
  obtain ⟨n, x⟩ := a[k]'h1
  obtain ⟨m, y⟩ := b[k]'h2
  rw [cmf]
theorem cmf_end (a b : List (Int × Vl)) (k : Nat) (h : a.length ≤ k ∨ b.length ≤ k) (h1 : k ≤ a.length) (h2 : k ≤ b.length) : cmf (a.drop k) (b.drop k) = sg (a.length : Int) (b.length : Int) := by
  rcases h with h | h
  · obtain rfl : k = a.length := by omega
    rw [List.drop_length]
    by_cases e : b.length = a.length
    · rw [← e, List.drop_length, cmf]; unfold sg; omega
    · rw [List.drop_eq_getElem_cons (show a.length < b.length by omega), cmf]; unfold sg; rw [if_pos (by omega)]
  · obtain rfl : k = b.length := by omega
    rw [List.drop_length]
    by_cases e : a.length = b.length
    · rw [← e, List.drop_length, cmf]; unfold sg; omega
    · rw [List.drop_eq_getElem_cons (show b.length < a.length by omega), cmf]; unfold sg; rw [if_neg (by omega), if_pos (by omega)]
theorem cm_eq (t u : Vl) : cm t u = o1 (sg t.kind u.kind) (o1 (sg t.n u.n) (o1 (ob t.s u.s) (o1 (cml t.l u.l) (cmf t.f u.f)))) := by
  obtain ⟨k, n, s, l, f⟩ := t
  obtain ⟨k', n', s', l', f'⟩ := u
  rw [cm]
  rfl
theorem o1_l {a b : Int} (h : a ≠ 0) : o1 a b = a := by unfold o1; rw [if_pos h]
theorem o1_r (b : Int) : o1 0 b = b := by unfold o1; rw [if_neg (by decide)]
theorem sg_lt {a b : Int} (h : a < b) : sg a b = -1 := by unfold sg; rw [if_pos h]
theorem sg_gt {a b : Int} (h : b < a) : sg a b = 1 := by unfold sg; rw [if_neg (by omega), if_pos h]
theorem sg_eq (a : Int) : sg a a = 0 := by unfold sg; rw [if_neg (by omega), if_neg (by omega)]
theorem sg_ne {a b : Int} (h : a ≠ b) : sg a b ≠ 0 := by unfold sg; split; decide; split; decide; omega
set_option maxRecDepth 100000 in
set_option maxHeartbeats 8000000 in
theorem refCompare_any (N : Nat) : ∀ (t u : Vl) (v v' : Value) (w : World), SizeOf.sizeOf t < N → vok t → vok u → VlV w t v → VlV w u v' →
    Calls Tryz.prog 34 #[v, v'] w (Ib (.int .i64 (cm t u)) w) := by
  induction N with
  | zero => intro t u v v' w h; omega
  | succ N ih =>
    intro t u v v' w hN hok hok' hv hv'
    obtain ⟨hs, ⟨hl, hlo⟩, hf, hfo⟩ := vok_iff.1 hok
    obtain ⟨hs', ⟨hl', hlo'⟩, hf', hfo'⟩ := vok_iff.1 hok'
    have cL : ∀ (i : Nat) (h : i < t.l.length) (h' : i < u.l.length) v v' w, VlV w (t.l[i]'h) v → VlV w (u.l[i]'h') v' → Calls Tryz.prog 34 #[v, v'] w (Ib (.int .i64 (cm (t.l[i]'h) (u.l[i]'h'))) w) := fun i h h' v v' w => ih _ _ v v' w (by have := size_l h; omega) (hlo _ (List.getElem_mem h)) (hlo' _ (List.getElem_mem h'))
    have cF : ∀ (i : Nat) (h : i < t.f.length) (h' : i < u.f.length) v v' w, VlV w (t.f[i]'h).2 v → VlV w (u.f[i]'h').2 v' → Calls Tryz.prog 34 #[v, v'] w (Ib (.int .i64 (cm (t.f[i]'h).2 (u.f[i]'h').2)) w) := fun i h h' v v' w => ih _ _ v v' w (by have := size_f h; omega) (hfo _ (List.getElem_mem h)) (hfo' _ (List.getElem_mem h'))
    have hE := cm_eq t u
    have cO := fun W => refOrder_any t.s u.s W hs hs'
    obtain ⟨A, c, A2, c2, rfl, hR, hR2⟩ := hv
    obtain ⟨A', c', A2', c2', rfl, hR', hR2'⟩ := hv'
    obtain ⟨m, hm⟩ : ∃ m, t.l.length = m := ⟨_, rfl⟩
    obtain ⟨n, hn⟩ : ∃ n, t.f.length = n := ⟨_, rfl⟩
    obtain ⟨m', hm'⟩ : ∃ m', u.l.length = m' := ⟨_, rfl⟩
    obtain ⟨n', hn'⟩ : ∃ n', u.f.length = n' := ⟨_, rfl⟩
    obtain ⟨z, hz⟩ : ∃ z, cm t u = z := ⟨_, rfl⟩
    have HM := Lib.hid hm
    have HN := Lib.hid hn
    have HM' := Lib.hid hm'
    have HN' := Lib.hid hn'
    rw [hm] at hl ⊢
    rw [hn] at hf ⊢
    rw [hm'] at hl' ⊢
    rw [hn'] at hf' ⊢
    rw [hz] at hE ⊢
    have hB := (Bx.new5 w 34 (.int .i64 t.kind) (.int .i64 t.n) (.string (bs t.s)) (.slice A m c) (.slice A2 n c2)).next (ab1 _ (Obj.cells #[.int .i64 u.kind, .int .i64 u.n, .string (bs u.s), .slice A' m' c', .slice A2' n' c2'] 34))
    have hB' := Bx.new5 (w.alloc (Obj.cells #[.int .i64 t.kind, .int .i64 t.n, .string (bs t.s), .slice A m c, .slice A2 n c2] 34)) 34 (.int .i64 u.kind) (.int .i64 u.n) (.string (bs u.s)) (.slice A' m' c') (.slice A2' n' c2')
    have hab := ab2 w (Obj.cells #[.int .i64 t.kind, .int .i64 t.n, .string (bs t.s), .slice A m c, .slice A2 n c2] 34) (Obj.cells #[.int .i64 u.kind, .int .i64 u.n, .string (bs u.s), .slice A' m' c', .slice A2' n' c2'] 34)
    have z1 : (w.alloc (Obj.cells #[.int .i64 t.kind, .int .i64 t.n, .string (bs t.s), .slice A m c, .slice A2 n c2] 34)).heap.size = w.heap.size + 1 := by simp
    rw [z1] at hB'
    clear hm hn hm' hn' hz ih hok hok' hlo hfo hlo' hfo' hN z1 hs hs'
    have cS := fun a b W => refSign_any a b W
    by_cases h1 : t.kind = u.kind
    case neg =>
      have d1 : (t.kind != u.kind) = true := by simpa using h1
      have HE := Lib.hid (show sg t.kind u.kind = z by rw [hE, o1_l (sg_ne h1)])
      clear hE hR hR' hR2 hR2' cL cF hB hB' cO
      go_enter Tryz.func34, Tryz.ntmps34
      go_wp2_with fail
      refine (cS _ _ _).mono ?_
      rintro e w2 ⟨rfl, rfl⟩
      go_wp2_with fail
      go_ret
      obtain rfl := HE.out
      exact ⟨rfl, hab⟩
    case pos =>
    have d1 : (t.kind != u.kind) = false := by simpa using h1
    rw [h1, sg_eq, o1_r] at hE
    clear h1
    by_cases h2 : t.n < u.n
    · have d2 : decide (t.n < u.n) = true := decide_eq_true h2
      have HE := Lib.hid (show (-1 : Int) = z by rw [hE, sg_lt h2, o1_l (by decide)])
      clear hE hR hR' hR2 hR2' cL cF hB hB' cO
      go_enter Tryz.func34, Tryz.ntmps34
      go_wp2_with fail
      go_ret
      obtain rfl := HE.out
      exact ⟨rfl, hab⟩
    have d2 : decide (t.n < u.n) = false := decide_eq_false h2
    by_cases h3 : u.n < t.n
    · have d3 : decide (u.n < t.n) = true := decide_eq_true h3
      have HE := Lib.hid (show (1 : Int) = z by rw [hE, sg_gt h3, o1_l (by decide)])
      clear hE hR hR' hR2 hR2' cL cF hB hB' cO
      go_enter Tryz.func34, Tryz.ntmps34
      go_wp2_with fail
      go_ret
      obtain rfl := HE.out
      exact ⟨rfl, hab⟩
    have d3 : decide (u.n < t.n) = false := decide_eq_false h3
    rw [show t.n = u.n by omega, sg_eq, o1_r] at hE
    obtain ⟨o, ho⟩ : ∃ o, ob t.s u.s = o := ⟨_, rfl⟩
    rw [ho] at cO hE
    clear ho
    by_cases h4 : o = 0
    case neg =>
      have d4 : (o != 0) = true := by simpa using h4
      have HE := Lib.hid (show o = z by rw [hE, o1_l h4])
      clear h4
      clear hE hR hR' hR2 hR2' cL cF hB hB'
      go_enter Tryz.func34, Tryz.ntmps34
      go_wp2_with fail
      refine (cO _).mono ?_
      rintro e w2 ⟨qn, rfl, rfl⟩
      go_wp2_with fail
      go_ret
      obtain rfl := HE.out
      exact ⟨rfl, below_drewN hab qn⟩
    case pos =>
    subst h4
    rw [o1_r] at hE
    have H0 := Lib.hid (show o1 (cml (t.l.drop 0) (u.l.drop 0)) (cmf t.f u.f) = z from hE.symm)
    clear hE
    go_enter Tryz.func34, Tryz.ntmps34
    go_wp2_with fail
    refine (cO _).mono ?_
    rintro e w2 ⟨qn, rfl, rfl⟩
    have hab2 := below_drewN hab qn
    have hC := hB.next (below_drewN (Below.refl _ _) qn)
    have hC' := hB'.next (below_drewN (Below.refl _ _) qn)
    clear cO hab hB hB' d1 d2 d3 h2 h3
    go_wp2_with fail
    go_loopw [6] (fun i wr => ∃ (k : Nat), k ≤ m ∧ k ≤ m' ∧ i = .int .i64 (k : Int) ∧ Hid (o1 (cml (t.l.drop k) (u.l.drop k)) (cmf t.f u.f) = z) ∧ Bx wr w.heap.size [.int .i64 t.kind, .int .i64 t.n, .string (bs t.s), .slice A m c, .slice A2 n c2] ∧ Bx wr (w.heap.size + 1) [.int .i64 u.kind, .int .i64 u.n, .string (bs u.s), .slice A' m' c', .slice A2' n' c2'] ∧ Below w.heap.size w wr) (fun i _ => m - (intOf i).toNat)
    case atStart => exact ⟨0, by omega, by omega, rfl, H0, hC, hC', hab2⟩
    case round =>
      clear hC hC' hab2
      obtain ⟨k, hk, hk', rfl, hI, hC, hC', hb⟩ := hrel
      have c3 := hC.c 3 rfl
      have c4 := hC.c 4 rfl
      have c3' := hC'.c 3 rfl
      have c4' := hC'.c 4 rfl
      clear H0
      by_cases hlt : k < m ∧ k < m'
      · obtain ⟨g1, g2⟩ := hlt
        have e1 : k < t.l.length := by rw [HM.out]; exact g1
        have e2 : k < u.l.length := by rw [HM'.out]; exact g2
        have hI := hI.out
        rw [cml_drop e1 e2] at hI
        obtain ⟨a, rfl, hA⟩ := hR.get e1
        obtain ⟨a', rfl, hA'⟩ := hR'.get e2
        obtain ⟨B, p, B2, p2, x0, x1, x2, x3, x4, hV⟩ := (VlA.next hb _ _ hA).val
        obtain ⟨B', p', B2', p2', y0, y1, y2, y3, y4, hV'⟩ := (VlA.next hb _ _ hA').val
        have hblk : (a.add (k * 5)).block < wr.heap.size := blk_lt x0
        have hblk' : (a'.add (k * 5)).block < wr.heap.size := blk_lt y0
        have cR := fun W (h : Below wr.heap.size wr W) => cL k e1 e2 _ _ W (hV.next h) (hV'.next h)
        generalize t.l[k]'e1 = x at *
        generalize u.l[k]'e2 = y at *
        generalize cm x y = r at *
        have j3 := fun d os => cell_regrown c3 d os
        have j3' := fun d os => cell_regrown c3' d os
        have i0 := fun d os => cell_regrown x0 d os
        have i1 := fun d os => cell_regrown x1 d os
        have i2 := fun d os => cell_regrown x2 d os
        have i3 := fun d os => cell_regrown x3 d os
        have i4 := fun d os => cell_regrown x4 d os
        have i0' := fun d os => cell_regrown y0 d os
        have i1' := fun d os => cell_regrown y1 d os
        have i2' := fun d os => cell_regrown y2 d os
        have i3' := fun d os => cell_regrown y3 d os
        have i4' := fun d os => cell_regrown y4 d os
        have cN := fun d os => Calls.regrown_of (cR (grow (redrawn wr d) os) (below_regrown _ d os))
        clear cL cF hR hR' hR2 hR2' hA hA' hV hV' cR
        by_cases hr : r = 0
        · subst hr
          rw [o1_r] at hI
          have HI := Lib.hid hI
          clear hI
          go_wp2_with fail
          refine wp_region_quiet_below (by kernel_rfl) (by kernel_rfl) ?_
          repeat (quiet_step (exact cN _ _))
          refine wpQuiet_nil ?_
          intro _ hw'
          obtain ⟨⟨dq, osq⟩, hw''⟩ := hw'
          subst hw''
          have hb2 := below_regrown wr dq osq
          clear j3 j3' i0 i1 i2 i3 i4 i0' i1' i2' i3' i4' cN x0 x1 x2 x3 x4 y0 y1 y2 y3 y4
          go_wp2_with fail
          go_roundw
          case rel => exact ⟨k + 1, by omega, by omega, by go_num, HI, hC.next hb2, hC'.next hb2, Below.next hb hb2⟩
          case measure => simp [intOf]; omega
        · have d5 : (r != 0) = true := by simpa using hr
          rw [o1_l (show o1 r _ ≠ 0 by rw [o1_l hr]; exact hr), o1_l hr] at hI
          have HI := Lib.hid hI
          clear hI
          go_wp2_with fail
          refine wp_region_quiet_below (by kernel_rfl) (by kernel_rfl) ?_
          repeat (quiet_step (exact cN _ _))
          refine wpQuiet_nil ?_
          intro _ hw'
          obtain ⟨⟨dq, osq⟩, hw''⟩ := hw'
          subst hw''
          have hb2 := below_regrown wr dq osq
          clear j3 j3' i0 i1 i2 i3 i4 i0' i1' i2' i3' i4' cN x0 x1 x2 x3 x4 y0 y1 y2 y3 y4
          go_wp2_with fail
          go_ret
          obtain rfl := HI.out
          exact ⟨rfl, Below.next hb hb2⟩
      · have hI := hI.out
        rw [cml_end t.l u.l k (by rw [HM.out, HM'.out]; omega) (by rw [HM.out]; exact hk) (by rw [HM'.out]; exact hk'), HM.out, HM'.out] at hI
        clear cL hR hR'
        by_cases hmm : m = m'
        case neg =>
          have d5 : ((m : Int) != (m' : Int)) = true := by simp; omega
          rw [o1_l (sg_ne (show (m : Int) ≠ (m' : Int) by omega))] at hI
          have HI := Lib.hid hI
          clear hI cF hR2 hR2'
          by_cases g1 : k < m
          · obtain rfl : k = m' := by omega
            go_wp2_with fail
            refine (cS _ _ _).mono ?_
            rintro e w2 ⟨rfl, rfl⟩
            go_wp2_with fail
            go_ret
            obtain rfl := HI.out
            exact ⟨rfl, hb⟩
          · obtain rfl : k = m := by omega
            go_wp2_with fail
            refine (cS _ _ _).mono ?_
            rintro e w2 ⟨rfl, rfl⟩
            go_wp2_with fail
            go_ret
            obtain rfl := HI.out
            exact ⟨rfl, hb⟩
        case pos =>
        subst hmm
        obtain rfl : k = m := by omega
        rw [sg_eq, o1_r] at hI
        have H0 := Lib.hid (show cmf (t.f.drop 0) (u.f.drop 0) = z from hI)
        clear hI hlt
        go_wp2_with fail
        go_loopw [8] (fun i wr => ∃ (j : Nat), j ≤ n ∧ j ≤ n' ∧ i = .int .i64 (j : Int) ∧ Hid (cmf (t.f.drop j) (u.f.drop j) = z) ∧ Bx wr w.heap.size [.int .i64 t.kind, .int .i64 t.n, .string (bs t.s), .slice A k c, .slice A2 n c2] ∧ Bx wr (w.heap.size + 1) [.int .i64 u.kind, .int .i64 u.n, .string (bs u.s), .slice A' k c', .slice A2' n' c2'] ∧ Below w.heap.size w wr) (fun i _ => n - (intOf i).toNat)
        case atStart => exact ⟨0, by omega, by omega, rfl, H0, hC, hC', hb⟩
        case round =>
          clear hC hC' hb c3 c4 c3' c4' H0
          obtain ⟨j, hj, hj', rfl, hI, hC, hC', hb⟩ := hrel
          have c4 := hC.c 4 rfl
          have c4' := hC'.c 4 rfl
          by_cases hlt : j < n ∧ j < n'
          · obtain ⟨g1, g2⟩ := hlt
            have e1 : j < t.f.length := by rw [HN.out]; exact g1
            have e2 : j < u.f.length := by rw [HN'.out]; exact g2
            have hI := hI.out
            rw [cmf_drop e1 e2] at hI
            obtain ⟨a, rfl, hA⟩ := hR2.get e1
            obtain ⟨a', rfl, hA'⟩ := hR2'.get e2
            obtain ⟨B, p, B2, p2, xn, x0, x1, x2, x3, x4, hV⟩ := (EtA.next hb _ _ hA).val
            obtain ⟨B', p', B2', p2', yn, y0, y1, y2, y3, y4, hV'⟩ := (EtA.next hb _ _ hA').val
            have hblk : (a.add (j * 6)).block < wr.heap.size := blk_lt xn
            have hblk' : (a'.add (j * 6)).block < wr.heap.size := blk_lt yn
            have cR := fun W (h : Below wr.heap.size wr W) => cF j e1 e2 _ _ W (hV.next h) (hV'.next h)
            generalize (t.f[j]'e1).1 = xn' at *
            generalize (u.f[j]'e2).1 = yn' at *
            generalize (t.f[j]'e1).2 = x at *
            generalize (u.f[j]'e2).2 = y at *
            generalize cm x y = r at *
            clear cF hR2 hR2' hA hA'
            by_cases hnn : xn' = yn'
            case neg =>
              have d5 : (xn' != yn') = true := by simpa using hnn
              rw [o1_l (sg_ne hnn)] at hI
              have HI := Lib.hid hI
              clear hI hV hV' cR hnn
              go_wp2_with fail
              go_quiet (fail)
              have cN := fun d os => Calls.regrown_of ((cS xn' yn' (grow (redrawn (wr.drewN nq) d) os)).mono fun e w' h => (show Ib (.int .i64 (sg xn' yn')) _ e w' from ⟨h.1, by rw [← h.2]; exact Below.refl _ _⟩))
              have j4 := fun d os => cell_regrown (w := wr.drewN nq) c4 d os
              have j4' := fun d os => cell_regrown (w := wr.drewN nq) c4' d os
              have hn0 := fun d os => cell_regrown (w := wr.drewN nq) xn d os
              have hn0' := fun d os => cell_regrown (w := wr.drewN nq) yn d os
              go_wp2_with fail
              refine wp_region_quiet_below (by kernel_rfl) (by kernel_rfl) ?_
              repeat (quiet_step (exact cN _ _))
              refine wpQuiet_nil ?_
              intro _ hw'
              obtain ⟨⟨dq, osq⟩, hw''⟩ := hw'
              subst hw''
              have hb2 := Below.next (below_drewN (Below.refl _ wr) nq) (below_regrown (wr.drewN nq) dq osq)
              clear j4 j4' hn0 hn0' cN
              go_wp2_with fail
              go_ret
              obtain rfl := HI.out
              exact ⟨rfl, Below.next hb hb2⟩
            case pos =>
            subst hnn
            have d5 : (xn' != xn') = false := by simp
            rw [sg_eq, o1_r] at hI
            have HI := Lib.hid hI
            clear hI hV hV'
            go_wp2_with fail
            go_quiet (fail)
            have cN := fun d os => Calls.regrown_of (cR (grow (redrawn (wr.drewN nq) d) os) (Below.next (below_drewN (Below.refl _ wr) nq) (below_regrown (wr.drewN nq) d os)))
            clear cR
            have j4 := fun d os => cell_regrown (w := wr.drewN nq) c4 d os
            have j4' := fun d os => cell_regrown (w := wr.drewN nq) c4' d os
            have i0 := fun d os => cell_regrown (w := wr.drewN nq) x0 d os
            have i1 := fun d os => cell_regrown (w := wr.drewN nq) x1 d os
            have i2 := fun d os => cell_regrown (w := wr.drewN nq) x2 d os
            have i3 := fun d os => cell_regrown (w := wr.drewN nq) x3 d os
            have i4 := fun d os => cell_regrown (w := wr.drewN nq) x4 d os
            have i0' := fun d os => cell_regrown (w := wr.drewN nq) y0 d os
            have i1' := fun d os => cell_regrown (w := wr.drewN nq) y1 d os
            have i2' := fun d os => cell_regrown (w := wr.drewN nq) y2 d os
            have i3' := fun d os => cell_regrown (w := wr.drewN nq) y3 d os
            have i4' := fun d os => cell_regrown (w := wr.drewN nq) y4 d os
            go_wp2_with fail
            refine wp_region_quiet_below (by kernel_rfl) (by kernel_rfl) ?_
            repeat (quiet_step (exact cN _ _))
            refine wpQuiet_nil ?_
            intro _ hw'
            obtain ⟨⟨dq, osq⟩, hw''⟩ := hw'
            subst hw''
            have hb2 := Below.next (below_drewN (Below.refl _ wr) nq) (below_regrown (wr.drewN nq) dq osq)
            clear j4 j4' i0 i1 i2 i3 i4 i0' i1' i2' i3' i4' cN x0 x1 x2 x3 x4 y0 y1 y2 y3 y4
            by_cases hr : r = 0
            · subst hr
              have HI2 := Lib.hid (show cmf (t.f.drop (j + 1)) (u.f.drop (j + 1)) = z from HI.out)
              go_wp2_with fail
              go_roundw
              case rel => exact ⟨j + 1, by omega, by omega, by go_num, HI2, hC.next hb2, hC'.next hb2, Below.next hb hb2⟩
              case measure => simp [intOf]; omega
            · have d6 : (r != 0) = true := by simpa using hr
              have HI2 := Lib.hid (show r = z by rw [← HI.out, o1_l hr])
              clear hr HI
              go_wp2_with fail
              go_ret
              obtain rfl := HI2.out
              exact ⟨rfl, Below.next hb hb2⟩
          · have hI := hI.out
            rw [cmf_end t.f u.f j (by rw [HN.out, HN'.out]; omega) (by rw [HN.out]; exact hj) (by rw [HN'.out]; exact hj'), HN.out, HN'.out] at hI
            have HI := Lib.hid hI
            clear hI cF hR2 hR2'
            by_cases g1 : j < n
            · obtain rfl : j = n' := by omega
              go_wp2_with fail
              refine (cS _ _ _).mono ?_
              rintro e w2 ⟨rfl, rfl⟩
              go_wp2_with fail
              go_ret
              obtain rfl := HI.out
              exact ⟨rfl, hb⟩
            · obtain rfl : j = n := by omega
              go_wp2_with fail
              refine (cS _ _ _).mono ?_
              rintro e w2 ⟨rfl, rfl⟩
              go_wp2_with fail
              go_ret
              obtain rfl := HI.out
              exact ⟨rfl, hb⟩
set_option maxRecDepth 100000 in
theorem refEqual_any (t u : Vl) (v v' : Value) (w : World) (hok : vok t) (hok' : vok u) (hv : VlV w t v) (hv' : VlV w u v') :
    Calls Tryz.prog 13 #[v, v'] w (Ib (.bool (cm t u == 0)) w) := by
  have cC := fun W h => refCompare_any (SizeOf.sizeOf t + 1) t u v v' W (by omega) hok hok' (hv.next h) (hv'.next h)
  obtain ⟨A, c, A2, c2, rfl, -, -⟩ := hv
  obtain ⟨A', c', A2', c2', rfl, -, -⟩ := hv'
  obtain ⟨z, hz⟩ : ∃ z, cm t u = z := ⟨_, rfl⟩
  rw [hz] at cC ⊢
  have c1 := cC _ (ab2 w (Obj.cells #[.int .i64 t.kind, .int .i64 t.n, .string (bs t.s), .slice A t.l.length c, .slice A2 t.f.length c2] 34) (Obj.cells #[.int .i64 u.kind, .int .i64 u.n, .string (bs u.s), .slice A' u.l.length c', .slice A2' u.f.length c2'] 34))
  clear cC hz
  go_enter Tryz.func13, Tryz.ntmps13
  go_wp2_with fail
  refine c1.mono ?_
  rintro e w2 ⟨rfl, hb⟩
  go_wp2_with fail
  go_ret
  exact ⟨rfl, Below.next (ab2 _ _ _) hb⟩
end Go.Proofs.YthfodpbecddheaaGreatDoor
/-
  The developers' Compare and Equal: the library's comparisons. No conditions beyond those that each names.
-/
namespace Go.Proofs.YthfodpbecddheaaGreatDoor
open Go.RowKit Go.Sort
end Go.Proofs.YthfodpbecddheaaGreatDoor
/-
  The developers' Compare and Equal. No conditions beyond those that each names.
-/
namespace Go.Proofs.YthfodpbecddheaaGreatDoor
open Go.RowKit Go.Sort
/-- An entry as a value. -/
def EtV (w : World) (x : Int × Vl) (v : Value) : Prop := ∃ A c A2 c2, v = .agg #[.int .i64 x.1, .int .i64 x.2.kind, .int .i64 x.2.n, .string (bs x.2.s), .slice A x.2.l.length c, .slice A2 x.2.f.length c2] ∧ Rw VlA 5 w x.2.l A ∧ Rw EtA 6 w x.2.f A2
theorem EtV.next {w w' : World} (hb : Below w.heap.size w w') {t : Int × Vl} {v : Value} (h : EtV w t v) : EtV w' t v := by
  obtain ⟨A, c, A2, c2, e, h1, h2⟩ := h
  exact ⟨A, c, A2, c2, e, h1.next fun x p => VlA.next hb x p, h2.next fun x p => EtA.next hb x p⟩
theorem EtA.val2 {w : World} {x : Int × Vl} {p : Addr} (h : EtA w x p) : ∃ A c A2 c2, w.cell? p = some (.int .i64 x.1) ∧ w.cell? (nx1 p 1) = some (.int .i64 x.2.kind) ∧ w.cell? (nx1 p 2) = some (.int .i64 x.2.n) ∧ w.cell? (nx1 p 3) = some (.string (bs x.2.s)) ∧ w.cell? (nx1 p 4) = some (.slice A x.2.l.length c) ∧ w.cell? (nx1 p 5) = some (.slice A2 x.2.f.length c2) ∧ EtV w x (.agg #[.int .i64 x.1, .int .i64 x.2.kind, .int .i64 x.2.n, .string (bs x.2.s), .slice A x.2.l.length c, .slice A2 x.2.f.length c2]) := by
  obtain ⟨A, c, A2, c2, h0, h1, h2, h3, h4, h5, ⟨B, d, B2, d2, e, k1, k2⟩⟩ := h.val
  refine ⟨A, c, A2, c2, h0, h1, h2, h3, h4, h5, B, d, B2, d2, ?_, k1, k2⟩
  injection e with e
  injection e with e
  injection e with _ e
  injection e with _ e
  injection e with _ e
  injection e with e1 e
  injection e with e2 e
  rw [e1, e2]
end Go.Proofs.YthfodpbecddheaaGreatDoor
/-
  Rows of structs that a call owns; values and entries in new memory; copies of lists. No conditions beyond those that each names.
-/
namespace Go.Proofs.YthfodpbecddheaaGreatDoor
open Go.RowKit Go.Shelf
/-- From block lo on, what was there is as it was. -/
structure Kpl (lo : Nat) (w w' : World) : Prop where
  size : w.heap.size ≤ w'.heap.size
  blk : ∀ i, lo ≤ i → i < w.heap.size → w'.heap[i]? = w.heap[i]?
theorem Kpl.refl (lo : Nat) (w : World) : Kpl lo w w := ⟨Nat.le_refl _, fun _ _ _ => rfl⟩
theorem Kpl.of {lo : Nat} {w w' : World} (hb : Below w.heap.size w w') : Kpl lo w w' := ⟨hb.size, fun i _ hi => hb.block i hi⟩
theorem Kpl.trans {lo : Nat} {w w1 w2 : World} (h : Kpl lo w w1) (k : Kpl lo w1 w2) : Kpl lo w w2 := ⟨Nat.le_trans h.size k.size, fun i h1 h2 => (k.blk i h1 (Nat.lt_of_lt_of_le h2 h.size)).trans (h.blk i h1 h2)⟩
theorem Kpl.mono {lo hi : Nat} {w w' : World} (h : Kpl lo w w') (hl : lo ≤ hi) : Kpl hi w w' := ⟨h.size, fun i h1 h2 => h.blk i (Nat.le_trans hl h1) h2⟩
theorem Kpl.gb {g hi : Nat} {w w' : World} (h : w.grownBy w' (some g)) (hg : g < hi) : Kpl hi w w' := ⟨h.size, fun i h1 h2 => h.block i h2 (fun e => by cases e; omega)⟩
theorem Kpl.set {lo : Nat} {w w' : World} (h : Kpl lo w w') {p : Addr} (hp : p.block < lo) (u : Value) : Kpl lo w (w'.setCell p u) :=
  ⟨Nat.le_trans h.size (Below.setCell (Below.refl 0 w') (Nat.zero_le p.block) u).size, fun i hi h2 => (Below.heap_setCell w' p u i (by omega)).trans (h.blk i hi h2)⟩
theorem gbq_of {w w' : World} (hb : Below w.heap.size w w') (row : Option Nat) : w.grownBy w' row := ⟨hb.os, hb.tape, hb.output, hb.size, fun i hi _ => hb.block i hi⟩
theorem own_next {w w' : World} {base : Nat} {e : TypeId} {z n : Nat} {v : Value} {xs : List Value} (h : w.ownsRow base e z v n xs) (hb : Below w.heap.size w w') : w'.ownsRow base e z v n xs := by
  cases hv : v.ownBlock with
  | none => exact h.kept (gbq_of hb none) (.inl hv)
  | some g => exact h.kept (gbq_of hb none) (.inr (by rw [hv]; simp))
theorem own_mono {w : World} {base base' : Nat} {e : TypeId} {z n : Nat} {v : Value} {xs : List Value} (h : w.ownsRow base e z v n xs) (hb : base' ≤ base) : w.ownsRow base' e z v n xs := by
  refine ⟨h.1, ?_⟩
  rcases h.2 with h1 | ⟨g, cap, cur, h1, h2, h3⟩
  · exact .inl h1
  · exact .inr ⟨g, cap, cur, h1, Nat.le_trans hb h2, h3⟩
/-- Values from place p on. -/
def putAt : List Value → Nat → List Value → List Value
  | xs, _, [] => xs
  | xs, p, v :: vs => putAt (xs.set p v) (p + 1) vs
theorem putAt_len : ∀ (vs xs : List Value) (p : Nat), (putAt xs p vs).length = xs.length
  | [], _, _ => rfl
  | v :: vs, xs, p => by rw [putAt, putAt_len vs, List.length_set]
theorem putAt_other : ∀ (vs xs : List Value) (p i : Nat), (i < p ∨ p + vs.length ≤ i) → (putAt xs p vs)[i]? = xs[i]?
  | [], _, _, _, _ => rfl
  | v :: vs, xs, p, i, h => by
    rw [List.length_cons] at h
    rw [putAt, putAt_other vs _ _ _ (by omega), List.getElem?_set_ne (by omega)]
theorem putAt_same : ∀ (vs xs : List Value) (p i : Nat), i < vs.length → p + vs.length ≤ xs.length → (putAt xs p vs)[p + i]? = vs[i]?
  | v :: vs, xs, p, 0, _, hx => by
    rw [List.length_cons] at hx
    rw [putAt, putAt_other vs _ _ _ (by omega), Nat.add_zero, List.getElem?_set_self (by omega)]
    rfl
  | v :: vs, xs, p, i + 1, hi, hx => by
    rw [List.length_cons] at hx hi
    rw [putAt, show p + (i + 1) = p + 1 + i by omega, putAt_same vs _ _ _ (by omega) (by rw [List.length_set]; omega)]
    rfl
/-- Cells of block g are set anew. -/
def setCs : World → Nat → Nat → List Value → World
  | w, _, _, [] => w
  | w, g, p, v :: vs => setCs (w.setCell ⟨g, p, none⟩ v) g (p + 1) vs
theorem storedN {base g n cap z : Nat} {e : TypeId} : ∀ (vs : List Value) {w : World} {xs : List Value} (_ : w.ownsRow base e z (.slice (some ⟨g, 0, none⟩) n cap) n xs) (p : Nat),
    (setCs w g p vs).ownsRow base e z (.slice (some ⟨g, 0, none⟩) n cap) n (putAt xs p vs) ∧ w.grownBy (setCs w g p vs) (some g)
  | [], w, xs, h, p => ⟨h, World.grownBy.refl _ _⟩
  | v :: vs, w, xs, h, p => by
    obtain ⟨h1, g1⟩ := h.stored p v
    obtain ⟨h2, g2⟩ := storedN vs h1 (p + 1)
    exact ⟨h2, g1.trans g2⟩
/-- The elements of a row, z cells each. -/
def IL {α β : Type} (z : Nat) (enc : α → β → List Value) (P : Nat → α → β → Prop) (l : List α) (xs : List Value) : Prop :=
  xs.length = l.length * z ∧ ∀ j (h : j < l.length), ∃ b, (∀ i, i < z → xs[j * z + i]? = (enc (l[j]'h) b)[i]?) ∧ P j (l[j]'h) b
theorem IL.mono {α β : Type} {z : Nat} {enc : α → β → List Value} {P Q : Nat → α → β → Prop} {l : List α} {xs : List Value} (h : IL z enc P l xs) (hPQ : ∀ j (h : j < l.length) b, P j (l[j]'h) b → Q j (l[j]'h) b) : IL z enc Q l xs :=
  ⟨h.1, fun j hj => by obtain ⟨b, h1, h2⟩ := h.2 j hj; exact ⟨b, h1, hPQ j hj b h2⟩⟩
theorem IL.nil {α β : Type} (z : Nat) (enc : α → β → List Value) (P : Nat → α → β → Prop) : IL z enc P [] [] := ⟨by simp, fun j h => absurd h (Nat.not_lt_zero _)⟩
theorem mulz {j k z i : Nat} (h : j < k) (hi : i < z) : j * z + i < k * z := by
  have h1 : (j + 1) * z ≤ k * z := Nat.mul_le_mul_right z h
  rw [Nat.add_mul, Nat.one_mul] at h1
  omega
theorem IL.put {α β : Type} {z : Nat} {enc : α → β → List Value} {P Q : Nat → α → β → Prop} {l : List α} {xs : List Value} (h : IL z enc P l xs) {k : Nat} (hk : k < l.length) (y : α) (b : β) (hz : (enc y b).length = z)
    (hP : ∀ j (h : j < l.length) b, j ≠ k → P j (l[j]'h) b → Q j (l[j]'h) b) (hQ : Q k y b) : IL z enc Q (l.set k y) (putAt xs (k * z) (enc y b)) := by
  refine ⟨by rw [putAt_len, h.1, List.length_set], fun j hj => ?_⟩
  have hj2 : j < l.length := by simpa using hj
  by_cases e : j = k
  · subst e
    refine ⟨b, fun i hi => ?_, ?_⟩
    · rw [putAt_same _ _ _ _ (by omega) (by rw [h.1, hz]; have := mulz (z := z) hk (i := 0) (by omega); have h1 : (j + 1) * z ≤ l.length * z := Nat.mul_le_mul_right z hk; rw [Nat.add_mul, Nat.one_mul] at h1; omega)]
      rw [List.getElem_set_self]
    · rw [List.getElem_set_self]; exact hQ
  · obtain ⟨b', h1, h2⟩ := h.2 j hj2
    rw [List.getElem_set_ne (by omega)]
    refine ⟨b', fun i hi => ?_, hP j hj2 b' e h2⟩
    rw [putAt_other _ _ _ _ ?_, h1 i hi]
    rw [hz]
    rcases Nat.lt_or_gt_of_ne e with h3 | h3
    · exact .inl (by have := mulz h3 hi; omega)
    · right
      have h1 : (k + 1) * z ≤ j * z := Nat.mul_le_mul_right z h3
      rw [Nat.add_mul, Nat.one_mul] at h1
      omega
/-- Where a value's lists lie. -/
structure Sb where
  A : Option Addr
  c : Nat
  B : Option Addr
  d : Nat
def encV (t : Vl) (s : Sb) : List Value := [.int .i64 t.kind, .int .i64 t.n, .string (bs t.s), .slice s.A t.l.length s.c, .slice s.B t.f.length s.d]
def encE (x : Int × Vl) (s : Sb) : List Value := [.int .i64 x.1, .int .i64 x.2.kind, .int .i64 x.2.n, .string (bs x.2.s), .slice s.A x.2.l.length s.c, .slice s.B x.2.f.length s.d]
/-- What a value's lists are. -/
def RdV (w : World) (t : Vl) (s : Sb) : Prop := Rw VlA 5 w t.l s.A ∧ Rw EtA 6 w t.f s.B
/-- The same, whatever becomes of blocks before hi. -/
def NwV (hi : Nat) (w : World) (t : Vl) (s : Sb) : Prop := ∀ w', Kpl hi w w' → RdV w' t s
theorem RdV.next {w w' : World} {t : Vl} {s : Sb} (hb : Below w.heap.size w w') (h : RdV w t s) : RdV w' t s := ⟨h.1.next fun x p => VlA.next hb x p, h.2.next fun x p => EtA.next hb x p⟩
theorem NwV.next {hi : Nat} {w w' : World} {t : Vl} {s : Sb} (h : NwV hi w t s) (k : Kpl hi w w') : NwV hi w' t s := fun w2 k2 => h w2 (k.trans k2)
theorem NwV.rd {hi : Nat} {w : World} {t : Vl} {s : Sb} (h : NwV hi w t s) : RdV w t s := h w (Kpl.refl _ _)
theorem NwV.low {lo hi : Nat} {w : World} {t : Vl} {s : Sb} (h : NwV hi w t s) (hl : lo ≤ hi) : NwV lo w t s := fun w2 k2 => h w2 (k2.mono hl)
theorem rdV_iff {w : World} {t : Vl} {v : Value} : VlV w t v ↔ ∃ s, v = .agg (encV t s).toArray ∧ RdV w t s :=
  ⟨fun ⟨A, c, B, d, e, h1, h2⟩ => ⟨⟨A, c, B, d⟩, e, h1, h2⟩, fun ⟨s, e, h1, h2⟩ => ⟨s.A, s.c, s.B, s.d, e, h1, h2⟩⟩
theorem etA_of {w : World} {x : Int × Vl} {b o : Nat} {s : Sb} (h : ∀ i, i < 6 → w.cell? ⟨b, o + i, none⟩ = (encE x s)[i]?) (hr : RdV w x.2 s) : EtA w x ⟨b, o, none⟩ :=
  ⟨h 0 (by omega), VlA.of (h 1 (by omega)) (h 2 (by omega)) (h 3 (by omega)) (h 4 (by omega)) hr.1 (h 5 (by omega)) hr.2⟩
theorem rowE_of {w w' : World} {lo n cap g : Nat} {e : TypeId} {l : List (Int × Vl)} {xs : List Value} (ho : w.ownsRow lo e 6 (.slice (some ⟨g, 0, none⟩) n cap) n xs) (hk : w'.heap[g]? = w.heap[g]?) (hn : l.length = n) (h : IL 6 encE (fun _ t s => RdV w' t.2 s) l xs) : Rw EtA 6 w' l (some ⟨g, 0, none⟩) := by
  refine .inr ⟨_, rfl, fun i hi => ?_⟩
  obtain ⟨s, h1, h2⟩ := h.2 i hi
  rw [Addr.add_lit]
  refine etA_of (s := s) (fun j hj => ?_) h2
  rw [World.cell?_of_block (w := w) hk, Nat.zero_add, ho.cellAt _ (by rw [← hn]; exact mulz hi hj)]
  exact h1 j hj
theorem infoE : (Tryz.prog.info? 94).map (fun i => (i.zero, i.size, i.bytes)) = some (some (.agg #[.int .i64 0, .int .i64 0, .int .i64 0, .string ⟨#[]⟩, .slice none 0 0, .slice none 0 0]), 6, 88) := by kernel_rfl
theorem spot_none0 {w : World} {a : Addr} {v : Value} (h : w.cell? a = some v) : a.spot = none := by
  unfold World.cell? at h
  split at h
  · split at h
    · cases h
    · rename_i h1; simpa using h1
  · cases h
end Go.Proofs.YthfodpbecddheaaGreatDoor
/-
  The developers' renew: a value in new memory. No conditions beyond those that each names.
-/
namespace Go.Proofs.YthfodpbecddheaaGreatDoor
open Go.RowKit Go.Shelf
/-- From block lo on, but for block g, what was there is as it was. -/
structure Kpx (lo : Nat) (g : Option Nat) (w w' : World) : Prop where
  size : w.heap.size ≤ w'.heap.size
  blk : ∀ i, lo ≤ i → i < w.heap.size → some i ≠ g → w'.heap[i]? = w.heap[i]?
theorem Kpx.of {lo : Nat} {g : Option Nat} {w w' : World} (h : Kpl lo w w') : Kpx lo g w w' := ⟨h.size, fun i h1 h2 _ => h.blk i h1 h2⟩
theorem Kpx.kpl {lo hi : Nat} {g : Option Nat} {w w' : World} (h : Kpx lo g w w') (hl : lo ≤ hi) (hg : ∀ b, g = some b → b < hi) : Kpl hi w w' := ⟨h.size, fun i h1 h2 => h.blk i (by omega) h2 (fun e => by have := hg i e.symm; omega)⟩
theorem Kpx.trans {lo : Nat} {g : Option Nat} {w w1 w2 : World} (h : Kpx lo g w w1) (k : Kpx lo g w1 w2) : Kpx lo g w w2 := ⟨Nat.le_trans h.size k.size, fun i h1 h2 h3 => (k.blk i h1 (Nat.lt_of_lt_of_le h2 h.size) h3).trans (h.blk i h1 h2 h3)⟩
theorem Kpx.gb {lo : Nat} {g : Option Nat} {w w' : World} (h : w.grownBy w' g) : Kpx lo g w w' := ⟨h.size, fun i _ h2 h3 => h.block i h2 h3⟩
theorem own_form {w : World} {base : Nat} {e : TypeId} {z n : Nat} {v : Value} {xs : List Value} (h : w.ownsRow base e z v n xs) : ∃ B d, v = .slice B n d := by
  rcases h.2 with ⟨rfl, rfl⟩ | ⟨g, cap, cur, rfl, -⟩
  · exact ⟨_, _, rfl⟩
  · exact ⟨_, _, rfl⟩
theorem own_some {w : World} {base : Nat} {e : TypeId} {z n d : Nat} {B : Option Addr} {xs : List Value} (h : w.ownsRow base e z (.slice B n d) n xs) (hn : n ≠ 0) : ∃ g, B = some ⟨g, 0, none⟩ := by
  rcases h.2 with ⟨-, h⟩ | ⟨g, cap, cur, h, -⟩
  · exact absurd h hn
  · injection h with h; exact ⟨g, h⟩
theorem Bx.gb {w w' : World} {b g : Nat} {vs : List Value} (h : Bx w b vs) (hg : w.grownBy w' (some g)) (hne : b ≠ g) : Bx w' b vs := by
  have hk := hg.block b h.lt (fun e => hne (by injection e))
  exact ⟨Nat.lt_of_lt_of_le h.lt hg.size, fun j v e => ⟨(World.cell?_of_block (w := w) (a := ⟨b, j, none⟩) hk).trans (h.at_ j v e).1, (World.frozen?_of_block (w := w) (a := ⟨b, j, none⟩) hk).trans (h.at_ j v e).2⟩⟩
/-- The elements before number k are renewed. -/
def RnV (w0 : World) (hi : Nat) (w : World) (k : Nat) (j : Nat) (t : Vl) (s : Sb) : Prop := if j < k then NwV hi w t s else RdV w0 t s
theorem RnV.next {w0 : World} {hi k j : Nat} {w w' : World} {t : Vl} {s : Sb} (h : RnV w0 hi w k j t s) (hk : Kpl hi w w') : RnV w0 hi w' k j t s := by
  unfold RnV at h ⊢
  split
  · rename_i e; rw [if_pos e] at h; exact h.next hk
  · rename_i e; rw [if_neg e] at h; exact h
theorem RnV.step {w0 : World} {hi k j : Nat} {w : World} {t : Vl} {s : Sb} (h : RnV w0 hi w k j t s) (hj : j ≠ k) : RnV w0 hi w (k + 1) j t s := by
  unfold RnV at h ⊢
  by_cases e : j < k
  · rw [if_pos e] at h; rw [if_pos (by omega)]; exact h
  · rw [if_neg e] at h; rw [if_neg (by omega)]; exact h
end Go.Proofs.YthfodpbecddheaaGreatDoor


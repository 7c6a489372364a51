/-
  The reference's order of texts, sizes and levels. No conditions beyond those that each names.
-/
import Derived.Test.YthfodpbecddheaaGreatDoorQM07
import Derived.Lib.QuietBelow
import Derived.Test.YthfodpbecddheaaGreatDoorQM01
import Derived.Test.YthfodpbecddheaaGreatDoorShelfB
import Derived.Laws.OwnMore
namespace Go.Proofs.YthfodpbecddheaaGreatDoor
open Go.RowKit
set_option maxRecDepth 100000 in
set_option maxHeartbeats 2000000 in
theorem refSign_any (a b : Int) (w : World) : Calls Tryz.prog 65 #[.int .i64 a, .int .i64 b] w (Is (.int .i64 (sg a b)) w) := by
  by_cases h1 : a < b
  · have d1 : decide (a < b) = true := decide_eq_true h1
    have e : sg a b = -1 := by unfold sg; rw [if_pos h1]
    rw [e]
    clear e
    go_enter Tryz.func65, Tryz.ntmps65
    go_wp2_with fail
    go_ret
    exact ⟨rfl, rfl⟩
  · have d1 : decide (a < b) = false := decide_eq_false h1
    by_cases h2 : b < a
    · have d2 : decide (b < a) = true := decide_eq_true h2
      have e : sg a b = 1 := by unfold sg; rw [if_neg h1, if_pos h2]
      rw [e]
      clear e
      go_enter Tryz.func65, Tryz.ntmps65
      go_wp2_with fail
      go_ret
      exact ⟨rfl, rfl⟩
    · have d2 : decide (b < a) = false := decide_eq_false h2
      have e : sg a b = 0 := by unfold sg; rw [if_neg h1, if_neg h2]
      rw [e]
      clear e
      go_enter Tryz.func65, Tryz.ntmps65
      go_wp2_with fail
      go_ret
      exact ⟨rfl, rfl⟩
theorem ob_drop {a b : List UInt8} {k : Nat} (h1 : k < a.length) (h2 : k < b.length) : ob (a.drop k) (b.drop k) = o1 (sg ((a[k]'h1).toNat : Int) ((b[k]'h2).toNat : Int)) (ob (a.drop (k + 1)) (b.drop (k + 1))) := by
  rw [List.drop_eq_getElem_cons h1, List.drop_eq_getElem_cons h2, ob]
theorem ob_end (a b : List UInt8) (k : Nat) (h : a.length ≤ k ∨ b.length ≤ k) (h1 : k ≤ a.length) (h2 : k ≤ b.length) : ob (a.drop k) (b.drop k) = sg (a.length : Int) (b.length : Int) := by
  rcases h with h | h
  · obtain rfl : k = a.length := by omega
    rw [List.drop_length]
    by_cases e : b.length = a.length
    · rw [← e, List.drop_length, ob]; unfold sg; omega
    · rw [List.drop_eq_getElem_cons (show a.length < b.length by omega), ob]; unfold sg; rw [if_pos (by omega)]
  · obtain rfl : k = b.length := by omega
    rw [List.drop_length]
    by_cases e : a.length = b.length
    · rw [← e, List.drop_length, ob]; unfold sg; omega
    · rw [List.drop_eq_getElem_cons (show b.length < a.length by omega), ob]; unfold sg; rw [if_neg (by omega), if_pos (by omega)]
set_option maxRecDepth 100000 in
set_option maxHeartbeats 2000000 in
theorem refOrder_any (a b : List UInt8) (w : World) (ha : a.length ≤ 9223372036854775807) (hb : b.length ≤ 9223372036854775807) : Calls Tryz.prog 66 #[.string (bs a), .string (bs b)] w (Iq (.int .i64 (ob a b)) w) := by
  obtain ⟨m, hm⟩ : ∃ m, a.length = m := ⟨_, rfl⟩
  obtain ⟨n, hn⟩ : ∃ n, b.length = n := ⟨_, rfl⟩
  obtain ⟨r, hr⟩ : ∃ r, ob a b = r := ⟨_, rfl⟩
  have HM := Lib.hid hm
  have HN := Lib.hid hn
  have z1 : (bs a).size = m := by rw [bs_size, hm]
  have z2 : (bs b).size = n := by rw [bs_size, hn]
  rw [hr]
  have H0 := Lib.hid (show ob (a.drop 0) (b.drop 0) = r from hr)
  rw [hm] at ha
  rw [hn] at hb
  clear hm hn hr
  go_enter Tryz.func66, Tryz.ntmps66
  go_wp2_with fail
  go_loopw [5] (fun i wr => ∃ (k q : Nat), k ≤ m ∧ k ≤ n ∧ i = .int .i64 (k : Int) ∧ wr = w.drewN q ∧ Hid (ob (a.drop k) (b.drop k) = r)) (fun i _ => m - (intOf i).toNat)
  case atStart => exact ⟨0, 0, by omega, by omega, rfl, rfl, H0⟩
  case round =>
    obtain ⟨k, q, hk, hk2, rfl, rfl, hI⟩ := hrel
    clear H0
    by_cases hlt : k < m ∧ k < n
    · obtain ⟨g1, g2⟩ := hlt
      have h1 : k < a.length := by rw [HM.out]; exact g1
      have h2 : k < b.length := by rw [HN.out]; exact g2
      have hE := hI.out
      rw [ob_drop h1 h2] at hE
      have l1 : k < (bs a).size := by rw [z1]; exact g1
      have l2 : k < (bs b).size := by rw [z2]; exact g2
      have e1 : ((bs a)[k]'l1).toNat = (a[k]'h1).toNat := rfl
      have e2 : ((bs b)[k]'l2).toNat = (b[k]'h2).toNat := rfl
      generalize (a[k]'h1).toNat = x at *
      generalize (b[k]'h2).toNat = y at *
      clear hI
      by_cases c1 : x < y
      · have d1 : decide (x < y) = true := decide_eq_true c1
        have HE := Lib.hid (show (-1 : Int) = r by rw [← hE]; unfold o1 sg; rw [if_pos (show (x : Int) < y by omega)]; rfl)
        clear hE
        go_wp2_with fail
        go_quiet (fail)
        go_wp2_with fail
        go_ret
        obtain rfl := HE.out
        exact ⟨_, rfl, by simp only [drewN_add]; rfl⟩
      · have d1 : decide (x < y) = false := decide_eq_false c1
        by_cases c2 : y < x
        · have d2 : decide (y < x) = true := decide_eq_true c2
          have HE := Lib.hid (show (1 : Int) = r by rw [← hE]; unfold o1 sg; rw [if_neg (show ¬ (x : Int) < y by omega), if_pos (show (y : Int) < x by omega)]; rfl)
          clear hE
          go_wp2_with fail
          go_quiet (fail)
          go_wp2_with fail
          go_quiet (fail)
          go_wp2_with fail
          go_ret
          obtain rfl := HE.out
          exact ⟨_, rfl, by simp only [drewN_add]; rfl⟩
        · have d2 : decide (y < x) = false := decide_eq_false c2
          have HE := Lib.hid (show ob (a.drop (k + 1)) (b.drop (k + 1)) = r by rw [← hE]; unfold o1 sg; rw [if_neg (show ¬ (x : Int) < y by omega), if_neg (show ¬ (y : Int) < x by omega)]; rfl)
          clear hE
          go_wp2_with fail
          go_quiet (fail)
          go_wp2_with fail
          go_quiet (fail)
          go_wp2_with fail
          go_roundw
          case rel => exact ⟨k + 1, _, by omega, by omega, by go_num, rfl, HE⟩
          case measure => simp [intOf]; omega
    · have hE := hI.out
      rw [ob_end a b k (by rw [HM.out, HN.out]; omega) (by rw [HM.out]; exact hk) (by rw [HN.out]; exact hk2), HM.out, HN.out] at hE
      have HE := Lib.hid hE
      clear hI hE
      have cS := fun W => refSign_any (m : Int) (n : Int) W
      by_cases g1 : k < m
      · obtain rfl : k = n := by omega
        go_wp2_with fail
        refine (cS _).mono ?_
        rintro e w2 ⟨rfl, rfl⟩
        go_wp2_with fail
        go_ret
        obtain rfl := HE.out
        exact ⟨_, rfl, rfl⟩
      · obtain rfl : k = m := by omega
        go_wp2_with fail
        refine (cS _).mono ?_
        rintro e w2 ⟨rfl, rfl⟩
        go_wp2_with fail
        go_ret
        obtain rfl := HE.out
        exact ⟨_, rfl, rfl⟩
theorem wrap_add (a b : Int) : wrap64 (wrap64 a + wrap64 b) = wrap64 (a + b) := by unfold wrap64; omega
theorem intK (a : Int) : IntKind.i64.wrap a = wrap64 a := IntWalk.i64_left a
end Go.Proofs.YthfodpbecddheaaGreatDoor
/-
  The reference's Compare and Equal. No conditions beyond those that each names.
-/
namespace Go.Proofs.YthfodpbecddheaaGreatDoor
open Go.RowKit Go.Sort
theorem cml_drop {a b : List Vl} {k : Nat} (h1 : k < a.length) (h2 : k < b.length) : cml (a.drop k) (b.drop k) = o1 (cm (a[k]'h1) (b[k]'h2)) (cml (a.drop (k + 1)) (b.drop (k + 1))) := by
  rw [List.drop_eq_getElem_cons h1, List.drop_eq_getElem_cons h2, cml]
theorem cml_end (a b : List Vl) (k : Nat) (h : a.length ≤ k ∨ b.length ≤ k) (h1 : k ≤ a.length) (h2 : k ≤ b.length) : cml (a.drop k) (b.drop k) = sg (a.length : Int) (b.length : Int) := by
  rcases h with h | h
  · obtain rfl : k = a.length := by omega
    rw [List.drop_length]
    by_cases e : b.length = a.length
    · rw [← e, List.drop_length, cml]; unfold sg; omega
    · rw [List.drop_eq_getElem_cons (show a.length < b.length by omega), cml]; unfold sg; rw [if_pos (by omega)]
  · obtain rfl : k = b.length := by omega
    rw [List.drop_length]
    by_cases e : a.length = b.length
    · rw [← e, List.drop_length, cml]; unfold sg; omega
    · rw [List.drop_eq_getElem_cons (show b.length < a.length by omega), cml]; unfold sg; rw [if_neg (by omega), if_pos (by omega)]
theorem cmf_drop {a b : List (Int × Vl)} {k : Nat} (h1 : k < a.length) (h2 : k < b.length) : cmf (a.drop k) (b.drop k) = o1 (sg (a[k]'h1).1 (b[k]'h2).1) (o1 (cm (a[k]'h1).2 (b[k]'h2).2) (cmf (a.drop (k + 1)) (b.drop (k + 1)))) := by
  rw [List.drop_eq_getElem_cons h1, List.drop_eq_getElem_cons h2]
  obtain ⟨n, x⟩ := a[k]'h1
  obtain ⟨m, y⟩ := b[k]'h2
  rw [cmf]
theorem cmf_end (a b : List (Int × Vl)) (k : Nat) (h : a.length ≤ k ∨ b.length ≤ k) (h1 : k ≤ a.length) (h2 : k ≤ b.length) : cmf (a.drop k) (b.drop k) = sg (a.length : Int) (b.length : Int) := by
  rcases h with h | h
  · obtain rfl : k = a.length := by omega
    rw [List.drop_length]
    by_cases e : b.length = a.length
    · rw [← e, List.drop_length, cmf]; unfold sg; omega
    · rw [List.drop_eq_getElem_cons (show a.length < b.length by omega), cmf]; unfold sg; rw [if_pos (by omega)]
  · obtain rfl : k = b.length := by omega
    rw [List.drop_length]
    by_cases e : a.length = b.length
    · rw [← e, List.drop_length, cmf]; unfold sg; omega
    · rw [List.drop_eq_getElem_cons (show b.length < a.length by omega), cmf]; unfold sg; rw [if_neg (by omega), if_pos (by omega)]
theorem cm_eq (t u : Vl) : cm t u = o1 (sg t.kind u.kind) (o1 (sg t.n u.n) (o1 (ob t.s u.s) (o1 (cml t.l u.l) (cmf t.f u.f)))) := by
  obtain ⟨k, n, s, l, f⟩ := t
  obtain ⟨k', n', s', l', f'⟩ := u
  rw [cm]
  rfl
theorem o1_l {a b : Int} (h : a ≠ 0) : o1 a b = a := by unfold o1; rw [if_pos h]
theorem o1_r (b : Int) : o1 0 b = b := by unfold o1; rw [if_neg (by decide)]
theorem sg_lt {a b : Int} (h : a < b) : sg a b = -1 := by unfold sg; rw [if_pos h]
theorem sg_gt {a b : Int} (h : b < a) : sg a b = 1 := by unfold sg; rw [if_neg (by omega), if_pos h]
theorem sg_eq (a : Int) : sg a a = 0 := by unfold sg; rw [if_neg (by omega), if_neg (by omega)]
theorem sg_ne {a b : Int} (h : a ≠ b) : sg a b ≠ 0 := by unfold sg; split; decide; split; decide; omega
set_option maxRecDepth 100000 in
set_option maxHeartbeats 8000000 in
theorem refCompare_any (N : Nat) : ∀ (t u : Vl) (v v' : Value) (w : World), SizeOf.sizeOf t < N → vok t → vok u → VlV w t v → VlV w u v' →
    Calls Tryz.prog 34 #[v, v'] w (Ib (.int .i64 (cm t u)) w) := by
  induction N with
  | zero => intro t u v v' w h; omega
  | succ N ih =>
    intro t u v v' w hN hok hok' hv hv'
    obtain ⟨hs, ⟨hl, hlo⟩, hf, hfo⟩ := vok_iff.1 hok
    obtain ⟨hs', ⟨hl', hlo'⟩, hf', hfo'⟩ := vok_iff.1 hok'
    have cL : ∀ (i : Nat) (h : i < t.l.length) (h' : i < u.l.length) v v' w, VlV w (t.l[i]'h) v → VlV w (u.l[i]'h') v' → Calls Tryz.prog 34 #[v, v'] w (Ib (.int .i64 (cm (t.l[i]'h) (u.l[i]'h'))) w) := fun i h h' v v' w => ih _ _ v v' w (by have := size_l h; omega) (hlo _ (List.getElem_mem h)) (hlo' _ (List.getElem_mem h'))
    have cF : ∀ (i : Nat) (h : i < t.f.length) (h' : i < u.f.length) v v' w, VlV w (t.f[i]'h).2 v → VlV w (u.f[i]'h').2 v' → Calls Tryz.prog 34 #[v, v'] w (Ib (.int .i64 (cm (t.f[i]'h).2 (u.f[i]'h').2)) w) := fun i h h' v v' w => ih _ _ v v' w (by have := size_f h; omega) (hfo _ (List.getElem_mem h)) (hfo' _ (List.getElem_mem h'))
    have hE := cm_eq t u
    have cO := fun W => refOrder_any t.s u.s W hs hs'
    obtain ⟨A, c, A2, c2, rfl, hR, hR2⟩ := hv
    obtain ⟨A', c', A2', c2', rfl, hR', hR2'⟩ := hv'
    obtain ⟨m, hm⟩ : ∃ m, t.l.length = m := ⟨_, rfl⟩
    obtain ⟨n, hn⟩ : ∃ n, t.f.length = n := ⟨_, rfl⟩
    obtain ⟨m', hm'⟩ : ∃ m', u.l.length = m' := ⟨_, rfl⟩
    obtain ⟨n', hn'⟩ : ∃ n', u.f.length = n' := ⟨_, rfl⟩
    obtain ⟨z, hz⟩ : ∃ z, cm t u = z := ⟨_, rfl⟩
    have HM := Lib.hid hm
    have HN := Lib.hid hn
    have HM' := Lib.hid hm'
    have HN' := Lib.hid hn'
    rw [hm] at hl ⊢
    rw [hn] at hf ⊢
    rw [hm'] at hl' ⊢
    rw [hn'] at hf' ⊢
    rw [hz] at hE ⊢
    have hB := (Bx.new5 w 34 (.int .i64 t.kind) (.int .i64 t.n) (.string (bs t.s)) (.slice A m c) (.slice A2 n c2)).next (ab1 _ (Obj.cells #[.int .i64 u.kind, .int .i64 u.n, .string (bs u.s), .slice A' m' c', .slice A2' n' c2'] 34))
    have hB' := Bx.new5 (w.alloc (Obj.cells #[.int .i64 t.kind, .int .i64 t.n, .string (bs t.s), .slice A m c, .slice A2 n c2] 34)) 34 (.int .i64 u.kind) (.int .i64 u.n) (.string (bs u.s)) (.slice A' m' c') (.slice A2' n' c2')
    have hab := ab2 w (Obj.cells #[.int .i64 t.kind, .int .i64 t.n, .string (bs t.s), .slice A m c, .slice A2 n c2] 34) (Obj.cells #[.int .i64 u.kind, .int .i64 u.n, .string (bs u.s), .slice A' m' c', .slice A2' n' c2'] 34)
    have z1 : (w.alloc (Obj.cells #[.int .i64 t.kind, .int .i64 t.n, .string (bs t.s), .slice A m c, .slice A2 n c2] 34)).heap.size = w.heap.size + 1 := by simp
    rw [z1] at hB'
    clear hm hn hm' hn' hz ih hok hok' hlo hfo hlo' hfo' hN z1 hs hs'
    have cS := fun a b W => refSign_any a b W
    by_cases h1 : t.kind = u.kind
    case neg =>
      have d1 : (t.kind != u.kind) = true := by simpa using h1
      have HE := Lib.hid (show sg t.kind u.kind = z by rw [hE, o1_l (sg_ne h1)])
      clear hE hR hR' hR2 hR2' cL cF hB hB' cO
      go_enter Tryz.func34, Tryz.ntmps34
      go_wp2_with fail
      refine (cS _ _ _).mono ?_
      rintro e w2 ⟨rfl, rfl⟩
      go_wp2_with fail
      go_ret
      obtain rfl := HE.out
      exact ⟨rfl, hab⟩
    case pos =>
    have d1 : (t.kind != u.kind) = false := by simpa using h1
    rw [h1, sg_eq, o1_r] at hE
    clear h1
    by_cases h2 : t.n < u.n
    · have d2 : decide (t.n < u.n) = true := decide_eq_true h2
      have HE := Lib.hid (show (-1 : Int) = z by rw [hE, sg_lt h2, o1_l (by decide)])
      clear hE hR hR' hR2 hR2' cL cF hB hB' cO
      go_enter Tryz.func34, Tryz.ntmps34
      go_wp2_with fail
      go_ret
      obtain rfl := HE.out
      exact ⟨rfl, hab⟩
    have d2 : decide (t.n < u.n) = false := decide_eq_false h2
    by_cases h3 : u.n < t.n
    · have d3 : decide (u.n < t.n) = true := decide_eq_true h3
      have HE := Lib.hid (show (1 : Int) = z by rw [hE, sg_gt h3, o1_l (by decide)])
      clear hE hR hR' hR2 hR2' cL cF hB hB' cO
      go_enter Tryz.func34, Tryz.ntmps34
      go_wp2_with fail
      go_ret
      obtain rfl := HE.out
      exact ⟨rfl, hab⟩
    have d3 : decide (u.n < t.n) = false := decide_eq_false h3
    rw [show t.n = u.n by omega, sg_eq, o1_r] at hE
    obtain ⟨o, ho⟩ : ∃ o, ob t.s u.s = o := ⟨_, rfl⟩
    rw [ho] at cO hE
    clear ho
    by_cases h4 : o = 0
    case neg =>
      have d4 : (o != 0) = true := by simpa using h4
      have HE := Lib.hid (show o = z by rw [hE, o1_l h4])
      clear h4
      clear hE hR hR' hR2 hR2' cL cF hB hB'
      go_enter Tryz.func34, Tryz.ntmps34
      go_wp2_with fail
      refine (cO _).mono ?_
      rintro e w2 ⟨qn, rfl, rfl⟩
      go_wp2_with fail
      go_ret
      obtain rfl := HE.out
      exact ⟨rfl, below_drewN hab qn⟩
    case pos =>
    subst h4
    rw [o1_r] at hE
    have H0 := Lib.hid (show o1 (cml (t.l.drop 0) (u.l.drop 0)) (cmf t.f u.f) = z from hE.symm)
    clear hE
    go_enter Tryz.func34, Tryz.ntmps34
    go_wp2_with fail
    refine (cO _).mono ?_
    rintro e w2 ⟨qn, rfl, rfl⟩
    have hab2 := below_drewN hab qn
    have hC := hB.next (below_drewN (Below.refl _ _) qn)
    have hC' := hB'.next (below_drewN (Below.refl _ _) qn)
    clear cO hab hB hB' d1 d2 d3 h2 h3
    go_wp2_with fail
    go_loopw [6] (fun i wr => ∃ (k : Nat), k ≤ m ∧ k ≤ m' ∧ i = .int .i64 (k : Int) ∧ Hid (o1 (cml (t.l.drop k) (u.l.drop k)) (cmf t.f u.f) = z) ∧ Bx wr w.heap.size [.int .i64 t.kind, .int .i64 t.n, .string (bs t.s), .slice A m c, .slice A2 n c2] ∧ Bx wr (w.heap.size + 1) [.int .i64 u.kind, .int .i64 u.n, .string (bs u.s), .slice A' m' c', .slice A2' n' c2'] ∧ Below w.heap.size w wr) (fun i _ => m - (intOf i).toNat)
    case atStart => exact ⟨0, by omega, by omega, rfl, H0, hC, hC', hab2⟩
    case round =>
      clear hC hC' hab2
      obtain ⟨k, hk, hk', rfl, hI, hC, hC', hb⟩ := hrel
      have c3 := hC.c 3 rfl
      have c4 := hC.c 4 rfl
      have c3' := hC'.c 3 rfl
      have c4' := hC'.c 4 rfl
      clear H0
      by_cases hlt : k < m ∧ k < m'
      · obtain ⟨g1, g2⟩ := hlt
        have e1 : k < t.l.length := by rw [HM.out]; exact g1
        have e2 : k < u.l.length := by rw [HM'.out]; exact g2
        have hI := hI.out
        rw [cml_drop e1 e2] at hI
        obtain ⟨a, rfl, hA⟩ := hR.get e1
        obtain ⟨a', rfl, hA'⟩ := hR'.get e2
        obtain ⟨B, p, B2, p2, x0, x1, x2, x3, x4, hV⟩ := (VlA.next hb _ _ hA).val
        obtain ⟨B', p', B2', p2', y0, y1, y2, y3, y4, hV'⟩ := (VlA.next hb _ _ hA').val
        have hblk : (a.add (k * 5)).block < wr.heap.size := blk_lt x0
        have hblk' : (a'.add (k * 5)).block < wr.heap.size := blk_lt y0
        have cR := fun W (h : Below wr.heap.size wr W) => cL k e1 e2 _ _ W (hV.next h) (hV'.next h)
        generalize t.l[k]'e1 = x at *
        generalize u.l[k]'e2 = y at *
        generalize cm x y = r at *
        have j3 := fun d os => cell_regrown c3 d os
        have j3' := fun d os => cell_regrown c3' d os
        have i0 := fun d os => cell_regrown x0 d os
        have i1 := fun d os => cell_regrown x1 d os
        have i2 := fun d os => cell_regrown x2 d os
        have i3 := fun d os => cell_regrown x3 d os
        have i4 := fun d os => cell_regrown x4 d os
        have i0' := fun d os => cell_regrown y0 d os
        have i1' := fun d os => cell_regrown y1 d os
        have i2' := fun d os => cell_regrown y2 d os
        have i3' := fun d os => cell_regrown y3 d os
        have i4' := fun d os => cell_regrown y4 d os
        have cN := fun d os => Calls.regrown_of (cR (grow (redrawn wr d) os) (below_regrown _ d os))
        clear cL cF hR hR' hR2 hR2' hA hA' hV hV' cR
        by_cases hr : r = 0
        · subst hr
          rw [o1_r] at hI
          have HI := Lib.hid hI
          clear hI
          go_wp2_with fail
          refine wp_region_quiet_below (by kernel_rfl) (by kernel_rfl) ?_
          repeat (quiet_step (exact cN _ _))
          refine wpQuiet_nil ?_
          intro _ hw'
          obtain ⟨⟨dq, osq⟩, hw''⟩ := hw'
          subst hw''
          have hb2 := below_regrown wr dq osq
          clear j3 j3' i0 i1 i2 i3 i4 i0' i1' i2' i3' i4' cN x0 x1 x2 x3 x4 y0 y1 y2 y3 y4
          go_wp2_with fail
          go_roundw
          case rel => exact ⟨k + 1, by omega, by omega, by go_num, HI, hC.next hb2, hC'.next hb2, Below.next hb hb2⟩
          case measure => simp [intOf]; omega
        · have d5 : (r != 0) = true := by simpa using hr
          rw [o1_l (show o1 r _ ≠ 0 by rw [o1_l hr]; exact hr), o1_l hr] at hI
          have HI := Lib.hid hI
          clear hI
          go_wp2_with fail
          refine wp_region_quiet_below (by kernel_rfl) (by kernel_rfl) ?_
          repeat (quiet_step (exact cN _ _))
          refine wpQuiet_nil ?_
          intro _ hw'
          obtain ⟨⟨dq, osq⟩, hw''⟩ := hw'
          subst hw''
          have hb2 := below_regrown wr dq osq
          clear j3 j3' i0 i1 i2 i3 i4 i0' i1' i2' i3' i4' cN x0 x1 x2 x3 x4 y0 y1 y2 y3 y4
          go_wp2_with fail
          go_ret
          obtain rfl := HI.out
          exact ⟨rfl, Below.next hb hb2⟩
      · have hI := hI.out
        rw [cml_end t.l u.l k (by rw [HM.out, HM'.out]; omega) (by rw [HM.out]; exact hk) (by rw [HM'.out]; exact hk'), HM.out, HM'.out] at hI
        clear cL hR hR'
        by_cases hmm : m = m'
        case neg =>
          have d5 : ((m : Int) != (m' : Int)) = true := by simp; omega
          rw [o1_l (sg_ne (show (m : Int) ≠ (m' : Int) by omega))] at hI
          have HI := Lib.hid hI
          clear hI cF hR2 hR2'
          by_cases g1 : k < m
          · obtain rfl : k = m' := by omega
            go_wp2_with fail
            refine (cS _ _ _).mono ?_
            rintro e w2 ⟨rfl, rfl⟩
            go_wp2_with fail
            go_ret
            obtain rfl := HI.out
            exact ⟨rfl, hb⟩
          · obtain rfl : k = m := by omega
            go_wp2_with fail
            refine (cS _ _ _).mono ?_
            rintro e w2 ⟨rfl, rfl⟩
            go_wp2_with fail
            go_ret
            obtain rfl := HI.out
            exact ⟨rfl, hb⟩
        case pos =>
        subst hmm
        obtain rfl : k = m := by omega
        rw [sg_eq, o1_r] at hI
        have H0 := Lib.hid (show cmf (t.f.drop 0) (u.f.drop 0) = z from hI)
        clear hI hlt
        go_wp2_with fail
        go_loopw [8] (fun i wr => ∃ (j : Nat), j ≤ n ∧ j ≤ n' ∧ i = .int .i64 (j : Int) ∧ Hid (cmf (t.f.drop j) (u.f.drop j) = z) ∧ Bx wr w.heap.size [.int .i64 t.kind, .int .i64 t.n, .string (bs t.s), .slice A k c, .slice A2 n c2] ∧ Bx wr (w.heap.size + 1) [.int .i64 u.kind, .int .i64 u.n, .string (bs u.s), .slice A' k c', .slice A2' n' c2'] ∧ Below w.heap.size w wr) (fun i _ => n - (intOf i).toNat)
        case atStart => exact ⟨0, by omega, by omega, rfl, H0, hC, hC', hb⟩
        case round =>
          clear hC hC' hb c3 c4 c3' c4' H0
          obtain ⟨j, hj, hj', rfl, hI, hC, hC', hb⟩ := hrel
          have c4 := hC.c 4 rfl
          have c4' := hC'.c 4 rfl
          by_cases hlt : j < n ∧ j < n'
          · obtain ⟨g1, g2⟩ := hlt
            have e1 : j < t.f.length := by rw [HN.out]; exact g1
            have e2 : j < u.f.length := by rw [HN'.out]; exact g2
            have hI := hI.out
            rw [cmf_drop e1 e2] at hI
            obtain ⟨a, rfl, hA⟩ := hR2.get e1
            obtain ⟨a', rfl, hA'⟩ := hR2'.get e2
            obtain ⟨B, p, B2, p2, xn, x0, x1, x2, x3, x4, hV⟩ := (EtA.next hb _ _ hA).val
            obtain ⟨B', p', B2', p2', yn, y0, y1, y2, y3, y4, hV'⟩ := (EtA.next hb _ _ hA').val
            have hblk : (a.add (j * 6)).block < wr.heap.size := blk_lt xn
            have hblk' : (a'.add (j * 6)).block < wr.heap.size := blk_lt yn
            have cR := fun W (h : Below wr.heap.size wr W) => cF j e1 e2 _ _ W (hV.next h) (hV'.next h)
            generalize (t.f[j]'e1).1 = xn' at *
            generalize (u.f[j]'e2).1 = yn' at *
            generalize (t.f[j]'e1).2 = x at *
            generalize (u.f[j]'e2).2 = y at *
            generalize cm x y = r at *
            clear cF hR2 hR2' hA hA'
            by_cases hnn : xn' = yn'
            case neg =>
              have d5 : (xn' != yn') = true := by simpa using hnn
              rw [o1_l (sg_ne hnn)] at hI
              have HI := Lib.hid hI
              clear hI hV hV' cR hnn
              go_wp2_with fail
              go_quiet (fail)
              have cN := fun d os => Calls.regrown_of ((cS xn' yn' (grow (redrawn (wr.drewN nq) d) os)).mono fun e w' h => (show Ib (.int .i64 (sg xn' yn')) _ e w' from ⟨h.1, by rw [← h.2]; exact Below.refl _ _⟩))
              have j4 := fun d os => cell_regrown (w := wr.drewN nq) c4 d os
              have j4' := fun d os => cell_regrown (w := wr.drewN nq) c4' d os
              have hn0 := fun d os => cell_regrown (w := wr.drewN nq) xn d os
              have hn0' := fun d os => cell_regrown (w := wr.drewN nq) yn d os
              go_wp2_with fail
              refine wp_region_quiet_below (by kernel_rfl) (by kernel_rfl) ?_
              repeat (quiet_step (exact cN _ _))
              refine wpQuiet_nil ?_
              intro _ hw'
              obtain ⟨⟨dq, osq⟩, hw''⟩ := hw'
              subst hw''
              have hb2 := Below.next (below_drewN (Below.refl _ wr) nq) (below_regrown (wr.drewN nq) dq osq)
              clear j4 j4' hn0 hn0' cN
              go_wp2_with fail
              go_ret
              obtain rfl := HI.out
              exact ⟨rfl, Below.next hb hb2⟩
            case pos =>
            subst hnn
            have d5 : (xn' != xn') = false := by simp
            rw [sg_eq, o1_r] at hI
            have HI := Lib.hid hI
            clear hI hV hV'
            go_wp2_with fail
            go_quiet (fail)
            have cN := fun d os => Calls.regrown_of (cR (grow (redrawn (wr.drewN nq) d) os) (Below.next (below_drewN (Below.refl _ wr) nq) (below_regrown (wr.drewN nq) d os)))
            clear cR
            have j4 := fun d os => cell_regrown (w := wr.drewN nq) c4 d os
            have j4' := fun d os => cell_regrown (w := wr.drewN nq) c4' d os
            have i0 := fun d os => cell_regrown (w := wr.drewN nq) x0 d os
            have i1 := fun d os => cell_regrown (w := wr.drewN nq) x1 d os
            have i2 := fun d os => cell_regrown (w := wr.drewN nq) x2 d os
            have i3 := fun d os => cell_regrown (w := wr.drewN nq) x3 d os
            have i4 := fun d os => cell_regrown (w := wr.drewN nq) x4 d os
            have i0' := fun d os => cell_regrown (w := wr.drewN nq) y0 d os
            have i1' := fun d os => cell_regrown (w := wr.drewN nq) y1 d os
            have i2' := fun d os => cell_regrown (w := wr.drewN nq) y2 d os
            have i3' := fun d os => cell_regrown (w := wr.drewN nq) y3 d os
            have i4' := fun d os => cell_regrown (w := wr.drewN nq) y4 d os
            go_wp2_with fail
            refine wp_region_quiet_below (by kernel_rfl) (by kernel_rfl) ?_
            repeat (quiet_step (exact cN _ _))
            refine wpQuiet_nil ?_
            intro _ hw'
            obtain ⟨⟨dq, osq⟩, hw''⟩ := hw'
            subst hw''
            have hb2 := Below.next (below_drewN (Below.refl _ wr) nq) (below_regrown (wr.drewN nq) dq osq)
            clear j4 j4' i0 i1 i2 i3 i4 i0' i1' i2' i3' i4' cN x0 x1 x2 x3 x4 y0 y1 y2 y3 y4
            by_cases hr : r = 0
            · subst hr
              have HI2 := Lib.hid (show cmf (t.f.drop (j + 1)) (u.f.drop (j + 1)) = z from HI.out)
              go_wp2_with fail
              go_roundw
              case rel => exact ⟨j + 1, by omega, by omega, by go_num, HI2, hC.next hb2, hC'.next hb2, Below.next hb hb2⟩
              case measure => simp [intOf]; omega
            · have d6 : (r != 0) = true := by simpa using hr
              have HI2 := Lib.hid (show r = z by rw [← HI.out, o1_l hr])
              clear hr HI
              go_wp2_with fail
              go_ret
              obtain rfl := HI2.out
              exact ⟨rfl, Below.next hb hb2⟩
          · have hI := hI.out
            rw [cmf_end t.f u.f j (by rw [HN.out, HN'.out]; omega) (by rw [HN.out]; exact hj) (by rw [HN'.out]; exact hj'), HN.out, HN'.out] at hI
            have HI := Lib.hid hI
            clear hI cF hR2 hR2'
            by_cases g1 : j < n
            · obtain rfl : j = n' := by omega
              go_wp2_with fail
              refine (cS _ _ _).mono ?_
              rintro e w2 ⟨rfl, rfl⟩
              go_wp2_with fail
              go_ret
              obtain rfl := HI.out
              exact ⟨rfl, hb⟩
            · obtain rfl : j = n := by omega
              go_wp2_with fail
              refine (cS _ _ _).mono ?_
              rintro e w2 ⟨rfl, rfl⟩
              go_wp2_with fail
              go_ret
              obtain rfl := HI.out
              exact ⟨rfl, hb⟩
set_option maxRecDepth 100000 in
theorem refEqual_any (t u : Vl) (v v' : Value) (w : World) (hok : vok t) (hok' : vok u) (hv : VlV w t v) (hv' : VlV w u v') :
    Calls Tryz.prog 13 #[v, v'] w (Ib (.bool (cm t u == 0)) w) := by
  have cC := fun W h => refCompare_any (SizeOf.sizeOf t + 1) t u v v' W (by omega) hok hok' (hv.next h) (hv'.next h)
  obtain ⟨A, c, A2, c2, rfl, -, -⟩ := hv
  obtain ⟨A', c', A2', c2', rfl, -, -⟩ := hv'
  obtain ⟨z, hz⟩ : ∃ z, cm t u = z := ⟨_, rfl⟩
  rw [hz] at cC ⊢
  have c1 := cC _ (ab2 w (Obj.cells #[.int .i64 t.kind, .int .i64 t.n, .string (bs t.s), .slice A t.l.length c, .slice A2 t.f.length c2] 34) (Obj.cells #[.int .i64 u.kind, .int .i64 u.n, .string (bs u.s), .slice A' u.l.length c', .slice A2' u.f.length c2'] 34))
  clear cC hz
  go_enter Tryz.func13, Tryz.ntmps13
  go_wp2_with fail
  refine c1.mono ?_
  rintro e w2 ⟨rfl, hb⟩
  go_wp2_with fail
  go_ret
  exact ⟨rfl, Below.next (ab2 _ _ _) hb⟩
end Go.Proofs.YthfodpbecddheaaGreatDoor
/-
  The developers' Compare and Equal: the library's comparisons. No conditions beyond those that each names.
-/
namespace Go.Proofs.YthfodpbecddheaaGreatDoor
open Go.RowKit Go.Sort
end Go.Proofs.YthfodpbecddheaaGreatDoor
/-
  The developers' Compare and Equal. No conditions beyond those that each names.
-/
namespace Go.Proofs.YthfodpbecddheaaGreatDoor
open Go.RowKit Go.Sort
/-- An entry as a value. -/
def EtV (w : World) (x : Int × Vl) (v : Value) : Prop := ∃ A c A2 c2, v = .agg #[.int .i64 x.1, .int .i64 x.2.kind, .int .i64 x.2.n, .string (bs x.2.s), .slice A x.2.l.length c, .slice A2 x.2.f.length c2] ∧ Rw VlA 5 w x.2.l A ∧ Rw EtA 6 w x.2.f A2
theorem EtV.next {w w' : World} (hb : Below w.heap.size w w') {t : Int × Vl} {v : Value} (h : EtV w t v) : EtV w' t v := by
  obtain ⟨A, c, A2, c2, e, h1, h2⟩ := h
  exact ⟨A, c, A2, c2, e, h1.next fun x p => VlA.next hb x p, h2.next fun x p => EtA.next hb x p⟩
theorem EtA.val2 {w : World} {x : Int × Vl} {p : Addr} (h : EtA w x p) : ∃ A c A2 c2, w.cell? p = some (.int .i64 x.1) ∧ w.cell? (nx1 p 1) = some (.int .i64 x.2.kind) ∧ w.cell? (nx1 p 2) = some (.int .i64 x.2.n) ∧ w.cell? (nx1 p 3) = some (.string (bs x.2.s)) ∧ w.cell? (nx1 p 4) = some (.slice A x.2.l.length c) ∧ w.cell? (nx1 p 5) = some (.slice A2 x.2.f.length c2) ∧ EtV w x (.agg #[.int .i64 x.1, .int .i64 x.2.kind, .int .i64 x.2.n, .string (bs x.2.s), .slice A x.2.l.length c, .slice A2 x.2.f.length c2]) := by
  obtain ⟨A, c, A2, c2, h0, h1, h2, h3, h4, h5, ⟨B, d, B2, d2, e, k1, k2⟩⟩ := h.val
  refine ⟨A, c, A2, c2, h0, h1, h2, h3, h4, h5, B, d, B2, d2, ?_, k1, k2⟩
  injection e with e
  injection e with e
  injection e with _ e
  injection e with _ e
  injection e with _ e
  injection e with e1 e
  injection e with e2 e
  rw [e1, e2]
end Go.Proofs.YthfodpbecddheaaGreatDoor
/-
  Rows of structs that a call owns; values and entries in new memory; copies of lists. No conditions beyond those that each names.
-/
namespace Go.Proofs.YthfodpbecddheaaGreatDoor
open Go.RowKit Go.Shelf
/-- From block lo on, what was there is as it was. -/
structure Kpl (lo : Nat) (w w' : World) : Prop where
  size : w.heap.size ≤ w'.heap.size
  blk : ∀ i, lo ≤ i → i < w.heap.size → w'.heap[i]? = w.heap[i]?
theorem Kpl.refl (lo : Nat) (w : World) : Kpl lo w w := ⟨Nat.le_refl _, fun _ _ _ => rfl⟩
theorem Kpl.of {lo : Nat} {w w' : World} (hb : Below w.heap.size w w') : Kpl lo w w' := ⟨hb.size, fun i _ hi => hb.block i hi⟩
theorem Kpl.trans {lo : Nat} {w w1 w2 : World} (h : Kpl lo w w1) (k : Kpl lo w1 w2) : Kpl lo w w2 := ⟨Nat.le_trans h.size k.size, fun i h1 h2 => (k.blk i h1 (Nat.lt_of_lt_of_le h2 h.size)).trans (h.blk i h1 h2)⟩
theorem Kpl.mono {lo hi : Nat} {w w' : World} (h : Kpl lo w w') (hl : lo ≤ hi) : Kpl hi w w' := ⟨h.size, fun i h1 h2 => h.blk i (Nat.le_trans hl h1) h2⟩
theorem Kpl.gb {g hi : Nat} {w w' : World} (h : w.grownBy w' (some g)) (hg : g < hi) : Kpl hi w w' := ⟨h.size, fun i h1 h2 => h.block i h2 (fun e => by cases e; omega)⟩
theorem Kpl.set {lo : Nat} {w w' : World} (h : Kpl lo w w') {p : Addr} (hp : p.block < lo) (u : Value) : Kpl lo w (w'.setCell p u) :=
  ⟨Nat.le_trans h.size (Below.setCell (Below.refl 0 w') (Nat.zero_le p.block) u).size, fun i hi h2 => (Below.heap_setCell w' p u i (by omega)).trans (h.blk i hi h2)⟩
theorem gbq_of {w w' : World} (hb : Below w.heap.size w w') (row : Option Nat) : w.grownBy w' row := ⟨hb.os, hb.tape, hb.output, hb.size, fun i hi _ => hb.block i hi⟩
theorem own_next {w w' : World} {base : Nat} {e : TypeId} {z n : Nat} {v : Value} {xs : List Value} (h : w.ownsRow base e z v n xs) (hb : Below w.heap.size w w') : w'.ownsRow base e z v n xs := by
  cases hv : v.ownBlock with
  | none => exact h.kept (gbq_of hb none) (.inl hv)
  | some g => exact h.kept (gbq_of hb none) (.inr (by rw [hv]; simp))
theorem own_mono {w : World} {base base' : Nat} {e : TypeId} {z n : Nat} {v : Value} {xs : List Value} (h : w.ownsRow base e z v n xs) (hb : base' ≤ base) : w.ownsRow base' e z v n xs := by
  refine ⟨h.1, ?_⟩
  rcases h.2 with h1 | ⟨g, cap, cur, h1, h2, h3⟩
  · exact .inl h1
  · exact .inr ⟨g, cap, cur, h1, Nat.le_trans hb h2, h3⟩
theorem szl_mem : ∀ {l : List Vl} {i : Nat} (h : i < l.length), sz (l[i]'h) + (l.length - 1) ≤ sz.szl l
  | t :: ts, 0, _ => by
    have := szl_len ts
    rw [sz.szl]; simp; omega
  | t :: ts, i + 1, h => by
    have := szl_mem (l := ts) (i := i) (by simpa using h)
    have := sz_pos t
    rw [sz.szl]; simp at h ⊢; omega
where
  sz_pos : ∀ t : Vl, 1 ≤ sz t := fun t => by rw [sz_eq]; omega
  szl_len : ∀ l : List Vl, l.length ≤ sz.szl l
  | [] => by simp
  | t :: ts => by have := szl_len ts; have := sz_pos t; rw [sz.szl]; simp; omega
theorem sz_pos (t : Vl) : 1 ≤ sz t := by rw [sz_eq]; omega
theorem szl_len : ∀ l : List Vl, l.length ≤ sz.szl l
  | [] => by simp
  | t :: ts => by have := szl_len ts; have := sz_pos t; rw [sz.szl]; simp; omega
theorem szf_len : ∀ l : List (Int × Vl), l.length ≤ sz.szf l
  | [] => by simp
  | (n, t) :: ts => by have := szf_len ts; have := sz_pos t; rw [sz.szf]; simp; omega
theorem szf_mem : ∀ {l : List (Int × Vl)} {i : Nat} (h : i < l.length), sz (l[i]'h).2 ≤ sz.szf l
  | (n, t) :: ts, 0, _ => by rw [sz.szf]; simp
  | (n, t) :: ts, i + 1, h => by
    have := szf_mem (l := ts) (i := i) (by simpa using h)
    rw [sz.szf]; simp at h ⊢; omega
theorem sz_l {t : Vl} {i : Nat} (h : i < t.l.length) : sz (t.l[i]'h) < sz t := by have := szl_mem h; rw [sz_eq t]; omega
theorem sz_f {t : Vl} {i : Nat} (h : i < t.f.length) : sz (t.f[i]'h).2 < sz t := by have := szf_mem h; rw [sz_eq t]; omega
theorem sz_ll (t : Vl) : t.l.length < sz t := by have := szl_len t.l; rw [sz_eq t]; omega
theorem sz_fl (t : Vl) : t.f.length < sz t := by have := szf_len t.f; rw [sz_eq t]; omega
/-- Values from place p on. -/
def putAt : List Value → Nat → List Value → List Value
  | xs, _, [] => xs
  | xs, p, v :: vs => putAt (xs.set p v) (p + 1) vs
theorem putAt_len : ∀ (vs xs : List Value) (p : Nat), (putAt xs p vs).length = xs.length
  | [], _, _ => rfl
  | v :: vs, xs, p => by rw [putAt, putAt_len vs, List.length_set]
theorem putAt_other : ∀ (vs xs : List Value) (p i : Nat), (i < p ∨ p + vs.length ≤ i) → (putAt xs p vs)[i]? = xs[i]?
  | [], _, _, _, _ => rfl
  | v :: vs, xs, p, i, h => by
    rw [List.length_cons] at h
    rw [putAt, putAt_other vs _ _ _ (by omega), List.getElem?_set_ne (by omega)]
theorem putAt_same : ∀ (vs xs : List Value) (p i : Nat), i < vs.length → p + vs.length ≤ xs.length → (putAt xs p vs)[p + i]? = vs[i]?
  | v :: vs, xs, p, 0, _, hx => by
    rw [List.length_cons] at hx
    rw [putAt, putAt_other vs _ _ _ (by omega), Nat.add_zero, List.getElem?_set_self (by omega)]
    rfl
  | v :: vs, xs, p, i + 1, hi, hx => by
    rw [List.length_cons] at hx hi
    rw [putAt, show p + (i + 1) = p + 1 + i by omega, putAt_same vs _ _ _ (by omega) (by rw [List.length_set]; omega)]
    rfl
/-- Cells of block g are set anew. -/
def setCs : World → Nat → Nat → List Value → World
  | w, _, _, [] => w
  | w, g, p, v :: vs => setCs (w.setCell ⟨g, p, none⟩ v) g (p + 1) vs
theorem storedN {base g n cap z : Nat} {e : TypeId} : ∀ (vs : List Value) {w : World} {xs : List Value} (_ : w.ownsRow base e z (.slice (some ⟨g, 0, none⟩) n cap) n xs) (p : Nat),
    (setCs w g p vs).ownsRow base e z (.slice (some ⟨g, 0, none⟩) n cap) n (putAt xs p vs) ∧ w.grownBy (setCs w g p vs) (some g)
  | [], w, xs, h, p => ⟨h, World.grownBy.refl _ _⟩
  | v :: vs, w, xs, h, p => by
    obtain ⟨h1, g1⟩ := h.stored p v
    obtain ⟨h2, g2⟩ := storedN vs h1 (p + 1)
    exact ⟨h2, g1.trans g2⟩
/-- The elements of a row, z cells each. -/
def IL {α β : Type} (z : Nat) (enc : α → β → List Value) (P : Nat → α → β → Prop) (l : List α) (xs : List Value) : Prop :=
  xs.length = l.length * z ∧ ∀ j (h : j < l.length), ∃ b, (∀ i, i < z → xs[j * z + i]? = (enc (l[j]'h) b)[i]?) ∧ P j (l[j]'h) b
theorem IL.mono {α β : Type} {z : Nat} {enc : α → β → List Value} {P Q : Nat → α → β → Prop} {l : List α} {xs : List Value} (h : IL z enc P l xs) (hPQ : ∀ j (h : j < l.length) b, P j (l[j]'h) b → Q j (l[j]'h) b) : IL z enc Q l xs :=
  ⟨h.1, fun j hj => by obtain ⟨b, h1, h2⟩ := h.2 j hj; exact ⟨b, h1, hPQ j hj b h2⟩⟩
theorem IL.nil {α β : Type} (z : Nat) (enc : α → β → List Value) (P : Nat → α → β → Prop) : IL z enc P [] [] := ⟨by simp, fun j h => absurd h (Nat.not_lt_zero _)⟩
theorem mulz {j k z i : Nat} (h : j < k) (hi : i < z) : j * z + i < k * z := by
  have h1 : (j + 1) * z ≤ k * z := Nat.mul_le_mul_right z h
  rw [Nat.add_mul, Nat.one_mul] at h1
  omega
theorem IL.put {α β : Type} {z : Nat} {enc : α → β → List Value} {P Q : Nat → α → β → Prop} {l : List α} {xs : List Value} (h : IL z enc P l xs) {k : Nat} (hk : k < l.length) (y : α) (b : β) (hz : (enc y b).length = z)
    (hP : ∀ j (h : j < l.length) b, j ≠ k → P j (l[j]'h) b → Q j (l[j]'h) b) (hQ : Q k y b) : IL z enc Q (l.set k y) (putAt xs (k * z) (enc y b)) := by
  refine ⟨by rw [putAt_len, h.1, List.length_set], fun j hj => ?_⟩
  have hj2 : j < l.length := by simpa using hj
  by_cases e : j = k
  · subst e
    refine ⟨b, fun i hi => ?_, ?_⟩
    · rw [putAt_same _ _ _ _ (by omega) (by rw [h.1, hz]; have := mulz (z := z) hk (i := 0) (by omega); have h1 : (j + 1) * z ≤ l.length * z := Nat.mul_le_mul_right z hk; rw [Nat.add_mul, Nat.one_mul] at h1; omega)]
      rw [List.getElem_set_self]
    · rw [List.getElem_set_self]; exact hQ
  · obtain ⟨b', h1, h2⟩ := h.2 j hj2
    rw [List.getElem_set_ne (by omega)]
    refine ⟨b', fun i hi => ?_, hP j hj2 b' e h2⟩
    rw [putAt_other _ _ _ _ ?_, h1 i hi]
    rw [hz]
    rcases Nat.lt_or_gt_of_ne e with h3 | h3
    · exact .inl (by have := mulz h3 hi; omega)
    · right
      have h1 : (k + 1) * z ≤ j * z := Nat.mul_le_mul_right z h3
      rw [Nat.add_mul, Nat.one_mul] at h1
      omega
theorem news_gen {α β : Type} {z : Nat} {enc : α → β → List Value} {P : Nat → α → β → Prop} (hz : ∀ x b, (enc x b).length = z) (h0 : 0 < z) (hone : ∀ x b u, u ∈ enc x b → u.oneCell' = true) {w : World} {b off : Nat} {l : List α}
    (h : ∀ q (hq : q < l.length), ∃ bb, (∀ i, i < z → w.cell? ⟨b, off + (q * z + i), none⟩ = (enc (l[q]'hq) bb)[i]?) ∧ P q (l[q]'hq) bb) :
    ∃ xs : List Value, (∀ j u, xs[j]? = some u → w.cell? ⟨b, off + j, none⟩ = some u) ∧ (∀ u ∈ xs, u.oneCell' = true) ∧ IL z enc P l xs := by
  have hs : ∀ j, j < l.length * z → ∃ u, w.cell? ⟨b, off + j, none⟩ = some u ∧ u.oneCell' = true := fun j hj => by
    have hq : j / z < l.length := (Nat.div_lt_iff_lt_mul h0).2 hj
    obtain ⟨bb, h1, -⟩ := h (j / z) hq
    have hm : j % z < z := Nat.mod_lt _ h0
    have h2 := h1 (j % z) hm
    rw [show j / z * z + j % z = j by rw [Nat.mul_comm]; exact Nat.div_add_mod j z, List.getElem?_eq_getElem (by rw [hz]; exact hm)] at h2
    exact ⟨_, h2, hone _ _ _ (List.getElem_mem _)⟩
  have hget : ∀ j, j < l.length * z → ((List.range (l.length * z)).map fun j => (w.cell? ⟨b, off + j, none⟩).getD undef)[j]? = some ((w.cell? ⟨b, off + j, none⟩).getD undef) := fun j hj => by simp [hj]
  refine ⟨(List.range (l.length * z)).map fun j => (w.cell? ⟨b, off + j, none⟩).getD undef, fun j u hu => ?_, fun u hu => ?_, by simp, fun q hq => ?_⟩
  · have hj : j < l.length * z := by
      have := (List.getElem?_eq_some_iff.1 hu).1
      simpa using this
    rw [hget j hj] at hu
    obtain ⟨v, hv, -⟩ := hs j hj
    rw [hv] at hu ⊢
    exact hu
  · obtain ⟨j, hj, rfl⟩ := List.mem_map.1 hu
    obtain ⟨v, hv, h1⟩ := hs j (List.mem_range.1 hj)
    rw [hv]
    exact h1
  · obtain ⟨bb, h1, h2⟩ := h q hq
    refine ⟨bb, fun i hi => ?_, h2⟩
    have hj := mulz hq hi
    rw [hget _ hj, ← h1 i hi]
    obtain ⟨v, hv, -⟩ := hs _ hj
    rw [hv]
    rfl
/-- Where a value's lists lie. -/
structure Sb where
  A : Option Addr
  c : Nat
  B : Option Addr
  d : Nat
def encV (t : Vl) (s : Sb) : List Value := [.int .i64 t.kind, .int .i64 t.n, .string (bs t.s), .slice s.A t.l.length s.c, .slice s.B t.f.length s.d]
def encE (x : Int × Vl) (s : Sb) : List Value := [.int .i64 x.1, .int .i64 x.2.kind, .int .i64 x.2.n, .string (bs x.2.s), .slice s.A x.2.l.length s.c, .slice s.B x.2.f.length s.d]
/-- What a value's lists are. -/
def RdV (w : World) (t : Vl) (s : Sb) : Prop := Rw VlA 5 w t.l s.A ∧ Rw EtA 6 w t.f s.B
/-- The same, whatever becomes of blocks before hi. -/
def NwV (hi : Nat) (w : World) (t : Vl) (s : Sb) : Prop := ∀ w', Kpl hi w w' → RdV w' t s
theorem RdV.next {w w' : World} {t : Vl} {s : Sb} (hb : Below w.heap.size w w') (h : RdV w t s) : RdV w' t s := ⟨h.1.next fun x p => VlA.next hb x p, h.2.next fun x p => EtA.next hb x p⟩
theorem NwV.next {hi : Nat} {w w' : World} {t : Vl} {s : Sb} (h : NwV hi w t s) (k : Kpl hi w w') : NwV hi w' t s := fun w2 k2 => h w2 (k.trans k2)
theorem NwV.rd {hi : Nat} {w : World} {t : Vl} {s : Sb} (h : NwV hi w t s) : RdV w t s := h w (Kpl.refl _ _)
theorem NwV.low {lo hi : Nat} {w : World} {t : Vl} {s : Sb} (h : NwV hi w t s) (hl : lo ≤ hi) : NwV lo w t s := fun w2 k2 => h w2 (k2.mono hl)
theorem rdV_iff {w : World} {t : Vl} {v : Value} : VlV w t v ↔ ∃ s, v = .agg (encV t s).toArray ∧ RdV w t s :=
  ⟨fun ⟨A, c, B, d, e, h1, h2⟩ => ⟨⟨A, c, B, d⟩, e, h1, h2⟩, fun ⟨s, e, h1, h2⟩ => ⟨s.A, s.c, s.B, s.d, e, h1, h2⟩⟩
theorem vlA_lit {w : World} {t : Vl} {b o : Nat} (h : VlA w t ⟨b, o, none⟩) : ∃ s, (∀ i, i < 5 → w.cell? ⟨b, o + i, none⟩ = (encV t s)[i]?) ∧ RdV w t s := by
  obtain ⟨h0, h1, h2, ⟨A, c, h3, h4⟩, B, d, h5, h6⟩ := h.cells
  refine ⟨⟨A, c, B, d⟩, fun i hi => ?_, h4, h6⟩
  match i, hi with
  | 0, _ => exact h0
  | 1, _ => exact h1
  | 2, _ => exact h2
  | 3, _ => exact h3
  | 4, _ => exact h5
theorem etA_lit {w : World} {x : Int × Vl} {b o : Nat} (h : EtA w x ⟨b, o, none⟩) : ∃ s, (∀ i, i < 6 → w.cell? ⟨b, o + i, none⟩ = (encE x s)[i]?) ∧ RdV w x.2 s := by
  obtain ⟨hn, h⟩ := h
  obtain ⟨h0, h1, h2, ⟨A, c, h3, h4⟩, B, d, h5, h6⟩ := h.cells
  refine ⟨⟨A, c, B, d⟩, fun i hi => ?_, h4, h6⟩
  match i, hi with
  | 0, _ => exact hn
  | 1, _ => exact h0
  | 2, _ => exact h1
  | 3, _ => exact h2
  | 4, _ => exact h3
  | 5, _ => exact h5
theorem vlA_of {w : World} {t : Vl} {b o : Nat} {s : Sb} (h : ∀ i, i < 5 → w.cell? ⟨b, o + i, none⟩ = (encV t s)[i]?) (hr : RdV w t s) : VlA w t ⟨b, o, none⟩ :=
  VlA.of (h 0 (by omega)) (h 1 (by omega)) (h 2 (by omega)) (h 3 (by omega)) hr.1 (h 4 (by omega)) hr.2
theorem etA_of {w : World} {x : Int × Vl} {b o : Nat} {s : Sb} (h : ∀ i, i < 6 → w.cell? ⟨b, o + i, none⟩ = (encE x s)[i]?) (hr : RdV w x.2 s) : EtA w x ⟨b, o, none⟩ :=
  ⟨h 0 (by omega), VlA.of (h 1 (by omega)) (h 2 (by omega)) (h 3 (by omega)) (h 4 (by omega)) hr.1 (h 5 (by omega)) hr.2⟩
/-- A row of values that a call owns, in a later world that kept its block. -/
theorem rowV_of {w w' : World} {lo n cap g : Nat} {e : TypeId} {l : List Vl} {xs : List Value} (ho : w.ownsRow lo e 5 (.slice (some ⟨g, 0, none⟩) n cap) n xs) (hk : w'.heap[g]? = w.heap[g]?) (hn : l.length = n) (h : IL 5 encV (fun _ t s => RdV w' t s) l xs) : Rw VlA 5 w' l (some ⟨g, 0, none⟩) := by
  refine .inr ⟨_, rfl, fun i hi => ?_⟩
  obtain ⟨s, h1, h2⟩ := h.2 i hi
  rw [Addr.add_lit]
  refine vlA_of (s := s) (fun j hj => ?_) h2
  rw [World.cell?_of_block (w := w) hk, Nat.zero_add, ho.cellAt _ (by rw [← hn]; exact mulz hi hj)]
  exact h1 j hj
theorem rowE_of {w w' : World} {lo n cap g : Nat} {e : TypeId} {l : List (Int × Vl)} {xs : List Value} (ho : w.ownsRow lo e 6 (.slice (some ⟨g, 0, none⟩) n cap) n xs) (hk : w'.heap[g]? = w.heap[g]?) (hn : l.length = n) (h : IL 6 encE (fun _ t s => RdV w' t.2 s) l xs) : Rw EtA 6 w' l (some ⟨g, 0, none⟩) := by
  refine .inr ⟨_, rfl, fun i hi => ?_⟩
  obtain ⟨s, h1, h2⟩ := h.2 i hi
  rw [Addr.add_lit]
  refine etA_of (s := s) (fun j hj => ?_) h2
  rw [World.cell?_of_block (w := w) hk, Nat.zero_add, ho.cellAt _ (by rw [← hn]; exact mulz hi hj)]
  exact h1 j hj
theorem infoV : (Tryz.prog.info? 34).map (fun i => (i.zero, i.size, i.bytes)) = some (some (.agg #[.int .i64 0, .int .i64 0, .string ⟨#[]⟩, .slice none 0 0, .slice none 0 0]), 5, 80) := by kernel_rfl
theorem infoE : (Tryz.prog.info? 94).map (fun i => (i.zero, i.size, i.bytes)) = some (some (.agg #[.int .i64 0, .int .i64 0, .int .i64 0, .string ⟨#[]⟩, .slice none 0 0, .slice none 0 0]), 6, 88) := by kernel_rfl
theorem spot_none0 {w : World} {a : Addr} {v : Value} (h : w.cell? a = some v) : a.spot = none := by
  unfold World.cell? at h
  split at h
  · split at h
    · cases h
    · rename_i h1; simpa using h1
  · cases h
theorem oneV (x : Vl) (b : Sb) (u : Value) (h : u ∈ encV x b) : u.oneCell' = true := by
  simp only [encV, List.mem_cons, List.not_mem_nil, or_false] at h
  rcases h with rfl | rfl | rfl | rfl | rfl <;> rfl
theorem oneE (x : Int × Vl) (b : Sb) (u : Value) (h : u ∈ encE x b) : u.oneCell' = true := by
  simp only [encE, List.mem_cons, List.not_mem_nil, or_false] at h
  rcases h with rfl | rfl | rfl | rfl | rfl | rfl <;> rfl
theorem lit_next {w w' : World} (hb : Below w.heap.size w w') {p : Addr} {l : List Value} {i : Nat} (h : w.cell? p = l[i]?) (hi : i < l.length) : w'.cell? p = l[i]? := by
  rw [List.getElem?_eq_getElem hi] at h ⊢
  exact cell_next hb h
/-- A copy. -/
def ClP (e : TypeId) (z : Nat) (n : Nat) (xs : List Value) (w : World) (en : Ending) (w' : World) : Prop := ∃ v', en = .returned v' ∧ w'.ownsRow w.heap.size e z v' n xs ∧ Below w.heap.size w w'
set_option maxRecDepth 100000 in
set_option maxHeartbeats 2000000 in
theorem cloneV0_any (A : Option Addr) (c : Nat) (w : World) : Calls Tryz.prog 131 #[.slice A 0 c] w (ClP 34 5 0 [] w) := by
  cases A with
  | none => exact (AnyE.slices_Clone_nil Tryz.clone131 0 c w).mono fun e w' ⟨h1, h2⟩ => ⟨_, h1, World.ownsRow_nil _ _ _ _, by rw [h2]; exact Below.refl _ _⟩
  | some a =>
    obtain ⟨i, hi, hz, hs5, hby⟩ := info_parts infoV
    have q22 : ∀ (w : World) (a : Option Addr) (n c n' c' : Nat), (binOp .eql 31 (.slice a n c) (.slice none n' c')).run Tryz.prog w = .ok (.bool a.isNone) w := fun w a n c n' c' => Lib.run_eql_slice_nil w _ _ a n c n' c' Tryz.underlying31
    go_enter Tryz.func131, Tryz.ntmps131
    go_wp2_with (at_builtin; refine wpList_append_own _ rfl _ _ 31 rfl w.heap.size 34 i _ 5 80 Tryz.underlying31 hi hz hs5 hby rfl (by decide) _ _ _ rfl (World.ownsRow_made w #[] 0 (Nat.le_refl _) (Nat.zero_le _) rfl) a 0 c [] rfl rfl (by intro j u hj; simp at hj) (by intro u hu; cases hu) (by unfold maxLen; omega) (by omega) (by simp) ?_)
    intro v' w1 hown hgrow hnil
    go_wp2
    go_ret
    exact ⟨v', rfl, by simpa using hown, ((Below.refl _ w).alloc (Nat.le_refl _) _).grown hgrow (by simp) (by intro k hk; simp [Value.ownBlock] at hk; omega)⟩
set_option maxRecDepth 100000 in
set_option maxHeartbeats 2000000 in
theorem cloneE0_any (A : Option Addr) (c : Nat) (w : World) : Calls Tryz.prog 132 #[.slice A 0 c] w (ClP 94 6 0 [] w) := by
  cases A with
  | none => exact (AnyE.slices_Clone_nil Tryz.clone132 0 c w).mono fun e w' ⟨h1, h2⟩ => ⟨_, h1, World.ownsRow_nil _ _ _ _, by rw [h2]; exact Below.refl _ _⟩
  | some a =>
    obtain ⟨i, hi, hz, hs5, hby⟩ := info_parts infoE
    have q22 : ∀ (w : World) (a : Option Addr) (n c n' c' : Nat), (binOp .eql 32 (.slice a n c) (.slice none n' c')).run Tryz.prog w = .ok (.bool a.isNone) w := fun w a n c n' c' => Lib.run_eql_slice_nil w _ _ a n c n' c' Tryz.underlying32
    go_enter Tryz.func132, Tryz.ntmps132
    go_wp2_with (at_builtin; refine wpList_append_own _ rfl _ _ 32 rfl w.heap.size 94 i _ 6 88 Tryz.underlying32 hi hz hs5 hby rfl (by decide) _ _ _ rfl (World.ownsRow_made w #[] 0 (Nat.le_refl _) (Nat.zero_le _) rfl) a 0 c [] rfl rfl (by intro j u hj; simp at hj) (by intro u hu; cases hu) (by unfold maxLen; omega) (by omega) (by simp) ?_)
    intro v' w1 hown hgrow hnil
    go_wp2
    go_ret
    exact ⟨v', rfl, by simpa using hown, ((Below.refl _ w).alloc (Nat.le_refl _) _).grown hgrow (by simp) (by intro k hk; simp [Value.ownBlock] at hk; omega)⟩
theorem cloneV_any (l : List Vl) (A : Option Addr) (c : Nat) (W0 w : World) (hb0 : Below W0.heap.size W0 w) (hl : l.length ≤ 2000000) (hR : Rw VlA 5 W0 l A) :
    Calls Tryz.prog 131 #[.slice A l.length c] w fun e w' => ∃ xs, IL 5 encV (fun _ t s => RdV W0 t s) l xs ∧ ClP 34 5 l.length xs w e w' := by
  by_cases h0 : l = []
  · subst h0
    exact (cloneV0_any A c w).mono fun e w' h => ⟨[], IL.nil _ _ _, h⟩
  · rcases hR with h | ⟨a, rfl, h⟩
    · exact absurd h h0
    · have h1 : 0 < l.length := List.length_pos_iff.2 h0
      have hs : a.spot = none := by
        have := spot_none0 ((h 0 h1).cells.1)
        simpa [Addr.add] using this
      obtain ⟨b, off, s⟩ := a
      have hs : s = none := hs
      subst hs
      obtain ⟨xs, hx2, hx3, hx4⟩ := news_gen (z := 5) (enc := encV) (P := fun _ t s => RdV W0 t s) (fun _ _ => rfl) (by decide) oneV (w := w) (b := b) (off := off) (l := l) (fun q hq => by
        have := h q hq
        rw [Addr.add_lit] at this
        obtain ⟨s, k1, k2⟩ := vlA_lit this
        exact ⟨s, fun i hi => by rw [← Nat.add_assoc]; exact lit_next hb0 (k1 i hi) (by show i < _; exact hi), k2⟩)
      obtain ⟨i, hi, hz, hs5, hby⟩ := info_parts infoV
      exact (AnyE.slices_Clone Tryz.clone131 i _ 5 80 hi hz hs5 hby rfl (by decide) Tryz.sizeOf34 b off l.length c xs w hx4.1 (by unfold maxLen; omega) (by omega) hx2 hx3).mono fun e w' ⟨v', e1, e2, _, e4⟩ => ⟨xs, hx4, v', e1, e2, e4⟩
theorem cloneE_any (l : List (Int × Vl)) (A : Option Addr) (c : Nat) (W0 w : World) (hb0 : Below W0.heap.size W0 w) (hl : l.length ≤ 2000000) (hR : Rw EtA 6 W0 l A) :
    Calls Tryz.prog 132 #[.slice A l.length c] w fun e w' => ∃ xs, IL 6 encE (fun _ t s => RdV W0 t.2 s) l xs ∧ ClP 94 6 l.length xs w e w' := by
  by_cases h0 : l = []
  · subst h0
    exact (cloneE0_any A c w).mono fun e w' h => ⟨[], IL.nil _ _ _, h⟩
  · rcases hR with h | ⟨a, rfl, h⟩
    · exact absurd h h0
    · have h1 : 0 < l.length := List.length_pos_iff.2 h0
      have hs : a.spot = none := by
        have := spot_none0 ((h 0 h1).1)
        simpa [Addr.add] using this
      obtain ⟨b, off, s⟩ := a
      have hs : s = none := hs
      subst hs
      obtain ⟨xs, hx2, hx3, hx4⟩ := news_gen (z := 6) (enc := encE) (P := fun _ t s => RdV W0 t.2 s) (fun _ _ => rfl) (by decide) oneE (w := w) (b := b) (off := off) (l := l) (fun q hq => by
        have := h q hq
        rw [Addr.add_lit] at this
        obtain ⟨s, k1, k2⟩ := etA_lit this
        exact ⟨s, fun i hi => by rw [← Nat.add_assoc]; exact lit_next hb0 (k1 i hi) (by show i < _; exact hi), k2⟩)
      obtain ⟨i, hi, hz, hs5, hby⟩ := info_parts infoE
      exact (AnyE.slices_Clone Tryz.clone132 i _ 6 88 hi hz hs5 hby rfl (by decide) Tryz.sizeOf94 b off l.length c xs w hx4.1 (by unfold maxLen; omega) (by omega) hx2 hx3).mono fun e w' ⟨v', e1, e2, _, e4⟩ => ⟨xs, hx4, v', e1, e2, e4⟩
end Go.Proofs.YthfodpbecddheaaGreatDoor
/-
  The developers' renew: a value in new memory. No conditions beyond those that each names.
-/
namespace Go.Proofs.YthfodpbecddheaaGreatDoor
open Go.RowKit Go.Shelf
/-- From block lo on, but for block g, what was there is as it was. -/
structure Kpx (lo : Nat) (g : Option Nat) (w w' : World) : Prop where
  size : w.heap.size ≤ w'.heap.size
  blk : ∀ i, lo ≤ i → i < w.heap.size → some i ≠ g → w'.heap[i]? = w.heap[i]?
theorem Kpx.of {lo : Nat} {g : Option Nat} {w w' : World} (h : Kpl lo w w') : Kpx lo g w w' := ⟨h.size, fun i h1 h2 _ => h.blk i h1 h2⟩
theorem Kpx.kpl {lo hi : Nat} {g : Option Nat} {w w' : World} (h : Kpx lo g w w') (hl : lo ≤ hi) (hg : ∀ b, g = some b → b < hi) : Kpl hi w w' := ⟨h.size, fun i h1 h2 => h.blk i (by omega) h2 (fun e => by have := hg i e.symm; omega)⟩
theorem Kpx.trans {lo : Nat} {g : Option Nat} {w w1 w2 : World} (h : Kpx lo g w w1) (k : Kpx lo g w1 w2) : Kpx lo g w w2 := ⟨Nat.le_trans h.size k.size, fun i h1 h2 h3 => (k.blk i h1 (Nat.lt_of_lt_of_le h2 h.size) h3).trans (h.blk i h1 h2 h3)⟩
theorem Kpx.gb {lo : Nat} {g : Option Nat} {w w' : World} (h : w.grownBy w' g) : Kpx lo g w w' := ⟨h.size, fun i _ h2 h3 => h.block i h2 h3⟩
/-- A value in new memory, its entries in a row of the call's own. -/
def ReS (t : Vl) (w : World) (e : Ending) (w' : World) : Prop := ∃ (hi : Nat) (A : Option Addr) (c : Nat) (B : Option Addr) (d : Nat) (xs : List Value), e = .returned (.agg #[.int .i64 t.kind, .int .i64 t.n, .string (bs t.s), .slice A t.l.length c, .slice B t.f.length d]) ∧ w.heap.size ≤ hi ∧
  (∀ w2, Kpx w.heap.size (Value.slice B t.f.length d).ownBlock w' w2 → Rw VlA 5 w2 t.l A) ∧ (∀ g, (Value.slice B t.f.length d).ownBlock = some g → g < hi) ∧ IL 6 encE (fun _ x s => NwV hi w' x.2 s) t.f xs ∧ w'.ownsRow w.heap.size 94 6 (.slice B t.f.length d) t.f.length xs ∧ Below w.heap.size w w'
def ReW (t : Vl) (w : World) (e : Ending) (w' : World) : Prop := ∃ s, e = .returned (.agg #[.int .i64 t.kind, .int .i64 t.n, .string (bs t.s), .slice s.A t.l.length s.c, .slice s.B t.f.length s.d]) ∧ NwV w.heap.size w' t s ∧ Below w.heap.size w w'
theorem own_form {w : World} {base : Nat} {e : TypeId} {z n : Nat} {v : Value} {xs : List Value} (h : w.ownsRow base e z v n xs) : ∃ B d, v = .slice B n d := by
  rcases h.2 with ⟨rfl, rfl⟩ | ⟨g, cap, cur, rfl, -⟩
  · exact ⟨_, _, rfl⟩
  · exact ⟨_, _, rfl⟩
theorem own_some {w : World} {base : Nat} {e : TypeId} {z n d : Nat} {B : Option Addr} {xs : List Value} (h : w.ownsRow base e z (.slice B n d) n xs) (hn : n ≠ 0) : ∃ g, B = some ⟨g, 0, none⟩ := by
  rcases h.2 with ⟨-, h⟩ | ⟨g, cap, cur, h, -⟩
  · exact absurd h hn
  · injection h with h; exact ⟨g, h⟩
theorem ReS.weak {t : Vl} {w w' : World} {e : Ending} (h : ReS t w e w') : ReW t w e w' := by
  obtain ⟨hi, A, c, B, d, xs, e1, h1, h2, h3, h4, h5, h6⟩ := h
  refine ⟨⟨A, c, B, d⟩, e1, fun w2 k => ⟨h2 w2 (Kpx.of k), ?_⟩, h6⟩
  by_cases h0 : t.f.length = 0
  · exact .inl (List.eq_nil_of_length_eq_zero h0)
  · obtain ⟨g, rfl⟩ := own_some h5 h0
    have hg := h5.lt g rfl
    exact rowE_of h5 (k.blk g hg.1 hg.2) rfl (h4.mono fun j hj s hs => hs w2 (k.mono h1))
def FCV (l : List Vl) (n : Nat) (w W0 : World) : Fact := ⟨fun v w' => ∃ xs, IL 5 encV (fun _ t s => RdV w t s) l xs ∧ w'.ownsRow W0.heap.size 34 5 v n xs ∧ Below W0.heap.size W0 w', fun _ _ _ ⟨xs, h1, h2, h3⟩ hb => ⟨xs, h1, own_next h2 hb, upG h3 hb⟩⟩
def FCE (l : List (Int × Vl)) (n : Nat) (w W0 : World) : Fact := ⟨fun v w' => ∃ xs, IL 6 encE (fun _ t s => RdV w t.2 s) l xs ∧ w'.ownsRow W0.heap.size 94 6 v n xs ∧ Below W0.heap.size W0 w', fun _ _ _ ⟨xs, h1, h2, h3⟩ hb => ⟨xs, h1, own_next h2 hb, upG h3 hb⟩⟩
theorem own_neq {w : World} {base base' n n' z z' : Nat} {e e' : TypeId} {v v' : Value} {xs xs' : List Value} (h : w.ownsRow base e z v n xs) (h' : w.ownsRow base' e' z' v' n' xs') (he : e ≠ e') : ∀ g, v.ownBlock = some g → v'.ownBlock ≠ some g := by
  intro g h1 h2
  rcases h.2 with ⟨rfl, -⟩ | ⟨k, cap, cur, rfl, -, h3, -⟩
  · cases h1
  rcases h'.2 with ⟨rfl, -⟩ | ⟨k', cap', cur', rfl, -, h3', -⟩
  · cases h2
  have e1 : k = g := by injection h1
  have e2 : k' = g := by injection h2
  subst e1 e2
  rw [h3] at h3'
  injection h3' with h3'
  injection h3' with _ h3'
  exact he h3'
theorem Bx.gb {w w' : World} {b g : Nat} {vs : List Value} (h : Bx w b vs) (hg : w.grownBy w' (some g)) (hne : b ≠ g) : Bx w' b vs := by
  have hk := hg.block b h.lt (fun e => hne (by injection e))
  exact ⟨Nat.lt_of_lt_of_le h.lt hg.size, fun j v e => ⟨(World.cell?_of_block (w := w) (a := ⟨b, j, none⟩) hk).trans (h.at_ j v e).1, (World.frozen?_of_block (w := w) (a := ⟨b, j, none⟩) hk).trans (h.at_ j v e).2⟩⟩
def FNw (t : Vl) (W0 : World) : Fact := ⟨fun v w' => ∃ s : Sb, v = .agg #[.int .i64 t.kind, .int .i64 t.n, .string (bs t.s), .slice s.A t.l.length s.c, .slice s.B t.f.length s.d] ∧ NwV W0.heap.size w' t s ∧ Below W0.heap.size W0 w', fun _ _ _ ⟨s, h1, h2, h3⟩ hb => ⟨s, h1, h2.next (Kpl.of hb), upG h3 hb⟩⟩
/-- The elements before number k are renewed. -/
def RnV (w0 : World) (hi : Nat) (w : World) (k : Nat) (j : Nat) (t : Vl) (s : Sb) : Prop := if j < k then NwV hi w t s else RdV w0 t s
theorem RnV.next {w0 : World} {hi k j : Nat} {w w' : World} {t : Vl} {s : Sb} (h : RnV w0 hi w k j t s) (hk : Kpl hi w w') : RnV w0 hi w' k j t s := by
  unfold RnV at h ⊢
  split
  · rename_i e; rw [if_pos e] at h; exact h.next hk
  · rename_i e; rw [if_neg e] at h; exact h
theorem RnV.step {w0 : World} {hi k j : Nat} {w : World} {t : Vl} {s : Sb} (h : RnV w0 hi w k j t s) (hj : j ≠ k) : RnV w0 hi w (k + 1) j t s := by
  unfold RnV at h ⊢
  by_cases e : j < k
  · rw [if_pos e] at h; rw [if_pos (by omega)]; exact h
  · rw [if_neg e] at h; rw [if_neg (by omega)]; exact h
theorem putAt_one {xs : List Value} {p : Nat} {v : Value} (vs : List Value) (h : xs[p]? = some v) : putAt xs p (v :: vs) = putAt xs (p + 1) vs := by
  have hp : p < xs.length := (List.getElem?_eq_some_iff.1 h).1
  have : xs.set p v = xs := by
    apply List.ext_getElem?
    intro i
    by_cases e : i = p
    · subst e; rw [List.getElem?_set_self hp, h]
    · rw [List.getElem?_set_ne (by omega)]
  rw [putAt, this]
set_option maxRecDepth 100000 in
set_option maxHeartbeats 8000000 in
theorem renew_any (N : Nat) : ∀ (t : Vl) (v : Value) (w : World), SizeOf.sizeOf t < N → sz t ≤ 2000000 → VlV w t v →
    Calls Tryz.prog 82 #[v] w (ReS t w) := by
  induction N with
  | zero => intro t v w h; omega
  | succ N ih =>
    intro t v w hN hz hv
    have cL : ∀ (i : Nat) (h : i < t.l.length) v w, VlV w (t.l[i]'h) v → Calls Tryz.prog 82 #[v] w (ReW (t.l[i]'h) w) := fun i h v w hv => (ih _ v w (by have := size_l h; omega) (by have := sz_l h; omega) hv).mono fun _ _ => ReS.weak
    have cF : ∀ (i : Nat) (h : i < t.f.length) v w, VlV w (t.f[i]'h).2 v → Calls Tryz.prog 82 #[v] w (ReW (t.f[i]'h).2 w) := fun i h v w hv => (ih _ v w (by have := size_f h; omega) (by have := sz_f h; omega) hv).mono fun _ _ => ReS.weak
    have hml : t.l.length ≤ 2000000 := by have := sz_ll t; omega
    have hnl : t.f.length ≤ 2000000 := by have := sz_fl t; omega
    obtain ⟨A, c, B, d, rfl, hR, hR2⟩ := hv
    have cV := fun W (h : Below w.heap.size w W) => (cloneV_any t.l A c w W h (by omega) hR)
    have cE := fun W (h : Below w.heap.size w W) => (cloneE_any t.f B d w W h (by omega) hR2)
    unfold ReS
    obtain ⟨m, hm⟩ : ∃ m, t.l.length = m := ⟨_, rfl⟩
    obtain ⟨n, hn⟩ : ∃ n, t.f.length = n := ⟨_, rfl⟩
    rw [hm, hn]
    rw [hm] at cV hml
    rw [hn] at cE hnl
    have HM := Lib.hid hm
    have HN := Lib.hid hn
    have z1 : (w.alloc (Obj.cells #[.int .i64 t.kind, .int .i64 t.n, .string (bs t.s), .slice A m c, .slice B n d] 34)).heap.size = w.heap.size + 1 := by simp
    have z2 : ((w.alloc (Obj.cells #[.int .i64 t.kind, .int .i64 t.n, .string (bs t.s), .slice A m c, .slice B n d] 34)).alloc (Obj.cells #[.int .i64 0, .int .i64 0, .string ⟨#[]⟩, .slice none 0 0, .slice none 0 0] 34)).heap.size = w.heap.size + 1 + 1 := by simp
    have hab := ab2 w (Obj.cells #[.int .i64 t.kind, .int .i64 t.n, .string (bs t.s), .slice A m c, .slice B n d] 34) (Obj.cells #[.int .i64 0, .int .i64 0, .string ⟨#[]⟩, .slice none 0 0, .slice none 0 0] 34)
    have C1 := (Bx.new5 w 34 (.int .i64 t.kind) (.int .i64 t.n) (.string (bs t.s)) (.slice A m c) (.slice B n d)).next (ab1 _ (Obj.cells #[.int .i64 0, .int .i64 0, .string ⟨#[]⟩, .slice none 0 0, .slice none 0 0] 34))
    have C2 := Bx.new5 (w.alloc (Obj.cells #[.int .i64 t.kind, .int .i64 t.n, .string (bs t.s), .slice A m c, .slice B n d] 34)) 34 (.int .i64 0) (.int .i64 0) (.string ⟨#[]⟩) (.slice none 0 0) (.slice none 0 0)
    rw [z1] at C2
    have s3 := C1.c 3 rfl
    have s4 := C1.c 4 rfl
    clear hm hn hR hR2 ih hN hz z1
    replace cV := fun W h => cV W (Below.next hab h)
    replace cE := fun W h => cE W (Below.next hab h)
    go_enter Tryz.func82, Tryz.ntmps82
    go_upto_region 1 with (fail)
    generalize (w.alloc (Obj.cells #[.int .i64 t.kind, .int .i64 t.n, .string (bs t.s), .slice A m c, .slice B n d] 34)).alloc (Obj.cells #[.int .i64 0, .int .i64 0, .string ⟨#[]⟩, .slice none 0 0, .slice none 0 0] 34) = W1 at *
    refine wp_region_seqN (by kernel_rfl) (FF [(1, Fact.at_ W1 (.pointer (some ⟨w.heap.size, 0, none⟩))), (7, Fact.at_ W1 (.pointer (some ⟨w.heap.size, 3, none⟩))), (8, Fact.at_ W1 (.slice A m c)), (9, FCV t.l m w W1), (10, Fact.at_ W1 (.pointer (some ⟨w.heap.size, 4, none⟩))), (11, Fact.at_ W1 (.slice B n d)), (12, FCE t.f n w W1), (13, Fact.at_ W1 (.pointer (some ⟨w.heap.size, 3, none⟩)))]) [1] [] 48 7 [7, 8, 9, 10, 11, 12, 13] rfl (by kernel_rfl) (by kernel_rfl) (by decide) (by kernel_rfl) (by kernel_rfl) ?_ ?_ ?_
    · intro t9 ht9
      simp only [List.mem_cons, List.not_mem_nil, or_false] at ht9
      rcases ht9 with rfl
      · exact ⟨rfl, Below.refl _ _⟩
    · refine fcs ⟨Ob.new_ (at1 1 7 (.pointer (some ⟨w.heap.size, 0, none⟩)) (.pointer (some ⟨w.heap.size, 3, none⟩)) rfl (by first | exact .inl rfl | exact .inr ⟨_, _, _, rfl, rfl, by kernel_rfl, by decide, rfl⟩) (by kernel_rfl) rfl rfl (fun a9 W9 hb9 h9 => by simp [execOp, h9] <;> go_simp)) (by kernel_rfl), ?_⟩
      refine fcs ⟨Ob.new_ (at1 7 8 (.pointer (some ⟨w.heap.size, 3, none⟩)) (.slice A m c) rfl (by first | exact .inl rfl | exact .inr ⟨_, _, _, rfl, rfl, by kernel_rfl, by decide, rfl⟩) (by kernel_rfl) rfl rfl (fun a9 W9 hb9 h9 => by have g0 := cell_next hb9 s3; simp [execOp, h9] <;> go_simp)) (by kernel_rfl), ?_⟩
      refine fcs ⟨Ob.new_ (at_enter (W0 := W1) (by first | exact .inl rfl | exact .inr ⟨_, _, _, rfl, rfl, by kernel_rfl, by decide, rfl⟩) (fun a9 W9 hf9 => by have p8 := hf9 8 (by kernel_rfl); have q8 : a9.tmps.getD 8 undef = (.slice A m c) := p8.1; have hb9 := p8.2; exact ⟨131, #[(.slice A m c)], by rw [← q8]; simpa [execOp, resolve, Act.eval] using run_invoke (by kernel_rfl) _ W9, (cV W9 hb9).mono fun e w' ⟨xs, h1, v', e1, h2, h3⟩ => ⟨v', e1, h3, fun s hs => by injection hs with hs; subst hs; exact ⟨xs, h1, own_mono h2 hb9.size, upG hb9 h3⟩⟩⟩)) (by kernel_rfl), ?_⟩
      refine fcs ⟨Ob.new_ (at1 1 10 (.pointer (some ⟨w.heap.size, 0, none⟩)) (.pointer (some ⟨w.heap.size, 4, none⟩)) rfl (by first | exact .inl rfl | exact .inr ⟨_, _, _, rfl, rfl, by kernel_rfl, by decide, rfl⟩) (by kernel_rfl) rfl rfl (fun a9 W9 hb9 h9 => by simp [execOp, h9] <;> go_simp)) (by kernel_rfl), ?_⟩
      refine fcs ⟨Ob.new_ (at1 10 11 (.pointer (some ⟨w.heap.size, 4, none⟩)) (.slice B n d) rfl (by first | exact .inl rfl | exact .inr ⟨_, _, _, rfl, rfl, by kernel_rfl, by decide, rfl⟩) (by kernel_rfl) rfl rfl (fun a9 W9 hb9 h9 => by have g0 := cell_next hb9 s4; simp [execOp, h9] <;> go_simp)) (by kernel_rfl), ?_⟩
      refine fcs ⟨Ob.new_ (at_enter (W0 := W1) (by first | exact .inl rfl | exact .inr ⟨_, _, _, rfl, rfl, by kernel_rfl, by decide, rfl⟩) (fun a9 W9 hf9 => by have p11 := hf9 11 (by kernel_rfl); have q11 : a9.tmps.getD 11 undef = (.slice B n d) := p11.1; have hb9 := p11.2; exact ⟨132, #[(.slice B n d)], by rw [← q11]; simpa [execOp, resolve, Act.eval] using run_invoke (by kernel_rfl) _ W9, (cE W9 hb9).mono fun e w' ⟨xs, h1, v', e1, h2, h3⟩ => ⟨v', e1, h3, fun s hs => by injection hs with hs; subst hs; exact ⟨xs, h1, own_mono h2 hb9.size, upG hb9 h3⟩⟩⟩)) (by kernel_rfl), ?_⟩
      refine fcs ⟨Ob.new_ (at1 1 13 (.pointer (some ⟨w.heap.size, 0, none⟩)) (.pointer (some ⟨w.heap.size, 3, none⟩)) rfl (by first | exact .inl rfl | exact .inr ⟨_, _, _, rfl, rfl, by kernel_rfl, by decide, rfl⟩) (by kernel_rfl) rfl rfl (fun a9 W9 hb9 h9 => by simp [execOp, h9] <;> go_simp)) (by kernel_rfl), ?_⟩
      exact fnl
    intro vv wv hvv hbv _ _
    have hv13 : vv 13 = (.pointer (some ⟨w.heap.size, 3, none⟩)) := (hvv 13 (by decide)).1
    simp only [lay, List.foldl_cons, List.foldl_nil, List.setIfInBounds_toArray, List.set_cons_succ, List.set_cons_zero, hv13, List.drop_succ_cons, List.drop_zero]
    obtain ⟨xs, hE, ho, -⟩ := hvv 9 (by decide)
    obtain ⟨ys0, hE', ho', -⟩ := hvv 12 (by decide)
    obtain ⟨AL, dL, hv9⟩ := own_form ho
    obtain ⟨BF, dF, hv12⟩ := own_form ho'
    simp only [hv9, hv12]
    rw [hv9] at ho
    rw [hv12] at ho'
    clear hvv hv13 hv9 hv12 s3 s4 cV cE
    replace hab := Below.next hab hbv
    replace C1 := C1.next hbv
    replace C2 := C2.next hbv
    have hlo : w.heap.size + 1 + 1 ≤ wv.heap.size := by have := hbv.size; omega
    have q3 := C1.c 3 rfl
    have q4 := C1.c 4 rfl
    have f3 := C1.f 3 rfl
    have f4 := C1.f 4 rfl
    have ql := C1.lt
    go_wp2_with fail
    have hgr := ((gb_set1 wv ⟨w.heap.size, 3, none⟩ (.slice AL m dL)).trans (gb_set1 _ ⟨w.heap.size, 4, none⟩ (.slice BF n dF)))
    have D1 := (C1.put1 3 (.slice AL m dL)).put1 4 (.slice BF n dF)
    have D2 := C2.gb hgr (by show w.heap.size + 1 ≠ w.heap.size; omega)
    have hgL := ho.lt
    have hgF := ho'.lt
    have hne := own_neq ho ho' (by decide)
    replace ho := ho.kept hgr (.inr fun e => by have := hgL _ e; show False; simp at this; omega)
    replace ho' := ho'.kept hgr (.inr fun e => by have := hgF _ e; show False; simp at this; omega)
    have hb2 := (hab.setCell (p := ⟨w.heap.size, 3, none⟩) (Nat.le_refl _) (.slice AL m dL)).setCell (p := ⟨w.heap.size, 4, none⟩) (Nat.le_refl _) (.slice BF n dF)
    have hs2 := hgr.size
    have HE : Hid (IL 5 encV (RnV w wv.heap.size ((wv.setCell ⟨w.heap.size, 3, none⟩ (.slice AL m dL)).setCell ⟨w.heap.size, 4, none⟩ (.slice BF n dF)) 0) t.l xs) := Lib.hid (hE.mono fun j _ b h => by unfold RnV; rw [if_neg (by omega)]; exact h)
    have HE' := Lib.hid hE'
    have hgL2 : ∀ g, (Value.slice AL m dL).ownBlock = some g → W1.heap.size ≤ g ∧ g < wv.heap.size := hgL
    have hgF2 : ∀ g, (Value.slice BF n dF).ownBlock = some g → W1.heap.size ≤ g ∧ g < wv.heap.size := hgF
    obtain ⟨hi, hhi⟩ : ∃ hi, wv.heap.size = hi := ⟨_, rfl⟩
    rw [hhi] at HE hs2 hgL2 hgF2 hlo
    clear q3 q4 f3 f4 hE hE' hgL hgF hgr hab C1 C2
    go_loopw [18] (fun i wr => ∃ (k : Nat) (ys : List Value), k ≤ m ∧ i = .int .i64 (k : Int) ∧ Hid (IL 5 encV (RnV w hi wr k) t.l ys) ∧ wr.ownsRow W1.heap.size 34 5 (.slice AL m dL) m ys ∧ wr.ownsRow W1.heap.size 94 6 (.slice BF n dF) n ys0 ∧ Bx wr w.heap.size [.int .i64 t.kind, .int .i64 t.n, .string (bs t.s), .slice AL m dL, .slice BF n dF] ∧ Bx wr (w.heap.size + 1) [.int .i64 0, .int .i64 0, .string ⟨#[]⟩, .slice none 0 0, .slice none 0 0] ∧ hi ≤ wr.heap.size ∧ Below w.heap.size w wr) (fun i _ => m - (intOf i).toNat)
    case atStart => exact ⟨0, xs, by omega, rfl, HE, ho, ho', D1, D2, by rw [← hhi]; simp, hb2⟩
    case round =>
      clear HE ho ho' D1 D2 hb2 hs2 hhi
      obtain ⟨k, ys, hk, rfl, HE, ho, ho', D1, D2, hs2, hb⟩ := hrel
      by_cases hlt : k < m
      · have hkl : k < t.l.length := by rw [HM.out]; exact hlt
        have hk1 := Lib.hid hlt
        obtain ⟨g, rfl⟩ := own_some ho (by omega)
        have hg := hgL2 g rfl
        obtain ⟨s, hc, hp0⟩ := HE.out.2 k hkl
        have hp : RdV w (t.l[k]'hkl) s := by unfold RnV at hp0; rw [if_neg (by omega)] at hp0; exact hp0
        have e0 : wr.cell? ⟨g, k * 5, none⟩ = some (.int .i64 (t.l[k]'hkl).kind) := (ho.cellAt (k * 5) (by omega)).trans (hc 0 (by omega))
        have e1 : wr.cell? ⟨g, k * 5 + 1, none⟩ = some (.int .i64 (t.l[k]'hkl).n) := (ho.cellAt (k * 5 + 1) (by omega)).trans (hc 1 (by omega))
        have e2 : wr.cell? ⟨g, k * 5 + 2, none⟩ = some (.string (bs (t.l[k]'hkl).s)) := (ho.cellAt (k * 5 + 2) (by omega)).trans (hc 2 (by omega))
        have e3 : wr.cell? ⟨g, k * 5 + 3, none⟩ = some (.slice s.A (t.l[k]'hkl).l.length s.c) := (ho.cellAt (k * 5 + 3) (by omega)).trans (hc 3 (by omega))
        have e4 : wr.cell? ⟨g, k * 5 + 4, none⟩ = some (.slice s.B (t.l[k]'hkl).f.length s.d) := (ho.cellAt (k * 5 + 4) (by omega)).trans (hc 4 (by omega))
        have hgl : g < wr.heap.size := by omega
        have HS := Lib.hid (fun (W : World) (s2 : Sb) (h1 : Kpl hi wr W) (h2 : NwV hi W (t.l[k]'hkl) s2) => (HE.out.put (Q := RnV w hi W (k + 1)) hkl (t.l[k]'hkl) s2 rfl (fun j hj b hne hp => (hp.next h1).step hne) (by unfold RnV; rw [if_pos (by omega)]; exact h2)))
        rw [List.set_getElem_self] at HS
        have cN0 := cL k hkl
        generalize t.l[k]'hkl = u at *
        have hbx := ab1 wr (Obj.cells #[.int .i64 u.kind, .int .i64 u.n, .string (bs u.s), .slice s.A u.l.length s.c, .slice s.B u.f.length s.d] 34)
        have Q := Bx.new5 wr 34 (.int .i64 u.kind) (.int .i64 u.n) (.string (bs u.s)) (.slice s.A u.l.length s.c) (.slice s.B u.f.length s.d)
        have E1 := D1.next hbx
        have r3 := E1.c 3 rfl
        have c3 := D1.c 3 rfl
        have q0 := Q.c 0 rfl
        have q1 := Q.c 1 rfl
        have q2 := Q.c 2 rfl
        have q3 := Q.c 3 rfl
        have q4 := Q.c 4 rfl
        have hsz : (wr.alloc (Obj.cells #[.int .i64 u.kind, .int .i64 u.n, .string (bs u.s), .slice s.A u.l.length s.c, .slice s.B u.f.length s.d] 34)).heap.size = wr.heap.size + 1 := by simp
        have cN := fun W (h : Below (wr.alloc (Obj.cells #[.int .i64 u.kind, .int .i64 u.n, .string (bs u.s), .slice s.A u.l.length s.c, .slice s.B u.f.length s.d] 34)).heap.size (wr.alloc (Obj.cells #[.int .i64 u.kind, .int .i64 u.n, .string (bs u.s), .slice s.A u.l.length s.c, .slice s.B u.f.length s.d] 34)) W) => cN0 _ W ⟨s.A, s.c, s.B, s.d, rfl, hp.next (Below.next hb (Below.next hbx h))⟩
        obtain ⟨bx, hbxe⟩ : ∃ bx, wr.heap.size = bx := ⟨_, rfl⟩
        clear cN0 hc hp hp0 HE E1 Q
        go_upto_region 5 with (fail)
        generalize wr.alloc (Obj.cells #[.int .i64 u.kind, .int .i64 u.n, .string (bs u.s), .slice s.A u.l.length s.c, .slice s.B u.f.length s.d] 34) = W5 at *
        rw [hbxe] at q0 q1 q2 q3 q4 hsz hgl hs2
        refine wp_region_seqN (by kernel_rfl) (FF [(1, Fact.at_ W5 (.pointer (some ⟨w.heap.size, 0, none⟩))), (3, Fact.at_ W5 (.int .i64 (k : Int))), (4, Fact.at_ W5 (.pointer (some ⟨bx, 0, none⟩))), (23, Fact.at_ W5 (.pointer (some ⟨w.heap.size, 3, none⟩))), (24, Fact.at_ W5 (.slice (some ⟨g, 0, none⟩) m dL)), (25, Fact.at_ W5 (.int .i64 (k : Int))), (26, Fact.at_ W5 (.agg #[.int .i64 u.kind, .int .i64 u.n, .string (bs u.s), .slice s.A u.l.length s.c, .slice s.B u.f.length s.d])), (27, FNw u W5), (28, Fact.at_ W5 (.pointer (some ⟨g, k * 5, none⟩)))]) [1, 3, 4] [] 48 6 [23, 24, 25, 26, 27, 28] rfl (by kernel_rfl) (by kernel_rfl) (by decide) (by kernel_rfl) (by kernel_rfl) ?_ ?_ ?_
        · intro t9 ht9
          simp only [List.mem_cons, List.not_mem_nil, or_false] at ht9
          rcases ht9 with rfl | rfl | rfl
          · exact ⟨rfl, Below.refl _ _⟩
          · exact ⟨rfl, Below.refl _ _⟩
          · exact ⟨rfl, Below.refl _ _⟩
        · refine fcs ⟨Ob.new_ (at1 1 23 (.pointer (some ⟨w.heap.size, 0, none⟩)) (.pointer (some ⟨w.heap.size, 3, none⟩)) rfl (by first | exact .inl rfl | exact .inr ⟨_, _, _, rfl, rfl, by kernel_rfl, by decide, rfl⟩) (by kernel_rfl) rfl rfl (fun a9 W9 hb9 h9 => by simp [execOp, h9] <;> go_simp)) (by kernel_rfl), ?_⟩
          refine fcs ⟨Ob.new_ (at1 23 24 (.pointer (some ⟨w.heap.size, 3, none⟩)) (.slice (some ⟨g, 0, none⟩) m dL) rfl (by first | exact .inl rfl | exact .inr ⟨_, _, _, rfl, rfl, by kernel_rfl, by decide, rfl⟩) (by kernel_rfl) rfl rfl (fun a9 W9 hb9 h9 => by have g0 := cell_next hb9 r3; simp [execOp, h9] <;> go_simp)) (by kernel_rfl), ?_⟩
          refine fcs ⟨Ob.new_ (atcopy 3 25 (.int .i64 (k : Int)) (.inl rfl) rfl (by first | exact .inl rfl | exact .inr ⟨_, _, _, rfl, rfl, by kernel_rfl, by decide, rfl⟩) (by kernel_rfl) rfl rfl) (by kernel_rfl), ?_⟩
          refine fcs ⟨Ob.new_ (at1 4 26 (.pointer (some ⟨bx, 0, none⟩)) (.agg #[.int .i64 u.kind, .int .i64 u.n, .string (bs u.s), .slice s.A u.l.length s.c, .slice s.B u.f.length s.d]) rfl (by first | exact .inl rfl | exact .inr ⟨_, _, _, rfl, rfl, by kernel_rfl, by decide, rfl⟩) (by kernel_rfl) rfl rfl (fun a9 W9 hb9 h9 => by have g0 := cell_next hb9 q0; have g1 := cell_next hb9 q1; have g2 := cell_next hb9 q2; have g3 := cell_next hb9 q3; have g4 := cell_next hb9 q4; simp [execOp, h9] <;> go_simp)) (by kernel_rfl), ?_⟩
          refine fcs ⟨Ob.new_ (at_enter (W0 := W5) (by first | exact .inl rfl | exact .inr ⟨_, _, _, rfl, rfl, by kernel_rfl, by decide, rfl⟩) (fun a9 W9 hf9 => by have p26 := hf9 26 (by kernel_rfl); have q26 : a9.tmps.getD 26 undef = (.agg #[.int .i64 u.kind, .int .i64 u.n, .string (bs u.s), .slice s.A u.l.length s.c, .slice s.B u.f.length s.d]) := p26.1; have hb9 := p26.2; exact ⟨82, #[(.agg #[.int .i64 u.kind, .int .i64 u.n, .string (bs u.s), .slice s.A u.l.length s.c, .slice s.B u.f.length s.d])], by rw [← q26]; simpa [execOp, resolve, Act.eval] using run_invoke (by kernel_rfl) _ W9, (cN W9 hb9).mono fun e w' ⟨s2, e1, h1, h2⟩ => ⟨_, e1, h2, fun s hs => by injection hs with hs; subst hs; exact ⟨s2, rfl, h1.low hb9.size, upG hb9 h2⟩⟩⟩)) (by kernel_rfl), ?_⟩
          refine fcs ⟨Ob.new_ (at2 24 25 28 (.slice (some ⟨g, 0, none⟩) m dL) (.int .i64 (k : Int)) (.pointer (some ⟨g, k * 5, none⟩)) rfl (by first | exact .inl rfl | exact .inr ⟨_, _, _, rfl, rfl, by kernel_rfl, by decide, rfl⟩) (by kernel_rfl) (by kernel_rfl) rfl rfl rfl (fun a9 W9 hb9 h9 h8 => by simp [execOp, h9, h8] <;> go_simp)) (by kernel_rfl), ?_⟩
          exact fnl
        intro vv wv hvv hbv _ _
        have hv28 : vv 28 = (.pointer (some ⟨g, k * 5, none⟩)) := (hvv 28 (by decide)).1
        simp only [lay, List.foldl_cons, List.foldl_nil, List.setIfInBounds_toArray, List.set_cons_succ, List.set_cons_zero, hv28, List.drop_succ_cons, List.drop_zero]
        obtain ⟨s2, hv27, hN2, -⟩ := hvv 27 (by decide)
        simp only [hv27]
        clear hvv hv28 hv27 q0 q1 q2 q3 q4 r3 cN
        have hb3 := Below.next hbx hbv
        have ho3 := own_next ho hb3
        have f0 := ho3.frozenAt (k * 5)
        have f1 := ho3.frozenAt (k * 5 + 1)
        have f2 := ho3.frozenAt (k * 5 + 2)
        have f3 := ho3.frozenAt (k * 5 + 3)
        have f4 := ho3.frozenAt (k * 5 + 4)
        replace e0 := cell_next hb3 e0
        replace e1 := cell_next hb3 e1
        replace e2 := cell_next hb3 e2
        replace e3 := cell_next hb3 e3
        replace e4 := cell_next hb3 e4
        have hst := storedN (encV u s2) ho3 (k * 5)
        have hst1 : ((((((wv.setCell ⟨g, k * 5, none⟩ (.int .i64 u.kind)).setCell ⟨g, k * 5 + 1, none⟩ (.int .i64 u.n)).setCell ⟨g, k * 5 + 2, none⟩ (.string (bs u.s))).setCell ⟨g, k * 5 + 3, none⟩ (.slice s2.A u.l.length s2.c)).setCell ⟨g, k * 5 + 4, none⟩ (.slice s2.B u.f.length s2.d))).ownsRow W1.heap.size 34 5 (.slice (some ⟨g, 0, none⟩) m dL) m (putAt ys (k * 5) (encV u s2)) := hst.1
        have hgr : wv.grownBy ((((((wv.setCell ⟨g, k * 5, none⟩ (.int .i64 u.kind)).setCell ⟨g, k * 5 + 1, none⟩ (.int .i64 u.n)).setCell ⟨g, k * 5 + 2, none⟩ (.string (bs u.s))).setCell ⟨g, k * 5 + 3, none⟩ (.slice s2.A u.l.length s2.c)).setCell ⟨g, k * 5 + 4, none⟩ (.slice s2.B u.f.length s2.d))) (some g) := hst.2
        have hKp : Kpl hi wr ((((((wv.setCell ⟨g, k * 5, none⟩ (.int .i64 u.kind)).setCell ⟨g, k * 5 + 1, none⟩ (.int .i64 u.n)).setCell ⟨g, k * 5 + 2, none⟩ (.string (bs u.s))).setCell ⟨g, k * 5 + 3, none⟩ (.slice s2.A u.l.length s2.c)).setCell ⟨g, k * 5 + 4, none⟩ (.slice s2.B u.f.length s2.d))) := (Kpl.of hb3).trans (Kpl.gb hgr hg.2)
        have HE2 := Lib.hid (HS.out _ s2 hKp ((hN2.low (by omega)).next (Kpl.gb hgr hg.2)))
        have ho2 := (own_next ho' hb3).kept hgr (.inr (hne g rfl))
        have D3 := (D1.next hb3).gb hgr (by omega)
        have D4 := (D2.next hb3).gb hgr (by omega)
        have hsz2 : hi ≤ ((((((wv.setCell ⟨g, k * 5, none⟩ (.int .i64 u.kind)).setCell ⟨g, k * 5 + 1, none⟩ (.int .i64 u.n)).setCell ⟨g, k * 5 + 2, none⟩ (.string (bs u.s))).setCell ⟨g, k * 5 + 3, none⟩ (.slice s2.A u.l.length s2.c)).setCell ⟨g, k * 5 + 4, none⟩ (.slice s2.B u.f.length s2.d))).heap.size := by have := hb3.size; have := hgr.size; omega
        have hb4 := (Below.next hb hb3).grown hgr (Below.next hb hb3).size (fun j hj => by cases hj; omega)
        clear hst hgr hKp hb3 hb ho ho' HS hN2 hbv D1 D2 hbx c3
        go_wp2_with fail
        go_roundw
        case rel => exact ⟨k + 1, _, hk1.out, by go_num, HE2, hst1, ho2, D3, D4, hsz2, hb4⟩
        case measure => have := hk1.out; simp [intOf]; omega
      · obtain rfl : k = m := by omega
        have HL := Lib.hid (show IL 5 encV (fun _ t s => NwV hi wr t s) t.l ys from HE.out.mono fun j hj b h => by unfold RnV at h; rw [if_pos (by rw [← HM.out]; exact hj)] at h; exact h)
        have c3 := D1.c 3 rfl
        have c4 := D1.c 4 rfl
        have HF : Hid (IL 6 encE (fun j x s => RnV w hi wr 0 j x.2 s) t.f ys0) := Lib.hid (HE'.out.mono fun j _ b h => by unfold RnV; rw [if_neg (by omega)]; exact h)
        clear HE HE' cL hlt
        go_wp2_with fail
        go_loopw [33] (fun i wr => ∃ (j : Nat) (zs : List Value), j ≤ n ∧ i = .int .i64 (j : Int) ∧ Hid (IL 6 encE (fun q x s => RnV w hi wr j q x.2 s) t.f zs) ∧ Hid (IL 5 encV (fun _ t s => NwV hi wr t s) t.l ys) ∧ wr.ownsRow W1.heap.size 34 5 (.slice AL k dL) k ys ∧ wr.ownsRow W1.heap.size 94 6 (.slice BF n dF) n zs ∧ Bx wr w.heap.size [.int .i64 t.kind, .int .i64 t.n, .string (bs t.s), .slice AL k dL, .slice BF n dF] ∧ Bx wr (w.heap.size + 1) [.int .i64 0, .int .i64 0, .string ⟨#[]⟩, .slice none 0 0, .slice none 0 0] ∧ hi ≤ wr.heap.size ∧ Below w.heap.size w wr) (fun i _ => n - (intOf i).toNat)
        case atStart => exact ⟨0, ys0, by omega, rfl, HF, HL, ho, ho', D1, D2, hs2, hb⟩
        case round =>
          clear HF HL ho ho' D1 D2 hs2 hb c3 c4
          obtain ⟨k, zs, hk, rfl, HE, HL, ho', ho, D1, D2, hs2, hb⟩ := hrel
          by_cases hlt : k < n
          · have hkl : k < t.f.length := by rw [HN.out]; exact hlt
            have hk1 := Lib.hid hlt
            obtain ⟨g, rfl⟩ := own_some ho (by omega)
            have hg := hgF2 g rfl
            obtain ⟨s, hc, hp0⟩ := HE.out.2 k hkl
            have hp : RdV w (t.f[k]'hkl).2 s := by unfold RnV at hp0; rw [if_neg (by omega)] at hp0; exact hp0
            have e0 : wr.cell? ⟨g, k * 6, none⟩ = some (.int .i64 (t.f[k]'hkl).1) := (ho.cellAt (k * 6) (by omega)).trans (hc 0 (by omega))
            have e1 : wr.cell? ⟨g, k * 6 + 1, none⟩ = some (.int .i64 (t.f[k]'hkl).2.kind) := (ho.cellAt (k * 6 + 1) (by omega)).trans (hc 1 (by omega))
            have e2 : wr.cell? ⟨g, k * 6 + 2, none⟩ = some (.int .i64 (t.f[k]'hkl).2.n) := (ho.cellAt (k * 6 + 2) (by omega)).trans (hc 2 (by omega))
            have e3 : wr.cell? ⟨g, k * 6 + 3, none⟩ = some (.string (bs (t.f[k]'hkl).2.s)) := (ho.cellAt (k * 6 + 3) (by omega)).trans (hc 3 (by omega))
            have e4 : wr.cell? ⟨g, k * 6 + 4, none⟩ = some (.slice s.A (t.f[k]'hkl).2.l.length s.c) := (ho.cellAt (k * 6 + 4) (by omega)).trans (hc 4 (by omega))
            have e5 : wr.cell? ⟨g, k * 6 + 5, none⟩ = some (.slice s.B (t.f[k]'hkl).2.f.length s.d) := (ho.cellAt (k * 6 + 5) (by omega)).trans (hc 5 (by omega))
            have hgl : g < wr.heap.size := by omega
            have HS := Lib.hid (fun (W : World) (s2 : Sb) (h1 : Kpl hi wr W) (h2 : NwV hi W (t.f[k]'hkl).2 s2) => (HE.out.put (Q := fun q x s => RnV w hi W (k + 1) q x.2 s) hkl (t.f[k]'hkl) s2 rfl (fun j hj b hne hp => (hp.next h1).step hne) (by unfold RnV; rw [if_pos (by omega)]; exact h2)))
            rw [List.set_getElem_self] at HS
            have HC0 := Lib.hid (hc 0 (by omega))
            have cN0 := cF k hkl
            generalize t.f[k]'hkl = xu at *
            obtain ⟨num, u⟩ := xu
            simp only at e0 e1 e2 e3 e4 e5
            have hbx := ab1 wr (Obj.cells #[.int .i64 num, .int .i64 u.kind, .int .i64 u.n, .string (bs u.s), .slice s.A u.l.length s.c, .slice s.B u.f.length s.d] 94)
            have Q := Bx.new6 wr 94 (.int .i64 num) (.int .i64 u.kind) (.int .i64 u.n) (.string (bs u.s)) (.slice s.A u.l.length s.c) (.slice s.B u.f.length s.d)
            have E1 := D1.next hbx
            have r4 := E1.c 4 rfl
            have c3 := D1.c 4 rfl
            have q1 := Q.c 1 rfl
            have q2 := Q.c 2 rfl
            have q3 := Q.c 3 rfl
            have q4 := Q.c 4 rfl
            have q5 := Q.c 5 rfl
            have hsz : (wr.alloc (Obj.cells #[.int .i64 num, .int .i64 u.kind, .int .i64 u.n, .string (bs u.s), .slice s.A u.l.length s.c, .slice s.B u.f.length s.d] 94)).heap.size = wr.heap.size + 1 := by simp
            have cN := fun W (h : Below (wr.alloc (Obj.cells #[.int .i64 num, .int .i64 u.kind, .int .i64 u.n, .string (bs u.s), .slice s.A u.l.length s.c, .slice s.B u.f.length s.d] 94)).heap.size (wr.alloc (Obj.cells #[.int .i64 num, .int .i64 u.kind, .int .i64 u.n, .string (bs u.s), .slice s.A u.l.length s.c, .slice s.B u.f.length s.d] 94)) W) => cN0 _ W ⟨s.A, s.c, s.B, s.d, rfl, RdV.next (Below.next hb (Below.next hbx h)) hp⟩
            obtain ⟨bx, hbxe⟩ : ∃ bx, wr.heap.size = bx := ⟨_, rfl⟩
            clear cN0 hc hp hp0 HE E1 Q
            go_upto_region 10 with (fail)
            generalize wr.alloc (Obj.cells #[.int .i64 num, .int .i64 u.kind, .int .i64 u.n, .string (bs u.s), .slice s.A u.l.length s.c, .slice s.B u.f.length s.d] 94) = W5 at *
            rw [hbxe] at q1 q2 q3 q4 q5 hsz hgl hs2
            refine wp_region_seqN (by kernel_rfl) (FF [(1, Fact.at_ W5 (.pointer (some ⟨w.heap.size, 0, none⟩))), (5, Fact.at_ W5 (.int .i64 (k : Int))), (6, Fact.at_ W5 (.pointer (some ⟨bx, 0, none⟩))), (38, Fact.at_ W5 (.pointer (some ⟨w.heap.size, 4, none⟩))), (39, Fact.at_ W5 (.slice (some ⟨g, 0, none⟩) n dF)), (40, Fact.at_ W5 (.int .i64 (k : Int))), (41, Fact.at_ W5 (.pointer (some ⟨bx, 1, none⟩))), (42, Fact.at_ W5 (.agg #[.int .i64 u.kind, .int .i64 u.n, .string (bs u.s), .slice s.A u.l.length s.c, .slice s.B u.f.length s.d])), (43, FNw u W5), (44, Fact.at_ W5 (.pointer (some ⟨g, k * 6, none⟩))), (45, Fact.at_ W5 (.pointer (some ⟨g, k * 6 + 1, none⟩)))]) [1, 5, 6] [] 48 8 [38, 39, 40, 41, 42, 43, 44, 45] rfl (by kernel_rfl) (by kernel_rfl) (by decide) (by kernel_rfl) (by kernel_rfl) ?_ ?_ ?_
            · intro t9 ht9
              simp only [List.mem_cons, List.not_mem_nil, or_false] at ht9
              rcases ht9 with rfl | rfl | rfl
              · exact ⟨rfl, Below.refl _ _⟩
              · exact ⟨rfl, Below.refl _ _⟩
              · exact ⟨rfl, Below.refl _ _⟩
            · refine fcs ⟨Ob.new_ (at1 1 38 (.pointer (some ⟨w.heap.size, 0, none⟩)) (.pointer (some ⟨w.heap.size, 4, none⟩)) rfl (by first | exact .inl rfl | exact .inr ⟨_, _, _, rfl, rfl, by kernel_rfl, by decide, rfl⟩) (by kernel_rfl) rfl rfl (fun a9 W9 hb9 h9 => by simp [execOp, h9] <;> go_simp)) (by kernel_rfl), ?_⟩
              refine fcs ⟨Ob.new_ (at1 38 39 (.pointer (some ⟨w.heap.size, 4, none⟩)) (.slice (some ⟨g, 0, none⟩) n dF) rfl (by first | exact .inl rfl | exact .inr ⟨_, _, _, rfl, rfl, by kernel_rfl, by decide, rfl⟩) (by kernel_rfl) rfl rfl (fun a9 W9 hb9 h9 => by have g0 := cell_next hb9 r4; simp [execOp, h9] <;> go_simp)) (by kernel_rfl), ?_⟩
              refine fcs ⟨Ob.new_ (atcopy 5 40 (.int .i64 (k : Int)) (.inl rfl) rfl (by first | exact .inl rfl | exact .inr ⟨_, _, _, rfl, rfl, by kernel_rfl, by decide, rfl⟩) (by kernel_rfl) rfl rfl) (by kernel_rfl), ?_⟩
              refine fcs ⟨Ob.new_ (at1 6 41 (.pointer (some ⟨bx, 0, none⟩)) (.pointer (some ⟨bx, 1, none⟩)) rfl (by first | exact .inl rfl | exact .inr ⟨_, _, _, rfl, rfl, by kernel_rfl, by decide, rfl⟩) (by kernel_rfl) rfl rfl (fun a9 W9 hb9 h9 => by simp [execOp, h9] <;> go_simp)) (by kernel_rfl), ?_⟩
              refine fcs ⟨Ob.new_ (at1 41 42 (.pointer (some ⟨bx, 1, none⟩)) (.agg #[.int .i64 u.kind, .int .i64 u.n, .string (bs u.s), .slice s.A u.l.length s.c, .slice s.B u.f.length s.d]) rfl (by first | exact .inl rfl | exact .inr ⟨_, _, _, rfl, rfl, by kernel_rfl, by decide, rfl⟩) (by kernel_rfl) rfl rfl (fun a9 W9 hb9 h9 => by have g0 := cell_next hb9 q1; have g1 := cell_next hb9 q2; have g2 := cell_next hb9 q3; have g3 := cell_next hb9 q4; have g4 := cell_next hb9 q5; simp [execOp, h9] <;> go_simp)) (by kernel_rfl), ?_⟩
              refine fcs ⟨Ob.new_ (at_enter (W0 := W5) (by first | exact .inl rfl | exact .inr ⟨_, _, _, rfl, rfl, by kernel_rfl, by decide, rfl⟩) (fun a9 W9 hf9 => by have p42 := hf9 42 (by kernel_rfl); have q42 : a9.tmps.getD 42 undef = (.agg #[.int .i64 u.kind, .int .i64 u.n, .string (bs u.s), .slice s.A u.l.length s.c, .slice s.B u.f.length s.d]) := p42.1; have hb9 := p42.2; exact ⟨82, #[(.agg #[.int .i64 u.kind, .int .i64 u.n, .string (bs u.s), .slice s.A u.l.length s.c, .slice s.B u.f.length s.d])], by rw [← q42]; simpa [execOp, resolve, Act.eval] using run_invoke (by kernel_rfl) _ W9, (cN W9 hb9).mono fun e w' ⟨s2, e1, h1, h2⟩ => ⟨_, e1, h2, fun s hs => by injection hs with hs; subst hs; exact ⟨s2, rfl, h1.low hb9.size, upG hb9 h2⟩⟩⟩)) (by kernel_rfl), ?_⟩
              refine fcs ⟨Ob.new_ (at2 39 40 44 (.slice (some ⟨g, 0, none⟩) n dF) (.int .i64 (k : Int)) (.pointer (some ⟨g, k * 6, none⟩)) rfl (by first | exact .inl rfl | exact .inr ⟨_, _, _, rfl, rfl, by kernel_rfl, by decide, rfl⟩) (by kernel_rfl) (by kernel_rfl) rfl rfl rfl (fun a9 W9 hb9 h9 h8 => by simp [execOp, h9, h8] <;> go_simp)) (by kernel_rfl), ?_⟩
              refine fcs ⟨Ob.new_ (at1 44 45 (.pointer (some ⟨g, k * 6, none⟩)) (.pointer (some ⟨g, k * 6 + 1, none⟩)) rfl (by first | exact .inl rfl | exact .inr ⟨_, _, _, rfl, rfl, by kernel_rfl, by decide, rfl⟩) (by kernel_rfl) rfl rfl (fun a9 W9 hb9 h9 => by simp [execOp, h9] <;> go_simp)) (by kernel_rfl), ?_⟩
              exact fnl
            intro vv wv hvv hbv _ _
            have hv45 : vv 45 = (.pointer (some ⟨g, k * 6 + 1, none⟩)) := (hvv 45 (by decide)).1
            simp only [lay, List.foldl_cons, List.foldl_nil, List.setIfInBounds_toArray, List.set_cons_succ, List.set_cons_zero, hv45, List.drop_succ_cons, List.drop_zero]
            obtain ⟨s2, hv43, hN2, -⟩ := hvv 43 (by decide)
            simp only [hv43]
            clear hvv hv45 hv43 q1 q2 q3 q4 q5 r4 cN
            have hb3 := Below.next hbx hbv
            have ho3 := own_next ho hb3
            have f1 := ho3.frozenAt (k * 6 + 1)
            have f2 := ho3.frozenAt (k * 6 + 2)
            have f3 := ho3.frozenAt (k * 6 + 3)
            have f4 := ho3.frozenAt (k * 6 + 4)
            have f5 := ho3.frozenAt (k * 6 + 5)
            replace e1 := cell_next hb3 e1
            replace e2 := cell_next hb3 e2
            replace e3 := cell_next hb3 e3
            replace e4 := cell_next hb3 e4
            replace e5 := cell_next hb3 e5
            have hst := storedN (encV u s2) ho3 (k * 6 + 1)
            have hput : putAt zs (k * 6) (encE (num, u) s2) = putAt zs (k * 6 + 1) (encV u s2) := putAt_one (encV u s2) HC0.out
            have hst1 : ((((((wv.setCell ⟨g, k * 6 + 1, none⟩ (.int .i64 u.kind)).setCell ⟨g, k * 6 + 2, none⟩ (.int .i64 u.n)).setCell ⟨g, k * 6 + 3, none⟩ (.string (bs u.s))).setCell ⟨g, k * 6 + 4, none⟩ (.slice s2.A u.l.length s2.c)).setCell ⟨g, k * 6 + 5, none⟩ (.slice s2.B u.f.length s2.d))).ownsRow W1.heap.size 94 6 (.slice (some ⟨g, 0, none⟩) n dF) n (putAt zs (k * 6) (encE (num, u) s2)) := by rw [hput]; exact hst.1
            have hgr : wv.grownBy ((((((wv.setCell ⟨g, k * 6 + 1, none⟩ (.int .i64 u.kind)).setCell ⟨g, k * 6 + 2, none⟩ (.int .i64 u.n)).setCell ⟨g, k * 6 + 3, none⟩ (.string (bs u.s))).setCell ⟨g, k * 6 + 4, none⟩ (.slice s2.A u.l.length s2.c)).setCell ⟨g, k * 6 + 5, none⟩ (.slice s2.B u.f.length s2.d))) (some g) := hst.2
            have hKp : Kpl hi wr ((((((wv.setCell ⟨g, k * 6 + 1, none⟩ (.int .i64 u.kind)).setCell ⟨g, k * 6 + 2, none⟩ (.int .i64 u.n)).setCell ⟨g, k * 6 + 3, none⟩ (.string (bs u.s))).setCell ⟨g, k * 6 + 4, none⟩ (.slice s2.A u.l.length s2.c)).setCell ⟨g, k * 6 + 5, none⟩ (.slice s2.B u.f.length s2.d))) := (Kpl.of hb3).trans (Kpl.gb hgr hg.2)
            have HE2 := Lib.hid (HS.out _ s2 hKp ((hN2.low (by omega)).next (Kpl.gb hgr hg.2)))
            have HL2 := Lib.hid (show IL 5 encV (fun _ t s => NwV hi ((((((wv.setCell ⟨g, k * 6 + 1, none⟩ (.int .i64 u.kind)).setCell ⟨g, k * 6 + 2, none⟩ (.int .i64 u.n)).setCell ⟨g, k * 6 + 3, none⟩ (.string (bs u.s))).setCell ⟨g, k * 6 + 4, none⟩ (.slice s2.A u.l.length s2.c)).setCell ⟨g, k * 6 + 5, none⟩ (.slice s2.B u.f.length s2.d))) t s) t.l ys from HL.out.mono fun j hj b h => h.next hKp)
            have ho2 := (own_next ho' hb3).kept hgr (.inr fun e => hne g e rfl)
            have D3 := (D1.next hb3).gb hgr (by omega)
            have D4 := (D2.next hb3).gb hgr (by omega)
            have hsz2 : hi ≤ ((((((wv.setCell ⟨g, k * 6 + 1, none⟩ (.int .i64 u.kind)).setCell ⟨g, k * 6 + 2, none⟩ (.int .i64 u.n)).setCell ⟨g, k * 6 + 3, none⟩ (.string (bs u.s))).setCell ⟨g, k * 6 + 4, none⟩ (.slice s2.A u.l.length s2.c)).setCell ⟨g, k * 6 + 5, none⟩ (.slice s2.B u.f.length s2.d))).heap.size := by have := hb3.size; have := hgr.size; omega
            have hb4 := (Below.next hb hb3).grown hgr (Below.next hb hb3).size (fun j hj => by cases hj; omega)
            clear hst hgr hKp hb3 hb ho ho' HS hN2 hbv D1 D2 hbx c3 HL hput HC0 e0
            go_wp2_with fail
            go_roundw
            case rel => exact ⟨k + 1, _, hk1.out, by go_num, HE2, HL2, ho2, hst1, D3, D4, hsz2, hb4⟩
            case measure => have := hk1.out; simp [intOf]; omega
          · obtain rfl : k = n := by omega
            have HF : IL 6 encE (fun _ x s => NwV hi wr x.2 s) t.f zs := HE.out.mono fun j hj b h => by unfold RnV at h; rw [if_pos (by rw [← HN.out]; exact hj)] at h; exact h
            have HL := HL.out
            have c0 := D1.c 0 rfl
            have c1 := D1.c 1 rfl
            have c2 := D1.c 2 rfl
            have c3 := D1.c 3 rfl
            have c4 := D1.c 4 rfl
            have r0 := D2.c 0 rfl
            have r1 := D2.c 1 rfl
            have r2 := D2.c 2 rfl
            have r3 := D2.c 3 rfl
            have r4 := D2.c 4 rfl
            have f0 := D2.f 0 rfl
            have f1 := D2.f 1 rfl
            have f2 := D2.f 2 rfl
            have f3 := D2.f 3 rfl
            have f4 := D2.f 4 rfl
            have l1 := D1.lt
            have l2 := D2.lt
            clear HE cF hlt
            go_wp2_with fail
            have hgr := (((((gb_set1 wr ⟨w.heap.size + 1, 0, none⟩ (.int .i64 t.kind)).trans (gb_set1 _ ⟨w.heap.size + 1, 1, none⟩ (.int .i64 t.n))).trans (gb_set1 _ ⟨w.heap.size + 1, 2, none⟩ (.string (bs t.s)))).trans (gb_set1 _ ⟨w.heap.size + 1, 3, none⟩ (.slice AL t.l.length dL))).trans (gb_set1 _ ⟨w.heap.size + 1, 4, none⟩ (.slice BF k dF)))
            rw [HM.out] at hgr
            have hKp := Kpl.gb (hi := hi) hgr (by show w.heap.size + 1 < hi; omega)
            have ho3 := ho.kept hgr (.inr fun e => by have := hgF2 _ e; simp at this; omega)
            have ho4 := ho'.kept hgr (.inr fun e => by have := hgL2 _ e; simp at this; omega)
            have hb4 := hb.grown hgr hb.size (fun j hj => by injection hj with hj; simp at hj; omega)
            refine bodyPost_ret (v := .agg #[.int .i64 t.kind, .int .i64 t.n, .string (bs t.s), .slice AL _ dL, .slice BF k dF]) (by simp [results, Tryz.results82, go_sem, r0, r1, r2, r3, r4]) rfl ⟨hi, AL, dL, BF, dF, zs, rfl, by omega, fun w3 hx => ?_, fun g hg => (hgF2 g hg).2, HF.mono fun j _ b h => h.next hKp, own_mono ho3 (by omega), hb4⟩
            have hKx : Kpl hi _ w3 := hx.kpl (by omega) (fun g hg => (hgF2 g hg).2)
            by_cases h0 : t.l.length = 0
            · exact .inl (List.eq_nil_of_length_eq_zero h0)
            · obtain ⟨g, rfl⟩ := own_some ho4 (by rw [← HM.out]; exact h0)
              have hg := hgL2 g rfl
              have hlt4 := ho4.lt g rfl
              exact rowV_of ho4 (hx.blk g (by omega) hlt4.2 (fun e => hne g rfl e.symm)) HM.out (HL.mono fun j _ b h => (h.next hKp) w3 hKx)
end Go.Proofs.YthfodpbecddheaaGreatDoor


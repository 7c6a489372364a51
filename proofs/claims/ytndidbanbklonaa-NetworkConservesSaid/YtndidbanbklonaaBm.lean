import Derived.Test.YtndidbanbklonaaBl
/-
  The times at which a transmission arrives, walked. No conditions beyond those that each names.
-/
namespace Go.Proofs.Ytndidbanbklonaa
open Go.RowKit Go.Sort Go.Lib Go.Shelf
theorem Bx.new6 (w : World) (t : TypeId) (x y z u s r : Value) : Bx (w.alloc (Obj.cells #[x, y, z, u, s, r] t)) w.heap.size [x, y, z, u, s, r] :=
  ⟨by simp, fun j v e => by
    match j, e with
    | 0, e => cases e; exact ⟨by simp, by simp⟩
    | 1, e => cases e; exact ⟨by simp, by simp⟩
    | 2, e => cases e; exact ⟨by simp, by simp⟩
    | 3, e => cases e; exact ⟨by simp, by simp⟩
    | 4, e => cases e; exact ⟨by simp, by simp⟩
    | 5, e => cases e; exact ⟨by simp, by simp⟩⟩
theorem below_cat {B : Nat} {w w1 w2 : World} (h : Below B w w1) (k : Below B w1 w2) : Below B w w2 := ⟨k.os.trans h.os, k.tape.trans h.tape, k.output.trans h.output, Nat.le_trans h.size k.size, fun i hi => (k.block i hi).trans (h.block i hi)⟩
theorem ron_append4 (w : World) (ty : TypeId) (W : World) (A2 : Option Addr) (d2 j : Nat) (l2 : List Int) (x : Int) (hj : j ≤ 100) (hr : RoN w.heap.size W (.slice A2 j d2) l2) (hb : Below w.heap.size w W) : ∃ A' d' w4, (Builtin.append_ #[54, 54] ty #[.slice A2 j d2, .slice (some ⟨W.heap.size, 0, none⟩) 1 1]).run Try.prog (W.alloc (Obj.cells #[.int .i64 x] 3)) = .ok (.slice A' (j + 1) d') w4 ∧ RoN w.heap.size w4 (.slice A' (j + 1) d') (l2 ++ [x]) ∧ Below w.heap.size w w4 ∧ (∀ i, i < W.heap.size → (Value.slice A2 j d2).ownBlock ≠ some i → w4.heap[i]? = W.heap[i]?) ∧ W.heap.size ≤ w4.heap.size ∧ ∀ i, i < W.heap.size → (Value.slice A2 j d2).ownBlock ≠ some i → (Value.slice A' (j + 1) d').ownBlock ≠ some i := by
  have h1 := ab1 W (Obj.cells #[.int .i64 x] 3)
  have h2 := Below.next hb h1
  have hr1 := hr.next h1
  have hnl : j = l2.length := by obtain ⟨A', c', e, -⟩ := hr.1; injection e
  obtain ⟨v', w', e1, e2, e3, e4⟩ := ro_append (W.alloc (Obj.cells #[.int .i64 x] 3)) ty A2 j d2 l2 x ⟨W.heap.size, 0, none⟩ 1 hr1.1 (cell_one_new W (.int .i64 x) _ 0 _ rfl) (by omega)
  obtain ⟨A', d', rfl, -, h3⟩ := id e2
  rw [List.length_append, List.length_singleton, ← hnl] at e1 e2 e4
  refine ⟨A', d', w', e1, ⟨e2, fun k ek => ?_⟩, below_cat h2 ⟨e3.os, e3.tape, e3.output, e3.size, fun i hi => e3.block i (Nat.lt_of_lt_of_le hi h2.size) fun e => by have := (hr.2 i e.symm).1; omega⟩, fun i hi hne => (e3.block i (Nat.lt_of_lt_of_le hi h1.size) fun e => hne e.symm).trans (h1.block i hi), Nat.le_trans h1.size e3.size, fun i hi hne e => ?_⟩
  rotate_left
  · rcases e4 with e4 | ⟨g', e4, hg⟩
    · exact hne (e4 ▸ e)
    · rw [e4] at e; injection e with e; have := h1.size; omega
  have hk : k < w'.heap.size := by
    rcases h3 with ⟨-, h0⟩ | ⟨g', o', cur, rfl, hc, -⟩
    · simp at h0
    · injection ek with ek; rw [← ek]; exact (Array.getElem?_eq_some_iff.1 hc).1
  rcases e4 with e4 | ⟨g', e4, hg⟩
  · rw [e4] at ek; exact ⟨(hr1.2 k ek).1, hk⟩
  · rw [e4] at ek; injection ek with ek; exact ⟨by have := h2.size; omega, hk⟩
/-- What the loop over the faults has done. -/
def dlvI (at_ fr to_ : Int) (fs : List Ft) (i : Nat) (o0 : Int) (o : Int) (l : List Int) : Prop := dlv at_ fr to_ fs o0 [] = dlv at_ fr to_ (fs.drop i) o l
set_option maxRecDepth 100000 in
set_option maxHeartbeats 8000000 in
theorem arT_any (c : Nat) (w : World) (lat at_ fr to_ : Int) (fv : Value) (fs : List Ft) (h1 : w.cell? ⟨c, 1, none⟩ = some (.int .i64 lat)) (h2 : w.cell? ⟨c, 2, none⟩ = some fv) (hf : OwY 0 w fv fs) (hl : fs.length ≤ 64) (ht : 0 ≤ at_ ∧ at_ ≤ 1099511627776) (hlat : 0 ≤ lat ∧ lat ≤ 1099511627776) (hx : ∀ y ∈ fs, 0 ≤ y.x ∧ y.x ≤ 1099511627776) :
    Calls Try.prog 34 #[.pointer (some ⟨c, 0, none⟩), .int .i64 at_, .int .i64 fr, .int .i64 to_] w (fun e w' => ∃ v, e = .returned v ∧ RoN w.heap.size w' v (arT lat at_ fr to_ fs) ∧ Below w.heap.size w w') := by
  obtain ⟨A, cf, rfl, hA⟩ := own_nil_or hf
  obtain ⟨n, hn⟩ : ∃ n, fs.length = n := ⟨_, rfl⟩
  have HN := Lib.hid hn
  have HX := Lib.hid hx
  have HF := Lib.hid hf
  have HAA := Lib.hid hA
  have pl := blk_lt h1
  rw [hn] at hl h2
  have hwr : IntKind.i64.wrap (at_ + lat) = at_ + lat := by rw [IntKind.wrap_i64]; omega
  have HAT := Lib.hid ht
  have HLT := Lib.hid hlat
  clear hf hx hn hA ht hlat
  go_enter Try.func34, Try.ntmps34
  go_wp2_with fail
  go_loopg [9, 10, 27] n (fun kx s9 s10 s27 wr => ∃ (o : Int) (Ax : Option Addr) (nx dx : Nat) (l : List Int) (i : Nat), s9 = .int .i64 o ∧ s10 = .slice Ax nx dx ∧ s27 = .int .i64 (i : Int) ∧ i ≤ n ∧ n - i ≤ kx ∧ nx ≤ i ∧ Hid (0 ≤ o ∧ o ≤ (i + 2) * 1099511627776) ∧ Hid (RoN w.heap.size wr (.slice Ax nx dx) l ∧ ∀ x ∈ l, 0 ≤ x ∧ x ≤ 1099511627776) ∧ Hid (Below w.heap.size w wr) ∧ Hid (dlvI at_ fr to_ fs i (at_ + lat) o l))
  case atStart => exact ⟨at_ + lat, none, 0, 0, [], 0, rfl, rfl, rfl, Nat.zero_le _, Nat.le_refl _, Nat.le_refl _, Lib.hid ⟨by have := HAT.out; have := HLT.out; omega, by have := HAT.out; have := HLT.out; omega⟩, Lib.hid ⟨RoN.nil _ _, fun x h => by cases h⟩, Lib.hid (Below.refl _ _), Lib.hid rfl⟩
  case round =>
    obtain ⟨o, Ax, nx, dx, l, i, rfl, rfl, rfl, hin, hkx, hnx, HO, HR, HB, HD⟩ := hrel
    by_cases hi : i < n
    · have hi2 : i < fs.length := by rw [HN.out]; exact hi
      obtain ⟨gf, rfl, hgf⟩ : ∃ gf, A = some ⟨gf, 0, none⟩ ∧ gf < w.heap.size := by
        rcases HAA.out with ⟨-, -, h0⟩ | ⟨gf, e, -, hg, -⟩
        · omega
        · exact ⟨gf, e, hg⟩
      have hc := fun j v hv => cell_next HB.out (own_cells e6_len HF.out i hi2 j v hv)
      have q0 := hc 0 _ rfl
      have q1 := hc 1 _ rfl
      have q2 := hc 2 _ rfl
      have q3 := hc 3 _ rfl
      have q4 := hc 4 _ rfl
      have q5 := hc 5 _ rfl
      have ql : gf < wr.heap.size := blk_lt q0
      obtain ⟨y, hy⟩ : ∃ y, fs[i]'hi2 = y := ⟨_, rfl⟩
      have HY : Hid (fs.drop i = y :: fs.drop (i + 1)) := Lib.hid (by rw [← hy]; exact List.drop_eq_getElem_cons hi2)
      rw [hy] at q0 q1 q2 q3 q4 q5
      have HBX := Lib.hid (HX.out y (by rw [← hy]; exact List.getElem_mem hi2))
      clear hc hy hi2
      rw [Nat.add_zero] at q0
      have B1 := Bx.new6 wr 41 (.int .i64 y.k) (.int .i64 y.a) (.int .i64 y.b) (.int .i64 y.f) (.int .i64 y.u) (.int .i64 y.x)
      have hab := ab1 wr (Obj.cells #[.int .i64 y.k, .int .i64 y.a, .int .i64 y.b, .int .i64 y.f, .int .i64 y.u, .int .i64 y.x] 41)
      go_upto_region 6 with (fail)
      generalize wr.alloc (Obj.cells #[.int .i64 y.k, .int .i64 y.a, .int .i64 y.b, .int .i64 y.f, .int .i64 y.u, .int .i64 y.x] 41) = w1 at *
      have cC := concerns_any y at_ fr to_ w1
      obtain ⟨vb, hvb⟩ : ∃ vb, wr.heap.size = vb := ⟨_, rfl⟩
      rw [hvb] at B1 ⊢
      clear hvb
      have b0 := B1.c 0 rfl
      have b1 := B1.c 1 rfl
      have b2 := B1.c 2 rfl
      have b3 := B1.c 3 rfl
      have b4 := B1.c 4 rfl
      have b5 := B1.c 5 rfl
      have bl := B1.lt
      have HAB := Lib.hid hab
      clear q0 q1 q2 q3 q4 q5 ql hab
      have hi1 : i + 1 ≤ n := by omega
      have HBY : Hid (∀ w2, Below w1.heap.size w1 w2 → Hid (RoN w.heap.size w2 (.slice Ax nx dx) l ∧ ∀ x ∈ l, 0 ≤ x ∧ x ≤ 1099511627776) ∧ Hid (Below w.heap.size w w2)) := Lib.hid fun w2 hb => ⟨Lib.hid ⟨(HR.out.1.next HAB.out).next hb, HR.out.2⟩, Lib.hid (Below.next (Below.next HB.out HAB.out) hb)⟩
      cases hcn : cnB y at_ fr to_ with
      | false =>
        rw [hcn] at cC
        have HD2 : Hid (dlvI at_ fr to_ fs (i + 1) (at_ + lat) o l) := Lib.hid (by have h := HD.out; unfold dlvI at h ⊢; rw [h, HY.out, dlv, if_neg (by rw [hcn]; decide)])
        clear hcn
        go_wp2_with (refine cC.mono ?_; rintro e w2 ⟨rfl, hb2⟩; have HW := HBY.out w2 hb2)
        go_roundg (n - (i + 1))
        case measure => omega
        case rel => exact ⟨o, Ax, nx, dx, l, i + 1, rfl, rfl, rfl, hi1, Nat.le_refl _, by omega, Lib.hid (by have := HO.out; omega), HW.1, HW.2, HD2⟩
      | true =>
        rw [hcn] at cC
        have hstep : dlv at_ fr to_ fs (at_ + lat) [] = (if y.k = 1 ∨ y.k = 4 then none else if y.k = 2 then dlv at_ fr to_ (fs.drop (i + 1)) (o + y.x) l else if y.k = 3 then dlv at_ fr to_ (fs.drop (i + 1)) o (l ++ [y.x]) else dlv at_ fr to_ (fs.drop (i + 1)) o l) := by
          have h := HD.out
          unfold dlvI at h
          rw [h, HY.out, dlv, if_pos hcn]
        have HST := Lib.hid hstep
        clear hcn hstep
        have CA : y.k = 1 ∨ y.k = 4 → arT lat at_ fr to_ fs = [] := fun h => by unfold arT; rw [HST.out, if_pos h]
        by_cases e1 : y.k = 1
        · have d1 : (y.k == 1) = true := beq_iff_eq.2 e1
          have HE := Lib.hid (CA (.inl e1))
          clear e1 CA
          go_wp2_with (refine cC.mono ?_; rintro e w2 ⟨rfl, hb2⟩; have HW := HBY.out w2 hb2; have c0 := cell_next hb2 b0; have c5 := cell_next hb2 b5; have cl := blk_lt c0)
          go_ret
          rw [HE.out]
          exact ⟨_, rfl, RoN.nil _ _, HW.2.out⟩
        · have d1 : (y.k == 1) = false := beq_eq_false_iff_ne.2 e1
          by_cases e4 : y.k = 4
          · have d4 : (y.k == 4) = true := beq_iff_eq.2 e4
            have HE := Lib.hid (CA (.inr e4))
            clear e1 e4 CA
            go_wp2_with (refine cC.mono ?_; rintro e w2 ⟨rfl, hb2⟩; have HW := HBY.out w2 hb2; have c0 := cell_next hb2 b0; have c5 := cell_next hb2 b5; have cl := blk_lt c0)
            go_ret
            rw [HE.out]
            exact ⟨_, rfl, RoN.nil _ _, HW.2.out⟩
          · have d4 : (y.k == 4) = false := beq_eq_false_iff_ne.2 e4
            have e14 : ¬ (y.k = 1 ∨ y.k = 4) := fun h => h.elim e1 e4
            by_cases e2 : y.k = 2
            · have d2 : (y.k == 2) = true := beq_iff_eq.2 e2
              have HD2 : Hid (dlvI at_ fr to_ fs (i + 1) (at_ + lat) (o + y.x) l) := Lib.hid (by unfold dlvI; rw [HST.out, if_neg e14, if_pos e2])
              have HO2 : Hid (0 ≤ o + y.x ∧ o + y.x ≤ ((i + 1 : Nat) + 2) * 1099511627776) := Lib.hid (by have := HO.out; have := HBX.out; omega)
              have hwo : IntKind.i64.wrap (o + y.x) = o + y.x := by have := HO.out; have := HBX.out; rw [IntKind.wrap_i64]; omega
              clear e1 e4 e14 e2 CA
              go_wp2_with (refine cC.mono ?_; rintro e w2 ⟨rfl, hb2⟩; have HW := HBY.out w2 hb2; have c0 := cell_next hb2 b0; have c5 := cell_next hb2 b5; have cl := blk_lt c0)
              go_roundg (n - (i + 1))
              case measure => omega
              case rel => exact ⟨o + y.x, Ax, nx, dx, l, i + 1, rfl, rfl, rfl, hi1, Nat.le_refl _, by omega, HO2, HW.1, HW.2, HD2⟩
            · have d2 : (y.k == 2) = false := beq_eq_false_iff_ne.2 e2
              by_cases e3 : y.k = 3
              · have d3 : (y.k == 3) = true := beq_iff_eq.2 e3
                have HD2 : Hid (dlvI at_ fr to_ fs (i + 1) (at_ + lat) o (l ++ [y.x])) := Lib.hid (by unfold dlvI; rw [HST.out, if_neg e14, if_neg e2, if_pos e3])
                have hnx2 : nx ≤ 2000000 := by omega
                have HAP : Hid (∀ w2, Below w1.heap.size w1 w2 → ∃ A' d' w4, (Builtin.append_ #[54, 54] 54 #[.slice Ax nx dx, .slice (some ⟨w2.heap.size, 0, none⟩) 1 1]).run Try.prog (w2.alloc (Obj.cells #[.int .i64 y.x] 3)) = .ok (.slice A' (nx + 1) d') w4 ∧ Hid (RoN w.heap.size w4 (.slice A' (nx + 1) d') (l ++ [y.x]) ∧ ∀ x ∈ l ++ [y.x], 0 ≤ x ∧ x ≤ 1099511627776) ∧ Hid (Below w.heap.size w w4)) := Lib.hid fun w2 hb => by
                  have HW := HBY.out w2 hb
                  have h1 := ab1 w2 (Obj.cells #[.int .i64 y.x] 3)
                  have h2 := Below.next HW.2.out h1
                  obtain ⟨A', d', w4, a1, a2, a3⟩ := ron_append w.heap.size (w2.alloc (Obj.cells #[.int .i64 y.x] 3)) 54 Ax nx dx l y.x w2.heap.size 1 (HW.1.out.1.next h1) (by simp) hnx2 h2.size
                  refine ⟨A', d', w4, a1, Lib.hid ⟨a2, fun x hx => ?_⟩, Lib.hid (below_cat h2 a3)⟩
                  rcases List.mem_append.1 hx with hx | hx
                  · exact HW.1.out.2 x hx
                  · rw [List.mem_singleton.1 hx]; exact HBX.out
                clear e1 e4 e14 e2 e3 CA
                go_wp2_with (first | (refine cC.mono ?_; rintro e w2 ⟨rfl, hb2⟩; have c0 := cell_next hb2 b0; have c5 := cell_next hb2 b5; have cl := blk_lt c0; obtain ⟨A', d', w4, hap, HR4, HB4⟩ := HAP.out w2 hb2) | (at_builtin; refine Lib.wpList_append_run _ rfl _ _ _ _ rfl _ _ rfl rfl _ _ hap ?_))
                go_roundg (n - (i + 1))
                case measure => omega
                case rel => exact ⟨o, A', (nx + 1), d', (l ++ [y.x]), i + 1, rfl, rfl, rfl, hi1, Nat.le_refl _, by omega, Lib.hid (by have := HO.out; omega), HR4, HB4, HD2⟩
              · have d3 : (y.k == 3) = false := beq_eq_false_iff_ne.2 e3
                have HD2 : Hid (dlvI at_ fr to_ fs (i + 1) (at_ + lat) o l) := Lib.hid (by unfold dlvI; rw [HST.out, if_neg e14, if_neg e2, if_neg e3])
                clear e1 e4 e14 e2 e3 CA
                go_wp2_with (refine cC.mono ?_; rintro e w2 ⟨rfl, hb2⟩; have HW := HBY.out w2 hb2; have c0 := cell_next hb2 b0; have c5 := cell_next hb2 b5; have cl := blk_lt c0)
                go_roundg (n - (i + 1))
                case measure => omega
                case rel => exact ⟨o, Ax, nx, dx, l, i + 1, rfl, rfl, rfl, hi1, Nat.le_refl _, by omega, Lib.hid (by have := HO.out; omega), HW.1, HW.2, HD2⟩
    · have di : decide (i < n) = false := decide_eq_false hi
      have HEN : Hid (arT lat at_ fr to_ fs = o :: l.map (o + ·)) := Lib.hid (by
        have h := HD.out
        unfold dlvI at h
        rw [List.drop_eq_nil_of_le (by rw [HN.out]; omega)] at h
        unfold arT
        rw [h]; rfl)
      have hnl : l.length = nx := by obtain ⟨A0, c0, e, -⟩ := HR.out.1.1; injection e with _ e _; exact e.symm
      have HNL := Lib.hid hnl
      have AP2 := fun (W : World) (A2 : Option Addr) (d2 j : Nat) (l2 : List Int) (x : Int) => ron_append4 w 54 W A2 d2 j l2 x
      have HAP := Lib.hid AP2
      have ST : Hid (RoN w.heap.size (wr.alloc (Obj.cells #[.int .i64 o] 3)) (.slice (some ⟨wr.heap.size, 0, none⟩) 1 1) [o] ∧ RoN w.heap.size (wr.alloc (Obj.cells #[.int .i64 o] 3)) (.slice Ax nx dx) l ∧ Below w.heap.size w (wr.alloc (Obj.cells #[.int .i64 o] 3)) ∧ (Value.slice Ax nx dx).ownBlock ≠ some wr.heap.size) := Lib.hid ⟨⟨⟨_, 1, rfl, by decide, .inr ⟨wr.heap.size, 0, _, rfl, heap_newI wr _, Nat.le_refl _, by decide, rfl, rfl⟩⟩, fun g e => by injection e with e; rw [← e]; exact ⟨HB.out.size, by simp⟩⟩, HR.out.1.next (ab1 wr _), Below.next HB.out (ab1 wr _), fun e => by have := (HR.out.1.2 _ e).2; omega⟩
      have hn64 : nx ≤ 64 := by omega
      clear hnl AP2 hi h1 h2 pl
      go_wp2_with fail
      go_loopg [13, 60] nx (fun kx s13 s60 wr2 => ∃ (A2 : Option Addr) (d2 j : Nat), s13 = .slice A2 (j + 1) d2 ∧ s60 = .int .i64 (j : Int) ∧ j ≤ nx ∧ nx - j ≤ kx ∧ Hid (RoN w.heap.size wr2 (.slice A2 (j + 1) d2) (o :: (l.take j).map (o + ·)) ∧ RoN w.heap.size wr2 (.slice Ax nx dx) l ∧ Below w.heap.size w wr2 ∧ ∀ g, (Value.slice Ax nx dx).ownBlock = some g → (Value.slice A2 (j + 1) d2).ownBlock ≠ some g))
      case atStart => exact ⟨_, 1, 0, rfl, rfl, Nat.zero_le _, Nat.le_refl _, Lib.hid ⟨ST.out.1, ST.out.2.1, ST.out.2.2.1, fun g e e2 => ST.out.2.2.2 (by rw [e]; exact e2.symm)⟩⟩
      case round =>
        obtain ⟨A2, d2, j, rfl, rfl, hj, hkj, J⟩ := hrel
        by_cases hjn : j < nx
        · have hj2 : j < l.length := by rw [HNL.out]; exact hjn
          obtain ⟨-, -, gx, ox, rfl, hgx⟩ := J.out.2.1.1.pos (fun e => by rw [e] at hj2; simp at hj2)
          have kx := J.out.2.1.1.cell j hj2
          obtain ⟨x, hx⟩ : ∃ x, l[j]'hj2 = x := ⟨_, rfl⟩
          rw [hx] at kx
          have hxb := HR.out.2 x (by rw [← hx]; exact List.getElem_mem hj2)
          have hwx : IntKind.i64.wrap (o + x) = o + x := by have := HO.out; rw [IntKind.wrap_i64]; omega
          have HTK : Hid (l.take (j + 1) = l.take j ++ [x]) := Lib.hid (by rw [List.take_succ_eq_append_getElem hj2, hx])
          obtain ⟨A', d', w4, hap, r1, r2, r3, r4, r5⟩ := HAP.out _ A2 d2 (j + 1) _ (o + x) (by omega) J.out.1 J.out.2.2.1
          have HRN : Hid (RoN w.heap.size w4 (.slice A' (j + 1 + 1) d') (o :: (l.take (j + 1)).map (o + ·)) ∧ RoN w.heap.size w4 (.slice (some ⟨gx, ox, none⟩) nx dx) l ∧ Below w.heap.size w w4 ∧ ∀ g, (Value.slice (some ⟨gx, ox, none⟩) nx dx).ownBlock = some g → (Value.slice A' (j + 1 + 1) d').ownBlock ≠ some g) := Lib.hid (by
            refine ⟨by rw [HTK.out, List.map_append]; exact r1, ⟨J.out.2.1.1.blk fun g hg e => r3 g hg (J.out.2.2.2 g e), fun g e => ⟨(J.out.2.1.2 g e).1, ?_⟩⟩, r2, fun g e e2 => ?_⟩
            · exact Nat.lt_of_lt_of_le (J.out.2.1.2 g e).2 r4
            · exact r5 g (J.out.2.1.2 g e).2 (J.out.2.2.2 g e) e2)
          have dj : decide (j < nx) = true := decide_eq_true hjn
          have hj1 : j + 1 ≤ nx := by omega
          clear hx hj2 r1 r2 r3 r4 r5 hxb
          go_wp2_with (at_builtin; refine Lib.wpList_append_run _ rfl _ _ _ _ rfl _ _ rfl rfl _ _ hap ?_)
          go_roundg (nx - (j + 1))
          case measure => omega
          case rel => exact ⟨A', d', j + 1, rfl, rfl, hj1, Nat.le_refl _, HRN⟩
        · have dj : decide (j < nx) = false := decide_eq_false hjn
          have HT : Hid (l.take j = l) := Lib.hid (List.take_of_length_le (by rw [HNL.out]; omega))
          clear hjn
          go_wp2_with fail
          go_ret
          rw [HEN.out]
          have := J.out.1
          rw [HT.out] at this
          exact ⟨_, rfl, this, J.out.2.2.1⟩
end Go.Proofs.Ytndidbanbklonaa

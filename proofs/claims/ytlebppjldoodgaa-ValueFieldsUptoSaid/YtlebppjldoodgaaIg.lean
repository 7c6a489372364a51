import Derived.Test.YtlebppjldoodgaaIf
import Derived.Test.YtlebppjldoodgaaYv
/-
  The reference's With, of any value. No conditions beyond those that each names.
-/
namespace Go.Proofs.Ytlebppjldoodgaa
open Go.RowKit Go.Sort
/-- What a run over the entries makes of the rest of them. -/
def insR (b : Bool) (z : Int) (x : Vl) : List (Int × Vl) → List (Int × Vl)
  | [] => [(z, x)]
  | y :: ys => if b then (if y.1 = z then (z, x) :: ys else y :: insR b z x ys) else (if z < y.1 then (z, x) :: y :: ys else y :: insR b z x ys)
theorem insR_true (z : Int) (x : Vl) : ∀ (f : List (Int × Vl)) (i : Nat), f.findIdx? (fun e => e.1 == z) = some i → insR true z x f = f.set i (z, x)
  | [], _, h => by simp at h
  | y :: ys, i, h => by
    rw [List.findIdx?_cons] at h
    by_cases e : y.1 = z
    · rw [if_pos (by simpa using e)] at h
      injection h with h
      subst h
      simp [insR, e]
    · rw [if_neg (by simpa using e)] at h
      obtain ⟨j, hj, rfl⟩ := Option.map_eq_some_iff.1 h
      simp [insR, e, insR_true z x ys j hj]
theorem insR_false (z : Int) (x : Vl) : ∀ (f : List (Int × Vl)), insR false z x f = (match f.findIdx? (fun e => decide (z < e.1)) with
    | some i => f.take i ++ (z, x) :: f.drop i
    | none => f ++ [(z, x)])
  | [] => rfl
  | y :: ys => by
    rw [List.findIdx?_cons]
    by_cases e : z < y.1
    · rw [if_pos (by simpa using e)]
      simp [insR, e]
    · rw [if_neg (by simpa using e), insR, if_neg (by decide), if_neg e, insR_false z x ys]
      cases h : ys.findIdx? (fun e => decide (z < e.1)) with
      | none => rfl
      | some j => simp
theorem insF_eq (f : List (Int × Vl)) (z : Int) (x : Vl) : insF f z x = insR (f.findIdx? (fun e => e.1 == z)).isSome z x f := by
  unfold insF
  cases h : f.findIdx? (fun e => e.1 == z) with
  | some i => exact (insR_true z x f i h).symm
  | none => exact (insR_false z x f).symm
theorem fvl_some (t : Vl) (z : Int) (h : t.kind = 6) : (fvl t z).isSome = (t.f.findIdx? (fun e => e.1 == z)).isSome := by
  unfold fvl
  rw [if_pos h, find_ix]
  cases h2 : t.f.findIdx? (fun e => e.1 == z) with
  | none => rfl
  | some i =>
    have := (List.findIdx?_eq_some_iff_getElem.1 h2).1
    simp [List.getElem?_eq_getElem this]
/-- What is still to come, in a run that has set the field or hasn't. -/
def rst (dn b : Bool) (z : Int) (x : Vl) (f : List (Int × Vl)) : List (Int × Vl) := if dn then f else insR b z x f
set_option maxRecDepth 100000 in
set_option maxHeartbeats 16000000 in
theorem refWith_any (t x : Vl) (z : Int) (v u9 : Value) (w : World) (hzt : sz t ≤ 1048576) (hv : VlV w t v) (hu : VlV w x u9) :
    Calls Try.prog 21 #[v, .int .i64 z, u9] w (WtP (wth t z x) w) := by
  have hfl := sz_fl t
  have cF := fun W h => refField_any t z v w W h (by omega) hv
  obtain ⟨A, c, B, d, rfl, hR, hR2⟩ := hv
  obtain ⟨sx, rfl, hrx⟩ := rdV_iff.1 hu
  change Calls Try.prog 21 #[_, _, .agg #[.int .i64 x.kind, .int .i64 x.n, .string (bs x.s), .slice sx.A x.l.length sx.c, .slice sx.B x.f.length sx.d]] w _
  obtain ⟨m, hm⟩ : ∃ m, t.l.length = m := ⟨_, rfl⟩
  obtain ⟨n, hn⟩ : ∃ n, t.f.length = n := ⟨_, rfl⟩
  have HN := Lib.hid hn
  have HM := Lib.hid hm
  have hl : n ≤ 1048576 := by omega
  rw [hm, hn] at cF ⊢
  have z1 : (w.alloc (Obj.cells #[.int .i64 t.kind, .int .i64 t.n, .string (bs t.s), .slice A m c, .slice B n d] 25)).heap.size = w.heap.size + 1 := by simp
  have z2 : ((w.alloc (Obj.cells #[.int .i64 t.kind, .int .i64 t.n, .string (bs t.s), .slice A m c, .slice B n d] 25)).alloc (Obj.cells #[.int .i64 x.kind, .int .i64 x.n, .string (bs x.s), .slice sx.A x.l.length sx.c, .slice sx.B x.f.length sx.d] 25)).heap.size = w.heap.size + 1 + 1 := by simp
  have z3 : (((w.alloc (Obj.cells #[.int .i64 t.kind, .int .i64 t.n, .string (bs t.s), .slice A m c, .slice B n d] 25)).alloc (Obj.cells #[.int .i64 x.kind, .int .i64 x.n, .string (bs x.s), .slice sx.A x.l.length sx.c, .slice sx.B x.f.length sx.d] 25)).alloc (Obj.cells #[.int .i64 0, .int .i64 0, .string ⟨#[]⟩, .slice none 0 0, .slice none 0 0] 25)).heap.size = w.heap.size + 1 + 1 + 1 := by simp
  have hab := ab3 w (Obj.cells #[.int .i64 t.kind, .int .i64 t.n, .string (bs t.s), .slice A m c, .slice B n d] 25) (Obj.cells #[.int .i64 x.kind, .int .i64 x.n, .string (bs x.s), .slice sx.A x.l.length sx.c, .slice sx.B x.f.length sx.d] 25) (Obj.cells #[.int .i64 0, .int .i64 0, .string ⟨#[]⟩, .slice none 0 0, .slice none 0 0] 25)
  have C1 := (Bx.new5 w 25 (.int .i64 t.kind) (.int .i64 t.n) (.string (bs t.s)) (.slice A m c) (.slice B n d)).next (ab2 _ (Obj.cells #[.int .i64 x.kind, .int .i64 x.n, .string (bs x.s), .slice sx.A x.l.length sx.c, .slice sx.B x.f.length sx.d] 25) (Obj.cells #[.int .i64 0, .int .i64 0, .string ⟨#[]⟩, .slice none 0 0, .slice none 0 0] 25))
  have CX := (Bx.new5 (w.alloc (Obj.cells #[.int .i64 t.kind, .int .i64 t.n, .string (bs t.s), .slice A m c, .slice B n d] 25)) 25 (.int .i64 x.kind) (.int .i64 x.n) (.string (bs x.s)) (.slice sx.A x.l.length sx.c) (.slice sx.B x.f.length sx.d)).next (ab1 _ (Obj.cells #[.int .i64 0, .int .i64 0, .string ⟨#[]⟩, .slice none 0 0, .slice none 0 0] 25))
  have C2 := Bx.new5 ((w.alloc (Obj.cells #[.int .i64 t.kind, .int .i64 t.n, .string (bs t.s), .slice A m c, .slice B n d] 25)).alloc (Obj.cells #[.int .i64 x.kind, .int .i64 x.n, .string (bs x.s), .slice sx.A x.l.length sx.c, .slice sx.B x.f.length sx.d] 25)) 25 (.int .i64 0) (.int .i64 0) (.string ⟨#[]⟩) (.slice none 0 0) (.slice none 0 0)
  rw [z1] at CX
  rw [z2] at C2
  clear hm hn hfl hzt hu
  go_enter Try.func21, Try.ntmps21
  go_upto_region 1 with (fail)
  generalize ((w.alloc (Obj.cells #[.int .i64 t.kind, .int .i64 t.n, .string (bs t.s), .slice A m c, .slice B n d] 25)).alloc (Obj.cells #[.int .i64 x.kind, .int .i64 x.n, .string (bs x.s), .slice sx.A x.l.length sx.c, .slice sx.B x.f.length sx.d] 25)).alloc (Obj.cells #[.int .i64 0, .int .i64 0, .string ⟨#[]⟩, .slice none 0 0, .slice none 0 0] 25) = w0 at *
  have hz2 : w.heap.size + 1 + 1 < w0.heap.size := by omega
  clear z1 z2 z3
  have s0 := C1.c 0 rfl
  have s1 := C1.c 1 rfl
  have s2 := C1.c 2 rfl
  have s3 := C1.c 3 rfl
  have s4 := C1.c 4 rfl
  have l1 := C1.lt
  by_cases h6 : t.kind = 6
  case neg =>
    have d6 : (t.kind != 6) = true := by simpa using h6
    have HW := Lib.hid (show wth t z x = t by unfold wth; rw [if_neg h6])
    clear h6 hl cF
    have r0 := C2.c 0 rfl
    have r1 := C2.c 1 rfl
    have r2 := C2.c 2 rfl
    have r3 := C2.c 3 rfl
    have r4 := C2.c 4 rfl
    have q0 := C2.f 0 rfl
    have q1 := C2.f 1 rfl
    have q2 := C2.f 2 rfl
    have q3 := C2.f 3 rfl
    have q4 := C2.f 4 rfl
    have l2 := C2.lt
    have hfin := gb5 hab (b := w.heap.size + 1 + 1) (by omega) (.int .i64 t.kind) (.int .i64 t.n) (.string (bs t.s)) (.slice A m c) (.slice B n d)
    go_wp2_with fail
    refine bodyPost_ret (v := .agg #[.int .i64 t.kind, .int .i64 t.n, .string (bs t.s), .slice A m c, .slice B n d]) (by simp [results, Try.results21, go_sem, r0, r1, r2, r3, r4]) rfl ?_
    generalize (((((w0.setCell ⟨w.heap.size + 1 + 1, 0, none⟩ (.int .i64 t.kind)).setCell ⟨w.heap.size + 1 + 1, 1, none⟩ (.int .i64 t.n)).setCell ⟨w.heap.size + 1 + 1, 2, none⟩ (.string (bs t.s))).setCell ⟨w.heap.size + 1 + 1, 3, none⟩ (.slice A m c)).setCell ⟨w.heap.size + 1 + 1, 4, none⟩ (.slice B n d)) = wF at *
    rw [HW.out, ← HM.out]
    exact wtP_of HN.out rfl rfl rfl rfl (hR.next fun x p => VlA.next hfin x p) (hR2.next fun x p => EtA.next hfin x p) hfin
  case pos =>
  have d6 : (t.kind != 6) = false := by simp [h6]
  have hth := fvl_some t z h6
  have HW := Lib.hid (show wth t z x = .mk t.kind t.n t.s t.l (insR (fvl t z).isSome z x t.f) by unfold wth; rw [if_pos h6, insF_eq, hth])
  clear h6 hth
  unfold FdQ at cF
  generalize (fvl t z).getD vl0 = uf at *
  generalize (fvl t z).isSome = b at *
  obtain ⟨R, hRR⟩ : ∃ R, insR b z x t.f = R := ⟨_, rfl⟩
  rw [hRR] at HW
  have HR0 := Lib.hid (show [] ++ rst false b z x (t.f.drop 0) = R by rw [List.drop_zero, List.nil_append, rst, if_neg (by decide)]; exact hRR)
  clear hRR
  go_wp2_with fail
  refine (cF _ hab).mono ?_
  rintro e w1 ⟨sf, rfl, -, hb1⟩
  have hbx := ab1 w1 (Obj.cells #[.int .i64 uf.kind, .int .i64 uf.n, .string (bs uf.s), .slice sf.A uf.l.length sf.c, .slice sf.B uf.f.length sf.d] 25)
  have hbW := Below.next hb1 hbx
  replace C1 := C1.next hbW
  replace CX := CX.next hbW
  replace C2 := C2.next hbW
  replace hab := Below.next hab hbW
  have hz3 := hbW.size
  clear cF s0 s1 s2 s3 s4 l1
  have s0 := C1.c 0 rfl
  have s1 := C1.c 1 rfl
  have s2 := C1.c 2 rfl
  have s3 := C1.c 3 rfl
  have s4 := C1.c 4 rfl
  have l1 := C1.lt
  go_upto_region 4 with (fail)
  generalize w1.alloc (Obj.cells #[.int .i64 uf.kind, .int .i64 uf.n, .string (bs uf.s), .slice sf.A uf.l.length sf.c, .slice sf.B uf.f.length sf.d] 25) = w2 at *
  have hz2' : w.heap.size + 1 + 1 < w2.heap.size := by omega
  clear hb1 hbx hbW hz2 hz3
  have hbx := ab1 w2 (Obj.cells #[.int .i64 t.kind, .int .i64 t.n, .string (bs t.s), .slice A m c, .slice none 0 0] 25)
  have E1 := C1.next hbx
  have EX := CX.next hbx
  have E2 := C2.next hbx
  have E3 := Bx.new5 w2 25 (.int .i64 t.kind) (.int .i64 t.n) (.string (bs t.s)) (.slice A m c) (.slice none 0 0)
  have hab4 := Below.next hab hbx
  have hz4 : w2.heap.size + 1 ≤ (w2.alloc (Obj.cells #[.int .i64 t.kind, .int .i64 t.n, .string (bs t.s), .slice A m c, .slice none 0 0] 25)).heap.size := by simp
  clear C1 CX C2 hab hbx
  go_wp2_with fail
  go_loopw [10, 11] (fun dn_ i_ wr => ∃ (k : Nat) (dn : Bool) (vE : Value) (l : List (Int × Vl)) (xs : List Value), k ≤ n ∧ dn_ = .bool dn ∧ i_ = .int .i64 (k : Int) ∧ Hid (l ++ rst dn b z x (t.f.drop k) = R) ∧ Hid (l.length ≤ k + dn.toNat) ∧ Hid (wr.ownsRow (w2.heap.size + 1) 72 6 vE l.length xs) ∧ Hid (IL 6 encE (fun _ x s => RdV w x.2 s) l xs) ∧ Bx wr w.heap.size [.int .i64 t.kind, .int .i64 t.n, .string (bs t.s), .slice A m c, .slice B n d] ∧ Bx wr (w.heap.size + 1) [.int .i64 x.kind, .int .i64 x.n, .string (bs x.s), .slice sx.A x.l.length sx.c, .slice sx.B x.f.length sx.d] ∧ Bx wr (w.heap.size + 1 + 1) [.int .i64 0, .int .i64 0, .string ⟨#[]⟩, .slice none 0 0, .slice none 0 0] ∧ Bx wr w2.heap.size [.int .i64 t.kind, .int .i64 t.n, .string (bs t.s), .slice A m c, vE] ∧ Below w.heap.size w wr ∧ Hid (w2.heap.size + 1 ≤ wr.heap.size)) (fun _ i_ _ => (intOf (.int .i64 n) - intOf i_).toNat)
  case atStart => exact ⟨0, false, .slice none 0 0, [], [], by omega, rfl, rfl, HR0, Lib.hid (by simp), Lib.hid (World.ownsRow_nil _ _ _ _), Lib.hid (IL.nil _ _ _), E1, EX, E2, E3, hab4, Lib.hid hz4⟩
  case round =>
    clear HR0 E1 EX E2 E3 hab4 hz4 s0 s1 s2 s3 s4 l1
    obtain ⟨k, dn, vE, l, xs, hk, rfl, rfl, HL, HLn, HO, HI, C1, CX, C2, C3, hb, HZ⟩ := hrel
    by_cases hlt : k < n
    · have hkl : k < t.f.length := by rw [HN.out]; exact hlt
      have hk1 := Lib.hid hlt
      obtain ⟨a, rfl, hA⟩ := hR2.get hkl
      obtain ⟨s, x0, x1, x2, x3, x4, x5, hrd⟩ := hA.sb
      have HT := HL.out
      rw [List.drop_eq_getElem_cons hkl] at HT
      obtain ⟨y, hy⟩ : ∃ y, t.f[k]'hkl = y := ⟨_, rfl⟩
      rw [hy] at x0 x1 x2 x3 x4 x5 hrd HT
      obtain ⟨rs, hrs⟩ : ∃ rs, t.f.drop (k + 1) = rs := ⟨_, rfl⟩
      rw [hrs] at HT
      have HRS := Lib.hid hrs
      clear hA hy hkl hrs HL
      obtain ⟨num, u⟩ := y
      dsimp only at x0 x1 x2 x3 x4 x5 hrd
      have HXS := Lib.hid (And.intro x0 (And.intro x1 (And.intro x2 (And.intro x3 (And.intro x4 x5)))))
      clear x0 x1 x2 x3 x4 x5
      have HTT := Lib.hid HT
      clear HT
      have hll := HLn.out
      cases dn
      case true =>
        simp only [Bool.toNat_true] at hll
        have HL2 := Lib.hid (show (l ++ [(num, u)]) ++ rst true b z x (t.f.drop (k + 1)) = R by rw [← HTT.out, HRS.out]; simp [rst])
        clear HTT HRS
        obtain ⟨y0, y1, y2, y3, y4, y5⟩ := HXS.out
        have x0 := cell_next hb y0
        have x1 := cell_next hb y1
        have x2 := cell_next hb y2
        have x3 := cell_next hb y3
        have x4 := cell_next hb y4
        have x5 := cell_next hb y5
        clear y0 y1 y2 y3 y4 y5
        have hblk : (a.add (k * 6)).block < wr.heap.size := blk_lt x0
        have c4 := C1.c 4 rfl
        have l1 := C1.lt
        have hne1 : some w.heap.size ≠ vE.ownBlock := fun e => by have := (HO.out.lt _ e.symm).1; omega
        have hneX : some (w.heap.size + 1) ≠ vE.ownBlock := fun e => by have := (HO.out.lt _ e.symm).1; omega
        have hne2 : some (w.heap.size + 1 + 1) ≠ vE.ownBlock := fun e => by have := (HO.out.lt _ e.symm).1; omega
        have hne3 : some w2.heap.size ≠ vE.ownBlock := fun e => by have := (HO.out.lt _ e.symm).1; omega
        have hgrw : ∀ b, vE.ownBlock = some b → w.heap.size ≤ b := fun b e => by have := (HO.out.lt b e).1; omega
        have e4 := C3.c 4 rfl
        have l3 := C3.lt
        go_upto_region 16 with (fail)
        refine wp_region_seqN (by kernel_rfl) (FF [(3, Fact.at_ wr (.pointer (some ⟨w.heap.size, 0, none⟩))), (9, Fact.at_ wr (.pointer (some ⟨w2.heap.size, 0, none⟩))), (11, Fact.at_ wr (.int .i64 (k : Int))), (78, Fact.at_ wr (.pointer (some ⟨w2.heap.size, 4, none⟩))), (79, Fact.at_ wr vE), (80, Fact.at_ wr (.pointer (some ⟨w.heap.size, 4, none⟩))), (81, Fact.at_ wr (.slice (some a) n d)), (82, Fact.at_ wr (.int .i64 (k : Int))), (83, Fact.at_ wr (.pointer (some (a.add (k * 6))))), (84, Fact.at_ wr (.agg #[.int .i64 num, .int .i64 u.kind, .int .i64 u.n, .string (bs u.s), .slice s.A u.l.length s.c, .slice s.B u.f.length s.d])), (85, FNb [.int .i64 num, .int .i64 u.kind, .int .i64 u.n, .string (bs u.s), .slice s.A u.l.length s.c, .slice s.B u.f.length s.d] wr)]) [3, 9, 11] [] 99 8 [78, 79, 80, 81, 82, 83, 84, 85] rfl (by kernel_rfl) (by kernel_rfl) (by decide) (by kernel_rfl) (by kernel_rfl) ?_ ?_ ?_
        · intro t9 ht9
          simp only [List.mem_cons, List.not_mem_nil, or_false] at ht9
          rcases ht9 with rfl | rfl | rfl
          · exact ⟨rfl, Below.refl _ _⟩
          · exact ⟨rfl, Below.refl _ _⟩
          · exact ⟨rfl, Below.refl _ _⟩
        · refine fcs ⟨Ob.new_ (at1 9 78 (.pointer (some ⟨w2.heap.size, 0, none⟩)) (.pointer (some ⟨w2.heap.size, 4, none⟩)) rfl (by first | exact .inl rfl | exact .inr ⟨_, _, _, rfl, rfl, by kernel_rfl, by decide, rfl⟩) (by kernel_rfl) rfl rfl (fun a9 W9 hb9 h9 => by simp [execOp, h9] <;> go_simp)) (by kernel_rfl), ?_⟩
          refine fcs ⟨Ob.new_ (at1 78 79 (.pointer (some ⟨w2.heap.size, 4, none⟩)) vE rfl (by first | exact .inl rfl | exact .inr ⟨_, _, _, rfl, rfl, by kernel_rfl, by decide, rfl⟩) (by kernel_rfl) rfl rfl (fun a9 W9 hb9 h9 => by have g0 := cell_next hb9 e4; simp [execOp, h9] <;> go_simp)) (by kernel_rfl), ?_⟩
          refine fcs ⟨Ob.new_ (at1 3 80 (.pointer (some ⟨w.heap.size, 0, none⟩)) (.pointer (some ⟨w.heap.size, 4, none⟩)) rfl (by first | exact .inl rfl | exact .inr ⟨_, _, _, rfl, rfl, by kernel_rfl, by decide, rfl⟩) (by kernel_rfl) rfl rfl (fun a9 W9 hb9 h9 => by simp [execOp, h9] <;> go_simp)) (by kernel_rfl), ?_⟩
          refine fcs ⟨Ob.new_ (at1 80 81 (.pointer (some ⟨w.heap.size, 4, none⟩)) (.slice (some a) n d) rfl (by first | exact .inl rfl | exact .inr ⟨_, _, _, rfl, rfl, by kernel_rfl, by decide, rfl⟩) (by kernel_rfl) rfl rfl (fun a9 W9 hb9 h9 => by have g0 := cell_next hb9 c4; simp [execOp, h9] <;> go_simp)) (by kernel_rfl), ?_⟩
          refine fcs ⟨Ob.new_ (atcopy 11 82 (.int .i64 (k : Int)) (.inl rfl) rfl (by first | exact .inl rfl | exact .inr ⟨_, _, _, rfl, rfl, by kernel_rfl, by decide, rfl⟩) (by kernel_rfl) rfl rfl) (by kernel_rfl), ?_⟩
          refine fcs ⟨Ob.new_ (at2 81 82 83 (.slice (some a) n d) (.int .i64 (k : Int)) (.pointer (some (a.add (k * 6)))) rfl (by first | exact .inl rfl | exact .inr ⟨_, _, _, rfl, rfl, by kernel_rfl, by decide, rfl⟩) (by kernel_rfl) (by kernel_rfl) rfl rfl rfl (fun a9 W9 hb9 h9 h8 => by simp [execOp, h9, h8] <;> go_simp)) (by kernel_rfl), ?_⟩
          refine fcs ⟨Ob.new_ (at1 83 84 (.pointer (some (a.add (k * 6)))) (.agg #[.int .i64 num, .int .i64 u.kind, .int .i64 u.n, .string (bs u.s), .slice s.A u.l.length s.c, .slice s.B u.f.length s.d]) rfl (by first | exact .inl rfl | exact .inr ⟨_, _, _, rfl, rfl, by kernel_rfl, by decide, rfl⟩) (by kernel_rfl) rfl rfl (fun a9 W9 hb9 h9 => by have g0 := cell_next hb9 x0; have g1 := cell_next hb9 x1; have g2 := cell_next hb9 x2; have g3 := cell_next hb9 x3; have g4 := cell_next hb9 x4; have g5 := cell_next hb9 x5; simp [execOp, h9] <;> go_simp)) (by kernel_rfl), ?_⟩
          refine fcs ⟨Ob.new_ (at_val (W0 := wr) (by first | exact .inl rfl | exact .inr ⟨_, _, _, rfl, rfl, by kernel_rfl, by decide, rfl⟩) (fun a9 W9 hf9 => by have p84 := hf9 84 (by kernel_rfl); have h9 : a9.eval (.tmp 84) = (.agg #[.int .i64 num, .int .i64 u.kind, .int .i64 u.n, .string (bs u.s), .slice s.A u.l.length s.c, .slice s.B u.f.length s.d]) := p84.1; exact ⟨.slice (some ⟨W9.heap.size, 0, none⟩) 1 1, W9.alloc (Obj.cells #[.int .i64 num, .int .i64 u.kind, .int .i64 u.n, .string (bs u.s), .slice s.A u.l.length s.c, .slice s.B u.f.length s.d] 72), by simp [execOp, h9] <;> go_simp, ab1 _ _, fun s hs => by injection hs with hs; subst hs; exact ⟨W9.heap.size, rfl, Bx.new6 _ _ _ _ _ _ _ _, p84.2.size, upG p84.2 (ab1 _ _)⟩⟩)) (by kernel_rfl), ?_⟩
          exact fnl
        intro vv wv hvv hbv _ _
        have hv79 : vv 79 = vE := (hvv 79 (by decide)).1
        simp only [lay, List.foldl_cons, List.foldl_nil, List.setIfInBounds_toArray, List.set_cons_succ, List.set_cons_zero, hv79, List.drop_succ_cons, List.drop_zero]
        obtain ⟨gb, e35, hBb, -, -⟩ := hvv 85 (by decide)
        simp only [e35]
        have C1' := C1.next hbv
        have CX' := CX.next hbv
        have C2' := C2.next hbv
        have C3' := C3.next hbv
        have hb2 := Below.next hb hbv
        have hZ2 : w2.heap.size + 1 ≤ wv.heap.size := Nat.le_trans HZ.out hbv.size
        have hO2 := own_next HO.out hbv
        have hI2 := HI.out
        clear hvv e35 x0 x1 x2 x3 x4 x5 hblk c4 e4 l1 l3 C1 CX C2 C3 HO HI
        go_wp2_with (at_builtin; refine wpList_pushE rfl (.tmp 79) (.tmp 85) rfl (w2.heap.size + 1) w vE l xs (num, u) s gb 1 rfl rfl hO2 hI2 hrd hBb (by omega) hZ2 ?_; intro v' xs' w6 hO6 hI6 hg'; obtain ⟨Bv, nv, cv, rfl⟩ := own_slice2 hO6; have T3 := C3'.gbo hg' (fun g hg e => hne3 (by rw [hg, e])); have y0 := T3.c 4 rfl; have y1 := T3.f 4 rfl; have y2 := T3.lt)
        go_roundw
        case rel =>
          have hne4 : Value.ownBlock (.slice Bv nv cv) ≠ some w2.heap.size := fun e => by have := (hO6.lt _ e).1; omega
          have gs := gb_set1 w6 ⟨w2.heap.size, 4, none⟩ (.slice Bv nv cv)
          exact ⟨k + 1, true, .slice Bv nv cv, l ++ [(num, u)], xs', hk1.out, rfl, by go_num, HL2, Lib.hid (by rw [List.length_append]; simp; omega), Lib.hid (hO6.kept gs (.inr hne4)), Lib.hid hI6, (C1'.gbo hg' (fun g hg e => hne1 (by rw [hg, e]))).gb gs (by show _ ≠ w2.heap.size; omega), (CX'.gbo hg' (fun g hg e => hneX (by rw [hg, e]))).gb gs (by show _ ≠ w2.heap.size; omega), (C2'.gbo hg' (fun g hg e => hne2 (by rw [hg, e]))).gb gs (by show _ ≠ w2.heap.size; omega), T3.put1 4 _, (hb2.grown hg' hb2.size hgrw).setCell (by show w.heap.size ≤ w2.heap.size; omega) _, Lib.hid (Nat.le_trans hZ2 (Nat.le_trans hg'.size gs.size))⟩
        case measure => have := hk1.out; simp [intOf]; omega
      case false =>
        simp only [Bool.toNat_false, Nat.add_zero] at hll
        cases b
        case false =>
          by_cases hz : z < num
          · have dz : decide (z < num) = true := decide_eq_true hz
            have HL2 := Lib.hid (show ((l ++ [(z, x)]) ++ [(num, u)]) ++ rst true false z x (t.f.drop (k + 1)) = R by rw [← HTT.out, HRS.out]; simp [rst, insR, hz])
            clear HTT HRS hz
            obtain ⟨y0, y1, y2, y3, y4, y5⟩ := HXS.out
            have x0 := cell_next hb y0
            have x1 := cell_next hb y1
            have x2 := cell_next hb y2
            have x3 := cell_next hb y3
            have x4 := cell_next hb y4
            have x5 := cell_next hb y5
            clear y0 y1 y2 y3 y4 y5
            have hblk : (a.add (k * 6)).block < wr.heap.size := blk_lt x0
            have c4 := C1.c 4 rfl
            have l1 := C1.lt
            have hne1 : some w.heap.size ≠ vE.ownBlock := fun e => by have := (HO.out.lt _ e.symm).1; omega
            have hneX : some (w.heap.size + 1) ≠ vE.ownBlock := fun e => by have := (HO.out.lt _ e.symm).1; omega
            have hne2 : some (w.heap.size + 1 + 1) ≠ vE.ownBlock := fun e => by have := (HO.out.lt _ e.symm).1; omega
            have hne3 : some w2.heap.size ≠ vE.ownBlock := fun e => by have := (HO.out.lt _ e.symm).1; omega
            have hgrw : ∀ b, vE.ownBlock = some b → w.heap.size ≤ b := fun b e => by have := (HO.out.lt b e).1; omega
            have e4 := C3.c 4 rfl
            have l3 := C3.lt
            have m0 := CX.c 0 rfl
            have m1 := CX.c 1 rfl
            have m2 := CX.c 2 rfl
            have m3 := CX.c 3 rfl
            have m4 := CX.c 4 rfl
            have hbn := ab1 wr (Obj.cells #[.int .i64 z, .int .i64 x.kind, .int .i64 x.n, .string (bs x.s), .slice sx.A x.l.length sx.c, .slice sx.B x.f.length sx.d] 72)
            have hBn := Bx.new6 wr 72 (.int .i64 z) (.int .i64 x.kind) (.int .i64 x.n) (.string (bs x.s)) (.slice sx.A x.l.length sx.c) (.slice sx.B x.f.length sx.d)
            have C1' := C1.next hbn
            have CX' := CX.next hbn
            have C2' := C2.next hbn
            have C3' := C3.next hbn
            have hb2 := Below.next hb hbn
            have hZ2 : w2.heap.size + 1 ≤ (wr.alloc (Obj.cells #[.int .i64 z, .int .i64 x.kind, .int .i64 x.n, .string (bs x.s), .slice sx.A x.l.length sx.c, .slice sx.B x.f.length sx.d] 72)).heap.size := Nat.le_trans HZ.out hbn.size
            have hO2 := own_next HO.out hbn
            have hI2 := HI.out
            have l4 := C3'.lt
            clear C1 CX C2 C3 HO HI hbn
            go_upto_region 12 with (at_builtin; refine wpList_pushE rfl (.tmp 48) (.tmp 52) rfl (w2.heap.size + 1) w vE l xs (z, x) sx wr.heap.size 1 rfl rfl hO2 hI2 hrx hBn (by omega) hZ2 ?_; intro v' xs' w6 hO6 hI6 hg'; obtain ⟨Bv, nv, cv, rfl⟩ := own_slice2 hO6; have T3 := C3'.gbo hg' (fun g hg e => hne3 (by rw [hg, e])); have y0 := T3.c 4 rfl; have y1 := T3.f 4 rfl; have y2 := T3.lt)
            have hne4 : Value.ownBlock (.slice Bv nv cv) ≠ some w2.heap.size := fun e => by have := (hO6.lt _ e).1; omega
            have gs := gb_set1 w6 ⟨w2.heap.size, 4, none⟩ (.slice Bv nv cv)
            have C1 := (C1'.gbo hg' (fun g hg e => hne1 (by rw [hg, e]))).gb gs (by show _ ≠ w2.heap.size; omega)
            have CX := (CX'.gbo hg' (fun g hg e => hneX (by rw [hg, e]))).gb gs (by show _ ≠ w2.heap.size; omega)
            have C2 := (C2'.gbo hg' (fun g hg e => hne2 (by rw [hg, e]))).gb gs (by show _ ≠ w2.heap.size; omega)
            have C3 := T3.put1 4 (.slice Bv nv cv)
            have hb := (hb2.grown hg' hb2.size hgrw).setCell (p := ⟨w2.heap.size, 4, none⟩) (by show w.heap.size ≤ w2.heap.size; omega) (.slice Bv nv cv)
            have HZ := Lib.hid (Nat.le_trans hZ2 (Nat.le_trans hg'.size gs.size))
            have HO := Lib.hid (hO6.kept gs (.inr hne4))
            have HI := Lib.hid hI6
            clear hne1 hneX hne2 hne3 hne4 hgrw hb2 hZ2 hO2 hI2 l4 C1' CX' C2' C3' T3 y0 y1 y2 gs hO6 hI6 hg' hBn e4 l3 m0 m1 m2 m3 m4
            generalize w6.setCell ⟨w2.heap.size, 4, none⟩ (.slice Bv nv cv) = wq at *
            clear x0 x1 x2 x3 x4 x5 hblk c4 l1
            have hll2 : (l ++ [(z, x)]).length ≤ 1100000 := by rw [List.length_append]; simp; omega
            have HLn2 := Lib.hid (show (l ++ [(z, x)]).length ≤ k + 1 by rw [List.length_append]; simp; omega)
            clear hll
            generalize l ++ [(z, x)] = l7 at *
            have hll := HLn2.out
            obtain ⟨y0, y1, y2, y3, y4, y5⟩ := HXS.out
            have x0 := cell_next hb y0
            have x1 := cell_next hb y1
            have x2 := cell_next hb y2
            have x3 := cell_next hb y3
            have x4 := cell_next hb y4
            have x5 := cell_next hb y5
            clear y0 y1 y2 y3 y4 y5
            have hblk : (a.add (k * 6)).block < wq.heap.size := blk_lt x0
            have c4 := C1.c 4 rfl
            have l1 := C1.lt
            have hne1 : some w.heap.size ≠ (Value.slice Bv nv cv).ownBlock := fun e => by have := (HO.out.lt _ e.symm).1; omega
            have hneX : some (w.heap.size + 1) ≠ (Value.slice Bv nv cv).ownBlock := fun e => by have := (HO.out.lt _ e.symm).1; omega
            have hne2 : some (w.heap.size + 1 + 1) ≠ (Value.slice Bv nv cv).ownBlock := fun e => by have := (HO.out.lt _ e.symm).1; omega
            have hne3 : some w2.heap.size ≠ (Value.slice Bv nv cv).ownBlock := fun e => by have := (HO.out.lt _ e.symm).1; omega
            have hgrw : ∀ b, (Value.slice Bv nv cv).ownBlock = some b → w.heap.size ≤ b := fun b e => by have := (HO.out.lt b e).1; omega
            have e4 := C3.c 4 rfl
            have l3 := C3.lt
            go_upto_region 16 with (fail)
            refine wp_region_seqN (by kernel_rfl) (FF [(3, Fact.at_ wq (.pointer (some ⟨w.heap.size, 0, none⟩))), (9, Fact.at_ wq (.pointer (some ⟨w2.heap.size, 0, none⟩))), (11, Fact.at_ wq (.int .i64 (k : Int))), (78, Fact.at_ wq (.pointer (some ⟨w2.heap.size, 4, none⟩))), (79, Fact.at_ wq (.slice Bv nv cv)), (80, Fact.at_ wq (.pointer (some ⟨w.heap.size, 4, none⟩))), (81, Fact.at_ wq (.slice (some a) n d)), (82, Fact.at_ wq (.int .i64 (k : Int))), (83, Fact.at_ wq (.pointer (some (a.add (k * 6))))), (84, Fact.at_ wq (.agg #[.int .i64 num, .int .i64 u.kind, .int .i64 u.n, .string (bs u.s), .slice s.A u.l.length s.c, .slice s.B u.f.length s.d])), (85, FNb [.int .i64 num, .int .i64 u.kind, .int .i64 u.n, .string (bs u.s), .slice s.A u.l.length s.c, .slice s.B u.f.length s.d] wq)]) [3, 9, 11] [] 99 8 [78, 79, 80, 81, 82, 83, 84, 85] rfl (by kernel_rfl) (by kernel_rfl) (by decide) (by kernel_rfl) (by kernel_rfl) ?_ ?_ ?_
            · intro t9 ht9
              simp only [List.mem_cons, List.not_mem_nil, or_false] at ht9
              rcases ht9 with rfl | rfl | rfl
              · exact ⟨rfl, Below.refl _ _⟩
              · exact ⟨rfl, Below.refl _ _⟩
              · exact ⟨rfl, Below.refl _ _⟩
            · refine fcs ⟨Ob.new_ (at1 9 78 (.pointer (some ⟨w2.heap.size, 0, none⟩)) (.pointer (some ⟨w2.heap.size, 4, none⟩)) rfl (by first | exact .inl rfl | exact .inr ⟨_, _, _, rfl, rfl, by kernel_rfl, by decide, rfl⟩) (by kernel_rfl) rfl rfl (fun a9 W9 hb9 h9 => by simp [execOp, h9] <;> go_simp)) (by kernel_rfl), ?_⟩
              refine fcs ⟨Ob.new_ (at1 78 79 (.pointer (some ⟨w2.heap.size, 4, none⟩)) (.slice Bv nv cv) rfl (by first | exact .inl rfl | exact .inr ⟨_, _, _, rfl, rfl, by kernel_rfl, by decide, rfl⟩) (by kernel_rfl) rfl rfl (fun a9 W9 hb9 h9 => by have g0 := cell_next hb9 e4; simp [execOp, h9] <;> go_simp)) (by kernel_rfl), ?_⟩
              refine fcs ⟨Ob.new_ (at1 3 80 (.pointer (some ⟨w.heap.size, 0, none⟩)) (.pointer (some ⟨w.heap.size, 4, none⟩)) rfl (by first | exact .inl rfl | exact .inr ⟨_, _, _, rfl, rfl, by kernel_rfl, by decide, rfl⟩) (by kernel_rfl) rfl rfl (fun a9 W9 hb9 h9 => by simp [execOp, h9] <;> go_simp)) (by kernel_rfl), ?_⟩
              refine fcs ⟨Ob.new_ (at1 80 81 (.pointer (some ⟨w.heap.size, 4, none⟩)) (.slice (some a) n d) rfl (by first | exact .inl rfl | exact .inr ⟨_, _, _, rfl, rfl, by kernel_rfl, by decide, rfl⟩) (by kernel_rfl) rfl rfl (fun a9 W9 hb9 h9 => by have g0 := cell_next hb9 c4; simp [execOp, h9] <;> go_simp)) (by kernel_rfl), ?_⟩
              refine fcs ⟨Ob.new_ (atcopy 11 82 (.int .i64 (k : Int)) (.inl rfl) rfl (by first | exact .inl rfl | exact .inr ⟨_, _, _, rfl, rfl, by kernel_rfl, by decide, rfl⟩) (by kernel_rfl) rfl rfl) (by kernel_rfl), ?_⟩
              refine fcs ⟨Ob.new_ (at2 81 82 83 (.slice (some a) n d) (.int .i64 (k : Int)) (.pointer (some (a.add (k * 6)))) rfl (by first | exact .inl rfl | exact .inr ⟨_, _, _, rfl, rfl, by kernel_rfl, by decide, rfl⟩) (by kernel_rfl) (by kernel_rfl) rfl rfl rfl (fun a9 W9 hb9 h9 h8 => by simp [execOp, h9, h8] <;> go_simp)) (by kernel_rfl), ?_⟩
              refine fcs ⟨Ob.new_ (at1 83 84 (.pointer (some (a.add (k * 6)))) (.agg #[.int .i64 num, .int .i64 u.kind, .int .i64 u.n, .string (bs u.s), .slice s.A u.l.length s.c, .slice s.B u.f.length s.d]) rfl (by first | exact .inl rfl | exact .inr ⟨_, _, _, rfl, rfl, by kernel_rfl, by decide, rfl⟩) (by kernel_rfl) rfl rfl (fun a9 W9 hb9 h9 => by have g0 := cell_next hb9 x0; have g1 := cell_next hb9 x1; have g2 := cell_next hb9 x2; have g3 := cell_next hb9 x3; have g4 := cell_next hb9 x4; have g5 := cell_next hb9 x5; simp [execOp, h9] <;> go_simp)) (by kernel_rfl), ?_⟩
              refine fcs ⟨Ob.new_ (at_val (W0 := wq) (by first | exact .inl rfl | exact .inr ⟨_, _, _, rfl, rfl, by kernel_rfl, by decide, rfl⟩) (fun a9 W9 hf9 => by have p84 := hf9 84 (by kernel_rfl); have h9 : a9.eval (.tmp 84) = (.agg #[.int .i64 num, .int .i64 u.kind, .int .i64 u.n, .string (bs u.s), .slice s.A u.l.length s.c, .slice s.B u.f.length s.d]) := p84.1; exact ⟨.slice (some ⟨W9.heap.size, 0, none⟩) 1 1, W9.alloc (Obj.cells #[.int .i64 num, .int .i64 u.kind, .int .i64 u.n, .string (bs u.s), .slice s.A u.l.length s.c, .slice s.B u.f.length s.d] 72), by simp [execOp, h9] <;> go_simp, ab1 _ _, fun s hs => by injection hs with hs; subst hs; exact ⟨W9.heap.size, rfl, Bx.new6 _ _ _ _ _ _ _ _, p84.2.size, upG p84.2 (ab1 _ _)⟩⟩)) (by kernel_rfl), ?_⟩
              exact fnl
            intro vv wv hvv hbv _ _
            have hv79 : vv 79 = (.slice Bv nv cv) := (hvv 79 (by decide)).1
            simp only [lay, List.foldl_cons, List.foldl_nil, List.setIfInBounds_toArray, List.set_cons_succ, List.set_cons_zero, hv79, List.drop_succ_cons, List.drop_zero]
            obtain ⟨gb, e35, hBb, -, -⟩ := hvv 85 (by decide)
            simp only [e35]
            have C1' := C1.next hbv
            have CX' := CX.next hbv
            have C2' := C2.next hbv
            have C3' := C3.next hbv
            have hb2 := Below.next hb hbv
            have hZ2 : w2.heap.size + 1 ≤ wv.heap.size := Nat.le_trans HZ.out hbv.size
            have hO2 := own_next HO.out hbv
            have hI2 := HI.out
            clear hvv e35 x0 x1 x2 x3 x4 x5 hblk c4 e4 l1 l3 C1 CX C2 C3 HO HI
            go_wp2_with (at_builtin; refine wpList_pushE rfl (.tmp 79) (.tmp 85) rfl (w2.heap.size + 1) w (.slice Bv nv cv) l7 xs' (num, u) s gb 1 rfl rfl hO2 hI2 hrd hBb (by omega) hZ2 ?_; intro v' xs'' w7 hO6 hI6 hg'; obtain ⟨Bw, nw, cw, rfl⟩ := own_slice2 hO6; have T3 := C3'.gbo hg' (fun g hg e => hne3 (by rw [hg, e])); have y0 := T3.c 4 rfl; have y1 := T3.f 4 rfl; have y2 := T3.lt)
            go_roundw
            case rel =>
              have hne4 : Value.ownBlock (.slice Bw nw cw) ≠ some w2.heap.size := fun e => by have := (hO6.lt _ e).1; omega
              have gs := gb_set1 w7 ⟨w2.heap.size, 4, none⟩ (.slice Bw nw cw)
              exact ⟨k + 1, true, .slice Bw nw cw, l7 ++ [(num, u)], xs'', hk1.out, rfl, by go_num, HL2, Lib.hid (by rw [List.length_append]; simp; omega), Lib.hid (hO6.kept gs (.inr hne4)), Lib.hid hI6, (C1'.gbo hg' (fun g hg e => hne1 (by rw [hg, e]))).gb gs (by show _ ≠ w2.heap.size; omega), (CX'.gbo hg' (fun g hg e => hneX (by rw [hg, e]))).gb gs (by show _ ≠ w2.heap.size; omega), (C2'.gbo hg' (fun g hg e => hne2 (by rw [hg, e]))).gb gs (by show _ ≠ w2.heap.size; omega), T3.put1 4 _, (hb2.grown hg' hb2.size hgrw).setCell (by show w.heap.size ≤ w2.heap.size; omega) _, Lib.hid (Nat.le_trans hZ2 (Nat.le_trans hg'.size gs.size))⟩
            case measure => have := hk1.out; simp [intOf]; omega
          · have dz : decide (z < num) = false := decide_eq_false hz
            have HL2 := Lib.hid (show (l ++ [(num, u)]) ++ rst false false z x (t.f.drop (k + 1)) = R by rw [← HTT.out, HRS.out]; simp [rst, insR, hz])
            clear HTT HRS hz
            obtain ⟨y0, y1, y2, y3, y4, y5⟩ := HXS.out
            have x0 := cell_next hb y0
            have x1 := cell_next hb y1
            have x2 := cell_next hb y2
            have x3 := cell_next hb y3
            have x4 := cell_next hb y4
            have x5 := cell_next hb y5
            clear y0 y1 y2 y3 y4 y5
            have hblk : (a.add (k * 6)).block < wr.heap.size := blk_lt x0
            have c4 := C1.c 4 rfl
            have l1 := C1.lt
            have hne1 : some w.heap.size ≠ vE.ownBlock := fun e => by have := (HO.out.lt _ e.symm).1; omega
            have hneX : some (w.heap.size + 1) ≠ vE.ownBlock := fun e => by have := (HO.out.lt _ e.symm).1; omega
            have hne2 : some (w.heap.size + 1 + 1) ≠ vE.ownBlock := fun e => by have := (HO.out.lt _ e.symm).1; omega
            have hne3 : some w2.heap.size ≠ vE.ownBlock := fun e => by have := (HO.out.lt _ e.symm).1; omega
            have hgrw : ∀ b, vE.ownBlock = some b → w.heap.size ≤ b := fun b e => by have := (HO.out.lt b e).1; omega
            have e4 := C3.c 4 rfl
            have l3 := C3.lt
            go_upto_region 16 with (fail)
            refine wp_region_seqN (by kernel_rfl) (FF [(3, Fact.at_ wr (.pointer (some ⟨w.heap.size, 0, none⟩))), (9, Fact.at_ wr (.pointer (some ⟨w2.heap.size, 0, none⟩))), (11, Fact.at_ wr (.int .i64 (k : Int))), (78, Fact.at_ wr (.pointer (some ⟨w2.heap.size, 4, none⟩))), (79, Fact.at_ wr vE), (80, Fact.at_ wr (.pointer (some ⟨w.heap.size, 4, none⟩))), (81, Fact.at_ wr (.slice (some a) n d)), (82, Fact.at_ wr (.int .i64 (k : Int))), (83, Fact.at_ wr (.pointer (some (a.add (k * 6))))), (84, Fact.at_ wr (.agg #[.int .i64 num, .int .i64 u.kind, .int .i64 u.n, .string (bs u.s), .slice s.A u.l.length s.c, .slice s.B u.f.length s.d])), (85, FNb [.int .i64 num, .int .i64 u.kind, .int .i64 u.n, .string (bs u.s), .slice s.A u.l.length s.c, .slice s.B u.f.length s.d] wr)]) [3, 9, 11] [] 99 8 [78, 79, 80, 81, 82, 83, 84, 85] rfl (by kernel_rfl) (by kernel_rfl) (by decide) (by kernel_rfl) (by kernel_rfl) ?_ ?_ ?_
            · intro t9 ht9
              simp only [List.mem_cons, List.not_mem_nil, or_false] at ht9
              rcases ht9 with rfl | rfl | rfl
              · exact ⟨rfl, Below.refl _ _⟩
              · exact ⟨rfl, Below.refl _ _⟩
              · exact ⟨rfl, Below.refl _ _⟩
            · refine fcs ⟨Ob.new_ (at1 9 78 (.pointer (some ⟨w2.heap.size, 0, none⟩)) (.pointer (some ⟨w2.heap.size, 4, none⟩)) rfl (by first | exact .inl rfl | exact .inr ⟨_, _, _, rfl, rfl, by kernel_rfl, by decide, rfl⟩) (by kernel_rfl) rfl rfl (fun a9 W9 hb9 h9 => by simp [execOp, h9] <;> go_simp)) (by kernel_rfl), ?_⟩
              refine fcs ⟨Ob.new_ (at1 78 79 (.pointer (some ⟨w2.heap.size, 4, none⟩)) vE rfl (by first | exact .inl rfl | exact .inr ⟨_, _, _, rfl, rfl, by kernel_rfl, by decide, rfl⟩) (by kernel_rfl) rfl rfl (fun a9 W9 hb9 h9 => by have g0 := cell_next hb9 e4; simp [execOp, h9] <;> go_simp)) (by kernel_rfl), ?_⟩
              refine fcs ⟨Ob.new_ (at1 3 80 (.pointer (some ⟨w.heap.size, 0, none⟩)) (.pointer (some ⟨w.heap.size, 4, none⟩)) rfl (by first | exact .inl rfl | exact .inr ⟨_, _, _, rfl, rfl, by kernel_rfl, by decide, rfl⟩) (by kernel_rfl) rfl rfl (fun a9 W9 hb9 h9 => by simp [execOp, h9] <;> go_simp)) (by kernel_rfl), ?_⟩
              refine fcs ⟨Ob.new_ (at1 80 81 (.pointer (some ⟨w.heap.size, 4, none⟩)) (.slice (some a) n d) rfl (by first | exact .inl rfl | exact .inr ⟨_, _, _, rfl, rfl, by kernel_rfl, by decide, rfl⟩) (by kernel_rfl) rfl rfl (fun a9 W9 hb9 h9 => by have g0 := cell_next hb9 c4; simp [execOp, h9] <;> go_simp)) (by kernel_rfl), ?_⟩
              refine fcs ⟨Ob.new_ (atcopy 11 82 (.int .i64 (k : Int)) (.inl rfl) rfl (by first | exact .inl rfl | exact .inr ⟨_, _, _, rfl, rfl, by kernel_rfl, by decide, rfl⟩) (by kernel_rfl) rfl rfl) (by kernel_rfl), ?_⟩
              refine fcs ⟨Ob.new_ (at2 81 82 83 (.slice (some a) n d) (.int .i64 (k : Int)) (.pointer (some (a.add (k * 6)))) rfl (by first | exact .inl rfl | exact .inr ⟨_, _, _, rfl, rfl, by kernel_rfl, by decide, rfl⟩) (by kernel_rfl) (by kernel_rfl) rfl rfl rfl (fun a9 W9 hb9 h9 h8 => by simp [execOp, h9, h8] <;> go_simp)) (by kernel_rfl), ?_⟩
              refine fcs ⟨Ob.new_ (at1 83 84 (.pointer (some (a.add (k * 6)))) (.agg #[.int .i64 num, .int .i64 u.kind, .int .i64 u.n, .string (bs u.s), .slice s.A u.l.length s.c, .slice s.B u.f.length s.d]) rfl (by first | exact .inl rfl | exact .inr ⟨_, _, _, rfl, rfl, by kernel_rfl, by decide, rfl⟩) (by kernel_rfl) rfl rfl (fun a9 W9 hb9 h9 => by have g0 := cell_next hb9 x0; have g1 := cell_next hb9 x1; have g2 := cell_next hb9 x2; have g3 := cell_next hb9 x3; have g4 := cell_next hb9 x4; have g5 := cell_next hb9 x5; simp [execOp, h9] <;> go_simp)) (by kernel_rfl), ?_⟩
              refine fcs ⟨Ob.new_ (at_val (W0 := wr) (by first | exact .inl rfl | exact .inr ⟨_, _, _, rfl, rfl, by kernel_rfl, by decide, rfl⟩) (fun a9 W9 hf9 => by have p84 := hf9 84 (by kernel_rfl); have h9 : a9.eval (.tmp 84) = (.agg #[.int .i64 num, .int .i64 u.kind, .int .i64 u.n, .string (bs u.s), .slice s.A u.l.length s.c, .slice s.B u.f.length s.d]) := p84.1; exact ⟨.slice (some ⟨W9.heap.size, 0, none⟩) 1 1, W9.alloc (Obj.cells #[.int .i64 num, .int .i64 u.kind, .int .i64 u.n, .string (bs u.s), .slice s.A u.l.length s.c, .slice s.B u.f.length s.d] 72), by simp [execOp, h9] <;> go_simp, ab1 _ _, fun s hs => by injection hs with hs; subst hs; exact ⟨W9.heap.size, rfl, Bx.new6 _ _ _ _ _ _ _ _, p84.2.size, upG p84.2 (ab1 _ _)⟩⟩)) (by kernel_rfl), ?_⟩
              exact fnl
            intro vv wv hvv hbv _ _
            have hv79 : vv 79 = vE := (hvv 79 (by decide)).1
            simp only [lay, List.foldl_cons, List.foldl_nil, List.setIfInBounds_toArray, List.set_cons_succ, List.set_cons_zero, hv79, List.drop_succ_cons, List.drop_zero]
            obtain ⟨gb, e35, hBb, -, -⟩ := hvv 85 (by decide)
            simp only [e35]
            have C1' := C1.next hbv
            have CX' := CX.next hbv
            have C2' := C2.next hbv
            have C3' := C3.next hbv
            have hb2 := Below.next hb hbv
            have hZ2 : w2.heap.size + 1 ≤ wv.heap.size := Nat.le_trans HZ.out hbv.size
            have hO2 := own_next HO.out hbv
            have hI2 := HI.out
            clear hvv e35 x0 x1 x2 x3 x4 x5 hblk c4 e4 l1 l3 C1 CX C2 C3 HO HI
            go_wp2_with (at_builtin; refine wpList_pushE rfl (.tmp 79) (.tmp 85) rfl (w2.heap.size + 1) w vE l xs (num, u) s gb 1 rfl rfl hO2 hI2 hrd hBb (by omega) hZ2 ?_; intro v' xs' w6 hO6 hI6 hg'; obtain ⟨Bv, nv, cv, rfl⟩ := own_slice2 hO6; have T3 := C3'.gbo hg' (fun g hg e => hne3 (by rw [hg, e])); have y0 := T3.c 4 rfl; have y1 := T3.f 4 rfl; have y2 := T3.lt)
            go_roundw
            case rel =>
              have hne4 : Value.ownBlock (.slice Bv nv cv) ≠ some w2.heap.size := fun e => by have := (hO6.lt _ e).1; omega
              have gs := gb_set1 w6 ⟨w2.heap.size, 4, none⟩ (.slice Bv nv cv)
              exact ⟨k + 1, false, .slice Bv nv cv, l ++ [(num, u)], xs', hk1.out, rfl, by go_num, HL2, Lib.hid (by rw [List.length_append]; simp; omega), Lib.hid (hO6.kept gs (.inr hne4)), Lib.hid hI6, (C1'.gbo hg' (fun g hg e => hne1 (by rw [hg, e]))).gb gs (by show _ ≠ w2.heap.size; omega), (CX'.gbo hg' (fun g hg e => hneX (by rw [hg, e]))).gb gs (by show _ ≠ w2.heap.size; omega), (C2'.gbo hg' (fun g hg e => hne2 (by rw [hg, e]))).gb gs (by show _ ≠ w2.heap.size; omega), T3.put1 4 _, (hb2.grown hg' hb2.size hgrw).setCell (by show w.heap.size ≤ w2.heap.size; omega) _, Lib.hid (Nat.le_trans hZ2 (Nat.le_trans hg'.size gs.size))⟩
            case measure => have := hk1.out; simp [intOf]; omega
        case true =>
          by_cases hz : num = z
          · have dz : (num == z) = true := by simpa using hz
            have HL2 := Lib.hid (show (l ++ [(z, x)]) ++ rst true true z x (t.f.drop (k + 1)) = R by rw [← HTT.out, HRS.out]; simp [rst, insR, hz])
            clear HTT HRS hz
            obtain ⟨y0, y1, y2, y3, y4, y5⟩ := HXS.out
            have x0 := cell_next hb y0
            have x1 := cell_next hb y1
            have x2 := cell_next hb y2
            have x3 := cell_next hb y3
            have x4 := cell_next hb y4
            have x5 := cell_next hb y5
            clear y0 y1 y2 y3 y4 y5
            have hblk : (a.add (k * 6)).block < wr.heap.size := blk_lt x0
            have c4 := C1.c 4 rfl
            have l1 := C1.lt
            have hne1 : some w.heap.size ≠ vE.ownBlock := fun e => by have := (HO.out.lt _ e.symm).1; omega
            have hneX : some (w.heap.size + 1) ≠ vE.ownBlock := fun e => by have := (HO.out.lt _ e.symm).1; omega
            have hne2 : some (w.heap.size + 1 + 1) ≠ vE.ownBlock := fun e => by have := (HO.out.lt _ e.symm).1; omega
            have hne3 : some w2.heap.size ≠ vE.ownBlock := fun e => by have := (HO.out.lt _ e.symm).1; omega
            have hgrw : ∀ b, vE.ownBlock = some b → w.heap.size ≤ b := fun b e => by have := (HO.out.lt b e).1; omega
            have e4 := C3.c 4 rfl
            have l3 := C3.lt
            have m0 := CX.c 0 rfl
            have m1 := CX.c 1 rfl
            have m2 := CX.c 2 rfl
            have m3 := CX.c 3 rfl
            have m4 := CX.c 4 rfl
            have hbn := ab1 wr (Obj.cells #[.int .i64 z, .int .i64 x.kind, .int .i64 x.n, .string (bs x.s), .slice sx.A x.l.length sx.c, .slice sx.B x.f.length sx.d] 72)
            have hBn := Bx.new6 wr 72 (.int .i64 z) (.int .i64 x.kind) (.int .i64 x.n) (.string (bs x.s)) (.slice sx.A x.l.length sx.c) (.slice sx.B x.f.length sx.d)
            have C1' := C1.next hbn
            have CX' := CX.next hbn
            have C2' := C2.next hbn
            have C3' := C3.next hbn
            have hb2 := Below.next hb hbn
            have hZ2 : w2.heap.size + 1 ≤ (wr.alloc (Obj.cells #[.int .i64 z, .int .i64 x.kind, .int .i64 x.n, .string (bs x.s), .slice sx.A x.l.length sx.c, .slice sx.B x.f.length sx.d] 72)).heap.size := Nat.le_trans HZ.out hbn.size
            have hO2 := own_next HO.out hbn
            have hI2 := HI.out
            have l4 := C3'.lt
            clear C1 CX C2 C3 HO HI hbn
            go_wp2_with (at_builtin; refine wpList_pushE rfl (.tmp 71) (.tmp 75) rfl (w2.heap.size + 1) w vE l xs (z, x) sx wr.heap.size 1 rfl rfl hO2 hI2 hrx hBn (by omega) hZ2 ?_; intro v' xs' w6 hO6 hI6 hg'; obtain ⟨Bv, nv, cv, rfl⟩ := own_slice2 hO6; have T3 := C3'.gbo hg' (fun g hg e => hne3 (by rw [hg, e])); have y0 := T3.c 4 rfl; have y1 := T3.f 4 rfl; have y2 := T3.lt)
            go_roundw
            case rel =>
              have hne4 : Value.ownBlock (.slice Bv nv cv) ≠ some w2.heap.size := fun e => by have := (hO6.lt _ e).1; omega
              have gs := gb_set1 w6 ⟨w2.heap.size, 4, none⟩ (.slice Bv nv cv)
              have C1 := (C1'.gbo hg' (fun g hg e => hne1 (by rw [hg, e]))).gb gs (by show _ ≠ w2.heap.size; omega)
              have CX := (CX'.gbo hg' (fun g hg e => hneX (by rw [hg, e]))).gb gs (by show _ ≠ w2.heap.size; omega)
              have C2 := (C2'.gbo hg' (fun g hg e => hne2 (by rw [hg, e]))).gb gs (by show _ ≠ w2.heap.size; omega)
              have C3 := T3.put1 4 (.slice Bv nv cv)
              have hb := (hb2.grown hg' hb2.size hgrw).setCell (p := ⟨w2.heap.size, 4, none⟩) (by show w.heap.size ≤ w2.heap.size; omega) (.slice Bv nv cv)
              have HZ := Lib.hid (Nat.le_trans hZ2 (Nat.le_trans hg'.size gs.size))
              have HO := Lib.hid (hO6.kept gs (.inr hne4))
              have HI := Lib.hid hI6
              clear hne1 hneX hne2 hne3 hne4 hgrw hb2 hZ2 hO2 hI2 l4 C1' CX' C2' C3' T3 y0 y1 y2 gs hO6 hI6 hg' hBn e4 l3 m0 m1 m2 m3 m4
              exact ⟨k + 1, true, .slice Bv nv cv, l ++ [(z, x)], xs', hk1.out, rfl, by go_num, HL2, Lib.hid (by rw [List.length_append]; simp; omega), HO, HI, C1, CX, C2, C3, hb, HZ⟩
            case measure => have := hk1.out; simp [intOf]; omega
          · have dz : (num == z) = false := by simpa using hz
            have HL2 := Lib.hid (show (l ++ [(num, u)]) ++ rst false true z x (t.f.drop (k + 1)) = R by rw [← HTT.out, HRS.out]; simp [rst, insR, hz])
            clear HTT HRS hz
            obtain ⟨y0, y1, y2, y3, y4, y5⟩ := HXS.out
            have x0 := cell_next hb y0
            have x1 := cell_next hb y1
            have x2 := cell_next hb y2
            have x3 := cell_next hb y3
            have x4 := cell_next hb y4
            have x5 := cell_next hb y5
            clear y0 y1 y2 y3 y4 y5
            have hblk : (a.add (k * 6)).block < wr.heap.size := blk_lt x0
            have c4 := C1.c 4 rfl
            have l1 := C1.lt
            have hne1 : some w.heap.size ≠ vE.ownBlock := fun e => by have := (HO.out.lt _ e.symm).1; omega
            have hneX : some (w.heap.size + 1) ≠ vE.ownBlock := fun e => by have := (HO.out.lt _ e.symm).1; omega
            have hne2 : some (w.heap.size + 1 + 1) ≠ vE.ownBlock := fun e => by have := (HO.out.lt _ e.symm).1; omega
            have hne3 : some w2.heap.size ≠ vE.ownBlock := fun e => by have := (HO.out.lt _ e.symm).1; omega
            have hgrw : ∀ b, vE.ownBlock = some b → w.heap.size ≤ b := fun b e => by have := (HO.out.lt b e).1; omega
            have e4 := C3.c 4 rfl
            have l3 := C3.lt
            go_upto_region 16 with (fail)
            refine wp_region_seqN (by kernel_rfl) (FF [(3, Fact.at_ wr (.pointer (some ⟨w.heap.size, 0, none⟩))), (9, Fact.at_ wr (.pointer (some ⟨w2.heap.size, 0, none⟩))), (11, Fact.at_ wr (.int .i64 (k : Int))), (78, Fact.at_ wr (.pointer (some ⟨w2.heap.size, 4, none⟩))), (79, Fact.at_ wr vE), (80, Fact.at_ wr (.pointer (some ⟨w.heap.size, 4, none⟩))), (81, Fact.at_ wr (.slice (some a) n d)), (82, Fact.at_ wr (.int .i64 (k : Int))), (83, Fact.at_ wr (.pointer (some (a.add (k * 6))))), (84, Fact.at_ wr (.agg #[.int .i64 num, .int .i64 u.kind, .int .i64 u.n, .string (bs u.s), .slice s.A u.l.length s.c, .slice s.B u.f.length s.d])), (85, FNb [.int .i64 num, .int .i64 u.kind, .int .i64 u.n, .string (bs u.s), .slice s.A u.l.length s.c, .slice s.B u.f.length s.d] wr)]) [3, 9, 11] [] 99 8 [78, 79, 80, 81, 82, 83, 84, 85] rfl (by kernel_rfl) (by kernel_rfl) (by decide) (by kernel_rfl) (by kernel_rfl) ?_ ?_ ?_
            · intro t9 ht9
              simp only [List.mem_cons, List.not_mem_nil, or_false] at ht9
              rcases ht9 with rfl | rfl | rfl
              · exact ⟨rfl, Below.refl _ _⟩
              · exact ⟨rfl, Below.refl _ _⟩
              · exact ⟨rfl, Below.refl _ _⟩
            · refine fcs ⟨Ob.new_ (at1 9 78 (.pointer (some ⟨w2.heap.size, 0, none⟩)) (.pointer (some ⟨w2.heap.size, 4, none⟩)) rfl (by first | exact .inl rfl | exact .inr ⟨_, _, _, rfl, rfl, by kernel_rfl, by decide, rfl⟩) (by kernel_rfl) rfl rfl (fun a9 W9 hb9 h9 => by simp [execOp, h9] <;> go_simp)) (by kernel_rfl), ?_⟩
              refine fcs ⟨Ob.new_ (at1 78 79 (.pointer (some ⟨w2.heap.size, 4, none⟩)) vE rfl (by first | exact .inl rfl | exact .inr ⟨_, _, _, rfl, rfl, by kernel_rfl, by decide, rfl⟩) (by kernel_rfl) rfl rfl (fun a9 W9 hb9 h9 => by have g0 := cell_next hb9 e4; simp [execOp, h9] <;> go_simp)) (by kernel_rfl), ?_⟩
              refine fcs ⟨Ob.new_ (at1 3 80 (.pointer (some ⟨w.heap.size, 0, none⟩)) (.pointer (some ⟨w.heap.size, 4, none⟩)) rfl (by first | exact .inl rfl | exact .inr ⟨_, _, _, rfl, rfl, by kernel_rfl, by decide, rfl⟩) (by kernel_rfl) rfl rfl (fun a9 W9 hb9 h9 => by simp [execOp, h9] <;> go_simp)) (by kernel_rfl), ?_⟩
              refine fcs ⟨Ob.new_ (at1 80 81 (.pointer (some ⟨w.heap.size, 4, none⟩)) (.slice (some a) n d) rfl (by first | exact .inl rfl | exact .inr ⟨_, _, _, rfl, rfl, by kernel_rfl, by decide, rfl⟩) (by kernel_rfl) rfl rfl (fun a9 W9 hb9 h9 => by have g0 := cell_next hb9 c4; simp [execOp, h9] <;> go_simp)) (by kernel_rfl), ?_⟩
              refine fcs ⟨Ob.new_ (atcopy 11 82 (.int .i64 (k : Int)) (.inl rfl) rfl (by first | exact .inl rfl | exact .inr ⟨_, _, _, rfl, rfl, by kernel_rfl, by decide, rfl⟩) (by kernel_rfl) rfl rfl) (by kernel_rfl), ?_⟩
              refine fcs ⟨Ob.new_ (at2 81 82 83 (.slice (some a) n d) (.int .i64 (k : Int)) (.pointer (some (a.add (k * 6)))) rfl (by first | exact .inl rfl | exact .inr ⟨_, _, _, rfl, rfl, by kernel_rfl, by decide, rfl⟩) (by kernel_rfl) (by kernel_rfl) rfl rfl rfl (fun a9 W9 hb9 h9 h8 => by simp [execOp, h9, h8] <;> go_simp)) (by kernel_rfl), ?_⟩
              refine fcs ⟨Ob.new_ (at1 83 84 (.pointer (some (a.add (k * 6)))) (.agg #[.int .i64 num, .int .i64 u.kind, .int .i64 u.n, .string (bs u.s), .slice s.A u.l.length s.c, .slice s.B u.f.length s.d]) rfl (by first | exact .inl rfl | exact .inr ⟨_, _, _, rfl, rfl, by kernel_rfl, by decide, rfl⟩) (by kernel_rfl) rfl rfl (fun a9 W9 hb9 h9 => by have g0 := cell_next hb9 x0; have g1 := cell_next hb9 x1; have g2 := cell_next hb9 x2; have g3 := cell_next hb9 x3; have g4 := cell_next hb9 x4; have g5 := cell_next hb9 x5; simp [execOp, h9] <;> go_simp)) (by kernel_rfl), ?_⟩
              refine fcs ⟨Ob.new_ (at_val (W0 := wr) (by first | exact .inl rfl | exact .inr ⟨_, _, _, rfl, rfl, by kernel_rfl, by decide, rfl⟩) (fun a9 W9 hf9 => by have p84 := hf9 84 (by kernel_rfl); have h9 : a9.eval (.tmp 84) = (.agg #[.int .i64 num, .int .i64 u.kind, .int .i64 u.n, .string (bs u.s), .slice s.A u.l.length s.c, .slice s.B u.f.length s.d]) := p84.1; exact ⟨.slice (some ⟨W9.heap.size, 0, none⟩) 1 1, W9.alloc (Obj.cells #[.int .i64 num, .int .i64 u.kind, .int .i64 u.n, .string (bs u.s), .slice s.A u.l.length s.c, .slice s.B u.f.length s.d] 72), by simp [execOp, h9] <;> go_simp, ab1 _ _, fun s hs => by injection hs with hs; subst hs; exact ⟨W9.heap.size, rfl, Bx.new6 _ _ _ _ _ _ _ _, p84.2.size, upG p84.2 (ab1 _ _)⟩⟩)) (by kernel_rfl), ?_⟩
              exact fnl
            intro vv wv hvv hbv _ _
            have hv79 : vv 79 = vE := (hvv 79 (by decide)).1
            simp only [lay, List.foldl_cons, List.foldl_nil, List.setIfInBounds_toArray, List.set_cons_succ, List.set_cons_zero, hv79, List.drop_succ_cons, List.drop_zero]
            obtain ⟨gb, e35, hBb, -, -⟩ := hvv 85 (by decide)
            simp only [e35]
            have C1' := C1.next hbv
            have CX' := CX.next hbv
            have C2' := C2.next hbv
            have C3' := C3.next hbv
            have hb2 := Below.next hb hbv
            have hZ2 : w2.heap.size + 1 ≤ wv.heap.size := Nat.le_trans HZ.out hbv.size
            have hO2 := own_next HO.out hbv
            have hI2 := HI.out
            clear hvv e35 x0 x1 x2 x3 x4 x5 hblk c4 e4 l1 l3 C1 CX C2 C3 HO HI
            go_wp2_with (at_builtin; refine wpList_pushE rfl (.tmp 79) (.tmp 85) rfl (w2.heap.size + 1) w vE l xs (num, u) s gb 1 rfl rfl hO2 hI2 hrd hBb (by omega) hZ2 ?_; intro v' xs' w6 hO6 hI6 hg'; obtain ⟨Bv, nv, cv, rfl⟩ := own_slice2 hO6; have T3 := C3'.gbo hg' (fun g hg e => hne3 (by rw [hg, e])); have y0 := T3.c 4 rfl; have y1 := T3.f 4 rfl; have y2 := T3.lt)
            go_roundw
            case rel =>
              have hne4 : Value.ownBlock (.slice Bv nv cv) ≠ some w2.heap.size := fun e => by have := (hO6.lt _ e).1; omega
              have gs := gb_set1 w6 ⟨w2.heap.size, 4, none⟩ (.slice Bv nv cv)
              exact ⟨k + 1, false, .slice Bv nv cv, l ++ [(num, u)], xs', hk1.out, rfl, by go_num, HL2, Lib.hid (by rw [List.length_append]; simp; omega), Lib.hid (hO6.kept gs (.inr hne4)), Lib.hid hI6, (C1'.gbo hg' (fun g hg e => hne1 (by rw [hg, e]))).gb gs (by show _ ≠ w2.heap.size; omega), (CX'.gbo hg' (fun g hg e => hneX (by rw [hg, e]))).gb gs (by show _ ≠ w2.heap.size; omega), (C2'.gbo hg' (fun g hg e => hne2 (by rw [hg, e]))).gb gs (by show _ ≠ w2.heap.size; omega), T3.put1 4 _, (hb2.grown hg' hb2.size hgrw).setCell (by show w.heap.size ≤ w2.heap.size; omega) _, Lib.hid (Nat.le_trans hZ2 (Nat.le_trans hg'.size gs.size))⟩
            case measure => have := hk1.out; simp [intOf]; omega
    · obtain rfl : k = n := by omega
      have HL1 := Lib.hid (show l ++ rst dn b z x [] = R by rw [← HL.out, ← HN.out, List.drop_length])
      have hll := HLn.out
      clear HL hR2
      have c4 := C1.c 4 rfl
      have l1 := C1.lt
      cases dn
      case true =>
        have HL2 := Lib.hid (show R = l by rw [← HL1.out]; simp [rst])
        clear HL1
        obtain ⟨Bv, nv, cv, rfl⟩ := own_slice2 HO.out
        obtain rfl : nv = l.length := by obtain ⟨_, _, e⟩ := own_form HO.out; injection e
        obtain ⟨nv, hnv⟩ : ∃ nv, l.length = nv := ⟨_, rfl⟩
        rw [hnv] at HO C3
        have HNV := Lib.hid hnv
        clear hnv
        have s0 := C3.c 0 rfl
        have s1 := C3.c 1 rfl
        have s2 := C3.c 2 rfl
        have s3 := C3.c 3 rfl
        have s4 := C3.c 4 rfl
        have l3 := C3.lt
        have r0 := C2.c 0 rfl
        have r1 := C2.c 1 rfl
        have r2 := C2.c 2 rfl
        have r3 := C2.c 3 rfl
        have r4 := C2.c 4 rfl
        have q0 := C2.f 0 rfl
        have q1 := C2.f 1 rfl
        have q2 := C2.f 2 rfl
        have q3 := C2.f 3 rfl
        have q4 := C2.f 4 rfl
        have l2 := C2.lt
        have hfin := gb5 hb (b := w.heap.size + 1 + 1) (by omega) (.int .i64 t.kind) (.int .i64 t.n) (.string (bs t.s)) (.slice A m c) (.slice Bv nv cv)
        have hKF := Kpl.gb (hi := w2.heap.size + 1) (gb_set5 wr (w.heap.size + 1 + 1) (.int .i64 t.kind) (.int .i64 t.n) (.string (bs t.s)) (.slice A m c) (.slice Bv nv cv)) (by omega)
        go_wp2_with fail
        refine bodyPost_ret (v := .agg #[.int .i64 t.kind, .int .i64 t.n, .string (bs t.s), .slice A m c, .slice Bv nv cv]) (by simp [results, Try.results21, go_sem, r0, r1, r2, r3, r4]) rfl ?_
        generalize (((((wr.setCell ⟨w.heap.size + 1 + 1, 0, none⟩ (.int .i64 t.kind)).setCell ⟨w.heap.size + 1 + 1, 1, none⟩ (.int .i64 t.n)).setCell ⟨w.heap.size + 1 + 1, 2, none⟩ (.string (bs t.s))).setCell ⟨w.heap.size + 1 + 1, 3, none⟩ (.slice A m c)).setCell ⟨w.heap.size + 1 + 1, 4, none⟩ (.slice Bv nv cv)) = wF at *
        rw [HW.out, HL2.out, ← HM.out]
        exact wtP_of HNV.out rfl rfl rfl rfl (hR.next fun x p => VlA.next hfin x p) (rowE_end HO.out hKF HNV.out HI.out hfin) hfin
      case false =>
        simp only [Bool.toNat_false, Nat.add_zero] at hll
        have HL2' := Lib.hid (show R = l ++ [(z, x)] by rw [← HL1.out]; simp [rst, insR])
        clear HL1
        have hne1 : some w.heap.size ≠ vE.ownBlock := fun e => by have := (HO.out.lt _ e.symm).1; omega
        have hneX : some (w.heap.size + 1) ≠ vE.ownBlock := fun e => by have := (HO.out.lt _ e.symm).1; omega
        have hne2 : some (w.heap.size + 1 + 1) ≠ vE.ownBlock := fun e => by have := (HO.out.lt _ e.symm).1; omega
        have hne3 : some w2.heap.size ≠ vE.ownBlock := fun e => by have := (HO.out.lt _ e.symm).1; omega
        have hgrw : ∀ b, vE.ownBlock = some b → w.heap.size ≤ b := fun b e => by have := (HO.out.lt b e).1; omega
        have e4 := C3.c 4 rfl
        have l3 := C3.lt
        have m0 := CX.c 0 rfl
        have m1 := CX.c 1 rfl
        have m2 := CX.c 2 rfl
        have m3 := CX.c 3 rfl
        have m4 := CX.c 4 rfl
        have hbn := ab1 wr (Obj.cells #[.int .i64 z, .int .i64 x.kind, .int .i64 x.n, .string (bs x.s), .slice sx.A x.l.length sx.c, .slice sx.B x.f.length sx.d] 72)
        have hBn := Bx.new6 wr 72 (.int .i64 z) (.int .i64 x.kind) (.int .i64 x.n) (.string (bs x.s)) (.slice sx.A x.l.length sx.c) (.slice sx.B x.f.length sx.d)
        have C1' := C1.next hbn
        have CX' := CX.next hbn
        have C2' := C2.next hbn
        have C3' := C3.next hbn
        have hb2 := Below.next hb hbn
        have hZ2 : w2.heap.size + 1 ≤ (wr.alloc (Obj.cells #[.int .i64 z, .int .i64 x.kind, .int .i64 x.n, .string (bs x.s), .slice sx.A x.l.length sx.c, .slice sx.B x.f.length sx.d] 72)).heap.size := Nat.le_trans HZ.out hbn.size
        have hO2 := own_next HO.out hbn
        have hI2 := HI.out
        have l4 := C3'.lt
        clear C1 CX C2 C3 HO HI hbn
        go_upto_region 19 with (at_builtin; refine wpList_pushE rfl (.tmp 91) (.tmp 95) rfl (w2.heap.size + 1) w vE l xs (z, x) sx wr.heap.size 1 rfl rfl hO2 hI2 hrx hBn (by omega) hZ2 ?_; intro v' xs' w6 hO6 hI6 hg'; obtain ⟨Bv, nv, cv, rfl⟩ := own_slice2 hO6; have T3 := C3'.gbo hg' (fun g hg e => hne3 (by rw [hg, e])); have y0 := T3.c 4 rfl; have y1 := T3.f 4 rfl; have y2 := T3.lt)
        have hne4 : Value.ownBlock (.slice Bv nv cv) ≠ some w2.heap.size := fun e => by have := (hO6.lt _ e).1; omega
        have gs := gb_set1 w6 ⟨w2.heap.size, 4, none⟩ (.slice Bv nv cv)
        have C1 := (C1'.gbo hg' (fun g hg e => hne1 (by rw [hg, e]))).gb gs (by show _ ≠ w2.heap.size; omega)
        have CX := (CX'.gbo hg' (fun g hg e => hneX (by rw [hg, e]))).gb gs (by show _ ≠ w2.heap.size; omega)
        have C2 := (C2'.gbo hg' (fun g hg e => hne2 (by rw [hg, e]))).gb gs (by show _ ≠ w2.heap.size; omega)
        have C3 := T3.put1 4 (.slice Bv nv cv)
        have hb := (hb2.grown hg' hb2.size hgrw).setCell (p := ⟨w2.heap.size, 4, none⟩) (by show w.heap.size ≤ w2.heap.size; omega) (.slice Bv nv cv)
        have HZ := Lib.hid (Nat.le_trans hZ2 (Nat.le_trans hg'.size gs.size))
        have HO := Lib.hid (hO6.kept gs (.inr hne4))
        have HI := Lib.hid hI6
        clear hne1 hneX hne2 hne3 hne4 hgrw hb2 hZ2 hO2 hI2 l4 C1' CX' C2' C3' T3 y0 y1 y2 gs hO6 hI6 hg' hBn e4 l3 m0 m1 m2 m3 m4
        generalize w6.setCell ⟨w2.heap.size, 4, none⟩ (.slice Bv nv cv) = wq at *
        have HL2 := HL2'
        clear c4 l1 HL2' hll
        generalize l ++ [(z, x)] = l7 at *
        have hnv : l7.length = nv := by obtain ⟨_, _, e⟩ := own_form HO.out; injection e with _ e _; exact e.symm
        rw [hnv] at HO
        have HNV := Lib.hid hnv
        clear hnv
        have s0 := C3.c 0 rfl
        have s1 := C3.c 1 rfl
        have s2 := C3.c 2 rfl
        have s3 := C3.c 3 rfl
        have s4 := C3.c 4 rfl
        have l3 := C3.lt
        have r0 := C2.c 0 rfl
        have r1 := C2.c 1 rfl
        have r2 := C2.c 2 rfl
        have r3 := C2.c 3 rfl
        have r4 := C2.c 4 rfl
        have q0 := C2.f 0 rfl
        have q1 := C2.f 1 rfl
        have q2 := C2.f 2 rfl
        have q3 := C2.f 3 rfl
        have q4 := C2.f 4 rfl
        have l2 := C2.lt
        have hfin := gb5 hb (b := w.heap.size + 1 + 1) (by omega) (.int .i64 t.kind) (.int .i64 t.n) (.string (bs t.s)) (.slice A m c) (.slice Bv nv cv)
        have hKF := Kpl.gb (hi := w2.heap.size + 1) (gb_set5 wq (w.heap.size + 1 + 1) (.int .i64 t.kind) (.int .i64 t.n) (.string (bs t.s)) (.slice A m c) (.slice Bv nv cv)) (by omega)
        go_wp2_with fail
        refine bodyPost_ret (v := .agg #[.int .i64 t.kind, .int .i64 t.n, .string (bs t.s), .slice A m c, .slice Bv nv cv]) (by simp [results, Try.results21, go_sem, r0, r1, r2, r3, r4]) rfl ?_
        generalize (((((wq.setCell ⟨w.heap.size + 1 + 1, 0, none⟩ (.int .i64 t.kind)).setCell ⟨w.heap.size + 1 + 1, 1, none⟩ (.int .i64 t.n)).setCell ⟨w.heap.size + 1 + 1, 2, none⟩ (.string (bs t.s))).setCell ⟨w.heap.size + 1 + 1, 3, none⟩ (.slice A m c)).setCell ⟨w.heap.size + 1 + 1, 4, none⟩ (.slice Bv nv cv)) = wF at *
        rw [HW.out, HL2.out, ← HM.out]
        exact wtP_of HNV.out rfl rfl rfl rfl (hR.next fun x p => VlA.next hfin x p) (rowE_end HO.out hKF HNV.out HI.out hfin) hfin
end Go.Proofs.Ytlebppjldoodgaa

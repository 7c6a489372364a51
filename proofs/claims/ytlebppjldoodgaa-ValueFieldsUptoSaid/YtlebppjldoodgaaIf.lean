import Derived.Test.YtlebppjldoodgaaIe
/-
  The reference's Without, of any value. No conditions beyond those that each names.
-/
namespace Go.Proofs.Ytlebppjldoodgaa
open Go.RowKit Go.Sort
/-- A slice of one new element. -/
def FNb (cells : List Value) (W0 : World) : Fact := ⟨fun v w' => ∃ g, v = .slice (some ⟨g, 0, none⟩) 1 1 ∧ Bx w' g cells ∧ W0.heap.size ≤ g ∧ Below W0.heap.size W0 w', fun _ _ _ ⟨g, h1, h2, h3, h4⟩ hb => ⟨g, h1, h2.next hb, h3, upG h4 hb⟩⟩
theorem wpList_pushE {w : World} {ops : Array Oper} {rest : List Oper} {o : Oper} {a : Act} {Q : Exit → Act → World → Prop} (hgd : o.guard = none) (sv xv : Operand)
    (ho : o.op = .call { callee := .builtin .append, args := #[sv, xv], argTypes := #[23, 23] }) (B : Nat) (W0 : World) (v : Value) (l : List (Int × Vl)) (xs : List Value) (x : Int × Vl) (s : Sb) (g d : Nat) (hs : a.eval sv = v) (hx : a.eval xv = .slice (some ⟨g, 0, none⟩) 1 d)
    (hown : w.ownsRow B 72 6 v l.length xs) (hIL : IL 6 encE (fun _ x s => RdV W0 x.2 s) l xs) (hR : RdV W0 x.2 s) (hc : Bx w g (encE x s)) (hm : l.length ≤ 1100000) (hB : B ≤ w.heap.size)
    (h : ∀ v' xs' w', w'.ownsRow B 72 6 v' (l ++ [x]).length xs' → IL 6 encE (fun _ x s => RdV W0 x.2 s) (l ++ [x]) xs' → w.grownBy w' v.ownBlock → wpList Try.prog ops Q rest (a.put o.dst v') w') : wpList Try.prog ops Q (o :: rest) a w := by
  obtain ⟨i, hi, hz, hs5, hby⟩ := info_parts infoE
  refine wpList_append_own_at w hgd sv xv 23 ho B 72 i _ 6 88 Try.underlying23 hi hz hs5 hby rfl (by omega) v l.length xs hs hown ⟨g, 0, none⟩ 1 d (encE x s) hx rfl
    (by intro j u hj; rw [Addr.add_lit, Nat.zero_add]; exact (hc.at_ j u hj).1) (encE_one x s) (by simp only [maxLen]; omega) (by omega) hB ?_
  intro v' w' h1 h2 _ h4
  exact h v' _ w' (by rw [List.length_append]; exact h1) (hIL.snoc x s rfl hR) h2
theorem own_slice2 {w : World} {B : Nat} {e : TypeId} {z n : Nat} {v : Value} {xs : List Value} (h : w.ownsRow B e z v n xs) : ∃ A k c, v = .slice A k c := by
  rcases h.2 with ⟨h1, -⟩ | ⟨g, cap, cur, h1, -⟩
  · exact ⟨_, _, _, h1⟩
  · exact ⟨_, _, _, h1⟩
/-- A row of entries in a world where its own row is as it was. -/
theorem rowE_end {w w' W0 : World} {lo n cap : Nat} {B : Option Addr} {l : List (Int × Vl)} {xs : List Value} (ho : w.ownsRow lo 72 6 (.slice B n cap) n xs) (hk : Kpl lo w w') (hn : l.length = n) (h : IL 6 encE (fun _ x s => RdV W0 x.2 s) l xs) (hb : Below W0.heap.size W0 w') : Rw EtA 6 w' l B := by
  by_cases h0 : n = 0
  · exact .inl (List.eq_nil_of_length_eq_zero (by omega))
  · obtain ⟨g, rfl⟩ := own_some ho h0
    have hg := ho.lt g rfl
    exact rowE_of ho (hk.blk g hg.1 hg.2) hn (h.mono fun j hj s hs => hs.next hb)
set_option maxRecDepth 100000 in
set_option maxHeartbeats 8000000 in
theorem refWithout_any (t : Vl) (z : Int) (v : Value) (w : World) (hzt : sz t ≤ 1048576) (hv : VlV w t v) :
    Calls Try.prog 22 #[v, .int .i64 z] w (WtP (wto t z) w) := by
  obtain ⟨A, c, B, d, rfl, hR, hR2⟩ := hv
  have hfl := sz_fl t
  obtain ⟨m, hm⟩ : ∃ m, t.l.length = m := ⟨_, rfl⟩
  obtain ⟨n, hn⟩ : ∃ n, t.f.length = n := ⟨_, rfl⟩
  have HN := Lib.hid hn
  have HM := Lib.hid hm
  have hl : n ≤ 1048576 := by omega
  rw [hm, hn]
  have z1 : (w.alloc (Obj.cells #[.int .i64 t.kind, .int .i64 t.n, .string (bs t.s), .slice A m c, .slice B n d] 25)).heap.size = w.heap.size + 1 := by simp
  have z2 : ((w.alloc (Obj.cells #[.int .i64 t.kind, .int .i64 t.n, .string (bs t.s), .slice A m c, .slice B n d] 25)).alloc (Obj.cells #[.int .i64 0, .int .i64 0, .string ⟨#[]⟩, .slice none 0 0, .slice none 0 0] 25)).heap.size = w.heap.size + 1 + 1 := by simp
  have hab := ab2 w (Obj.cells #[.int .i64 t.kind, .int .i64 t.n, .string (bs t.s), .slice A m c, .slice B n d] 25) (Obj.cells #[.int .i64 0, .int .i64 0, .string ⟨#[]⟩, .slice none 0 0, .slice none 0 0] 25)
  have C1 := (Bx.new5 w 25 (.int .i64 t.kind) (.int .i64 t.n) (.string (bs t.s)) (.slice A m c) (.slice B n d)).next (ab1 _ (Obj.cells #[.int .i64 0, .int .i64 0, .string ⟨#[]⟩, .slice none 0 0, .slice none 0 0] 25))
  have C2 := Bx.new5 (w.alloc (Obj.cells #[.int .i64 t.kind, .int .i64 t.n, .string (bs t.s), .slice A m c, .slice B n d] 25)) 25 (.int .i64 0) (.int .i64 0) (.string ⟨#[]⟩) (.slice none 0 0) (.slice none 0 0)
  rw [z1] at C2
  clear hm hn hfl hzt
  by_cases h6 : t.kind = 6
  case neg =>
    have d6 : (t.kind != 6) = true := by simpa using h6
    have HW := Lib.hid (show wto t z = t by unfold wto; rw [if_neg h6])
    clear h6 hl
    go_enter Try.func22, Try.ntmps22
    go_upto_region 1 with (fail)
    generalize (w.alloc (Obj.cells #[.int .i64 t.kind, .int .i64 t.n, .string (bs t.s), .slice A m c, .slice B n d] 25)).alloc (Obj.cells #[.int .i64 0, .int .i64 0, .string ⟨#[]⟩, .slice none 0 0, .slice none 0 0] 25) = w0 at *
    have hz2 : w.heap.size + 1 < w0.heap.size := by omega
    clear z1 z2
    have s0 := C1.c 0 rfl
    have s1 := C1.c 1 rfl
    have s2 := C1.c 2 rfl
    have s3 := C1.c 3 rfl
    have s4 := C1.c 4 rfl
    have l1 := C1.lt
    have r0 := C2.c 0 rfl
    have r1 := C2.c 1 rfl
    have r2 := C2.c 2 rfl
    have r3 := C2.c 3 rfl
    have r4 := C2.c 4 rfl
    have q0 := C2.f 0 rfl
    have q1 := C2.f 1 rfl
    have q2 := C2.f 2 rfl
    have q3 := C2.f 3 rfl
    have q4 := C2.f 4 rfl
    have l2 := C2.lt
    have hfin := gb5 hab (b := w.heap.size + 1) (Nat.le_succ _) (.int .i64 t.kind) (.int .i64 t.n) (.string (bs t.s)) (.slice A m c) (.slice B n d)
    go_wp2_with fail
    refine bodyPost_ret (v := .agg #[.int .i64 t.kind, .int .i64 t.n, .string (bs t.s), .slice A m c, .slice B n d]) (by simp [results, Try.results22, go_sem, r0, r1, r2, r3, r4]) rfl ?_
    generalize (((((w0.setCell ⟨w.heap.size + 1, 0, none⟩ (.int .i64 t.kind)).setCell ⟨w.heap.size + 1, 1, none⟩ (.int .i64 t.n)).setCell ⟨w.heap.size + 1, 2, none⟩ (.string (bs t.s))).setCell ⟨w.heap.size + 1, 3, none⟩ (.slice A m c)).setCell ⟨w.heap.size + 1, 4, none⟩ (.slice B n d)) = wF at *
    rw [HW.out, ← HM.out]
    exact wtP_of HN.out rfl rfl rfl rfl (hR.next fun x p => VlA.next hfin x p) (hR2.next fun x p => EtA.next hfin x p) hfin
  case pos =>
  have d6 : (t.kind != 6) = false := by simp [h6]
  have HW := Lib.hid (show wto t z = .mk t.kind t.n t.s t.l (t.f.filter fun x => !(x.1 == z)) by unfold wto; rw [if_pos h6])
  clear h6
  go_enter Try.func22, Try.ntmps22
  go_upto_region 1 with (fail)
  generalize (w.alloc (Obj.cells #[.int .i64 t.kind, .int .i64 t.n, .string (bs t.s), .slice A m c, .slice B n d] 25)).alloc (Obj.cells #[.int .i64 0, .int .i64 0, .string ⟨#[]⟩, .slice none 0 0, .slice none 0 0] 25) = w0 at *
  have hz2 : w.heap.size + 1 < w0.heap.size := by omega
  clear z1 z2
  have s0 := C1.c 0 rfl
  have s1 := C1.c 1 rfl
  have s2 := C1.c 2 rfl
  have s3 := C1.c 3 rfl
  have s4 := C1.c 4 rfl
  have l1 := C1.lt
  have hbx := ab1 w0 (Obj.cells #[.int .i64 t.kind, .int .i64 t.n, .string (bs t.s), .slice A m c, .slice none 0 0] 25)
  have E1 := C1.next hbx
  have E2 := C2.next hbx
  have E3 := Bx.new5 w0 25 (.int .i64 t.kind) (.int .i64 t.n) (.string (bs t.s)) (.slice A m c) (.slice none 0 0)
  have hab4 := Below.next hab hbx
  have hz4 : w0.heap.size + 1 ≤ (w0.alloc (Obj.cells #[.int .i64 t.kind, .int .i64 t.n, .string (bs t.s), .slice A m c, .slice none 0 0] 25)).heap.size := by simp
  clear C1 C2 hab hbx
  go_wp2_with fail
  have HL0 := Lib.hid (show ([] : List (Int × Vl)) = (t.f.take 0).filter (fun x => !(x.1 == z)) by simp)
  go_loopw [6] (fun i wr => ∃ (k : Nat) (vE : Value) (l : List (Int × Vl)) (xs : List Value), k ≤ n ∧ i = .int .i64 (k : Int) ∧ Hid (l = (t.f.take k).filter (fun x => !(x.1 == z))) ∧ Hid (wr.ownsRow (w0.heap.size + 1) 72 6 vE l.length xs) ∧ Hid (IL 6 encE (fun _ x s => RdV w x.2 s) l xs) ∧ Bx wr w.heap.size [.int .i64 t.kind, .int .i64 t.n, .string (bs t.s), .slice A m c, .slice B n d] ∧ Bx wr (w.heap.size + 1) [.int .i64 0, .int .i64 0, .string ⟨#[]⟩, .slice none 0 0, .slice none 0 0] ∧ Bx wr (w0.heap.size) [.int .i64 t.kind, .int .i64 t.n, .string (bs t.s), .slice A m c, vE] ∧ Below w.heap.size w wr ∧ Hid (w0.heap.size + 1 ≤ wr.heap.size)) (fun i _ => (intOf (.int .i64 n) - intOf i).toNat)
  case atStart => exact ⟨0, .slice none 0 0, [], [], by omega, rfl, HL0, Lib.hid (World.ownsRow_nil _ _ _ _), Lib.hid (IL.nil _ _ _), E1, E2, E3, hab4, Lib.hid hz4⟩
  case round =>
    clear HL0 E1 E2 E3 hab4 hz4 s0 s1 s2 s3 s4 l1
    obtain ⟨k, vE, l, xs, hk, rfl, HL, HO, HI, C1, C2, C3, hb, HZ⟩ := hrel
    have c4 := C1.c 4 rfl
    have l1 := C1.lt
    by_cases hlt : k < n
    · have hkl : k < t.f.length := by rw [HN.out]; exact hlt
      have hk1 := Lib.hid hlt
      obtain ⟨a, rfl, hA⟩ := hR2.get hkl
      obtain ⟨s, x0, x1, x2, x3, x4, x5, hrd⟩ := hA.sb
      replace x0 := cell_next hb x0
      replace x1 := cell_next hb x1
      replace x2 := cell_next hb x2
      replace x3 := cell_next hb x3
      replace x4 := cell_next hb x4
      replace x5 := cell_next hb x5
      have hblk : (a.add (k * 6)).block < wr.heap.size := blk_lt x0
      have hll : l.length ≤ k := by rw [HL.out]; exact Nat.le_trans (List.length_filter_le _ _) (by rw [List.length_take]; exact Nat.min_le_left _ _)
      have HT := Lib.hid (show (t.f.take (k + 1)).filter (fun x => !(x.1 == z)) = l ++ [t.f[k]'hkl].filter (fun x => !(x.1 == z)) by rw [HL.out, List.take_add_one, List.filter_append, List.getElem?_eq_getElem hkl]; rfl)
      obtain ⟨y, hy⟩ : ∃ y, t.f[k]'hkl = y := ⟨_, rfl⟩
      rw [hy] at x0 x1 x2 x3 x4 x5 hrd HT
      clear hA hy hkl
      obtain ⟨num, u⟩ := y
      dsimp only at x0 x1 x2 x3 x4 x5 hrd
      by_cases hz : num = z
      · have dz : (num != z) = false := by simpa using hz
        have HL2 := Lib.hid (show l = (t.f.take (k + 1)).filter (fun x => !(x.1 == z)) by rw [HT.out]; simp [hz])
        clear HT HL hz
        go_wp2_with fail
        go_roundw
        case rel => exact ⟨k + 1, vE, l, xs, hk1.out, by go_num, HL2, HO, HI, C1, C2, C3, hb, HZ⟩
        case measure => have := hk1.out; simp [intOf]; omega
      · have dz : (num != z) = true := by simpa using hz
        have HL2 := Lib.hid (show l ++ [(num, u)] = (t.f.take (k + 1)).filter (fun x => !(x.1 == z)) by rw [HT.out]; simp [hz])
        clear HT HL hz
        have e4 := C3.c 4 rfl
        have l3 := C3.lt
        have hne1 : some w.heap.size ≠ vE.ownBlock := fun e => by have := (HO.out.lt _ e.symm).1; omega
        have hne2 : some (w.heap.size + 1) ≠ vE.ownBlock := fun e => by have := (HO.out.lt _ e.symm).1; omega
        have hne3 : some (w0.heap.size) ≠ vE.ownBlock := fun e => by have := (HO.out.lt _ e.symm).1; omega
        have hgrw : ∀ b, vE.ownBlock = some b → w.heap.size ≤ b := fun b e => by have := (HO.out.lt b e).1; omega
        go_upto_region 9 with (fail)
        refine wp_region_seqN (by kernel_rfl) (FF [(2, Fact.at_ wr (.pointer (some ⟨w.heap.size, 0, none⟩))), (5, Fact.at_ wr (.pointer (some ⟨w0.heap.size, 0, none⟩))), (6, Fact.at_ wr (.int .i64 (k : Int))), (28, Fact.at_ wr (.pointer (some ⟨w0.heap.size, 4, none⟩))), (29, Fact.at_ wr vE), (30, Fact.at_ wr (.pointer (some ⟨w.heap.size, 4, none⟩))), (31, Fact.at_ wr (.slice (some a) n d)), (32, Fact.at_ wr (.int .i64 (k : Int))), (33, Fact.at_ wr (.pointer (some (a.add (k * 6))))), (34, Fact.at_ wr (.agg #[.int .i64 num, .int .i64 u.kind, .int .i64 u.n, .string (bs u.s), .slice s.A u.l.length s.c, .slice s.B u.f.length s.d])), (35, FNb [.int .i64 num, .int .i64 u.kind, .int .i64 u.n, .string (bs u.s), .slice s.A u.l.length s.c, .slice s.B u.f.length s.d] wr)]) [2, 5, 6] [] 39 8 [28, 29, 30, 31, 32, 33, 34, 35] rfl (by kernel_rfl) (by kernel_rfl) (by decide) (by kernel_rfl) (by kernel_rfl) ?_ ?_ ?_
        · intro t9 ht9
          simp only [List.mem_cons, List.not_mem_nil, or_false] at ht9
          rcases ht9 with rfl | rfl | rfl
          · exact ⟨rfl, Below.refl _ _⟩
          · exact ⟨rfl, Below.refl _ _⟩
          · exact ⟨rfl, Below.refl _ _⟩
        · refine fcs ⟨Ob.new_ (at1 5 28 (.pointer (some ⟨w0.heap.size, 0, none⟩)) (.pointer (some ⟨w0.heap.size, 4, none⟩)) rfl (by first | exact .inl rfl | exact .inr ⟨_, _, _, rfl, rfl, by kernel_rfl, by decide, rfl⟩) (by kernel_rfl) rfl rfl (fun a9 W9 hb9 h9 => by simp [execOp, h9] <;> go_simp)) (by kernel_rfl), ?_⟩
          refine fcs ⟨Ob.new_ (at1 28 29 (.pointer (some ⟨w0.heap.size, 4, none⟩)) vE rfl (by first | exact .inl rfl | exact .inr ⟨_, _, _, rfl, rfl, by kernel_rfl, by decide, rfl⟩) (by kernel_rfl) rfl rfl (fun a9 W9 hb9 h9 => by have g0 := cell_next hb9 e4; simp [execOp, h9] <;> go_simp)) (by kernel_rfl), ?_⟩
          refine fcs ⟨Ob.new_ (at1 2 30 (.pointer (some ⟨w.heap.size, 0, none⟩)) (.pointer (some ⟨w.heap.size, 4, none⟩)) rfl (by first | exact .inl rfl | exact .inr ⟨_, _, _, rfl, rfl, by kernel_rfl, by decide, rfl⟩) (by kernel_rfl) rfl rfl (fun a9 W9 hb9 h9 => by simp [execOp, h9] <;> go_simp)) (by kernel_rfl), ?_⟩
          refine fcs ⟨Ob.new_ (at1 30 31 (.pointer (some ⟨w.heap.size, 4, none⟩)) (.slice (some a) n d) rfl (by first | exact .inl rfl | exact .inr ⟨_, _, _, rfl, rfl, by kernel_rfl, by decide, rfl⟩) (by kernel_rfl) rfl rfl (fun a9 W9 hb9 h9 => by have g0 := cell_next hb9 c4; simp [execOp, h9] <;> go_simp)) (by kernel_rfl), ?_⟩
          refine fcs ⟨Ob.new_ (atcopy 6 32 (.int .i64 (k : Int)) (.inl rfl) rfl (by first | exact .inl rfl | exact .inr ⟨_, _, _, rfl, rfl, by kernel_rfl, by decide, rfl⟩) (by kernel_rfl) rfl rfl) (by kernel_rfl), ?_⟩
          refine fcs ⟨Ob.new_ (at2 31 32 33 (.slice (some a) n d) (.int .i64 (k : Int)) (.pointer (some (a.add (k * 6)))) rfl (by first | exact .inl rfl | exact .inr ⟨_, _, _, rfl, rfl, by kernel_rfl, by decide, rfl⟩) (by kernel_rfl) (by kernel_rfl) rfl rfl rfl (fun a9 W9 hb9 h9 h8 => by simp [execOp, h9, h8] <;> go_simp)) (by kernel_rfl), ?_⟩
          refine fcs ⟨Ob.new_ (at1 33 34 (.pointer (some (a.add (k * 6)))) (.agg #[.int .i64 num, .int .i64 u.kind, .int .i64 u.n, .string (bs u.s), .slice s.A u.l.length s.c, .slice s.B u.f.length s.d]) rfl (by first | exact .inl rfl | exact .inr ⟨_, _, _, rfl, rfl, by kernel_rfl, by decide, rfl⟩) (by kernel_rfl) rfl rfl (fun a9 W9 hb9 h9 => by have g0 := cell_next hb9 x0; have g1 := cell_next hb9 x1; have g2 := cell_next hb9 x2; have g3 := cell_next hb9 x3; have g4 := cell_next hb9 x4; have g5 := cell_next hb9 x5; simp [execOp, h9] <;> go_simp)) (by kernel_rfl), ?_⟩
          refine fcs ⟨Ob.new_ (at_val (W0 := wr) (by first | exact .inl rfl | exact .inr ⟨_, _, _, rfl, rfl, by kernel_rfl, by decide, rfl⟩) (fun a9 W9 hf9 => by have p34 := hf9 34 (by kernel_rfl); have h9 : a9.eval (.tmp 34) = (.agg #[.int .i64 num, .int .i64 u.kind, .int .i64 u.n, .string (bs u.s), .slice s.A u.l.length s.c, .slice s.B u.f.length s.d]) := p34.1; exact ⟨.slice (some ⟨W9.heap.size, 0, none⟩) 1 1, W9.alloc (Obj.cells #[.int .i64 num, .int .i64 u.kind, .int .i64 u.n, .string (bs u.s), .slice s.A u.l.length s.c, .slice s.B u.f.length s.d] 72), by simp [execOp, h9] <;> go_simp, ab1 _ _, fun s hs => by injection hs with hs; subst hs; exact ⟨W9.heap.size, rfl, Bx.new6 _ _ _ _ _ _ _ _, p34.2.size, upG p34.2 (ab1 _ _)⟩⟩)) (by kernel_rfl), ?_⟩
          exact fnl
        intro vv wv hvv hbv _ _
        have hv29 : vv 29 = vE := (hvv 29 (by decide)).1
        simp only [lay, List.foldl_cons, List.foldl_nil, List.setIfInBounds_toArray, List.set_cons_succ, List.set_cons_zero, hv29, List.drop_succ_cons, List.drop_zero]
        obtain ⟨gb, e35, hBb, -, -⟩ := hvv 35 (by decide)
        simp only [e35]
        have C1' := C1.next hbv
        have C2' := C2.next hbv
        have C3' := C3.next hbv
        have hb2 := Below.next hb hbv
        have hZ2 : w0.heap.size + 1 ≤ wv.heap.size := Nat.le_trans HZ.out hbv.size
        have hO2 := own_next HO.out hbv
        have hI2 := HI.out
        clear hvv e35 x0 x1 x2 x3 x4 x5 hblk c4 e4 l1 l3 C1 C2 C3 HO HI
        go_wp2_with (at_builtin; refine wpList_pushE rfl (.tmp 29) (.tmp 35) rfl (w0.heap.size + 1) w vE l xs (num, u) s gb 1 rfl rfl hO2 hI2 hrd hBb (by omega) hZ2 ?_; intro v' xs' w6 hO6 hI6 hg'; obtain ⟨Bv, nv, cv, rfl⟩ := own_slice2 hO6; have T3 := C3'.gbo hg' (fun g hg e => hne3 (by rw [hg, e])); have y0 := T3.c 4 rfl; have y1 := T3.f 4 rfl; have y2 := T3.lt)
        go_roundw
        case rel =>
          have hne4 : Value.ownBlock (.slice Bv nv cv) ≠ some (w0.heap.size) := fun e => by have := (hO6.lt _ e).1; omega
          have gs := gb_set1 w6 ⟨w0.heap.size, 4, none⟩ (.slice Bv nv cv)
          exact ⟨k + 1, .slice Bv nv cv, l ++ [(num, u)], xs', hk1.out, by go_num, HL2, Lib.hid (hO6.kept gs (.inr hne4)), Lib.hid hI6, (C1'.gbo hg' (fun g hg e => hne1 (by rw [hg, e]))).gb gs (by show w.heap.size ≠ w0.heap.size; omega), (C2'.gbo hg' (fun g hg e => hne2 (by rw [hg, e]))).gb gs (by show w.heap.size + 1 ≠ w0.heap.size; omega), T3.put1 4 _, (hb2.grown hg' hb2.size hgrw).setCell (by show w.heap.size ≤ w0.heap.size; omega) _, Lib.hid (Nat.le_trans hZ2 (Nat.le_trans hg'.size gs.size))⟩
        case measure => have := hk1.out; simp [intOf]; omega
    · obtain rfl : k = n := by omega
      have HL2 := Lib.hid (show t.f.filter (fun x => !(x.1 == z)) = l by rw [HL.out, ← HN.out, List.take_length])
      obtain ⟨Bv, nv, cv, rfl⟩ := own_slice2 HO.out
      obtain rfl : nv = l.length := by obtain ⟨_, _, e⟩ := own_form HO.out; injection e
      obtain ⟨nv, hnv⟩ : ∃ nv, l.length = nv := ⟨_, rfl⟩
      rw [hnv] at HO C3
      have HNV := Lib.hid hnv
      clear hnv HL hR2
      have s0 := C3.c 0 rfl
      have s1 := C3.c 1 rfl
      have s2 := C3.c 2 rfl
      have s3 := C3.c 3 rfl
      have s4 := C3.c 4 rfl
      have l3 := C3.lt
      have r0 := C2.c 0 rfl
      have r1 := C2.c 1 rfl
      have r2 := C2.c 2 rfl
      have r3 := C2.c 3 rfl
      have r4 := C2.c 4 rfl
      have q0 := C2.f 0 rfl
      have q1 := C2.f 1 rfl
      have q2 := C2.f 2 rfl
      have q3 := C2.f 3 rfl
      have q4 := C2.f 4 rfl
      have l2 := C2.lt
      have hfin := gb5 hb (b := w.heap.size + 1) (Nat.le_succ _) (.int .i64 t.kind) (.int .i64 t.n) (.string (bs t.s)) (.slice A m c) (.slice Bv nv cv)
      have hKF := Kpl.gb (hi := w0.heap.size + 1) (gb_set5 wr (w.heap.size + 1) (.int .i64 t.kind) (.int .i64 t.n) (.string (bs t.s)) (.slice A m c) (.slice Bv nv cv)) (by omega)
      go_wp2_with fail
      refine bodyPost_ret (v := .agg #[.int .i64 t.kind, .int .i64 t.n, .string (bs t.s), .slice A m c, .slice Bv nv cv]) (by simp [results, Try.results22, go_sem, r0, r1, r2, r3, r4]) rfl ?_
      generalize (((((wr.setCell ⟨w.heap.size + 1, 0, none⟩ (.int .i64 t.kind)).setCell ⟨w.heap.size + 1, 1, none⟩ (.int .i64 t.n)).setCell ⟨w.heap.size + 1, 2, none⟩ (.string (bs t.s))).setCell ⟨w.heap.size + 1, 3, none⟩ (.slice A m c)).setCell ⟨w.heap.size + 1, 4, none⟩ (.slice Bv nv cv)) = wF at *
      rw [HW.out, HL2.out, ← HM.out]
      exact wtP_of HNV.out rfl rfl rfl rfl (hR.next fun x p => VlA.next hfin x p) (rowE_end HO.out hKF HNV.out HI.out hfin) hfin
end Go.Proofs.Ytlebppjldoodgaa

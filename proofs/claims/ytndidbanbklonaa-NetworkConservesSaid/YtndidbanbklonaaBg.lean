import Derived.Test.YtndidbanbklonaaBf
/-
  Adding an arrival to a schedule in memory. No conditions beyond those that each names.
-/
namespace Go.Proofs.Ytndidbanbklonaa
open Go.RowKit Go.Sort Go.Lib Go.Shelf
theorem Is.ib_calls {f : FuncId} {args : Array Value} {u : Value} {w : World} (h : Calls Try.prog f args w (Is u w)) : Calls Try.prog f args w (Ib u w) := h.mono fun _ _ h => h.ib
/-- A slice of one new element whose whole block is known. -/
def FNS (S : World → Prop) (hS : Keeps S) (cells : Array Value) (t : TypeId) (W0 : World) : Fact := ⟨fun v w' => ∃ g, v = .slice (some ⟨g, 0, none⟩) 1 1 ∧ w'.heap[g]? = some (.cells cells t (0, 0)) ∧ W0.heap.size ≤ g ∧ S w', fun _ _ _ ⟨g, h1, h2, h3, h4⟩ hb => ⟨g, h1, (hb.block g (Array.getElem?_eq_some_iff.1 h2).1).trans h2, h3, hS _ _ h4 hb⟩⟩
theorem FNS_keep {S : World → Prop} {hS : Keeps S} {cells : Array Value} {t : TypeId} {W0 : World} {q : Option Nat} {R : World → World → Prop} (h : ∀ w w', S w → R w w' → S w') (hR : ∀ w w', R w w' → w.grownBy w' q) (hq : ∀ g, q = some g → g < W0.heap.size) : ∀ v w w', (FNS S hS cells t W0).holds v w → R w w' → (FNS S hS cells t W0).holds v w' :=
  fun _ w w' ⟨g, h1, h2, h3, h4⟩ hr => ⟨g, h1, ((hR _ _ hr).block g (Array.getElem?_eq_some_iff.1 h2).1 (fun e => by have := hq g e.symm; omega)).trans h2, h3, h w w' h4 hr⟩
/-- A row of arrivals that takes the place of another. -/
def FIa (w : World) (v : Value) (l' : List Ar) : Fact := ⟨fun v' w' => OwA 0 w' v' l' ∧ NB w v v' ∧ w.grownBy w' v.ownBlock, fun _ _ _ ⟨h1, h2, h3⟩ hb => ⟨own_next h1 hb, h2, h3.trans (gbq_of hb _)⟩⟩
/-- A row of numbers that takes the place of another. -/
def FIi (w : World) (v : Value) (l' : List Int) : Fact := ⟨fun v' w' => Ro w' v' l' ∧ NB w v v' ∧ w.grownBy w' v.ownBlock ∧ ∀ g, v'.ownBlock = some g → g < w'.heap.size, fun _ _ _ ⟨h1, h2, h3, h4⟩ hb => ⟨h1.next hb, h2, h3.trans (gbq_of hb _), fun g e => Nat.lt_of_lt_of_le (h4 g e) hb.size⟩⟩
theorem ats_valR {ops : Array Oper} {Q : Exit → Act → World → Prop} {F : Nat → Fact} {base : List Nat} {N : Nat} {o : Oper} {R : World → World → Prop} {w0 : World} (hg : o.guard = none) (h : ∀ (a : Act) (w : World), (∀ t, known ops base o t = true → (F t).holds (a.tmps.getD t undef) w) → Below w0.heap.size w0 w →
    ∃ v w', (execOp a.eval o).run Try.prog w = .ok (.value v) w' ∧ R w w' ∧ ∀ t, o.dst = some t → (F t).holds v w') : ObR R w0 ops Q F base N o := by
  intro a w K _ hb hp hlow hK
  have hf := fun t (hk : known ops base o t = true) => known_fact hb hp hk
  rw [if_pos (by simp [Region.wanted, hg])]
  obtain ⟨v, w', hr, hbw, hF⟩ := h a w hf hlow
  unfold Oper.wp
  rw [hr]
  exact hK v w' hbw hF
/-- The other cells of a schedule's block. -/
structure Oc (p o : Nat) (w w' : World) : Prop where
  cl : ∀ j, j ≠ o → j ≠ o + 1 → j ≠ o + 2 → w'.cell? ⟨p, j, none⟩ = w.cell? ⟨p, j, none⟩
  fr : ∀ j, w'.frozen? ⟨p, j, none⟩ = w.frozen? ⟨p, j, none⟩
theorem Oc.blk {p o : Nat} {w w' : World} (h : w'.heap[p]? = w.heap[p]?) : Oc p o w w' := ⟨fun j _ _ _ => World.cell?_of_block (a := ⟨p, j, none⟩) h, fun j => World.frozen?_of_block (a := ⟨p, j, none⟩) h⟩
theorem Oc.set (p o : Nat) (w : World) (j : Nat) (u : Value) (hj : j = o ∨ j = o + 1 ∨ j = o + 2) : Oc p o w (w.setCell ⟨p, j, none⟩ u) := by
  refine ⟨fun i h0 h1 h2 => World.cell?_setCell_other (h := fun e => ?_) .., fun i => fr_set ..⟩
  injection e with _ e
  omega
theorem Oc.trans {p o : Nat} {w w1 w2 : World} (h : Oc p o w w1) (k : Oc p o w1 w2) : Oc p o w w2 := ⟨fun j h0 h1 h2 => (k.cl j h0 h1 h2).trans (h.cl j h0 h1 h2), fun j => (k.fr j).trans (h.fr j)⟩
/-- What a call that changes a schedule leaves. -/
def ScM (p o m : Nat) (V : Int → Value) (tv : Value) (Q' : Sq) (r : Value) (w : World) (e : Ending) (w' : World) : Prop := e = .returned r ∧ ∃ V' tv', Sb p o w' m V' tv' Q'.T Q'.T Q'.G (Q'.n : Int) ∧ FpN w (Fp p m V tv) (Fp p m V' tv') ∧ Fm (Fp p m V tv) w w' ∧ Oc p o w w'
theorem add_lenT {Q : Sq} (a : Ar) (h : Okq Q) : (Q.add a).T.length = if a.at_ ∈ Q.T then Q.T.length else Q.T.length + 1 := by
  show (if _ then _ else _ : List Int).length = _
  by_cases hq : (Q.G a.at_).isEmpty = true
  · have hm : a.at_ ∉ Q.T := fun e => (h.mem _).1 e (by simpa using hq)
    have := psI_le a.at_ Q.T
    rw [if_pos hq, if_neg hm, List.length_append, List.length_cons, List.length_take, List.length_drop]; omega
  · have : a.at_ ∈ Q.T := (h.mem _).2 fun e => hq (by rw [e]; rfl)
    rw [if_neg hq, if_pos this]
theorem asc_le {T : List Int} (h : T.Pairwise (· < ·)) (x y : Nat) (hx : x < T.length) (hy : y < T.length) (hxy : x ≤ y) : T[x]'hx ≤ T[y]'hy := by
  rcases Nat.lt_or_ge x y with hl | hl
  · exact Int.le_of_lt (List.pairwise_iff_getElem.1 h x y hx hy hl)
  · obtain rfl : x = y := by omega
    exact Int.le_refl _
set_option maxRecDepth 100000 in
set_option maxHeartbeats 8000000 in
theorem addOld_any (p o : Nat) (w : World) (m : Nat) (V : Int → Value) (tv : Value) (Q : Sq) (a : Ar) (h : Sb p o w m V tv Q.T Q.T Q.G (Q.n : Int)) (hok : Okq Q) (hn : Q.n ≤ 1000000) (hI : I64 a.at_) (hne : Q.G a.at_ ≠ []) :
    Calls Try.prog 35 #[(.pointer (some ⟨p, o, none⟩)), (.agg #[.int .i64 a.at_, .int .i64 a.fr, .int .i64 a.to_, .int .i64 (a.num : Int), .string a.dat])] w (ScM p o m V tv (Q.add a) (.tuple #[]) w) := by
  have HOK := Lib.hid hok
  have HN9 := Lib.hid hn
  have HI := Lib.hid hI
  have HTL : Hid (Q.T.length ≤ 1000000) := Lib.hid (Nat.le_trans (len_T hok) hn)
  have HK9 : Hid ((Q.G a.at_).length ≤ 1000000) := Lib.hid (Nat.le_trans (len_G hok _) hn)
  have HLN : Hid ((Q.add a).T.length = if a.at_ ∈ Q.T then Q.T.length else Q.T.length + 1) := Lib.hid (add_lenT a hok)
  obtain ⟨A, d, hv, -⟩ := own_nil_or (h.ow a.at_)
  obtain ⟨k, hk⟩ : ∃ k, (Q.G a.at_).length = k := ⟨_, rfl⟩
  have HK := Lib.hid hk
  rw [hk] at hv
  have HV := Lib.hid hv
  have hk9 : k ≤ 1000000 := by rw [← hk]; exact HK9.out
  have hab := ab1 w (Obj.cells #[.int .i64 a.at_, .int .i64 a.fr, .int .i64 a.to_, .int .i64 (a.num : Int), .string a.dat] 34)
  have h1 := h.next hab
  have B1 := Bx.new5 w 34 (.int .i64 a.at_) (.int .i64 a.fr) (.int .i64 a.to_) (.int .i64 (a.num : Int)) (.string a.dat)
  have HBV : Hid ((V a.at_).ownBlock ≠ some w.heap.size) := Lib.hid fun e => Nat.lt_irrefl _ ((h.ow a.at_).lt _ e).2
  have HBT : Hid (tv.ownBlock ≠ some w.heap.size) := Lib.hid fun e => Nat.lt_irrefl _ (h.tl _ e)
  have H0 := Lib.hid h
  have hk0 : ((k : Int) == 0) = false := by rw [beq_eq_false_iff_ne]; have := List.length_pos_iff.2 hne; omega
  have hk0' : (k == 0) = false := by rw [beq_eq_false_iff_ne]; have := List.length_pos_iff.2 hne; omega
  have hT : (Q.add a).T = Q.T := if_neg fun e => hne (by simpa using e)
  have HT := Lib.hid hT
  clear hne hT hk hn
  go_enter Try.func35, Try.ntmps35
  go_upto_region 1 with (fail)
  generalize hw1 : w.alloc (Obj.cells #[.int .i64 a.at_, .int .i64 a.fr, .int .i64 a.to_, .int .i64 (a.num : Int), .string a.dat] 34) = w1 at *
  clear hw1
  obtain ⟨B, hB⟩ : ∃ B, w.heap.size = B := ⟨_, rfl⟩
  rw [hB] at B1 HBV HBT ⊢
  clear hB
  have H1 := Lib.hid h1
  have b0 := B1.c 0 rfl
  have b1 := B1.c 1 rfl
  have b2 := B1.c 2 rfl
  have b3 := B1.c 3 rfl
  have b4 := B1.c 4 rfl
  have bl := B1.lt
  have rb0 := fun d os => cell_regrown b0 d os
  have rc0 := fun d os => cell_regrown h1.c0 d os
  have rm := fun d os => (h1.mi.next (below_regrown w1 d os)).look hI
  rw [hv] at rm
  have pl := h1.lt
  clear h1 h hok hI hv
  refine wp_region_quiet_below (by kernel_rfl) (by kernel_rfl) ?_
  repeat (go_big_quiet_step (fail))
  refine wpQuiet_nil ?_
  intro _ hw'
  obtain ⟨⟨dq, osq⟩, hw''⟩ := hw'
  subst hw''
  have hbq := below_regrown w1 dq osq
  clear rb0 rc0 rm
  generalize grow (redrawn w1 dq) osq = w2 at *
  have H2 := Lib.hid (H1.out.next hbq)
  have B2 := B1.next hbq
  clear b0 b1 b2 b3 b4 bl B1 pl
  have b0 := B2.c 0 rfl
  have b1 := B2.c 1 rfl
  have b2 := B2.c 2 rfl
  have b3 := B2.c 3 rfl
  have b4 := B2.c 4 rfl
  have bl := B2.lt
  have HSB : Hid (Sb p o w2 m V tv (Q.add a).T Q.T Q.G (Q.n : Int)) := Lib.hid (by rw [HT.out]; exact H2.out)
  have HF2 : Hid (Fm (Fp p m V tv) w w2) := Lib.hid (Fm.of _ (Below.next hab hbq))
  have HN2 : Hid (FpN w (Fp p m V tv) (Fp p m V tv)) := Lib.hid (FpN.refl _ _)
  have HFp : Hid (∀ i, i < w.heap.size → Fp p m V tv i → Fp p m V tv i) := Lib.hid fun i _ e => e
  have HO2 : Hid (Oc p o w w2) := Lib.hid (Oc.blk ((Below.next hab hbq).block p H0.out.lt))
  clear hab hbq
  go_upto_region 5 with (fail)
  have SB := HSB.out
  have hq2 : ∀ g, (Value.slice A k d).ownBlock = some g → g < w2.heap.size := fun g e => by rw [← HV.out] at e; exact ((SB.ow a.at_).lt g e).2
  have hq0 : some p ≠ (Value.slice A k d).ownBlock := fun e => by rw [← HV.out] at e; exact SB.vp _ e.symm
  have hq1 : some B ≠ (Value.slice A k d).ownBlock := fun e => by rw [← HV.out] at e; exact HBV.out e.symm
  have k0 := SB.c0
  clear SB
  obtain ⟨v0, hv0⟩ : ∃ v0, (Value.slice A k d) = v0 := ⟨_, rfl⟩
  obtain ⟨l2, hl2⟩ : ∃ l2, Q.G a.at_ ++ [a] = l2 := ⟨_, rfl⟩
  have HV0 := Lib.hid hv0
  have HL2 := Lib.hid hl2
  obtain ⟨S, hSd⟩ : ∃ S : World → Prop, (fun W : World => w2.grownBy W (Value.slice A k d).ownBlock) = S := ⟨_, rfl⟩
  have hSi : ∀ W, S W ↔ w2.grownBy W (Value.slice A k d).ownBlock := fun W => by rw [← hSd]
  have hS : Keeps S := fun W W' h hb => by rw [hSi] at h ⊢; exact h.trans (gbq_of hb _)
  have hS0 : S w2 := by rw [hSi]; exact World.grownBy.refl _ _
  obtain ⟨RR, hRd⟩ : ∃ RR : World → World → Prop, (fun W W' : World => W.grownBy W' (Value.slice A k d).ownBlock) = RR := ⟨_, rfl⟩
  have hRB : ∀ W W' : World, Below W.heap.size W W' → RR W W' := fun W W' hb => by rw [← hRd]; exact gbq_of hb _
  have hRt : ∀ W W1 W2 : World, RR W W1 → RR W1 W2 → RR W W2 := fun W W1 W2 h h8 => by rw [← hRd] at h h8 ⊢; exact h.trans h8
  have hSR : ∀ W W' : World, S W → RR W W' → S W' := fun W W' h h8 => by rw [hSi] at h ⊢; rw [← hRd] at h8; exact h.trans h8
  have hRg : ∀ W W' : World, RR W W' → W.grownBy W' (Value.slice A k d).ownBlock := fun W W' h => by rw [← hRd] at h; exact h
  have hAP : ∀ (W : World) (g9 : Nat), Below w2.heap.size w2 W → W.heap[g9]? = some (.cells #[.int .i64 a.at_, .int .i64 a.fr, .int .i64 a.to_, .int .i64 (a.num : Int), .string a.dat] 34 (0, 0)) → w2.heap.size ≤ g9 → ∃ v' w', (Builtin.append_ #[28, 28] 28 #[.slice A k d, .slice (some ⟨g9, 0, none⟩) 1 1]).run Try.prog W = .ok v' w' ∧ (FIa w2 v0 l2).holds v' w' ∧ RR W w' := by
    intro W g9 hlow hg9 hge9
    have ho := own_next (HSB.out.ow a.at_) hlow
    rw [HV.out] at ho
    have hk9 := HK9.out
    obtain ⟨i, hi, hz, hs5, hby⟩ := info_parts infoA
    obtain ⟨v', w', e1, e2, e3, -, e5⟩ := run_append_own_at (P := Try.prog) W 0 28 28 34 i _ 5 48 Try.underlying28 hi hz hs5 hby rfl (by omega) (.slice A k d) k (tc e5 (Q.G a.at_)) (by rw [HK.out] at ho; exact ho) ⟨g9, 0, none⟩ 1 1 (e5 a) rfl
      (fun j u hj => by rw [Addr.add_lit, cell_lit hg9, Nat.zero_add, List.getElem?_toArray]; exact hj) (e5_one a) (by unfold maxLen; omega) (by omega) (Nat.zero_le _)
    refine ⟨v', w', e1, ⟨?_, ?_, ?_⟩, by rw [← hRd]; exact e3⟩
    · rw [← HL2.out]
      unfold OwA
      rw [tc_app, tc_one, List.length_append, HK.out]
      exact e2
    · rw [← HV0.out]
      rcases e5 with e5 | e5
      · exact .inl e5
      · exact .inr ⟨_, e5, hlow.size⟩
    · rw [← HV0.out]; exact (gbq_of hlow _).trans e3
  refine wp_region_one (by kernel_rfl) (FF [(0, Fact.atS S hS (.pointer (some ⟨p, o, none⟩))), (3, Fact.atS S hS (.pointer (some ⟨B, 0, none⟩))), (4, Fact.atS S hS (.slice A k d)), (39, Fact.atS S hS (.pointer (some ⟨p, o, none⟩))), (40, Fact.atS S hS (.pointer (some ⟨p, o, none⟩))), (41, Fact.atS S hS (.pointer (some ⟨p, o, none⟩))), (42, Fact.atS S hS (.map (some m))), (43, Fact.atS S hS (.pointer (some ⟨B, 0, none⟩))), (44, Fact.atS S hS (.int .i64 a.at_)), (45, Fact.atS S hS (.slice A k d)), (46, Fact.atS S hS (.agg #[.int .i64 a.at_, .int .i64 a.fr, .int .i64 a.to_, .int .i64 (a.num : Int), .string a.dat])), (47, FNS S hS #[.int .i64 a.at_, .int .i64 a.fr, .int .i64 a.to_, .int .i64 (a.num : Int), .string a.dat] 34 w2), (48, FIa w2 v0 l2)]) RR hRB hRt 9 48 rfl (FF_keep (fcs ⟨fun _ => atS_keep (hS := hS) hSR, fcs ⟨fun _ => atS_keep (hS := hS) hSR, fcs ⟨fun _ => atS_keep (hS := hS) hSR, fcs ⟨fun _ => atS_keep (hS := hS) hSR, fcs ⟨fun _ => atS_keep (hS := hS) hSR, fcs ⟨fun _ => atS_keep (hS := hS) hSR, fcs ⟨fun _ => atS_keep (hS := hS) hSR, fcs ⟨fun _ => atS_keep (hS := hS) hSR, fcs ⟨fun _ => atS_keep (hS := hS) hSR, fcs ⟨fun _ => atS_keep (hS := hS) hSR, fcs ⟨fun _ => atS_keep (hS := hS) hSR, fcs ⟨fun _ => FNS_keep (hS := hS) hSR hRg hq2, fcs ⟨fun h => absurd rfl h, fnl⟩⟩⟩⟩⟩⟩⟩⟩⟩⟩⟩⟩⟩)) [0, 3, 4] 56 10 [39, 40, 41, 42, 43, 44, 45, 46, 47, 48] rfl (by kernel_rfl) (by kernel_rfl) (by decide) (by kernel_rfl) ?_ ?_ ?_ ?_
  · intro t9 ht9
    simp only [List.mem_cons, List.not_mem_nil, or_false] at ht9
    rcases ht9 with rfl | rfl | rfl
    · exact ⟨rfl, hS0⟩
    · exact ⟨rfl, hS0⟩
    · exact ⟨rfl, hS0⟩
  · intro i9 o9 hi9 hk9 ho9
    match i9, hi9 with
    | 0, _ => have e9 := Option.some.inj ho9; subst e9; exact atscopy (hS := hS) 0 39 (.pointer (some ⟨p, o, none⟩)) (.inl rfl) rfl rfl (by kernel_rfl) rfl rfl
    | 1, _ => have e9 := Option.some.inj ho9; subst e9; exact ats1 (hS := hS) 39 40 (.pointer (some ⟨p, o, none⟩)) (.pointer (some ⟨p, o, none⟩)) rfl rfl (by kernel_rfl) rfl rfl (fun a9 W9 hb9 h9 => by simp [execOp, h9] <;> go_simp)
    | 2, _ => have e9 := Option.some.inj ho9; subst e9; exact ats1 (hS := hS) 40 41 (.pointer (some ⟨p, o, none⟩)) (.pointer (some ⟨p, o, none⟩)) rfl rfl (by kernel_rfl) rfl rfl (fun a9 W9 hb9 h9 => by simp [execOp, h9] <;> go_simp)
    | 3, _ => have e9 := Option.some.inj ho9; subst e9; exact ats1 (hS := hS) 41 42 (.pointer (some ⟨p, o, none⟩)) (.map (some m)) rfl rfl (by kernel_rfl) rfl rfl (fun a9 W9 hb9 h9 => by have g0 := World.grownBy.cell ((hSi W9).1 hb9) k0 (by first | exact hq0 | exact hq1); simp [execOp, h9] <;> go_simp)
    | 4, _ => have e9 := Option.some.inj ho9; subst e9; exact ats1 (hS := hS) 3 43 (.pointer (some ⟨B, 0, none⟩)) (.pointer (some ⟨B, 0, none⟩)) rfl rfl (by kernel_rfl) rfl rfl (fun a9 W9 hb9 h9 => by simp [execOp, h9] <;> go_simp)
    | 5, _ => have e9 := Option.some.inj ho9; subst e9; exact ats1 (hS := hS) 43 44 (.pointer (some ⟨B, 0, none⟩)) (.int .i64 a.at_) rfl rfl (by kernel_rfl) rfl rfl (fun a9 W9 hb9 h9 => by have g0 := World.grownBy.cell ((hSi W9).1 hb9) b0 (by first | exact hq0 | exact hq1); simp [execOp, h9] <;> go_simp)
    | 6, _ => have e9 := Option.some.inj ho9; subst e9; exact atscopy (hS := hS) 4 45 (.slice A k d) (.inl rfl) rfl rfl (by kernel_rfl) rfl rfl
    | 7, _ => have e9 := Option.some.inj ho9; subst e9; exact ats1 (hS := hS) 3 46 (.pointer (some ⟨B, 0, none⟩)) (.agg #[.int .i64 a.at_, .int .i64 a.fr, .int .i64 a.to_, .int .i64 (a.num : Int), .string a.dat]) rfl rfl (by kernel_rfl) rfl rfl (fun a9 W9 hb9 h9 => by have g0 := World.grownBy.cell ((hSi W9).1 hb9) b0 (by first | exact hq0 | exact hq1); have g1 := World.grownBy.cell ((hSi W9).1 hb9) b1 (by first | exact hq0 | exact hq1); have g2 := World.grownBy.cell ((hSi W9).1 hb9) b2 (by first | exact hq0 | exact hq1); have g3 := World.grownBy.cell ((hSi W9).1 hb9) b3 (by first | exact hq0 | exact hq1); have g4 := World.grownBy.cell ((hSi W9).1 hb9) b4 (by first | exact hq0 | exact hq1); simp [execOp, h9] <;> go_simp)
    | 8, _ => have e9 := Option.some.inj ho9; subst e9; exact ats_val rfl (fun a9 W9 hf9 => by have p46 := hf9 46 (by kernel_rfl); have h9 : a9.eval (.tmp 46) = (.agg #[.int .i64 a.at_, .int .i64 a.fr, .int .i64 a.to_, .int .i64 (a.num : Int), .string a.dat]) := p46.1; exact ⟨.slice (some ⟨W9.heap.size, 0, none⟩) 1 1, W9.alloc (Obj.cells #[.int .i64 a.at_, .int .i64 a.fr, .int .i64 a.to_, .int .i64 (a.num : Int), .string a.dat] 34), by simp [execOp, h9] <;> go_simp, ab1 _ _, fun s hs => by injection hs with hs; subst hs; exact ⟨W9.heap.size, rfl, heap_newI _ _, ((hSi W9).1 p46.2).size, hS _ _ p46.2 (ab1 _ _)⟩⟩)
    | 9, _ => exact absurd rfl hk9
  · intro o9 ho9
    have e9 := Option.some.inj ho9
    subst e9
    exact ats_valR rfl (fun a9 W9 hf9 hlow9 => by have p45 := hf9 45 (by kernel_rfl); obtain ⟨g9, p47, hg9, hge9, -⟩ := hf9 47 (by kernel_rfl); have q45 : a9.eval (.tmp 45) = (.slice A k d) := p45.1; have q47 : a9.eval (.tmp 47) = (.slice (some ⟨g9, 0, none⟩) 1 1) := p47; obtain ⟨v', w', e1, e2, e3⟩ := hAP W9 g9 hlow9 hg9 hge9; exact ⟨v', w', by simp [execOp, resolve, invoke, builtin, q45, q47, e1, Result.andThen], e3, fun s hs => by injection hs with hs; subst hs; exact e2⟩)
  intro vv wv hvv hRv
  have hv39 : vv 39 = (.pointer (some ⟨p, o, none⟩)) := (hvv 39 (by decide)).1
  have hv40 : vv 40 = (.pointer (some ⟨p, o, none⟩)) := (hvv 40 (by decide)).1
  have hv41 : vv 41 = (.pointer (some ⟨p, o, none⟩)) := (hvv 41 (by decide)).1
  have hv42 : vv 42 = (.map (some m)) := (hvv 42 (by decide)).1
  have hv43 : vv 43 = (.pointer (some ⟨B, 0, none⟩)) := (hvv 43 (by decide)).1
  have hv44 : vv 44 = (.int .i64 a.at_) := (hvv 44 (by decide)).1
  have hv45 : vv 45 = (.slice A k d) := (hvv 45 (by decide)).1
  have hv46 : vv 46 = (.agg #[.int .i64 a.at_, .int .i64 a.fr, .int .i64 a.to_, .int .i64 (a.num : Int), .string a.dat]) := (hvv 46 (by decide)).1
  obtain ⟨g9, hv47, -⟩ := hvv 47 (by decide)
  have hF48 := hvv 48 (by decide)
  obtain ⟨v', hv48⟩ : ∃ v', vv 48 = v' := ⟨_, rfl⟩
  rw [hv48] at hF48
  obtain ⟨A', n', c', rfl⟩ : ∃ A' n' c', v' = .slice A' n' c' := by
    obtain ⟨A', c', rfl, -⟩ := own_nil_or hF48.1
    exact ⟨_, _, _, rfl⟩
  simp only [lay, List.foldl_cons, List.foldl_nil, List.setIfInBounds_toArray, List.set_cons_succ, List.set_cons_zero, hv39, hv40, hv41, hv42, hv43, hv44, hv45, hv46, hv47, hv48, List.drop_succ_cons, List.drop_zero]
  rw [← HV0.out, ← HL2.out] at hF48
  obtain ⟨hO4, hN4, hG4⟩ := hF48
  have SB := HSB.out
  rw [← HV.out] at hG4 hN4
  have hMi : Mi wv m Q.T V := SB.mi.blk (hG4.block m SB.mi.lt fun e => SB.vm _ e.symm)
  obtain ⟨w6, hU, hM6, hG6⟩ := hMi.put (T' := (Q.add a).T) (t := a.at_) HI.out A' n' c' (add_memT a HOK.out) HLN.out (by have := HTL.out; unfold maxLen; omega)
  have sb6 := SB.app hG4 hO4 hN4 hM6 hG6
  have k2 := sb6.c2
  have j2 := sb6.f2
  have kl := sb6.lt
  have hbk6 : w6.heap[p]? = w2.heap[p]? := (hG6.block p (Nat.lt_of_lt_of_le SB.lt hG4.size) fun e => SB.mp (by injection e with e; exact e.symm)).trans (hG4.block p SB.lt fun e => SB.vp _ e.symm)
  have HE : Hid (ScM p o m V tv (Q.add a) (.tuple #[]) w (.returned (.tuple #[])) (w6.setCell ⟨p, o + 2, none⟩ (.int .i64 ((Q.n : Int) + 1)))) := Lib.hid ⟨rfl, _, _, sb6.cnt _, HN2.out.trans HF2.out.size (FpN.app hN4), ((HF2.out.trans (Fm.gb (s := Fp p m V tv) hG4 fun i e => .inr (.inr (.inr ⟨_, e⟩))) HFp.out).trans (Fm.gb (s := Fp p m V tv) hG6 fun i e => by injection e with e; exact .inr (.inl e.symm)) (fun i _ e => e)).trans (Fm.gb (s := Fp p m V tv) (gb_set1 w6 ⟨p, o + 2, none⟩ _) fun i e => by injection e with e; exact .inl e.symm) (fun i _ e => e), (HO2.out.trans (Oc.blk hbk6)).trans (Oc.set _ _ _ _ _ (.inr (.inr rfl)))⟩
  have hU2 := hU
  clear hU sb6 hMi hO4 hN4 hG4 hG6 hM6 hbk6 SB hAP hSd hSi hS hS0 hRd hRB hRt hSR hRg hvv hRv k0 b0 b1 b2 b3 b4 bl hq0 hq1 hq2 hv0 hl2
  have hn9 := HN9.out
  have hwr : IntKind.i64.wrap ((Q.n : Int) + 1) = (Q.n : Int) + 1 := by rw [IntKind.wrap_i64]; omega
  go_wp2_with fail
  refine bodyPost_ret (v := .tuple #[]) (by simp [results, Try.results35, go_sem]) rfl ?_
  exact HE.out
set_option maxRecDepth 100000 in
set_option maxHeartbeats 8000000 in
theorem addNew_any (p o : Nat) (w : World) (m : Nat) (V : Int → Value) (tv : Value) (Q : Sq) (a : Ar) (h : Sb p o w m V tv Q.T Q.T Q.G (Q.n : Int)) (hok : Okq Q) (hn : Q.n ≤ 1000000) (hI : I64 a.at_) (hne : Q.G a.at_ = []) :
    Calls Try.prog 35 #[(.pointer (some ⟨p, o, none⟩)), (.agg #[.int .i64 a.at_, .int .i64 a.fr, .int .i64 a.to_, .int .i64 (a.num : Int), .string a.dat])] w (ScM p o m V tv (Q.add a) (.tuple #[]) w) := by
  have HOK := Lib.hid hok
  have HN9 := Lib.hid hn
  have HI := Lib.hid hI
  have HTL : Hid (Q.T.length ≤ 1000000) := Lib.hid (Nat.le_trans (len_T hok) hn)
  have HK9 : Hid ((Q.G a.at_).length ≤ 1000000) := Lib.hid (Nat.le_trans (len_G hok _) hn)
  have HLN : Hid ((Q.add a).T.length = if a.at_ ∈ Q.T then Q.T.length else Q.T.length + 1) := Lib.hid (add_lenT a hok)
  obtain ⟨A, d, hv, -⟩ := own_nil_or (h.ow a.at_)
  obtain ⟨k, hk⟩ : ∃ k, (Q.G a.at_).length = k := ⟨_, rfl⟩
  have HK := Lib.hid hk
  rw [hk] at hv
  have HV := Lib.hid hv
  have hk9 : k ≤ 1000000 := by rw [← hk]; exact HK9.out
  have hab := ab1 w (Obj.cells #[.int .i64 a.at_, .int .i64 a.fr, .int .i64 a.to_, .int .i64 (a.num : Int), .string a.dat] 34)
  have h1 := h.next hab
  have B1 := Bx.new5 w 34 (.int .i64 a.at_) (.int .i64 a.fr) (.int .i64 a.to_) (.int .i64 (a.num : Int)) (.string a.dat)
  have HBV : Hid ((V a.at_).ownBlock ≠ some w.heap.size) := Lib.hid fun e => Nat.lt_irrefl _ ((h.ow a.at_).lt _ e).2
  have HBT : Hid (tv.ownBlock ≠ some w.heap.size) := Lib.hid fun e => Nat.lt_irrefl _ (h.tl _ e)
  have H0 := Lib.hid h
  have HBp : Hid (p ≠ w.heap.size) := Lib.hid (Nat.ne_of_lt h.lt)
  obtain rfl : k = 0 := by rw [← hk, hne]; rfl
  obtain ⟨At, cT, htv, -, -⟩ := h.ro
  obtain ⟨nT, hnT⟩ : ∃ nT, Q.T.length = nT := ⟨_, rfl⟩
  have HNT := Lib.hid hnT
  rw [hnT] at htv
  subst htv
  obtain ⟨i, hi⟩ : ∃ i, psI a.at_ Q.T = i := ⟨_, rfl⟩
  have HP := Lib.hid hi
  have HPL : Hid (i ≤ nT) := Lib.hid (by rw [← hi, ← hnT]; exact psI_le _ _)
  have hT : (Q.add a).T = Q.T.take i ++ a.at_ :: Q.T.drop i := by rw [← hi]; exact if_pos (by rw [hne]; rfl)
  have HT := Lib.hid hT
  have HTL2 : Hid (nT ≤ 1000000) := Lib.hid (by rw [← hnT]; exact HTL.out)
  have cS := fun W (hb : Below w.heap.size w W) => searchI_any Q.T a.at_ At nT cT W HTL2.out hnT (h.ro.next hb) (fun x y hx hy hxy => asc_le hok.asc x y hx hy hxy)
  rw [hi] at cS
  generalize fI a.at_ (Q.T.drop i) = fb at cS
  have HCS := Lib.hid cS
  clear hne hT hk hn hi hnT cS
  go_enter Try.func35, Try.ntmps35
  go_upto_region 1 with (fail)
  generalize hw1 : w.alloc (Obj.cells #[.int .i64 a.at_, .int .i64 a.fr, .int .i64 a.to_, .int .i64 (a.num : Int), .string a.dat] 34) = w1 at *
  clear hw1
  obtain ⟨B, hB⟩ : ∃ B, w.heap.size = B := ⟨_, rfl⟩
  rw [hB] at B1 HBV HBT HBp ⊢
  clear hB
  have H1 := Lib.hid h1
  have b0 := B1.c 0 rfl
  have b1 := B1.c 1 rfl
  have b2 := B1.c 2 rfl
  have b3 := B1.c 3 rfl
  have b4 := B1.c 4 rfl
  have bl := B1.lt
  have rb0 := fun d os => cell_regrown b0 d os
  have rc0 := fun d os => cell_regrown h1.c0 d os
  have rm := fun d os => (h1.mi.next (below_regrown w1 d os)).look hI
  rw [hv] at rm
  have pl := h1.lt
  clear h1 h hok hI hv
  refine wp_region_quiet_below (by kernel_rfl) (by kernel_rfl) ?_
  repeat (go_big_quiet_step (fail))
  refine wpQuiet_nil ?_
  intro _ hw'
  obtain ⟨⟨dq, osq⟩, hw''⟩ := hw'
  subst hw''
  have hbq := below_regrown w1 dq osq
  clear rb0 rc0 rm
  generalize grow (redrawn w1 dq) osq = w2 at *
  have H2 := Lib.hid (H1.out.next hbq)
  have B2 := B1.next hbq
  clear b0 b1 b2 b3 b4 bl B1 pl
  have b0 := B2.c 0 rfl
  have b1 := B2.c 1 rfl
  have b2 := B2.c 2 rfl
  have b3 := B2.c 3 rfl
  have b4 := B2.c 4 rfl
  have bl := B2.lt
  have hbw := Below.next hab hbq
  have cQ := fun d os => Calls.regrown_of (Is.ib_calls (HCS.out (grow (redrawn w2 d) os) (Below.next hbw (below_regrown _ d os))))
  have rb0 := fun d os => cell_regrown b0 d os
  have rc1 := fun d os => cell_regrown H2.out.c1 d os
  have pl := H2.out.lt
  go_upto_region 3 with (fail)
  refine wp_region_quiet_below (by kernel_rfl) (by kernel_rfl) ?_
  repeat (go_big_quiet_step (exact cQ _ _))
  refine wpQuiet_nil ?_
  intro _ hw'
  obtain ⟨⟨dq, osq⟩, hw''⟩ := hw'
  subst hw''
  have hbq2 := below_regrown w2 dq osq
  clear rb0 rc1 cQ pl
  generalize grow (redrawn w2 dq) osq = w3 at *
  have H3 := Lib.hid (H2.out.next hbq2)
  have hbw3 := Below.next hbw hbq2
  have B3 := B2.next hbq2
  clear b0 b1 b2 b3 b4 bl B2 hab hbq hbq2 hbw
  have b0 := B3.c 0 rfl
  have bl := B3.lt
  have hq2 : ∀ g, (Value.slice At nT cT).ownBlock = some g → g < w3.heap.size := H3.out.tl
  have hq0 : some p ≠ (Value.slice At nT cT).ownBlock := fun e => H3.out.tp e.symm
  have hq1 : some B ≠ (Value.slice At nT cT).ownBlock := fun e => HBT.out e.symm
  have k1 := H3.out.c1
  obtain ⟨v0, hv0⟩ : ∃ v0, (Value.slice At nT cT) = v0 := ⟨_, rfl⟩
  obtain ⟨l2, hl2⟩ : ∃ l2, (Q.add a).T = l2 := ⟨_, rfl⟩
  have HV0 := Lib.hid hv0
  have HL2 := Lib.hid hl2
  obtain ⟨S, hSd⟩ : ∃ S : World → Prop, (fun W : World => w3.grownBy W (Value.slice At nT cT).ownBlock) = S := ⟨_, rfl⟩
  have hSi : ∀ W, S W ↔ w3.grownBy W (Value.slice At nT cT).ownBlock := fun W => by rw [← hSd]
  have hS : Keeps S := fun W W' h hb => by rw [hSi] at h ⊢; exact h.trans (gbq_of hb _)
  have hS0 : S w3 := by rw [hSi]; exact World.grownBy.refl _ _
  obtain ⟨RR, hRd⟩ : ∃ RR : World → World → Prop, (fun W W' : World => W.grownBy W' (Value.slice At nT cT).ownBlock) = RR := ⟨_, rfl⟩
  have hRB : ∀ W W' : World, Below W.heap.size W W' → RR W W' := fun W W' hb => by rw [← hRd]; exact gbq_of hb _
  have hRt : ∀ W W1 W2 : World, RR W W1 → RR W1 W2 → RR W W2 := fun W W1 W2 h h8 => by rw [← hRd] at h h8 ⊢; exact h.trans h8
  have hSR : ∀ W W' : World, S W → RR W W' → S W' := fun W W' h h8 => by rw [hSi] at h ⊢; rw [← hRd] at h8; exact h.trans h8
  have hRg : ∀ W W' : World, RR W W' → W.grownBy W' (Value.slice At nT cT).ownBlock := fun W W' h => by rw [← hRd] at h; exact h
  have hIN : ∀ (W : World) (g9 : Nat), Below w3.heap.size w3 W → W.heap[g9]? = some (.cells #[.int .i64 a.at_] 3 (0, 0)) → w3.heap.size ≤ g9 → Calls Try.prog 46 #[.slice At nT cT, .int .i64 (i : Int), .slice (some ⟨g9, 0, none⟩) 1 1] W (fun e w' => ∃ v', e = .returned v' ∧ (FIi w3 v0 l2).holds v' w' ∧ RR W w') := by
    intro W g9 hlow hg9 hge9
    refine (ins_any At nT cT i Q.T a.at_ g9 1 W (by have := HTL2.out; omega) HNT.out.symm HPL.out (H3.out.ro.next hlow) hg9 (fun e => by have := hq2 g9 e; omega)).mono ?_
    rintro e w' ⟨v', rfl, h1, h2, h3⟩
    rw [← HV0.out, ← hRd]
    refine ⟨v', rfl, ⟨?_, ?_, (gbq_of hlow _).trans h2, ?_⟩, h2⟩
    · rw [← HL2.out, HT.out]; exact h1
    · rcases h3 with h3 | ⟨g, h3, h4⟩
      · exact .inl h3
      · exact .inr ⟨g, h3, Nat.le_trans hlow.size h4⟩
    · intro g e
      obtain ⟨A', c', rfl, -, h0 | ⟨g', o', cur, rfl, hc, -⟩⟩ := h1
      · have := h0.2; simp at this
      · injection e with e; rw [← e]; exact (Array.getElem?_eq_some_iff.1 hc).1
  go_upto_region 4 with (fail)
  refine wp_region_one (by kernel_rfl) (FF [(0, Fact.atS S hS (.pointer (some ⟨p, o, none⟩))), (3, Fact.atS S hS (.pointer (some ⟨B, 0, none⟩))), (5, Fact.atS S hS (.int .i64 (i : Int))), (27, Fact.atS S hS (.pointer (some ⟨p, o, none⟩))), (28, Fact.atS S hS (.pointer (some ⟨p, o, none⟩))), (29, Fact.atS S hS (.pointer (some ⟨p, o, none⟩))), (30, Fact.atS S hS (.pointer (some ⟨p, o + 1, none⟩))), (31, Fact.atS S hS (.slice At nT cT)), (32, Fact.atS S hS (.int .i64 (i : Int))), (33, Fact.atS S hS (.pointer (some ⟨B, 0, none⟩))), (34, Fact.atS S hS (.int .i64 a.at_)), (35, FNS S hS #[.int .i64 a.at_] 3 w3), (36, FIi w3 v0 l2)]) RR hRB hRt 9 36 rfl (FF_keep (fcs ⟨fun _ => atS_keep (hS := hS) hSR, fcs ⟨fun _ => atS_keep (hS := hS) hSR, fcs ⟨fun _ => atS_keep (hS := hS) hSR, fcs ⟨fun _ => atS_keep (hS := hS) hSR, fcs ⟨fun _ => atS_keep (hS := hS) hSR, fcs ⟨fun _ => atS_keep (hS := hS) hSR, fcs ⟨fun _ => atS_keep (hS := hS) hSR, fcs ⟨fun _ => atS_keep (hS := hS) hSR, fcs ⟨fun _ => atS_keep (hS := hS) hSR, fcs ⟨fun _ => atS_keep (hS := hS) hSR, fcs ⟨fun _ => atS_keep (hS := hS) hSR, fcs ⟨fun _ => FNS_keep (hS := hS) hSR hRg hq2, fcs ⟨fun h => absurd rfl h, fnl⟩⟩⟩⟩⟩⟩⟩⟩⟩⟩⟩⟩⟩)) [0, 3, 5] 56 10 [27, 28, 29, 30, 31, 32, 33, 34, 35, 36] rfl (by kernel_rfl) (by kernel_rfl) (by decide) (by kernel_rfl) ?_ ?_ ?_ ?_
  · intro t9 ht9
    simp only [List.mem_cons, List.not_mem_nil, or_false] at ht9
    rcases ht9 with rfl | rfl | rfl
    · exact ⟨rfl, hS0⟩
    · exact ⟨rfl, hS0⟩
    · exact ⟨rfl, hS0⟩
  · intro i9 o9 hi9 hk9 ho9
    match i9, hi9 with
    | 0, _ => have e9 := Option.some.inj ho9; subst e9; exact atscopy (hS := hS) 0 27 (.pointer (some ⟨p, o, none⟩)) (.inl rfl) rfl rfl (by kernel_rfl) rfl rfl
    | 1, _ => have e9 := Option.some.inj ho9; subst e9; exact atscopy (hS := hS) 0 28 (.pointer (some ⟨p, o, none⟩)) (.inl rfl) rfl rfl (by kernel_rfl) rfl rfl
    | 2, _ => have e9 := Option.some.inj ho9; subst e9; exact ats1 (hS := hS) 28 29 (.pointer (some ⟨p, o, none⟩)) (.pointer (some ⟨p, o, none⟩)) rfl rfl (by kernel_rfl) rfl rfl (fun a9 W9 hb9 h9 => by simp [execOp, h9] <;> go_simp)
    | 3, _ => have e9 := Option.some.inj ho9; subst e9; exact ats1 (hS := hS) 29 30 (.pointer (some ⟨p, o, none⟩)) (.pointer (some ⟨p, o + 1, none⟩)) rfl rfl (by kernel_rfl) rfl rfl (fun a9 W9 hb9 h9 => by simp [execOp, h9] <;> go_simp)
    | 4, _ => have e9 := Option.some.inj ho9; subst e9; exact ats1 (hS := hS) 30 31 (.pointer (some ⟨p, o + 1, none⟩)) (.slice At nT cT) rfl rfl (by kernel_rfl) rfl rfl (fun a9 W9 hb9 h9 => by have g0 := World.grownBy.cell ((hSi W9).1 hb9) k1 (by first | exact hq0 | exact hq1); simp [execOp, h9] <;> go_simp)
    | 5, _ => have e9 := Option.some.inj ho9; subst e9; exact atscopy (hS := hS) 5 32 (.int .i64 (i : Int)) (.inl rfl) rfl rfl (by kernel_rfl) rfl rfl
    | 6, _ => have e9 := Option.some.inj ho9; subst e9; exact ats1 (hS := hS) 3 33 (.pointer (some ⟨B, 0, none⟩)) (.pointer (some ⟨B, 0, none⟩)) rfl rfl (by kernel_rfl) rfl rfl (fun a9 W9 hb9 h9 => by simp [execOp, h9] <;> go_simp)
    | 7, _ => have e9 := Option.some.inj ho9; subst e9; exact ats1 (hS := hS) 33 34 (.pointer (some ⟨B, 0, none⟩)) (.int .i64 a.at_) rfl rfl (by kernel_rfl) rfl rfl (fun a9 W9 hb9 h9 => by have g0 := World.grownBy.cell ((hSi W9).1 hb9) b0 (by first | exact hq0 | exact hq1); simp [execOp, h9] <;> go_simp)
    | 8, _ => have e9 := Option.some.inj ho9; subst e9; exact ats_val rfl (fun a9 W9 hf9 => by have p34 := hf9 34 (by kernel_rfl); have h9 : a9.eval (.tmp 34) = (.int .i64 a.at_) := p34.1; exact ⟨.slice (some ⟨W9.heap.size, 0, none⟩) 1 1, W9.alloc (Obj.cells #[.int .i64 a.at_] 3), by simp [execOp, h9] <;> go_simp, ab1 _ _, fun s hs => by injection hs with hs; subst hs; exact ⟨W9.heap.size, rfl, heap_newI _ _, ((hSi W9).1 p34.2).size, hS _ _ p34.2 (ab1 _ _)⟩⟩)
    | 9, _ => exact absurd rfl hk9
  · intro o9 ho9
    have e9 := Option.some.inj ho9
    subst e9
    exact ats_enterR rfl (fun a9 W9 hf9 hlow9 => by have p31 := hf9 31 (by kernel_rfl); have p32 := hf9 32 (by kernel_rfl); obtain ⟨g9, p35, hg9, hge9, -⟩ := hf9 35 (by kernel_rfl); have q31 : a9.tmps.getD 31 undef = (.slice At nT cT) := p31.1; have q32 : a9.tmps.getD 32 undef = (.int .i64 (i : Int)) := p32.1; have q35 : a9.tmps.getD 35 undef = (.slice (some ⟨g9, 0, none⟩) 1 1) := p35; exact ⟨46, #[(.slice At nT cT), (.int .i64 (i : Int)), (.slice (some ⟨g9, 0, none⟩) 1 1)], by rw [← q31, ← q32, ← q35]; simpa [execOp, resolve, Act.eval] using run_invoke (by kernel_rfl) _ W9, (hIN W9 g9 hlow9 hg9 hge9).mono fun e w' ⟨v', e1, e2, e3⟩ => ⟨v', e1, e3, fun s hs => by injection hs with hs; subst hs; exact e2⟩⟩)
  intro vv wv hvv hRv
  have hv27 : vv 27 = (.pointer (some ⟨p, o, none⟩)) := (hvv 27 (by decide)).1
  have hv28 : vv 28 = (.pointer (some ⟨p, o, none⟩)) := (hvv 28 (by decide)).1
  have hv29 : vv 29 = (.pointer (some ⟨p, o, none⟩)) := (hvv 29 (by decide)).1
  have hv30 : vv 30 = (.pointer (some ⟨p, o + 1, none⟩)) := (hvv 30 (by decide)).1
  have hv31 : vv 31 = (.slice At nT cT) := (hvv 31 (by decide)).1
  have hv32 : vv 32 = (.int .i64 (i : Int)) := (hvv 32 (by decide)).1
  have hv33 : vv 33 = (.pointer (some ⟨B, 0, none⟩)) := (hvv 33 (by decide)).1
  have hv34 : vv 34 = (.int .i64 a.at_) := (hvv 34 (by decide)).1
  obtain ⟨g9, hv35, -⟩ := hvv 35 (by decide)
  have hF36 := hvv 36 (by decide)
  obtain ⟨v', hv36⟩ : ∃ v', vv 36 = v' := ⟨_, rfl⟩
  rw [hv36] at hF36
  obtain ⟨A', n', c', rfl⟩ : ∃ A' n' c', v' = .slice A' n' c' := by
    obtain ⟨A', c', rfl, -⟩ := hF36.1
    exact ⟨_, _, _, rfl⟩
  simp only [lay, List.foldl_cons, List.foldl_nil, List.setIfInBounds_toArray, List.set_cons_succ, List.set_cons_zero, hv27, hv28, hv29, hv30, hv31, hv32, hv33, hv34, hv35, hv36, List.drop_succ_cons, List.drop_zero]
  rw [← HV0.out, ← HL2.out] at hF36
  obtain ⟨hO3, hN3, hG3, hL3⟩ := hF36
  have SB3 := H3.out
  have hbk : wv.heap[p]? = w3.heap[p]? := hG3.block p SB3.lt hq0
  have j1 : wv.cell? ⟨p, o + 1, none⟩ = some (.slice At nT cT) := (World.cell?_of_block (a := ⟨p, o + 1, none⟩) hbk).trans SB3.c1
  have j2 : wv.frozen? ⟨p, o + 1, none⟩ = false := (World.frozen?_of_block (a := ⟨p, o + 1, none⟩) hbk).trans SB3.f1
  have jl := blk_lt j1
  have sb4 := SB3.row hG3 hO3 hN3 hL3
  have B4 : Bx (wv.setCell ⟨p, o + 1, none⟩ (.slice A' n' c')) B [.int .i64 a.at_, .int .i64 a.fr, .int .i64 a.to_, .int .i64 (a.num : Int), .string a.dat] := by
    have hB : wv.heap[B]? = w3.heap[B]? := hG3.block B bl hq1
    have nn : ∀ j, (⟨p, o + 1, none⟩ : Addr) ≠ ⟨B, j, none⟩ := fun j e => HBp.out (by injection e)
    refine ⟨Nat.lt_of_lt_of_le (Nat.lt_of_lt_of_le bl hG3.size) (gb_set1 wv ⟨p, o + 1, none⟩ _).size, fun j u e => ⟨(World.cell?_setCell_other (h := nn j) ..).trans ((World.cell?_of_block (a := ⟨B, j, none⟩) hB).trans (B3.at_ j u e).1), ?_⟩⟩
    have : (wv.setCell ⟨p, o + 1, none⟩ (.slice A' n' c')).frozen? ⟨B, j, none⟩ = wv.frozen? ⟨B, j, none⟩ := by simp
    rw [this]
    exact (World.frozen?_of_block (a := ⟨B, j, none⟩) hB).trans (B3.at_ j u e).2
  have gb4 := gb_set1 wv ⟨p, o + 1, none⟩ (.slice A' n' c')
  have HSB : Hid (Sb p o (wv.setCell ⟨p, o + 1, none⟩ (.slice A' n' c')) m V (.slice A' n' c') (Q.add a).T Q.T Q.G (Q.n : Int)) := Lib.hid sb4
  have HF2 : Hid (Fm (Fp p m V (.slice At nT cT)) w (wv.setCell ⟨p, o + 1, none⟩ (.slice A' n' c'))) := Lib.hid (((Fm.of (Fp p m V (.slice At nT cT)) hbw3).trans (Fm.gb (s := Fp p m V (.slice At nT cT)) hG3 fun i e => .inr (.inr (.inl e))) (fun i _ e => e)).trans (Fm.gb (s := Fp p m V (.slice At nT cT)) gb4 fun i e => by injection e with e; exact .inl e.symm) (fun i _ e => e))
  have HNV : Hid (FpN w (Fp p m V (.slice At nT cT)) (Fp p m V (.slice A' n' c'))) := Lib.hid ((FpN.refl w _).trans hbw3.size (FpN.row hN3))
  have HN2 := HNV
  have HFp : Hid (∀ i, i < w.heap.size → Fp p m V (.slice A' n' c') i → Fp p m V (.slice At nT cT) i) := Lib.hid fun i hi e => (HNV.out i e).resolve_right (by omega)
  have HO2 : Hid (Oc p o w (wv.setCell ⟨p, o + 1, none⟩ (.slice A' n' c'))) := Lib.hid (((Oc.blk (hbw3.block p H0.out.lt)).trans (Oc.blk hbk)).trans (Oc.set _ _ _ _ _ (.inr (.inl rfl))))
  clear hv35 hv36 sb4 SB3 hO3 hN3 hG3 hL3 hbk gb4 hIN hSd hSi hS hS0 hRd hRB hRt hSR hRg hvv hRv k1 b0 bl hq0 hq1 hq2 hv0 hl2 HV0 HL2 B3 hbw3
  clear v0 l2 S RR
  go_upto_region 5 with (fail)
  generalize Value.slice A' n' c' = tv2 at *
  generalize wv.setCell ⟨p, o + 1, none⟩ tv2 = w2 at *
  clear j1 j2 jl hv27 hv28 hv29 hv30 hv31 hv32 hv33 hv34
  clear H3
  clear vv wv w3
  have b0 := B4.c 0 rfl
  have b1 := B4.c 1 rfl
  have b2 := B4.c 2 rfl
  have b3 := B4.c 3 rfl
  have b4 := B4.c 4 rfl
  have bl := B4.lt
  skip
  have SB := HSB.out
  have hq2 : ∀ g, (Value.slice A 0 d).ownBlock = some g → g < w2.heap.size := fun g e => by rw [← HV.out] at e; exact ((SB.ow a.at_).lt g e).2
  have hq0 : some p ≠ (Value.slice A 0 d).ownBlock := fun e => by rw [← HV.out] at e; exact SB.vp _ e.symm
  have hq1 : some B ≠ (Value.slice A 0 d).ownBlock := fun e => by rw [← HV.out] at e; exact HBV.out e.symm
  have k0 := SB.c0
  clear SB
  obtain ⟨v0, hv0⟩ : ∃ v0, (Value.slice A 0 d) = v0 := ⟨_, rfl⟩
  obtain ⟨l2, hl2⟩ : ∃ l2, Q.G a.at_ ++ [a] = l2 := ⟨_, rfl⟩
  have HV0 := Lib.hid hv0
  have HL2 := Lib.hid hl2
  obtain ⟨S, hSd⟩ : ∃ S : World → Prop, (fun W : World => w2.grownBy W (Value.slice A 0 d).ownBlock) = S := ⟨_, rfl⟩
  have hSi : ∀ W, S W ↔ w2.grownBy W (Value.slice A 0 d).ownBlock := fun W => by rw [← hSd]
  have hS : Keeps S := fun W W' h hb => by rw [hSi] at h ⊢; exact h.trans (gbq_of hb _)
  have hS0 : S w2 := by rw [hSi]; exact World.grownBy.refl _ _
  obtain ⟨RR, hRd⟩ : ∃ RR : World → World → Prop, (fun W W' : World => W.grownBy W' (Value.slice A 0 d).ownBlock) = RR := ⟨_, rfl⟩
  have hRB : ∀ W W' : World, Below W.heap.size W W' → RR W W' := fun W W' hb => by rw [← hRd]; exact gbq_of hb _
  have hRt : ∀ W W1 W2 : World, RR W W1 → RR W1 W2 → RR W W2 := fun W W1 W2 h h8 => by rw [← hRd] at h h8 ⊢; exact h.trans h8
  have hSR : ∀ W W' : World, S W → RR W W' → S W' := fun W W' h h8 => by rw [hSi] at h ⊢; rw [← hRd] at h8; exact h.trans h8
  have hRg : ∀ W W' : World, RR W W' → W.grownBy W' (Value.slice A 0 d).ownBlock := fun W W' h => by rw [← hRd] at h; exact h
  have hAP : ∀ (W : World) (g9 : Nat), Below w2.heap.size w2 W → W.heap[g9]? = some (.cells #[.int .i64 a.at_, .int .i64 a.fr, .int .i64 a.to_, .int .i64 (a.num : Int), .string a.dat] 34 (0, 0)) → w2.heap.size ≤ g9 → ∃ v' w', (Builtin.append_ #[28, 28] 28 #[.slice A 0 d, .slice (some ⟨g9, 0, none⟩) 1 1]).run Try.prog W = .ok v' w' ∧ (FIa w2 v0 l2).holds v' w' ∧ RR W w' := by
    intro W g9 hlow hg9 hge9
    have ho := own_next (HSB.out.ow a.at_) hlow
    rw [HV.out] at ho
    have hk9 := HK9.out
    obtain ⟨i, hi, hz, hs5, hby⟩ := info_parts infoA
    obtain ⟨v', w', e1, e2, e3, -, e5⟩ := run_append_own_at (P := Try.prog) W 0 28 28 34 i _ 5 48 Try.underlying28 hi hz hs5 hby rfl (by omega) (.slice A 0 d) 0 (tc e5 (Q.G a.at_)) (by rw [HK.out] at ho; exact ho) ⟨g9, 0, none⟩ 1 1 (e5 a) rfl
      (fun j u hj => by rw [Addr.add_lit, cell_lit hg9, Nat.zero_add, List.getElem?_toArray]; exact hj) (e5_one a) (by unfold maxLen; omega) (by omega) (Nat.zero_le _)
    refine ⟨v', w', e1, ⟨?_, ?_, ?_⟩, by rw [← hRd]; exact e3⟩
    · rw [← HL2.out]
      unfold OwA
      rw [tc_app, tc_one, List.length_append, HK.out]
      exact e2
    · rw [← HV0.out]
      rcases e5 with e5 | e5
      · exact .inl e5
      · exact .inr ⟨_, e5, hlow.size⟩
    · rw [← HV0.out]; exact (gbq_of hlow _).trans e3
  refine wp_region_one (by kernel_rfl) (FF [(0, Fact.atS S hS (.pointer (some ⟨p, o, none⟩))), (3, Fact.atS S hS (.pointer (some ⟨B, 0, none⟩))), (4, Fact.atS S hS (.slice A 0 d)), (39, Fact.atS S hS (.pointer (some ⟨p, o, none⟩))), (40, Fact.atS S hS (.pointer (some ⟨p, o, none⟩))), (41, Fact.atS S hS (.pointer (some ⟨p, o, none⟩))), (42, Fact.atS S hS (.map (some m))), (43, Fact.atS S hS (.pointer (some ⟨B, 0, none⟩))), (44, Fact.atS S hS (.int .i64 a.at_)), (45, Fact.atS S hS (.slice A 0 d)), (46, Fact.atS S hS (.agg #[.int .i64 a.at_, .int .i64 a.fr, .int .i64 a.to_, .int .i64 (a.num : Int), .string a.dat])), (47, FNS S hS #[.int .i64 a.at_, .int .i64 a.fr, .int .i64 a.to_, .int .i64 (a.num : Int), .string a.dat] 34 w2), (48, FIa w2 v0 l2)]) RR hRB hRt 9 48 rfl (FF_keep (fcs ⟨fun _ => atS_keep (hS := hS) hSR, fcs ⟨fun _ => atS_keep (hS := hS) hSR, fcs ⟨fun _ => atS_keep (hS := hS) hSR, fcs ⟨fun _ => atS_keep (hS := hS) hSR, fcs ⟨fun _ => atS_keep (hS := hS) hSR, fcs ⟨fun _ => atS_keep (hS := hS) hSR, fcs ⟨fun _ => atS_keep (hS := hS) hSR, fcs ⟨fun _ => atS_keep (hS := hS) hSR, fcs ⟨fun _ => atS_keep (hS := hS) hSR, fcs ⟨fun _ => atS_keep (hS := hS) hSR, fcs ⟨fun _ => atS_keep (hS := hS) hSR, fcs ⟨fun _ => FNS_keep (hS := hS) hSR hRg hq2, fcs ⟨fun h => absurd rfl h, fnl⟩⟩⟩⟩⟩⟩⟩⟩⟩⟩⟩⟩⟩)) [0, 3, 4] 56 10 [39, 40, 41, 42, 43, 44, 45, 46, 47, 48] rfl (by kernel_rfl) (by kernel_rfl) (by decide) (by kernel_rfl) ?_ ?_ ?_ ?_
  · intro t9 ht9
    simp only [List.mem_cons, List.not_mem_nil, or_false] at ht9
    rcases ht9 with rfl | rfl | rfl
    · exact ⟨rfl, hS0⟩
    · exact ⟨rfl, hS0⟩
    · exact ⟨rfl, hS0⟩
  · intro i9 o9 hi9 hk9 ho9
    match i9, hi9 with
    | 0, _ => have e9 := Option.some.inj ho9; subst e9; exact atscopy (hS := hS) 0 39 (.pointer (some ⟨p, o, none⟩)) (.inl rfl) rfl rfl (by kernel_rfl) rfl rfl
    | 1, _ => have e9 := Option.some.inj ho9; subst e9; exact ats1 (hS := hS) 39 40 (.pointer (some ⟨p, o, none⟩)) (.pointer (some ⟨p, o, none⟩)) rfl rfl (by kernel_rfl) rfl rfl (fun a9 W9 hb9 h9 => by simp [execOp, h9] <;> go_simp)
    | 2, _ => have e9 := Option.some.inj ho9; subst e9; exact ats1 (hS := hS) 40 41 (.pointer (some ⟨p, o, none⟩)) (.pointer (some ⟨p, o, none⟩)) rfl rfl (by kernel_rfl) rfl rfl (fun a9 W9 hb9 h9 => by simp [execOp, h9] <;> go_simp)
    | 3, _ => have e9 := Option.some.inj ho9; subst e9; exact ats1 (hS := hS) 41 42 (.pointer (some ⟨p, o, none⟩)) (.map (some m)) rfl rfl (by kernel_rfl) rfl rfl (fun a9 W9 hb9 h9 => by have g0 := World.grownBy.cell ((hSi W9).1 hb9) k0 (by first | exact hq0 | exact hq1); simp [execOp, h9] <;> go_simp)
    | 4, _ => have e9 := Option.some.inj ho9; subst e9; exact ats1 (hS := hS) 3 43 (.pointer (some ⟨B, 0, none⟩)) (.pointer (some ⟨B, 0, none⟩)) rfl rfl (by kernel_rfl) rfl rfl (fun a9 W9 hb9 h9 => by simp [execOp, h9] <;> go_simp)
    | 5, _ => have e9 := Option.some.inj ho9; subst e9; exact ats1 (hS := hS) 43 44 (.pointer (some ⟨B, 0, none⟩)) (.int .i64 a.at_) rfl rfl (by kernel_rfl) rfl rfl (fun a9 W9 hb9 h9 => by have g0 := World.grownBy.cell ((hSi W9).1 hb9) b0 (by first | exact hq0 | exact hq1); simp [execOp, h9] <;> go_simp)
    | 6, _ => have e9 := Option.some.inj ho9; subst e9; exact atscopy (hS := hS) 4 45 (.slice A 0 d) (.inl rfl) rfl rfl (by kernel_rfl) rfl rfl
    | 7, _ => have e9 := Option.some.inj ho9; subst e9; exact ats1 (hS := hS) 3 46 (.pointer (some ⟨B, 0, none⟩)) (.agg #[.int .i64 a.at_, .int .i64 a.fr, .int .i64 a.to_, .int .i64 (a.num : Int), .string a.dat]) rfl rfl (by kernel_rfl) rfl rfl (fun a9 W9 hb9 h9 => by have g0 := World.grownBy.cell ((hSi W9).1 hb9) b0 (by first | exact hq0 | exact hq1); have g1 := World.grownBy.cell ((hSi W9).1 hb9) b1 (by first | exact hq0 | exact hq1); have g2 := World.grownBy.cell ((hSi W9).1 hb9) b2 (by first | exact hq0 | exact hq1); have g3 := World.grownBy.cell ((hSi W9).1 hb9) b3 (by first | exact hq0 | exact hq1); have g4 := World.grownBy.cell ((hSi W9).1 hb9) b4 (by first | exact hq0 | exact hq1); simp [execOp, h9] <;> go_simp)
    | 8, _ => have e9 := Option.some.inj ho9; subst e9; exact ats_val rfl (fun a9 W9 hf9 => by have p46 := hf9 46 (by kernel_rfl); have h9 : a9.eval (.tmp 46) = (.agg #[.int .i64 a.at_, .int .i64 a.fr, .int .i64 a.to_, .int .i64 (a.num : Int), .string a.dat]) := p46.1; exact ⟨.slice (some ⟨W9.heap.size, 0, none⟩) 1 1, W9.alloc (Obj.cells #[.int .i64 a.at_, .int .i64 a.fr, .int .i64 a.to_, .int .i64 (a.num : Int), .string a.dat] 34), by simp [execOp, h9] <;> go_simp, ab1 _ _, fun s hs => by injection hs with hs; subst hs; exact ⟨W9.heap.size, rfl, heap_newI _ _, ((hSi W9).1 p46.2).size, hS _ _ p46.2 (ab1 _ _)⟩⟩)
    | 9, _ => exact absurd rfl hk9
  · intro o9 ho9
    have e9 := Option.some.inj ho9
    subst e9
    exact ats_valR rfl (fun a9 W9 hf9 hlow9 => by have p45 := hf9 45 (by kernel_rfl); obtain ⟨g9, p47, hg9, hge9, -⟩ := hf9 47 (by kernel_rfl); have q45 : a9.eval (.tmp 45) = (.slice A 0 d) := p45.1; have q47 : a9.eval (.tmp 47) = (.slice (some ⟨g9, 0, none⟩) 1 1) := p47; obtain ⟨v', w', e1, e2, e3⟩ := hAP W9 g9 hlow9 hg9 hge9; exact ⟨v', w', by simp [execOp, resolve, invoke, builtin, q45, q47, e1, Result.andThen], e3, fun s hs => by injection hs with hs; subst hs; exact e2⟩)
  intro vv wv hvv hRv
  have hv39 : vv 39 = (.pointer (some ⟨p, o, none⟩)) := (hvv 39 (by decide)).1
  have hv40 : vv 40 = (.pointer (some ⟨p, o, none⟩)) := (hvv 40 (by decide)).1
  have hv41 : vv 41 = (.pointer (some ⟨p, o, none⟩)) := (hvv 41 (by decide)).1
  have hv42 : vv 42 = (.map (some m)) := (hvv 42 (by decide)).1
  have hv43 : vv 43 = (.pointer (some ⟨B, 0, none⟩)) := (hvv 43 (by decide)).1
  have hv44 : vv 44 = (.int .i64 a.at_) := (hvv 44 (by decide)).1
  have hv45 : vv 45 = (.slice A 0 d) := (hvv 45 (by decide)).1
  have hv46 : vv 46 = (.agg #[.int .i64 a.at_, .int .i64 a.fr, .int .i64 a.to_, .int .i64 (a.num : Int), .string a.dat]) := (hvv 46 (by decide)).1
  obtain ⟨g9, hv47, -⟩ := hvv 47 (by decide)
  have hF48 := hvv 48 (by decide)
  obtain ⟨v', hv48⟩ : ∃ v', vv 48 = v' := ⟨_, rfl⟩
  rw [hv48] at hF48
  obtain ⟨A', n', c', rfl⟩ : ∃ A' n' c', v' = .slice A' n' c' := by
    obtain ⟨A', c', rfl, -⟩ := own_nil_or hF48.1
    exact ⟨_, _, _, rfl⟩
  simp only [lay, List.foldl_cons, List.foldl_nil, List.setIfInBounds_toArray, List.set_cons_succ, List.set_cons_zero, hv39, hv40, hv41, hv42, hv43, hv44, hv45, hv46, hv47, hv48, List.drop_succ_cons, List.drop_zero]
  rw [← HV0.out, ← HL2.out] at hF48
  obtain ⟨hO4, hN4, hG4⟩ := hF48
  have SB := HSB.out
  rw [← HV.out] at hG4 hN4
  have hMi : Mi wv m Q.T V := SB.mi.blk (hG4.block m SB.mi.lt fun e => SB.vm _ e.symm)
  obtain ⟨w6, hU, hM6, hG6⟩ := hMi.put (T' := (Q.add a).T) (t := a.at_) HI.out A' n' c' (add_memT a HOK.out) HLN.out (by have := HTL.out; unfold maxLen; omega)
  have sb6 := SB.app hG4 hO4 hN4 hM6 hG6
  have k2 := sb6.c2
  have j2 := sb6.f2
  have kl := sb6.lt
  have hbk6 : w6.heap[p]? = w2.heap[p]? := (hG6.block p (Nat.lt_of_lt_of_le SB.lt hG4.size) fun e => SB.mp (by injection e with e; exact e.symm)).trans (hG4.block p SB.lt fun e => SB.vp _ e.symm)
  have HE : Hid (ScM p o m V (.slice At nT cT) (Q.add a) (.tuple #[]) w (.returned (.tuple #[])) (w6.setCell ⟨p, o + 2, none⟩ (.int .i64 ((Q.n : Int) + 1)))) := Lib.hid ⟨rfl, _, _, sb6.cnt _, HN2.out.trans HF2.out.size (FpN.app hN4), ((HF2.out.trans (Fm.gb (s := Fp p m V tv2) hG4 fun i e => .inr (.inr (.inr ⟨_, e⟩))) HFp.out).trans (Fm.gb (s := Fp p m V (.slice At nT cT)) hG6 fun i e => by injection e with e; exact .inr (.inl e.symm)) (fun i _ e => e)).trans (Fm.gb (s := Fp p m V (.slice At nT cT)) (gb_set1 w6 ⟨p, o + 2, none⟩ _) fun i e => by injection e with e; exact .inl e.symm) (fun i _ e => e), (HO2.out.trans (Oc.blk hbk6)).trans (Oc.set _ _ _ _ _ (.inr (.inr rfl)))⟩
  have hU2 := hU
  clear hU sb6 hMi hO4 hN4 hG4 hG6 hM6 hbk6 SB hAP hSd hSi hS hS0 hRd hRB hRt hSR hRg hvv hRv k0 b0 b1 b2 b3 b4 bl hq0 hq1 hq2 hv0 hl2
  have hn9 := HN9.out
  have hwr : IntKind.i64.wrap ((Q.n : Int) + 1) = (Q.n : Int) + 1 := by rw [IntKind.wrap_i64]; omega
  go_wp2_with fail
  refine bodyPost_ret (v := .tuple #[]) (by simp [results, Try.results35, go_sem]) rfl ?_
  exact HE.out
theorem qadd_any (p o : Nat) (w : World) (m : Nat) (V : Int → Value) (tv : Value) (Q : Sq) (a : Ar) (h : Sb p o w m V tv Q.T Q.T Q.G (Q.n : Int)) (hok : Okq Q) (hn : Q.n ≤ 1000000) (hI : I64 a.at_) :
    Calls Try.prog 35 #[(.pointer (some ⟨p, o, none⟩)), (.agg #[.int .i64 a.at_, .int .i64 a.fr, .int .i64 a.to_, .int .i64 (a.num : Int), .string a.dat])] w (ScM p o m V tv (Q.add a) (.tuple #[]) w) := by
  by_cases hne : Q.G a.at_ = []
  · exact addNew_any p o w m V tv Q a h hok hn hI hne
  · exact addOld_any p o w m V tv Q a h hok hn hI hne
end Go.Proofs.Ytndidbanbklonaa

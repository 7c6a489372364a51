import Derived.Test.YtiooilkbbfflaaaHh
import Derived.Test.YtiooilkbbfflaaaG6
/-
  A sorted container in memory: one timer removed by its number, one added. No conditions beyond those that each names.
-/
namespace Go.Proofs.Ytiooilkbbfflaaa
open Go.RowKit Go.Sort Go.Lib Go.Shelf
set_option maxRecDepth 100000 in
set_option maxHeartbeats 2000000 in
theorem removeNone_any (B p o : Nat) (v : Value) (l : List Tm) (id : Int) (q : Nat) (w : World) (hl : l.length ≤ 1000000) (hs : Sd B p o w v l) (hq : w.cell? ⟨q, 0, none⟩ = some (.int .i64 id)) (hx : ix id l 0 = -1) :
    Calls Try.prog 30 #[(.pointer (some ⟨p, o, none⟩)), .func (.func 31) #[] #[(.pointer (some ⟨q, 0, none⟩))]] w (Ib (.bool false) w) := by
  have c0 := hs.c
  have lp := hs.lt
  have cI := index_any B v l id q w hl hs.own hq
  rw [hx] at cI
  obtain ⟨A, c, rfl, hA⟩ := own_nil_or hs.own
  clear hs hA hx
  go_enter Try.func30, Try.ntmps30
  go_wp2_with (refine cI.mono ?_; rintro e w1 ⟨rfl, hb1⟩)
  go_ret
  exact ⟨rfl, hb1⟩
set_option maxRecDepth 100000 in
set_option maxHeartbeats 2000000 in
theorem removeAt_any (B p o : Nat) (v : Value) (l : List Tm) (id : Int) (q i : Nat) (w : World) (hl : l.length ≤ 1000000) (hs : Sd B p o w v l) (hq : w.cell? ⟨q, 0, none⟩ = some (.int .i64 id)) (hi : i < l.length) (hx : ix id l 0 = (i : Int)) :
    Calls Try.prog 30 #[(.pointer (some ⟨p, o, none⟩)), .func (.func 31) #[] #[(.pointer (some ⟨q, 0, none⟩))]] w (MvP B p o v (l.eraseIdx i) (.bool true) w) := by
  have c0 := hs.c
  have lp := hs.lt
  have cI := index_any B v l id q w hl hs.own hq
  rw [hx] at cI
  obtain ⟨A, c, rfl, hA⟩ := own_nil_or hs.own
  rcases hA with ⟨-, -, h0⟩ | ⟨g, rfl, -, hg, -⟩
  · omega
  obtain ⟨m, hm⟩ : ∃ m, l.length = m + 1 := ⟨l.length - 1, by omega⟩
  have hD : ∀ w1, Below w.heap.size w w1 → Calls Try.prog 39 #[.slice (some ⟨g, 0, none⟩) l.length c, .int .i64 (i : Int), .int .i64 ((i : Int) + 1)] w1 (fun e w2 => e = .returned (.slice (some ⟨g, 0, none⟩) m c) ∧ w2.cell? ⟨p, o, none⟩ = some (.slice (some ⟨g, 0, none⟩) l.length c) ∧ w2.frozen? ⟨p, o, none⟩ = false ∧ p < w2.heap.size ∧ Hid (Mv B p o (.slice (some ⟨g, 0, none⟩) l.length c) (l.eraseIdx i) w (.slice (some ⟨g, 0, none⟩) m c) (w2.setCell ⟨p, o, none⟩ (.slice (some ⟨g, 0, none⟩) m c)))) := by
    intro w1 hb1
    have ho := own_next hs.own hb1
    rw [hm] at ho ⊢
    refine (delete_any B g m c i l w1 (by omega) hm (by omega) ho).mono ?_
    rintro e w2 ⟨rfl, h1, h2⟩
    have hg2 := (gbq_of hb1 (some g)).trans h2
    have hpb : w2.heap[p]? = w.heap[p]? := hg2.block p lp (fun e => hs.ne e.symm)
    rw [hm] at c0
    refine ⟨rfl, (World.cell?_of_block (a := ⟨p, o, none⟩) hpb).trans c0, (World.frozen?_of_block (a := ⟨p, o, none⟩) hpb).trans hs.f, Nat.lt_of_lt_of_le lp hg2.size, Lib.hid ?_⟩
    have hs2 := hs
    rw [hm] at hs2
    refine Mv.of hs2 hg2 ?_ (.inl rfl)
    unfold OwT
    rw [List.length_eraseIdx, if_pos hi, hm]
    exact h1
  have hi0 : decide ((i : Int) < 0) = false := decide_eq_false (by omega)
  have hi9 : i ≤ 1000000 := by omega
  have HD := Lib.hid hD
  obtain ⟨n, hn⟩ : ∃ n, l.length = n := ⟨_, rfl⟩
  rw [hn] at HD cI c0 ⊢
  clear hs hx hi hD hm hn hl
  go_enter Try.func30, Try.ntmps30
  go_wp2_with (first | (refine cI.mono ?_; rintro e w1 ⟨rfl, hb1⟩; have c1 := cell_next hb1 c0; have l1 := blk_lt c1) | (refine (HD.out _ hb1).mono ?_; rintro e w2 ⟨rfl, c2, f2, l2, H2⟩))
  go_ret
  exact ⟨rfl, _, H2.out⟩
/-- A timer put in its place. -/
def ins (t : Tm) (l : List Tm) : List Tm := l.take (ps t l) ++ t :: l.drop (ps t l)
theorem ins_len (t : Tm) (l : List Tm) : (ins t l).length = l.length + 1 := by
  have := ps_le t l
  rw [ins, List.length_append, List.length_cons, List.length_take, List.length_drop]
  omega
theorem ins_cells (t : Tm) (l : List Tm) : tc e3 (ins t l) = (tc e3 l).take (ps t l * 3) ++ e3 t ++ (tc e3 l).drop (ps t l * 3) := by
  rw [ins, tc_app, tc_cons, tc_take e3_len l _ (ps_le t l), tc_drop e3_len l _ (ps_le t l), List.append_assoc]
/-- A slice of one new element whose whole block is known. -/
def FNS (S : World → Prop) (hS : Keeps S) (cells : Array Value) (t : TypeId) (W0 : World) : Fact := ⟨fun v w' => ∃ g, v = .slice (some ⟨g, 0, none⟩) 1 1 ∧ w'.heap[g]? = some (.cells cells t (0, 0)) ∧ W0.heap.size ≤ g ∧ S w', fun _ _ _ ⟨g, h1, h2, h3, h4⟩ hb => ⟨g, h1, (hb.block g (Array.getElem?_eq_some_iff.1 h2).1).trans h2, h3, hS _ _ h4 hb⟩⟩
theorem FNS_keep {S : World → Prop} {hS : Keeps S} {cells : Array Value} {t : TypeId} {W0 : World} {q : Option Nat} {R : World → World → Prop} (h : ∀ w w', S w → R w w' → S w') (hR : ∀ w w', R w w' → w.grownBy w' q) (hq : ∀ g, q = some g → g < W0.heap.size) : ∀ v w w', (FNS S hS cells t W0).holds v w → R w w' → (FNS S hS cells t W0).holds v w' :=
  fun _ w w' ⟨g, h1, h2, h3, h4⟩ hr => ⟨g, h1, ((hR _ _ hr).block g (Array.getElem?_eq_some_iff.1 h2).1 (fun e => by have := hq g e.symm; omega)).trans h2, h3, h w w' h4 hr⟩
/-- A row that takes the place of another. -/
def FIn (B : Nat) (w : World) (v : Value) (l' : List Tm) : Fact := ⟨fun v' w' => OwT B w' v' l' ∧ NB w v v' ∧ w.grownBy w' v.ownBlock, fun _ _ _ ⟨h1, h2, h3⟩ hb => ⟨own_next h1 hb, h2, h3.trans (gbq_of hb _)⟩⟩
set_option maxRecDepth 100000 in
set_option maxHeartbeats 4000000 in
theorem sadd_any (B p o : Nat) (v : Value) (x : Tm) (l : List Tm) (w : World) (hl : l.length ≤ 1000000) (hB : B ≤ w.heap.size) (hs : Sd B p o w v l) (hmono : ∀ a b (ha : a < l.length) (hb : b < l.length), a ≤ b → cT (l[b]'hb) x < 0 → cT (l[a]'ha) x < 0) :
    Calls Try.prog 37 #[(.pointer (some ⟨p, o, none⟩)), (.agg #[.int .i64 (x.id : Int), .int .i64 (x.at_ : Int), .int .i64 (x.per : Int)])] w (MvP B p o v (ins x l) (.tuple #[]) w) := by
  have c0 := hs.c
  have lp := hs.lt
  have hab := ab1 w (Obj.cells #[.int .i64 (x.id : Int), .int .i64 (x.at_ : Int), .int .i64 (x.per : Int)] 74)
  have hs1 := hs.next hab
  have B1 := Bx.new3 w 74 (.int .i64 (x.id : Int)) (.int .i64 (x.at_ : Int)) (.int .i64 (x.per : Int))
  have cS := fun d os => Calls.regrown_of (bsearch_any B l x v (grow (redrawn (w.alloc (Obj.cells #[.int .i64 (x.id : Int), .int .i64 (x.at_ : Int), .int .i64 (x.per : Int)] 74)) d) os) hl (own_next hs1.own (below_regrown _ d os)) hmono)
  obtain ⟨n, hn⟩ : ∃ n, l.length = n := ⟨_, rfl⟩
  have HN := Lib.hid hn
  obtain ⟨A, c, rfl, hA⟩ := own_nil_or hs.own
  have HO := Lib.hid hs.own
  have hps := ps_le x l
  obtain ⟨i, hi⟩ : ∃ i, ps x l = i := ⟨_, rfl⟩
  have HI := Lib.hid hi
  have hgne : ∀ b, A = some ⟨b, 0, none⟩ → b < w.heap.size := fun b e => by
    rcases hA with ⟨h, -⟩ | ⟨g, h, -, hg, -⟩
    · rw [h] at e; cases e
    · rw [h] at e; injection e with e; injection e with e; omega
  have HG := Lib.hid hgne
  rw [hi] at cS hps
  rw [hn] at cS hps hs hs1 c0 hl ⊢
  have hs1c := hs1.c
  clear hn hA hmono hgne hi
  generalize fB x (l.drop i) = fb at cS
  have HS := Lib.hid hs
  clear hs hs1
  go_enter Try.func37, Try.ntmps37
  go_upto_region 1 with (fail)
  generalize w.alloc (Obj.cells #[.int .i64 (x.id : Int), .int .i64 (x.at_ : Int), .int .i64 (x.per : Int)] 74) = w1 at *
  have b0 := B1.c 0 rfl
  have b1 := B1.c 1 rfl
  have b2 := B1.c 2 rfl
  have bl := B1.lt
  have rb0 := fun d os => cell_regrown b0 d os
  have rb1 := fun d os => cell_regrown b1 d os
  have rb2 := fun d os => cell_regrown b2 d os
  have rc0 := fun d os => cell_regrown hs1c d os
  refine wp_region_quiet_below (by kernel_rfl) (by kernel_rfl) ?_
  repeat (go_big_quiet_step (exact cS _ _))
  refine wpQuiet_nil ?_
  intro _ hw'
  obtain ⟨⟨dq, osq⟩, hw''⟩ := hw'
  subst hw''
  have hbq := below_regrown w1 dq osq
  clear rb0 rb1 rb2 rc0 cS
  generalize grow (redrawn w1 dq) osq = w2 at *
  have hb2 := Below.next hab hbq
  have c2 := cell_next hb2 c0
  have B2 := B1.next hbq
  clear b0 b1 b2 bl B1
  have b0 := B2.c 0 rfl
  have b1 := B2.c 1 rfl
  have b2 := B2.c 2 rfl
  have bl := B2.lt
  have hq2 : ∀ g, (Value.slice A n c).ownBlock = some g → g < w2.heap.size := fun g e => by
    cases A with
    | none => cases e
    | some a => injection e with e; have := (HO.out.lt g (by rw [HN.out]; exact congrArg some e)).2; have := hb2.size; omega
  have hpq : some p ≠ (Value.slice A n c).ownBlock := fun e => HS.out.ne e.symm
  have hbq2 : some w.heap.size ≠ (Value.slice A n c).ownBlock := fun e => by
    have := (HO.out.lt w.heap.size (by rw [HN.out]; exact e.symm)).2
    omega
  obtain ⟨v0, hv0⟩ : ∃ v0, (Value.slice A n c) = v0 := ⟨_, rfl⟩
  have HV := Lib.hid hv0
  obtain ⟨S, hSd⟩ : ∃ S : World → Prop, (fun W : World => w2.grownBy W (Value.slice A n c).ownBlock) = S := ⟨_, rfl⟩
  have hSi : ∀ W, S W ↔ w2.grownBy W (Value.slice A n c).ownBlock := fun W => by rw [← hSd]
  have hS : Keeps S := fun W W' h hb => by rw [hSi] at h ⊢; exact h.trans (gbq_of hb _)
  have hS0 : S w2 := by rw [hSi]; exact World.grownBy.refl _ _
  obtain ⟨RR, hRd⟩ : ∃ RR : World → World → Prop, (fun W W' : World => W.grownBy W' (Value.slice A n c).ownBlock) = RR := ⟨_, rfl⟩
  have hRB : ∀ W W' : World, Below W.heap.size W W' → RR W W' := fun W W' hb => by rw [← hRd]; exact gbq_of hb _
  have hRt : ∀ W W1 W2 : World, RR W W1 → RR W1 W2 → RR W W2 := fun W W1 W2 h k => by rw [← hRd] at h k ⊢; exact h.trans k
  have hSR : ∀ W W' : World, S W → RR W W' → S W' := fun W W' h k => by rw [hSi] at h ⊢; rw [← hRd] at k; exact h.trans k
  have hRg : ∀ W W' : World, RR W W' → W.grownBy W' (Value.slice A n c).ownBlock := fun W W' h => by rw [← hRd] at h; exact h
  have hIN : ∀ (W : World) (g9 : Nat), Below w2.heap.size w2 W → W.heap[g9]? = some (.cells #[.int .i64 (x.id : Int), .int .i64 (x.at_ : Int), .int .i64 (x.per : Int)] 74 (0, 0)) → w2.heap.size ≤ g9 → Calls Try.prog 44 #[.slice A n c, .int .i64 (i : Int), .slice (some ⟨g9, 0, none⟩) 1 1] W (fun e w' => ∃ v', e = .returned v' ∧ (FIn B w v0 (ins x l)).holds v' w' ∧ RR W w') := by
    intro W g9 hlow hg9 hge9
    have hb3 := Below.next hb2 hlow
    have ho := HO.out
    unfold OwT at ho
    rw [HN.out] at ho
    refine (insert_any B A n c i (tc e3 l) x g9 1 W (by omega) hps (own_next ho hb3) (tc_one' e3_one l) hg9 (fun b e => by have := HG.out b e; have := hb2.size; omega) (Nat.le_trans hB hb3.size)).mono ?_
    rintro e w' ⟨v', rfl, h1, h2, h3⟩
    rw [← HV.out, ← hRd]
    refine ⟨v', rfl, ⟨?_, ?_, (gbq_of hb3 (Value.slice A n c).ownBlock).trans h2⟩, h2⟩
    · unfold OwT
      rw [ins_len, ins_cells, HI.out, HN.out]
      exact h1
    · rcases h3 with h3 | ⟨g, h3, h4⟩
      · exact .inl h3
      · exact .inr ⟨g, h3, Nat.le_trans hb3.size h4⟩
  go_upto_region 2 with (fail)
  refine wp_region_one (by kernel_rfl) (FF [(0, Fact.atS S hS (.pointer (some ⟨p, o, none⟩))), (3, Fact.atS S hS (.pointer (some ⟨w.heap.size, 0, none⟩))), (4, Fact.atS S hS (.int .i64 (i : Int))), (15, Fact.atS S hS (.pointer (some ⟨p, o, none⟩))), (16, Fact.atS S hS (.pointer (some ⟨p, o, none⟩))), (17, Fact.atS S hS (.pointer (some ⟨p, o, none⟩))), (18, Fact.atS S hS (.pointer (some ⟨p, o, none⟩))), (19, Fact.atS S hS (.slice A n c)), (20, Fact.atS S hS (.int .i64 (i : Int))), (21, Fact.atS S hS (.agg #[.int .i64 (x.id : Int), .int .i64 (x.at_ : Int), .int .i64 (x.per : Int)])), (22, FNS S hS #[.int .i64 (x.id : Int), .int .i64 (x.at_ : Int), .int .i64 (x.per : Int)] 74 w2), (23, FIn B w v0 (ins x l))]) RR hRB hRt 8 23 rfl (FF_keep (fcs ⟨fun _ => atS_keep (hS := hS) hSR, fcs ⟨fun _ => atS_keep (hS := hS) hSR, fcs ⟨fun _ => atS_keep (hS := hS) hSR, fcs ⟨fun _ => atS_keep (hS := hS) hSR, fcs ⟨fun _ => atS_keep (hS := hS) hSR, fcs ⟨fun _ => atS_keep (hS := hS) hSR, fcs ⟨fun _ => atS_keep (hS := hS) hSR, fcs ⟨fun _ => atS_keep (hS := hS) hSR, fcs ⟨fun _ => atS_keep (hS := hS) hSR, fcs ⟨fun _ => atS_keep (hS := hS) hSR, fcs ⟨fun _ => FNS_keep (hS := hS) hSR hRg hq2, fcs ⟨fun h => absurd rfl h, fnl⟩⟩⟩⟩⟩⟩⟩⟩⟩⟩⟩⟩)) [0, 3, 4] 26 9 [15, 16, 17, 18, 19, 20, 21, 22, 23] rfl (by kernel_rfl) (by kernel_rfl) (by decide) (by kernel_rfl) ?_ ?_ ?_ ?_
  · intro t9 ht9
    simp only [List.mem_cons, List.not_mem_nil, or_false] at ht9
    rcases ht9 with rfl | rfl | rfl
    · exact ⟨rfl, hS0⟩
    · exact ⟨rfl, hS0⟩
    · exact ⟨rfl, hS0⟩
  · intro i9 o9 hi9 hk9 ho9
    match i9, hi9 with
    | 0, _ => have e9 := Option.some.inj ho9; subst e9; exact atscopy (hS := hS) 0 15 (.pointer (some ⟨p, o, none⟩)) (.inl rfl) rfl rfl (by kernel_rfl) rfl rfl
    | 1, _ => have e9 := Option.some.inj ho9; subst e9; exact atscopy (hS := hS) 0 16 (.pointer (some ⟨p, o, none⟩)) (.inl rfl) rfl rfl (by kernel_rfl) rfl rfl
    | 2, _ => have e9 := Option.some.inj ho9; subst e9; exact ats1 (hS := hS) 16 17 (.pointer (some ⟨p, o, none⟩)) (.pointer (some ⟨p, o, none⟩)) rfl rfl (by kernel_rfl) rfl rfl (fun a9 W9 hb9 h9 => by simp [execOp, h9] <;> go_simp)
    | 3, _ => have e9 := Option.some.inj ho9; subst e9; exact ats1 (hS := hS) 17 18 (.pointer (some ⟨p, o, none⟩)) (.pointer (some ⟨p, o, none⟩)) rfl rfl (by kernel_rfl) rfl rfl (fun a9 W9 hb9 h9 => by simp [execOp, h9] <;> go_simp)
    | 4, _ => have e9 := Option.some.inj ho9; subst e9; exact ats1 (hS := hS) 18 19 (.pointer (some ⟨p, o, none⟩)) (.slice A n c) rfl rfl (by kernel_rfl) rfl rfl (fun a9 W9 hb9 h9 => by have g0 := World.grownBy.cell ((hSi W9).1 hb9) c2 (by first | exact hpq | exact hbq2); simp [execOp, h9] <;> go_simp)
    | 5, _ => have e9 := Option.some.inj ho9; subst e9; exact atscopy (hS := hS) 4 20 (.int .i64 (i : Int)) (.inl rfl) rfl rfl (by kernel_rfl) rfl rfl
    | 6, _ => have e9 := Option.some.inj ho9; subst e9; exact ats1 (hS := hS) 3 21 (.pointer (some ⟨w.heap.size, 0, none⟩)) (.agg #[.int .i64 (x.id : Int), .int .i64 (x.at_ : Int), .int .i64 (x.per : Int)]) rfl rfl (by kernel_rfl) rfl rfl (fun a9 W9 hb9 h9 => by have g0 := World.grownBy.cell ((hSi W9).1 hb9) b0 (by first | exact hpq | exact hbq2); have g1 := World.grownBy.cell ((hSi W9).1 hb9) b1 (by first | exact hpq | exact hbq2); have g2 := World.grownBy.cell ((hSi W9).1 hb9) b2 (by first | exact hpq | exact hbq2); simp [execOp, h9] <;> go_simp)
    | 7, _ => have e9 := Option.some.inj ho9; subst e9; exact ats_val rfl (fun a9 W9 hf9 => by have p21 := hf9 21 (by kernel_rfl); have h9 : a9.eval (.tmp 21) = (.agg #[.int .i64 (x.id : Int), .int .i64 (x.at_ : Int), .int .i64 (x.per : Int)]) := p21.1; exact ⟨.slice (some ⟨W9.heap.size, 0, none⟩) 1 1, W9.alloc (Obj.cells #[.int .i64 (x.id : Int), .int .i64 (x.at_ : Int), .int .i64 (x.per : Int)] 74), by simp [execOp, h9] <;> go_simp, ab1 _ _, fun s hs => by injection hs with hs; subst hs; exact ⟨W9.heap.size, rfl, heap_newI _ _, ((hSi W9).1 p21.2).size, hS _ _ p21.2 (ab1 _ _)⟩⟩)
    | 8, _ => exact absurd rfl hk9
  · intro o9 ho9
    have e9 := Option.some.inj ho9
    subst e9
    exact ats_enterR rfl (fun a9 W9 hf9 hlow9 => by have p19 := hf9 19 (by kernel_rfl); have p20 := hf9 20 (by kernel_rfl); obtain ⟨g9, p22, hg9, hge9, -⟩ := hf9 22 (by kernel_rfl); have q19 : a9.tmps.getD 19 undef = (.slice A n c) := p19.1; have q20 : a9.tmps.getD 20 undef = (.int .i64 (i : Int)) := p20.1; have q22 : a9.tmps.getD 22 undef = (.slice (some ⟨g9, 0, none⟩) 1 1) := p22; exact ⟨44, #[(.slice A n c), (.int .i64 (i : Int)), (.slice (some ⟨g9, 0, none⟩) 1 1)], by rw [← q19, ← q20, ← q22]; simpa [execOp, resolve, Act.eval] using run_invoke (by kernel_rfl) _ W9, (hIN W9 g9 hlow9 hg9 hge9).mono fun e w' ⟨v', e1, e2, e3⟩ => ⟨v', e1, e3, fun s hs => by injection hs with hs; subst hs; exact e2⟩⟩)
  intro vv wv hvv hRv
  have hv15 : vv 15 = (.pointer (some ⟨p, o, none⟩)) := (hvv 15 (by decide)).1
  have hv16 : vv 16 = (.pointer (some ⟨p, o, none⟩)) := (hvv 16 (by decide)).1
  have hv17 : vv 17 = (.pointer (some ⟨p, o, none⟩)) := (hvv 17 (by decide)).1
  have hv18 : vv 18 = (.pointer (some ⟨p, o, none⟩)) := (hvv 18 (by decide)).1
  have hv19 : vv 19 = (.slice A n c) := (hvv 19 (by decide)).1
  have hv20 : vv 20 = (.int .i64 (i : Int)) := (hvv 20 (by decide)).1
  have hv21 : vv 21 = (.agg #[.int .i64 (x.id : Int), .int .i64 (x.at_ : Int), .int .i64 (x.per : Int)]) := (hvv 21 (by decide)).1
  obtain ⟨g9, hv22, -⟩ := hvv 22 (by decide)
  have hF23 := hvv 23 (by decide)
  obtain ⟨v', hv23⟩ : ∃ v', vv 23 = v' := ⟨_, rfl⟩
  rw [hv23] at hF23
  obtain ⟨A', n', c', rfl⟩ : ∃ A' n' c', v' = .slice A' n' c' := by
    obtain ⟨A', c', rfl, -⟩ := own_nil_or hF23.1
    exact ⟨_, _, _, rfl⟩
  simp only [lay, List.foldl_cons, List.foldl_nil, List.setIfInBounds_toArray, List.set_cons_succ, List.set_cons_zero, hv15, hv16, hv17, hv18, hv19, hv20, hv21, hv22, hv23, List.drop_succ_cons, List.drop_zero]
  rw [← HV.out] at hF23
  obtain ⟨hO4, hN4, hG4⟩ := hF23
  have hpb : wv.heap[p]? = w.heap[p]? := hG4.block p lp hpq
  have c4 : wv.cell? ⟨p, o, none⟩ = some (.slice A n c) := (World.cell?_of_block (a := ⟨p, o, none⟩) hpb).trans c0
  have f4 : wv.frozen? ⟨p, o, none⟩ = false := (World.frozen?_of_block (a := ⟨p, o, none⟩) hpb).trans HS.out.f
  have l4 := blk_lt c4
  have H4 := Lib.hid (Mv.of HS.out hG4 hO4 hN4)
  clear hvv c2 b0 b1 b2 bl B2 hab hb2 hO4 hN4 hG4 hpb hv0 hSd hSi hS hS0 hRd hRB hRt hSR hRg hIN hRv
  go_wp2_with fail
  refine bodyPost_ret (v := .tuple #[]) (by simp [results, Try.results37, go_sem]) rfl ?_
  exact ⟨rfl, _, H4.out⟩
end Go.Proofs.Ytiooilkbbfflaaa

/-
  Whether two structs are equal and use equal things, as the law asks. No conditions beyond those that each names.
-/
import Derived.Test.YthbhbpcjcnkkkaaGreatDoorK21
import Derived.Test.YthbhbpcjcnkkkaaGreatDoorK15
import Derived.Test.YthbhbpcjcnkkkaaGreatDoorK16
import Derived.Test.YthbhbpcjcnkkkaaGreatDoorK14
import Derived.Lib.LaidU8
import Derived.PinnedBridge
namespace Go.Proofs.YthbhbpcjcnkkkaaGreatDoor
open Go.RowKit Go.Maps
/-- Equal structs with equal uses. -/
noncomputable def alk (S T : Sch) (x y : List UInt8) : Bool := @decide (∀ u v, Us S x u → Us T y v → des S x u = des T y v) (Classical.propDecidable _)
theorem alk_iff {S T : Sch} {x y : List UInt8} {u v : List (List UInt8)} (hu : Us S x u) (hv : Us T y v) : alk S T x y = true ↔ des S x u = des T y v := by
  unfold alk
  rw [@decide_eq_true_iff _ (Classical.propDecidable _)]
  constructor
  · intro h; exact h u v hu hv
  · intro h u' v' h1 h2
    rw [h1.one hu, h2.one hv]
    exact h
theorem bne_t {a b : Bool} (h : a ≠ b) : (a != b) = true := by cases a <;> cases b <;> first | rfl | exact absurd rfl h
theorem bne_self' (b : Bool) : (b != b) = false := by cases b <;> rfl
set_option maxRecDepth 100000 in
set_option maxHeartbeats 16000000 in
theorem alike_any (S T : Sch) (hB : FewB S) (hB2 : FewB T) (hls : lokS S) (hlt_ : lokS T) (x y : List UInt8) (hc : chk S = 0) (hc2 : chk T = 0) (hx : x ∈ sns S) (hy : y ∈ sns T) (v v' : Value) (w : World) (hv : ScV w S v) (hw : ScV w T v') :
    Calls Tryz.prog 30 #[v, v', .string (bs x), .string (bs y)] w (Ib (.bool (alk S T x y)) w) := by
  have hv0 := hv
  have hw0 := hw
  obtain ⟨A, c, A2, c2, rfl, hS⟩ := hv
  obtain ⟨A3, c3, A4, c4, rfl, hT⟩ := hw
  clear hS hT
  obtain ⟨n, hn⟩ : ∃ n, S.enums.length = n := ⟨_, rfl⟩
  obtain ⟨m, hm⟩ : ∃ m, S.structs.length = m := ⟨_, rfl⟩
  obtain ⟨n3, hn3⟩ : ∃ n, T.enums.length = n := ⟨_, rfl⟩
  obtain ⟨m4, hm4⟩ : ∃ m, T.structs.length = m := ⟨_, rfl⟩
  have HN := Lib.hid hn
  have HM := Lib.hid hm
  have HN3 := Lib.hid hn3
  have HM4 := Lib.hid hm4
  rw [hn, hm] at hv0
  rw [hn3, hm4] at hw0
  rw [hn, hm, hn3, hm4]
  have hab := ab2 w (Obj.cells #[.int .i64 S.ver, .slice A n c, .slice A2 m c2] 25) (Obj.cells #[.int .i64 T.ver, .slice A3 n3 c3, .slice A4 m4 c4] 25)
  have hv1 := hv0.next hab
  have hw1 := hw0.next hab
  have z1 : (w.alloc (Obj.cells #[.int .i64 S.ver, .slice A n c, .slice A2 m c2] 25)).heap.size = w.heap.size + 1 := by simp
  have B1 := (Bx.new3 w 25 (.int .i64 S.ver) (.slice A n c) (.slice A2 m c2)).next (ab1 _ (Obj.cells #[.int .i64 T.ver, .slice A3 n3 c3, .slice A4 m4 c4] 25))
  have B2 := Bx.new3 (w.alloc (Obj.cells #[.int .i64 S.ver, .slice A n c, .slice A2 m c2] 25)) 25 (.int .i64 T.ver) (.slice A3 n3 c3) (.slice A4 m4 c4)
  rw [z1] at B2
  clear z1
  have hS18 := hB.ns
  have hT18 := hB2.ns
  have hSe := hB.ne
  have hTe := hB2.ne
  rw [hm] at hS18
  rw [hm4] at hT18
  rw [hn] at hSe
  rw [hn3] at hTe
  clear hn hm hn3 hm4
  have cU := fun W (h : Below ((w.alloc (Obj.cells #[.int .i64 S.ver, .slice A n c, .slice A2 m c2] 25)).alloc (Obj.cells #[.int .i64 T.ver, .slice A3 n3 c3, .slice A4 m4 c4] 25)).heap.size ((w.alloc (Obj.cells #[.int .i64 S.ver, .slice A n c, .slice A2 m c2] 25)).alloc (Obj.cells #[.int .i64 T.ver, .slice A3 n3 c3, .slice A4 m4 c4] 25)) W) => refUsesA_any S hB x _ W (hv1.next h)
  have cV := fun W (h : Below ((w.alloc (Obj.cells #[.int .i64 S.ver, .slice A n c, .slice A2 m c2] 25)).alloc (Obj.cells #[.int .i64 T.ver, .slice A3 n3 c3, .slice A4 m4 c4] 25)).heap.size ((w.alloc (Obj.cells #[.int .i64 S.ver, .slice A n c, .slice A2 m c2] 25)).alloc (Obj.cells #[.int .i64 T.ver, .slice A3 n3 c3, .slice A4 m4 c4] 25)) W) => refUsesA_any T hB2 y _ W (hw1.next h)
  have hV := chk_zero hc
  have hV2 := chk_zero hc2
  have hO := hV.pt.okk hB
  have hO2 := hV2.pt.okk hB2
  obtain ⟨r, hr⟩ : ∃ r, alk S T x y = r := ⟨_, rfl⟩
  rw [hr]
  have HR := Lib.hid hr
  clear hr
  go_enter Tryz.func30, Tryz.ntmps30
  go_upto_region 1 with (fail)
  generalize (w.alloc (Obj.cells #[.int .i64 S.ver, .slice A n c, .slice A2 m c2] 25)).alloc (Obj.cells #[.int .i64 T.ver, .slice A3 n3 c3, .slice A4 m4 c4] 25) = W1 at *
  have s0 := B1.c 0 rfl
  have s1 := B1.c 1 rfl
  have s2 := B1.c 2 rfl
  have l1 := B1.lt
  have t0 := B2.c 0 rfl
  have t1 := B2.c 1 rfl
  have t2 := B2.c 2 rfl
  have l2 := B2.lt
  refine wp_region_on (by kernel_rfl) (FF [(2, Fact.at_ W1 (.string (bs x))), (3, Fact.at_ W1 (.string (bs y))), (4, Fact.at_ W1 (.pointer (some ⟨w.heap.size, 0, none⟩))), (5, Fact.at_ W1 (.pointer (some ⟨(w.heap.size + 1), 0, none⟩))), (24, Fact.at_ W1 (.agg #[.int .i64 S.ver, .slice A n c, .slice A2 m c2])), (25, Fact.at_ W1 (.string (bs x))), (26, FUa S x W1), (27, Fact.at_ W1 (.agg #[.int .i64 T.ver, .slice A3 n3 c3, .slice A4 m4 c4])), (28, Fact.at_ W1 (.string (bs y))), (29, FUa T y W1), (9, FUa S x W1), (10, FUa T y W1)]) [2, 3, 4, 5] 109 [24, 25, 26, 27, 28, 29, 9, 10] rfl (by kernel_rfl) (by kernel_rfl) ?_ ?_ ?_
  · intro t9 ht9
    simp only [List.mem_cons, List.not_mem_nil, or_false] at ht9
    rcases ht9 with rfl | rfl | rfl | rfl
    · exact ⟨rfl, Below.refl _ _⟩
    · exact ⟨rfl, Below.refl _ _⟩
    · exact ⟨rfl, Below.refl _ _⟩
    · exact ⟨rfl, Below.refl _ _⟩
  · refine fcs ⟨at1 4 24 (.pointer (some ⟨w.heap.size, 0, none⟩)) (.agg #[.int .i64 S.ver, .slice A n c, .slice A2 m c2]) rfl (by first | exact .inl rfl | exact .inr ⟨_, _, _, rfl, rfl, by kernel_rfl, by decide, rfl⟩) (by kernel_rfl) rfl rfl (fun a9 W9 hb9 h9 => by have g0 := cell_next hb9 s0; have g1 := cell_next hb9 s1; have g2 := cell_next hb9 s2; simp [execOp, h9] <;> go_simp), ?_⟩
    refine fcs ⟨atcopy 2 25 (.string (bs x)) (.inl rfl) rfl (by first | exact .inl rfl | exact .inr ⟨_, _, _, rfl, rfl, by kernel_rfl, by decide, rfl⟩) (by kernel_rfl) rfl rfl, ?_⟩
    refine fcs ⟨at_enter (W0 := W1) (by first | exact .inl rfl | exact .inr ⟨_, _, _, rfl, rfl, by kernel_rfl, by decide, rfl⟩) (fun a9 W9 hf9 => by have p24 := hf9 24 (by kernel_rfl); have q24 : a9.tmps.getD 24 undef = (.agg #[.int .i64 S.ver, .slice A n c, .slice A2 m c2]) := p24.1; have p25 := hf9 25 (by kernel_rfl); have q25 : a9.tmps.getD 25 undef = (.string (bs x)) := p25.1; have hb9 := p24.2; exact ⟨26, #[(.agg #[.int .i64 S.ver, .slice A n c, .slice A2 m c2]), (.string (bs x))], by rw [← q24, ← q25]; simpa [execOp, resolve, Act.eval] using run_invoke (by kernel_rfl) _ W9, (cU W9 p24.2).mono fun e w' ⟨v, l, e1, e2, e3, e4⟩ => ⟨v, e1, e4, fun s hs => by injection hs with hs; subst hs; exact ⟨l, e2, e3, upG hb9 e4⟩⟩⟩), ?_⟩
    refine fcs ⟨at1 5 27 (.pointer (some ⟨(w.heap.size + 1), 0, none⟩)) (.agg #[.int .i64 T.ver, .slice A3 n3 c3, .slice A4 m4 c4]) rfl (by first | exact .inl rfl | exact .inr ⟨_, _, _, rfl, rfl, by kernel_rfl, by decide, rfl⟩) (by kernel_rfl) rfl rfl (fun a9 W9 hb9 h9 => by have g0 := cell_next hb9 t0; have g1 := cell_next hb9 t1; have g2 := cell_next hb9 t2; simp [execOp, h9] <;> go_simp), ?_⟩
    refine fcs ⟨atcopy 3 28 (.string (bs y)) (.inl rfl) rfl (by first | exact .inl rfl | exact .inr ⟨_, _, _, rfl, rfl, by kernel_rfl, by decide, rfl⟩) (by kernel_rfl) rfl rfl, ?_⟩
    refine fcs ⟨at_enter (W0 := W1) (by first | exact .inl rfl | exact .inr ⟨_, _, _, rfl, rfl, by kernel_rfl, by decide, rfl⟩) (fun a9 W9 hf9 => by have p27 := hf9 27 (by kernel_rfl); have q27 : a9.tmps.getD 27 undef = (.agg #[.int .i64 T.ver, .slice A3 n3 c3, .slice A4 m4 c4]) := p27.1; have p28 := hf9 28 (by kernel_rfl); have q28 : a9.tmps.getD 28 undef = (.string (bs y)) := p28.1; have hb9 := p27.2; exact ⟨26, #[(.agg #[.int .i64 T.ver, .slice A3 n3 c3, .slice A4 m4 c4]), (.string (bs y))], by rw [← q27, ← q28]; simpa [execOp, resolve, Act.eval] using run_invoke (by kernel_rfl) _ W9, (cV W9 p27.2).mono fun e w' ⟨v, l, e1, e2, e3, e4⟩ => ⟨v, e1, e4, fun s hs => by injection hs with hs; subst hs; exact ⟨l, e2, e3, upG hb9 e4⟩⟩⟩), ?_⟩
    refine fcs ⟨ob_copy 26 9 (.inr rfl) rfl (.inl rfl) (by kernel_rfl) rfl, ?_⟩
    refine fcs ⟨ob_copy 29 10 (.inr rfl) rfl (.inl rfl) (by kernel_rfl) rfl, ?_⟩
    exact fnl
  intro vv wv hvv hbv
  simp only [lay, List.foldl_cons, List.foldl_nil, List.setIfInBounds_toArray, List.set_cons_succ, List.set_cons_zero]
  obtain ⟨u, hu1, hu2, -⟩ := hvv 9 (by decide)
  obtain ⟨v, hv1', hv2, -⟩ := hvv 10 (by decide)
  have hus := cl_us hc hx hu1
  have hvs := cl_us hc2 hy hv1'
  have hul := hu1.short hB
  have hvl := hv1'.short hB2
  obtain ⟨A5, c5, e9, hR5⟩ := hu2
  obtain ⟨A6, c6, e10, hR6⟩ := hv2
  simp only [e9, e10]
  have hb0 := Below.next hab hbv
  have hvE := hv1.next hbv
  have hwE := hw1.next hbv
  have R1 := B1.next hbv
  have R2 := B2.next hbv
  rename World => we
  have hiff := alk_iff hus hvs
  rw [des_iff hV.pt hV2.pt hO hO2 hx hy (fun z hz => reach_univ hO ((hus.2 z).1 hz)) (fun z hz => reach_univ hO2 ((hvs.2 z).1 hz))] at hiff
  have hNu : Nms we u (.slice A5 u.length c5) := ⟨A5, c5, rfl, hR5⟩
  have hNv : Nms we v (.slice A6 v.length c6) := ⟨A6, c6, rfl, hR6⟩
  have cX := fun W (h : Below we.heap.size we W) => refStruct_any S x _ W (hvE.next h) (by rw [HM.out]; omega)
  have cY := fun W (h : Below we.heap.size we W) => refStruct_any T y _ W (hwE.next h) (by rw [HM4.out]; omega)
  unfold StO at cX cY
  have hot := fst_st0 (S := S) x
  have hot2 := fst_st0 (S := T) y
  have cN := fun W (h : Below we.heap.size we W) => lawNames_any u v _ _ W hul hvl (hNu.next h) (hNv.next h)
  generalize (fst_ St.name S.structs x).getD st0 = tx at *
  generalize (fst_ St.name T.structs y).getD st0 = ty at *
  have hfx : tx.fields.length ≤ 1000000 := by rcases hot with rfl | h; exact Nat.zero_le _; have := (hB.st _ h).2.1; omega
  have hlx : ∀ f ∈ tx.fields, lok f.type := by rcases hot with rfl | h; (intro f hf; cases hf); exact hls _ h
  have hly : ∀ f ∈ ty.fields, lok f.type := by rcases hot2 with rfl | h; (intro f hf; cases hf); exact hlt_ _ h
  rw [HR.out] at hiff
  clear s0 s1 s2 l1 t0 t1 t2 l2 hvv cU cV B1 B2 hbv hu1 hv1' e9 e10 hot hot2 hus hvs hNu hNv hv1 hw1 hab
  have s0 := R1.c 0 rfl
  have s1 := R1.c 1 rfl
  have s2 := R1.c 2 rfl
  have l1 := R1.lt
  have HI := Lib.hid hiff
  clear hiff
  generalize (fst_ St.name S.structs x).isSome = bx at *
  generalize (fst_ St.name T.structs y).isSome = bY at *
  go_wp2_with fail
  refine (cX we (Below.refl _ _)).mono ?_
  rintro e w3 ⟨uX, rfl, ⟨A7, c7, rfl, hF7⟩, hb3⟩
  have k3 := ab1 w3 (Obj.cells #[.string (bs tx.name), .slice A7 tx.fields.length c7] 32)
  have hV7 : StV w3 tx (.agg #[.string (bs tx.name), .slice A7 tx.fields.length c7]) := ⟨A7, c7, rfl, hF7⟩
  have D3 := Bx.new2 w3 32 (.string (bs tx.name)) (.slice A7 tx.fields.length c7)
  have hc3 := Below.next hb3 k3
  clear s0 s1 s2 l1 cX
  have Q1 := R1.next hb3
  have Q2 := R2.next hb3
  have t0 := Q2.c 0 rfl
  have t1 := Q2.c 1 rfl
  have t2 := Q2.c 2 rfl
  have l2 := Q2.lt
  go_wp2_with fail
  refine (cY _ hc3).mono ?_
  rintro e w4 ⟨uY, rfl, ⟨A8, c8, rfl, hF8⟩, hb4⟩
  have k4 := ab1 w4 (Obj.cells #[.string (bs ty.name), .slice A8 ty.fields.length c8] 32)
  have hV8 : StV w4 ty (.agg #[.string (bs ty.name), .slice A8 ty.fields.length c8]) := ⟨A8, c8, rfl, hF8⟩
  have D4 := Bx.new2 w4 32 (.string (bs ty.name)) (.slice A8 ty.fields.length c8)
  have E3 := D3.next hb4
  have hc4 := Below.next (Below.next hc3 hb4) k4
  clear t0 t1 t2 l2 cY Q1 Q2 D3
  have cN2 := cN _ hc4
  clear cN
  by_cases huv : u = v
  case neg =>
    rw [decide_eq_false huv] at cN2
    have HF : Hid (r = false) := Lib.hid (by rw [Bool.eq_false_iff]; intro h; exact huv (HI.out.1 h).1)
    go_wp2_with fail
    refine cN2.mono ?_
    rintro e w5 ⟨rfl, hb5⟩
    have HB := Below.next hb0 (Below.next hc4 hb5)
    go_wp2_with fail
    go_ret
    exact ⟨by rw [HF.out]; rfl, HB⟩
  rw [decide_eq_true huv] at cN2
  subst huv
  go_wp2_with fail
  refine cN2.mono ?_
  rintro e w5 ⟨rfl, hb5⟩
  have hc5 := Below.next hc4 hb5
  have y0 := ((E3.next k4).next hb5).c 0 rfl
  have y1 := ((E3.next k4).next hb5).c 1 rfl
  have y2 := ((E3.next k4).next hb5).lt
  have z0 := (D4.next hb5).c 0 rfl
  have z1 := (D4.next hb5).c 1 rfl
  have z2 := (D4.next hb5).lt
  have cT := refSameStruct_any tx ty _ _ w5 hfx hlx hly (hV7.next (Below.next (Below.next (Below.next k3 hb4) k4) hb5)) (hV8.next (Below.next k4 hb5))
  clear cN2 E3 D4 hV7 hV8 hF7 hF8
  by_cases hst : tx = ty
  case neg =>
    rw [eqS_no hst] at cT
    have HF : Hid (r = false) := Lib.hid (by rw [Bool.eq_false_iff]; intro h; exact hst (HI.out.1 h).2.1)
    go_wp2_with fail
    refine cT.mono ?_
    rintro e w6 ⟨rfl, hb6⟩
    have HB := Below.next hb0 (Below.next hc5 hb6)
    go_wp2_with fail
    go_ret
    exact ⟨by rw [HF.out]; rfl, HB⟩
  rw [eqS_iff.2 hst] at cT
  have HST := Lib.hid hst
  clear hst
  go_wp2_with fail
  refine cT.mono ?_
  rintro e w6 ⟨rfl, hb6⟩
  have hc6 := Below.next hc5 hb6
  replace R1 := R1.next hc6
  replace R2 := R2.next hc6
  obtain ⟨q, hq⟩ : ∃ q, u.length = q := ⟨_, rfl⟩
  have HQ := Lib.hid hq
  have HI2 : Hid (r = true ↔ ∀ z ∈ u, pt S T z z) := Lib.hid ⟨fun h => (HI.out.1 h).2.2, fun h => HI.out.2 ⟨by trivial, HST.out, h⟩⟩
  have H0 : Hid (∀ z ∈ u.take 0, pt S T z z) := Lib.hid fun z h => by cases h
  rw [hq] at hul ⊢
  clear hq cT y0 y1 y2 z0 z1 z2 hb3 hb4 hb5 hb6 k3 k4 hc3 hc4 hc5 HI hvl hlx hly hfx
  go_wp2_with fail
  go_loopw [15] (fun i_ wr => ∃ j : Nat, j ≤ q ∧ i_ = .int .i64 (j : Int) ∧ Hid (∀ z ∈ u.take j, pt S T z z) ∧ Bx wr w.heap.size [.int .i64 S.ver, .slice A n c, .slice A2 m c2] ∧ Bx wr (w.heap.size + 1) [.int .i64 T.ver, .slice A3 n3 c3, .slice A4 m4 c4] ∧ Below we.heap.size we wr) (fun i_ _ => q - (intOf i_).toNat)
  case atStart => exact ⟨0, by omega, rfl, H0, R1, R2, hc6⟩
  case round =>
    clear H0 R1 R2 hc6
    obtain ⟨j, hj, rfl, HZ, R1, R2, hbx⟩ := hrel
    by_cases hlt : j < q
    · have hju : j < u.length := by rw [HQ.out]; exact hlt
      obtain ⟨a5, rfl, hA5⟩ := hR5.get hju
      obtain ⟨a6, rfl, hA6⟩ := hR6.get hju
      rw [Nat.mul_one] at hA5 hA6
      have hzu := List.getElem_mem hju
      have hta := fun (h : pt S T (u[j]'hju) (u[j]'hju)) => take_all (P := fun z => pt S T z z) hju HZ.out h
      have e0 : wr.cell? (a5.add j) = some (.string (bs (u[j]'hju))) := cell_next hbx hA5
      have f0 : wr.cell? (a6.add j) = some (.string (bs (u[j]'hju))) := cell_next hbx hA6
      generalize u[j]'hju = z at *
      have hkA : (a5.add j).block < wr.heap.size := blk_lt e0
      have hkB : (a6.add j).block < wr.heap.size := blk_lt f0
      obtain ⟨uX, hVX, cX⟩ := refStruct_ex S z _ we hvE (by rw [HM.out]; omega)
      obtain ⟨uY, hVY, cY⟩ := refStruct_ex T z _ we hwE (by rw [HM4.out]; omega)
      obtain ⟨uZ, hVZ, cZ⟩ := refEnum_ex S z _ we hvE (by rw [HN.out]; omega)
      obtain ⟨uU, hVU, cU⟩ := refEnum_ex T z _ we hwE (by rw [HN3.out]; omega)
      have hpt : pt S T z z ↔ (fst_ St.name S.structs z).isSome = (fst_ St.name T.structs z).isSome ∧ (fst_ St.name S.structs z).getD st0 = (fst_ St.name T.structs z).getD st0 ∧ (fst_ En.name S.enums z).getD en0 = (fst_ En.name T.enums z).getD en0 := ⟨fun h => h.2, fun h => ⟨rfl, h⟩⟩
      have ho1 := fst_st0 (S := S) z
      have ho2 := fst_st0 (S := T) z
      have ho3 := fst_en00 (S := S) z
      generalize (fst_ St.name S.structs z).getD st0 = tX at *
      generalize (fst_ St.name T.structs z).getD st0 = tY at *
      generalize (fst_ En.name S.enums z).getD en0 = eX at *
      generalize (fst_ En.name T.enums z).getD en0 = eY at *
      generalize (fst_ St.name S.structs z).isSome = bX at *
      generalize (fst_ St.name T.structs z).isSome = bY at *
      generalize (fst_ En.name S.enums z).isSome = bZ at *
      generalize (fst_ En.name T.enums z).isSome = bU at *
      have hfx : tX.fields.length ≤ 1000000 := by rcases ho1 with rfl | h; exact Nat.zero_le _; have := (hB.st _ h).2.1; omega
      have hlx : ∀ f ∈ tX.fields, lok f.type := by rcases ho1 with rfl | h; (intro f hf; cases hf); exact hls _ h
      have hly : ∀ f ∈ tY.fields, lok f.type := by rcases ho2 with rfl | h; (intro f hf; cases hf); exact hlt_ _ h
      have hx1 : eX.names.length ≤ 1000000 := by rcases ho3 with rfl | h; exact Nat.zero_le _; have := (hB.en _ h).2.1; omega
      have hx2 : eX.nums.length ≤ 1000000 := by rcases ho3 with rfl | h; exact Nat.zero_le _; have := (hB.en _ h).2.2.1; omega
      have cT := fun W (h : Below we.heap.size we W) => refSameStruct_any tX tY _ _ W hfx hlx hly (hVX.next h) (hVY.next h)
      have cE := fun W (h : Below we.heap.size we W) => refSameEnum_any eX eY _ _ W hx1 hx2 (hVZ.next h) (hVU.next h)
      obtain ⟨XA, Xc, rfl, -⟩ := hVX
      obtain ⟨YA, Yc, rfl, -⟩ := hVY
      obtain ⟨ZA, Zc, ZB, Zd, rfl, -, -⟩ := hVZ
      obtain ⟨UA, Uc, UB, Ud, rfl, -, -⟩ := hVU
      have HP : Hid (pt S T z z ↔ bX = bY ∧ tX = tY ∧ eX = eY) := Lib.hid hpt
      obtain ⟨Xn, hXn⟩ : ∃ n, tX.name = n := ⟨_, rfl⟩
      obtain ⟨Xq, hXq⟩ : ∃ n, tX.fields.length = n := ⟨_, rfl⟩
      obtain ⟨Yn, hYn⟩ : ∃ n, tY.name = n := ⟨_, rfl⟩
      obtain ⟨Yq, hYq⟩ : ∃ n, tY.fields.length = n := ⟨_, rfl⟩
      obtain ⟨Zn, hZn⟩ : ∃ n, eX.name = n := ⟨_, rfl⟩
      obtain ⟨Zq, hZq⟩ : ∃ n, eX.names.length = n := ⟨_, rfl⟩
      obtain ⟨Zp, hZp⟩ : ∃ n, eX.nums.length = n := ⟨_, rfl⟩
      obtain ⟨Un, hUn⟩ : ∃ n, eY.name = n := ⟨_, rfl⟩
      obtain ⟨Uq, hUq⟩ : ∃ n, eY.names.length = n := ⟨_, rfl⟩
      obtain ⟨Up, hUp⟩ : ∃ n, eY.nums.length = n := ⟨_, rfl⟩
      rw [hXn, hXq] at cX cT
      rw [hYn, hYq] at cY cT
      rw [hZn, hZq, hZp] at cZ cE
      rw [hUn, hUq, hUp] at cU cE
      clear hpt ho1 ho2 ho3 hfx hlx hly hx1 hx2 hA5 hA6 hXn hXq hYn hYq hZn hZq hZp hUn hUq hUp
      have s0 := R1.c 0 rfl
      have s1 := R1.c 1 rfl
      have s2 := R1.c 2 rfl
      have l1 := R1.lt
      have t0 := R2.c 0 rfl
      have t1 := R2.c 1 rfl
      have t2 := R2.c 2 rfl
      have l2 := R2.lt
      go_upto_region 9 with (fail)
      refine wp_region_box (by kernel_rfl) (FF [(4, Fact.at_ wr (.pointer (some ⟨w.heap.size, 0, none⟩))), (9, Fact.at_ wr (.slice (some a5) q c5)), (15, Fact.at_ wr (.int .i64 (j : Int))), (59, Fact.at_ wr (.agg #[.int .i64 S.ver, .slice A n c, .slice A2 m c2])), (60, Fact.at_ wr (.slice (some a5) q c5)), (61, Fact.at_ wr (.int .i64 (j : Int))), (62, Fact.at_ wr (.pointer (some (a5.add j)))), (63, Fact.at_ wr (.string (bs z))), (64, Fact.at_ wr (.tuple #[.agg #[.string (bs Xn), .slice XA Xq Xc], .bool bX])), (58, Fact.at_ wr (.tuple #[.agg #[.string (bs Xn), .slice XA Xq Xc], .bool bX])), (65, Fact.at_ wr (.agg #[.string (bs Xn), .slice XA Xq Xc])), (66, Fact.at_ wr (.bool bX)), (17, Fact.at_ wr (.bool bX))]) [4, 9, 15] 109 16 10 65 [.string ⟨#[]⟩, .slice none 0 0] [.string (bs Xn), .slice XA Xq Xc] [59, 60, 61, 62, 63, 64, 58, 65, 66, 17, 16] rfl (by kernel_rfl) (by kernel_rfl) (by kernel_rfl) (by kernel_rfl) (FF_soft (fcs ⟨at_soft wr (.pointer (some ⟨w.heap.size, 0, none⟩)), fcs ⟨at_soft wr (.slice (some a5) q c5), fcs ⟨at_soft wr (.int .i64 (j : Int)), fcs ⟨at_soft wr (.agg #[.int .i64 S.ver, .slice A n c, .slice A2 m c2]), fcs ⟨at_soft wr (.slice (some a5) q c5), fcs ⟨at_soft wr (.int .i64 (j : Int)), fcs ⟨at_soft wr (.pointer (some (a5.add j))), fcs ⟨at_soft wr (.string (bs z)), fcs ⟨at_soft wr (.tuple #[.agg #[.string (bs Xn), .slice XA Xq Xc], .bool bX]), fcs ⟨at_soft wr (.tuple #[.agg #[.string (bs Xn), .slice XA Xq Xc], .bool bX]), fcs ⟨at_soft wr (.agg #[.string (bs Xn), .slice XA Xq Xc]), fcs ⟨at_soft wr (.bool bX), fcs ⟨at_soft wr (.bool bX), fnl⟩⟩⟩⟩⟩⟩⟩⟩⟩⟩⟩⟩⟩)) ?_ ?_ ?_
      · intro t9 ht9
        simp only [List.mem_cons, List.not_mem_nil, or_false] at ht9
        rcases ht9 with rfl | rfl | rfl
        · exact ⟨rfl, Below.refl _ _⟩
        · exact ⟨rfl, Below.refl _ _⟩
        · exact ⟨rfl, Below.refl _ _⟩
      · refine fcs ⟨.plain (at1 4 59 (.pointer (some ⟨w.heap.size, 0, none⟩)) (.agg #[.int .i64 S.ver, .slice A n c, .slice A2 m c2]) rfl (by first | exact .inl rfl | exact .inr ⟨_, _, _, rfl, rfl, by kernel_rfl, by decide, rfl⟩) (by kernel_rfl) rfl rfl (fun a9 W9 hb9 h9 => by have g0 := cell_next hb9 s0; have g1 := cell_next hb9 s1; have g2 := cell_next hb9 s2; simp [execOp, h9] <;> go_simp)) (by decide) (by decide), ?_⟩
        refine fcs ⟨.plain (atcopy 9 60 (.slice (some a5) q c5) (.inl rfl) rfl (by first | exact .inl rfl | exact .inr ⟨_, _, _, rfl, rfl, by kernel_rfl, by decide, rfl⟩) (by kernel_rfl) rfl rfl) (by decide) (by decide), ?_⟩
        refine fcs ⟨.plain (atcopy 15 61 (.int .i64 (j : Int)) (.inl rfl) rfl (by first | exact .inl rfl | exact .inr ⟨_, _, _, rfl, rfl, by kernel_rfl, by decide, rfl⟩) (by kernel_rfl) rfl rfl) (by decide) (by decide), ?_⟩
        refine fcs ⟨.plain (at2 60 61 62 (.slice (some a5) q c5) (.int .i64 (j : Int)) (.pointer (some (a5.add j))) rfl (by first | exact .inl rfl | exact .inr ⟨_, _, _, rfl, rfl, by kernel_rfl, by decide, rfl⟩) (by kernel_rfl) (by kernel_rfl) rfl rfl rfl (fun a9 W9 hb9 h9 h8 => by simp [execOp, h9, h8] <;> go_simp)) (by decide) (by decide), ?_⟩
        refine fcs ⟨.plain (at1 62 63 (.pointer (some (a5.add j))) (.string (bs z)) rfl (by first | exact .inl rfl | exact .inr ⟨_, _, _, rfl, rfl, by kernel_rfl, by decide, rfl⟩) (by kernel_rfl) rfl rfl (fun a9 W9 hb9 h9 => by have g0 := cell_next hb9 e0; simp [execOp, h9] <;> go_simp)) (by decide) (by decide), ?_⟩
        refine fcs ⟨.plain (atc2 14 59 63 64 (.agg #[.int .i64 S.ver, .slice A n c, .slice A2 m c2]) (.string (bs z)) (.tuple #[.agg #[.string (bs Xn), .slice XA Xq Xc], .bool bX]) _ rfl rfl (by first | exact .inl rfl | exact .inr ⟨_, _, _, rfl, rfl, by kernel_rfl, by decide, rfl⟩) (by kernel_rfl) (by kernel_rfl) rfl rfl (by kernel_rfl) rfl (fun W9 hb9 => cX W9 (Below.next hbx hb9))) (by decide) (by decide), ?_⟩
        refine fcs ⟨.plain (atcopy 64 58 (.tuple #[.agg #[.string (bs Xn), .slice XA Xq Xc], .bool bX]) (.inl rfl) rfl (by first | exact .inl rfl | exact .inr ⟨_, _, _, rfl, rfl, by kernel_rfl, by decide, rfl⟩) (by kernel_rfl) rfl rfl) (by decide) (by decide), ?_⟩
        refine fcs ⟨.plain (at1 58 65 (.tuple #[.agg #[.string (bs Xn), .slice XA Xq Xc], .bool bX]) (.agg #[.string (bs Xn), .slice XA Xq Xc]) rfl (by first | exact .inl rfl | exact .inr ⟨_, _, _, rfl, rfl, by kernel_rfl, by decide, rfl⟩) (by kernel_rfl) rfl rfl (fun a9 W9 hb9 h9 => by simp [execOp, h9] <;> go_simp)) (by decide) (by decide), ?_⟩
        refine fcs ⟨.plain (at1 58 66 (.tuple #[.agg #[.string (bs Xn), .slice XA Xq Xc], .bool bX]) (.bool bX) rfl (by first | exact .inl rfl | exact .inr ⟨_, _, _, rfl, rfl, by kernel_rfl, by decide, rfl⟩) (by kernel_rfl) rfl rfl (fun a9 W9 hb9 h9 => by simp [execOp, h9] <;> go_simp)) (by decide) (by decide), ?_⟩
        refine fcs ⟨.alloc rfl rfl rfl (by decide) (fun a9 w9 => ⟨_, by simp [execOp, ptr0] <;> go_simp, ab1 _ (Obj.cells #[.string ⟨#[]⟩, .slice none 0 0] 32), Bx.new2 _ _ _ _⟩), ?_⟩
        refine fcs ⟨.store rfl rfl rfl (by kernel_rfl) (by kernel_rfl) (fun a9 w9 b9 h9 hx9 hf9 => (by have k1 : a9.eval (.tmp 16) = .pointer (some ⟨b9, 0, none⟩) := h9; have k2 : a9.eval (.tmp 65) = .agg #[.string (bs Xn), .slice XA Xq Xc] := hf9.1; have g0 := hx9.c 0 rfl; have f0 := hx9.f 0 rfl; have g1 := hx9.c 1 rfl; have f1 := hx9.f 1 rfl; have l9 := hx9.lt; exact ⟨_, by simp [execOp, k1, k2] <;> go_simp, gb_set2 _ _ _ _, hx9.put2 _ _⟩)), ?_⟩
        refine fcs ⟨.plain (atcopy 66 17 (.bool bX) (.inr rfl) rfl (by first | exact .inl rfl | exact .inr ⟨_, _, _, rfl, rfl, by kernel_rfl, by decide, rfl⟩) (by kernel_rfl) rfl rfl) (by decide) (by decide), ?_⟩
        exact fnl
      rintro vv wv hvv ⟨gx, hgx, hgl, hX⟩ hbv
      have hv17 : vv 17 = (.bool bX) := (hvv 17 (by decide)).1
      unfold ptr0 at hgx
      simp only [lay, List.foldl_cons, List.foldl_nil, List.setIfInBounds_toArray, List.set_cons_succ, List.set_cons_zero, hgx, hv17]
      rename World => w10
      have X1 : Bx w10 _ _ := hX
      have hbx2 := Below.next hbx hbv
      replace e0 := cell_next hbv e0
      replace f0 := cell_next hbv f0
      replace R1 := R1.next hbv
      replace R2 := R2.next hbv
      have hkA2 : (a5.add j).block < w10.heap.size := blk_lt e0
      have hkB2 : (a6.add j).block < w10.heap.size := blk_lt f0
      clear hX hvv hgl hbx hbv hkA hkB s0 s1 s2 t0 t1 t2 l1 l2
      have hbx := hbx2
      have hkA := hkA2
      have hkB := hkB2
      clear hbx2 hkA2 hkB2
      have s0 := R1.c 0 rfl
      have s1 := R1.c 1 rfl
      have s2 := R1.c 2 rfl
      have l1 := R1.lt
      have t0 := R2.c 0 rfl
      have t1 := R2.c 1 rfl
      have t2 := R2.c 2 rfl
      have l2 := R2.lt
      clear hgx
      go_upto_region 10 with (fail)
      refine wp_region_box (by kernel_rfl) (FF [(5, Fact.at_ w10 (.pointer (some ⟨(w.heap.size + 1), 0, none⟩))), (10, Fact.at_ w10 (.slice (some a6) q c6)), (15, Fact.at_ w10 (.int .i64 (j : Int))), (68, Fact.at_ w10 (.agg #[.int .i64 T.ver, .slice A3 n3 c3, .slice A4 m4 c4])), (69, Fact.at_ w10 (.slice (some a6) q c6)), (70, Fact.at_ w10 (.int .i64 (j : Int))), (71, Fact.at_ w10 (.pointer (some (a6.add j)))), (72, Fact.at_ w10 (.string (bs z))), (73, Fact.at_ w10 (.tuple #[.agg #[.string (bs Yn), .slice YA Yq Yc], .bool bY])), (67, Fact.at_ w10 (.tuple #[.agg #[.string (bs Yn), .slice YA Yq Yc], .bool bY])), (74, Fact.at_ w10 (.agg #[.string (bs Yn), .slice YA Yq Yc])), (75, Fact.at_ w10 (.bool bY)), (19, Fact.at_ w10 (.bool bY))]) [5, 10, 15] 109 18 10 74 [.string ⟨#[]⟩, .slice none 0 0] [.string (bs Yn), .slice YA Yq Yc] [68, 69, 70, 71, 72, 73, 67, 74, 75, 19, 18] rfl (by kernel_rfl) (by kernel_rfl) (by kernel_rfl) (by kernel_rfl) (FF_soft (fcs ⟨at_soft w10 (.pointer (some ⟨(w.heap.size + 1), 0, none⟩)), fcs ⟨at_soft w10 (.slice (some a6) q c6), fcs ⟨at_soft w10 (.int .i64 (j : Int)), fcs ⟨at_soft w10 (.agg #[.int .i64 T.ver, .slice A3 n3 c3, .slice A4 m4 c4]), fcs ⟨at_soft w10 (.slice (some a6) q c6), fcs ⟨at_soft w10 (.int .i64 (j : Int)), fcs ⟨at_soft w10 (.pointer (some (a6.add j))), fcs ⟨at_soft w10 (.string (bs z)), fcs ⟨at_soft w10 (.tuple #[.agg #[.string (bs Yn), .slice YA Yq Yc], .bool bY]), fcs ⟨at_soft w10 (.tuple #[.agg #[.string (bs Yn), .slice YA Yq Yc], .bool bY]), fcs ⟨at_soft w10 (.agg #[.string (bs Yn), .slice YA Yq Yc]), fcs ⟨at_soft w10 (.bool bY), fcs ⟨at_soft w10 (.bool bY), fnl⟩⟩⟩⟩⟩⟩⟩⟩⟩⟩⟩⟩⟩)) ?_ ?_ ?_
      · intro t9 ht9
        simp only [List.mem_cons, List.not_mem_nil, or_false] at ht9
        rcases ht9 with rfl | rfl | rfl
        · exact ⟨rfl, Below.refl _ _⟩
        · exact ⟨rfl, Below.refl _ _⟩
        · exact ⟨rfl, Below.refl _ _⟩
      · refine fcs ⟨.plain (at1 5 68 (.pointer (some ⟨(w.heap.size + 1), 0, none⟩)) (.agg #[.int .i64 T.ver, .slice A3 n3 c3, .slice A4 m4 c4]) rfl (by first | exact .inl rfl | exact .inr ⟨_, _, _, rfl, rfl, by kernel_rfl, by decide, rfl⟩) (by kernel_rfl) rfl rfl (fun a9 W9 hb9 h9 => by have g0 := cell_next hb9 t0; have g1 := cell_next hb9 t1; have g2 := cell_next hb9 t2; simp [execOp, h9] <;> go_simp)) (by decide) (by decide), ?_⟩
        refine fcs ⟨.plain (atcopy 10 69 (.slice (some a6) q c6) (.inl rfl) rfl (by first | exact .inl rfl | exact .inr ⟨_, _, _, rfl, rfl, by kernel_rfl, by decide, rfl⟩) (by kernel_rfl) rfl rfl) (by decide) (by decide), ?_⟩
        refine fcs ⟨.plain (atcopy 15 70 (.int .i64 (j : Int)) (.inl rfl) rfl (by first | exact .inl rfl | exact .inr ⟨_, _, _, rfl, rfl, by kernel_rfl, by decide, rfl⟩) (by kernel_rfl) rfl rfl) (by decide) (by decide), ?_⟩
        refine fcs ⟨.plain (at2 69 70 71 (.slice (some a6) q c6) (.int .i64 (j : Int)) (.pointer (some (a6.add j))) rfl (by first | exact .inl rfl | exact .inr ⟨_, _, _, rfl, rfl, by kernel_rfl, by decide, rfl⟩) (by kernel_rfl) (by kernel_rfl) rfl rfl rfl (fun a9 W9 hb9 h9 h8 => by simp [execOp, h9, h8] <;> go_simp)) (by decide) (by decide), ?_⟩
        refine fcs ⟨.plain (at1 71 72 (.pointer (some (a6.add j))) (.string (bs z)) rfl (by first | exact .inl rfl | exact .inr ⟨_, _, _, rfl, rfl, by kernel_rfl, by decide, rfl⟩) (by kernel_rfl) rfl rfl (fun a9 W9 hb9 h9 => by have g0 := cell_next hb9 f0; simp [execOp, h9] <;> go_simp)) (by decide) (by decide), ?_⟩
        refine fcs ⟨.plain (atc2 14 68 72 73 (.agg #[.int .i64 T.ver, .slice A3 n3 c3, .slice A4 m4 c4]) (.string (bs z)) (.tuple #[.agg #[.string (bs Yn), .slice YA Yq Yc], .bool bY]) _ rfl rfl (by first | exact .inl rfl | exact .inr ⟨_, _, _, rfl, rfl, by kernel_rfl, by decide, rfl⟩) (by kernel_rfl) (by kernel_rfl) rfl rfl (by kernel_rfl) rfl (fun W9 hb9 => cY W9 (Below.next hbx hb9))) (by decide) (by decide), ?_⟩
        refine fcs ⟨.plain (atcopy 73 67 (.tuple #[.agg #[.string (bs Yn), .slice YA Yq Yc], .bool bY]) (.inl rfl) rfl (by first | exact .inl rfl | exact .inr ⟨_, _, _, rfl, rfl, by kernel_rfl, by decide, rfl⟩) (by kernel_rfl) rfl rfl) (by decide) (by decide), ?_⟩
        refine fcs ⟨.plain (at1 67 74 (.tuple #[.agg #[.string (bs Yn), .slice YA Yq Yc], .bool bY]) (.agg #[.string (bs Yn), .slice YA Yq Yc]) rfl (by first | exact .inl rfl | exact .inr ⟨_, _, _, rfl, rfl, by kernel_rfl, by decide, rfl⟩) (by kernel_rfl) rfl rfl (fun a9 W9 hb9 h9 => by simp [execOp, h9] <;> go_simp)) (by decide) (by decide), ?_⟩
        refine fcs ⟨.plain (at1 67 75 (.tuple #[.agg #[.string (bs Yn), .slice YA Yq Yc], .bool bY]) (.bool bY) rfl (by first | exact .inl rfl | exact .inr ⟨_, _, _, rfl, rfl, by kernel_rfl, by decide, rfl⟩) (by kernel_rfl) rfl rfl (fun a9 W9 hb9 h9 => by simp [execOp, h9] <;> go_simp)) (by decide) (by decide), ?_⟩
        refine fcs ⟨.alloc rfl rfl rfl (by decide) (fun a9 w9 => ⟨_, by simp [execOp, ptr0] <;> go_simp, ab1 _ (Obj.cells #[.string ⟨#[]⟩, .slice none 0 0] 32), Bx.new2 _ _ _ _⟩), ?_⟩
        refine fcs ⟨.store rfl rfl rfl (by kernel_rfl) (by kernel_rfl) (fun a9 w9 b9 h9 hx9 hf9 => (by have k1 : a9.eval (.tmp 18) = .pointer (some ⟨b9, 0, none⟩) := h9; have k2 : a9.eval (.tmp 74) = .agg #[.string (bs Yn), .slice YA Yq Yc] := hf9.1; have g0 := hx9.c 0 rfl; have f0 := hx9.f 0 rfl; have g1 := hx9.c 1 rfl; have f1 := hx9.f 1 rfl; have l9 := hx9.lt; exact ⟨_, by simp [execOp, k1, k2] <;> go_simp, gb_set2 _ _ _ _, hx9.put2 _ _⟩)), ?_⟩
        refine fcs ⟨.plain (atcopy 75 19 (.bool bY) (.inr rfl) rfl (by first | exact .inl rfl | exact .inr ⟨_, _, _, rfl, rfl, by kernel_rfl, by decide, rfl⟩) (by kernel_rfl) rfl rfl) (by decide) (by decide), ?_⟩
        exact fnl
      rintro vv wv hvv ⟨gy, hgy, hgl, hX⟩ hbv
      have hv19 : vv 19 = (.bool bY) := (hvv 19 (by decide)).1
      unfold ptr0 at hgy
      simp only [lay, List.foldl_cons, List.foldl_nil, List.setIfInBounds_toArray, List.set_cons_succ, List.set_cons_zero, hgy, hv19]
      rename World => w11
      have X2 : Bx w11 _ _ := hX
      have hbx2 := Below.next hbx hbv
      replace e0 := cell_next hbv e0
      replace f0 := cell_next hbv f0
      replace R1 := R1.next hbv
      replace R2 := R2.next hbv
      replace X1 := X1.next hbv
      have hkA2 : (a5.add j).block < w11.heap.size := blk_lt e0
      have hkB2 : (a6.add j).block < w11.heap.size := blk_lt f0
      clear hX hvv hgl hbx hbv hkA hkB s0 s1 s2 t0 t1 t2 l1 l2
      have hbx := hbx2
      have hkA := hkA2
      have hkB := hkB2
      clear hbx2 hkA2 hkB2
      have s0 := R1.c 0 rfl
      have s1 := R1.c 1 rfl
      have s2 := R1.c 2 rfl
      have l1 := R1.lt
      have t0 := R2.c 0 rfl
      have t1 := R2.c 1 rfl
      have t2 := R2.c 2 rfl
      have l2 := R2.lt
      clear hgy
      go_upto_region 11 with (fail)
      refine wp_region_box (by kernel_rfl) (FF [(4, Fact.at_ w11 (.pointer (some ⟨w.heap.size, 0, none⟩))), (9, Fact.at_ w11 (.slice (some a5) q c5)), (15, Fact.at_ w11 (.int .i64 (j : Int))), (77, Fact.at_ w11 (.agg #[.int .i64 S.ver, .slice A n c, .slice A2 m c2])), (78, Fact.at_ w11 (.slice (some a5) q c5)), (79, Fact.at_ w11 (.int .i64 (j : Int))), (80, Fact.at_ w11 (.pointer (some (a5.add j)))), (81, Fact.at_ w11 (.string (bs z))), (82, Fact.at_ w11 (.tuple #[.agg #[.string (bs Zn), .slice ZA Zq Zc, .slice ZB Zp Zd], .bool bZ])), (76, Fact.at_ w11 (.tuple #[.agg #[.string (bs Zn), .slice ZA Zq Zc, .slice ZB Zp Zd], .bool bZ])), (83, Fact.at_ w11 (.agg #[.string (bs Zn), .slice ZA Zq Zc, .slice ZB Zp Zd])), (84, Fact.at_ w11 (.bool bZ)), (21, Fact.at_ w11 (.bool bZ))]) [4, 9, 15] 109 20 10 83 [.string ⟨#[]⟩, .slice none 0 0, .slice none 0 0] [.string (bs Zn), .slice ZA Zq Zc, .slice ZB Zp Zd] [77, 78, 79, 80, 81, 82, 76, 83, 84, 21, 20] rfl (by kernel_rfl) (by kernel_rfl) (by kernel_rfl) (by kernel_rfl) (FF_soft (fcs ⟨at_soft w11 (.pointer (some ⟨w.heap.size, 0, none⟩)), fcs ⟨at_soft w11 (.slice (some a5) q c5), fcs ⟨at_soft w11 (.int .i64 (j : Int)), fcs ⟨at_soft w11 (.agg #[.int .i64 S.ver, .slice A n c, .slice A2 m c2]), fcs ⟨at_soft w11 (.slice (some a5) q c5), fcs ⟨at_soft w11 (.int .i64 (j : Int)), fcs ⟨at_soft w11 (.pointer (some (a5.add j))), fcs ⟨at_soft w11 (.string (bs z)), fcs ⟨at_soft w11 (.tuple #[.agg #[.string (bs Zn), .slice ZA Zq Zc, .slice ZB Zp Zd], .bool bZ]), fcs ⟨at_soft w11 (.tuple #[.agg #[.string (bs Zn), .slice ZA Zq Zc, .slice ZB Zp Zd], .bool bZ]), fcs ⟨at_soft w11 (.agg #[.string (bs Zn), .slice ZA Zq Zc, .slice ZB Zp Zd]), fcs ⟨at_soft w11 (.bool bZ), fcs ⟨at_soft w11 (.bool bZ), fnl⟩⟩⟩⟩⟩⟩⟩⟩⟩⟩⟩⟩⟩)) ?_ ?_ ?_
      · intro t9 ht9
        simp only [List.mem_cons, List.not_mem_nil, or_false] at ht9
        rcases ht9 with rfl | rfl | rfl
        · exact ⟨rfl, Below.refl _ _⟩
        · exact ⟨rfl, Below.refl _ _⟩
        · exact ⟨rfl, Below.refl _ _⟩
      · refine fcs ⟨.plain (at1 4 77 (.pointer (some ⟨w.heap.size, 0, none⟩)) (.agg #[.int .i64 S.ver, .slice A n c, .slice A2 m c2]) rfl (by first | exact .inl rfl | exact .inr ⟨_, _, _, rfl, rfl, by kernel_rfl, by decide, rfl⟩) (by kernel_rfl) rfl rfl (fun a9 W9 hb9 h9 => by have g0 := cell_next hb9 s0; have g1 := cell_next hb9 s1; have g2 := cell_next hb9 s2; simp [execOp, h9] <;> go_simp)) (by decide) (by decide), ?_⟩
        refine fcs ⟨.plain (atcopy 9 78 (.slice (some a5) q c5) (.inl rfl) rfl (by first | exact .inl rfl | exact .inr ⟨_, _, _, rfl, rfl, by kernel_rfl, by decide, rfl⟩) (by kernel_rfl) rfl rfl) (by decide) (by decide), ?_⟩
        refine fcs ⟨.plain (atcopy 15 79 (.int .i64 (j : Int)) (.inl rfl) rfl (by first | exact .inl rfl | exact .inr ⟨_, _, _, rfl, rfl, by kernel_rfl, by decide, rfl⟩) (by kernel_rfl) rfl rfl) (by decide) (by decide), ?_⟩
        refine fcs ⟨.plain (at2 78 79 80 (.slice (some a5) q c5) (.int .i64 (j : Int)) (.pointer (some (a5.add j))) rfl (by first | exact .inl rfl | exact .inr ⟨_, _, _, rfl, rfl, by kernel_rfl, by decide, rfl⟩) (by kernel_rfl) (by kernel_rfl) rfl rfl rfl (fun a9 W9 hb9 h9 h8 => by simp [execOp, h9, h8] <;> go_simp)) (by decide) (by decide), ?_⟩
        refine fcs ⟨.plain (at1 80 81 (.pointer (some (a5.add j))) (.string (bs z)) rfl (by first | exact .inl rfl | exact .inr ⟨_, _, _, rfl, rfl, by kernel_rfl, by decide, rfl⟩) (by kernel_rfl) rfl rfl (fun a9 W9 hb9 h9 => by have g0 := cell_next hb9 e0; simp [execOp, h9] <;> go_simp)) (by decide) (by decide), ?_⟩
        refine fcs ⟨.plain (atc2 16 77 81 82 (.agg #[.int .i64 S.ver, .slice A n c, .slice A2 m c2]) (.string (bs z)) (.tuple #[.agg #[.string (bs Zn), .slice ZA Zq Zc, .slice ZB Zp Zd], .bool bZ]) _ rfl rfl (by first | exact .inl rfl | exact .inr ⟨_, _, _, rfl, rfl, by kernel_rfl, by decide, rfl⟩) (by kernel_rfl) (by kernel_rfl) rfl rfl (by kernel_rfl) rfl (fun W9 hb9 => cZ W9 (Below.next hbx hb9))) (by decide) (by decide), ?_⟩
        refine fcs ⟨.plain (atcopy 82 76 (.tuple #[.agg #[.string (bs Zn), .slice ZA Zq Zc, .slice ZB Zp Zd], .bool bZ]) (.inl rfl) rfl (by first | exact .inl rfl | exact .inr ⟨_, _, _, rfl, rfl, by kernel_rfl, by decide, rfl⟩) (by kernel_rfl) rfl rfl) (by decide) (by decide), ?_⟩
        refine fcs ⟨.plain (at1 76 83 (.tuple #[.agg #[.string (bs Zn), .slice ZA Zq Zc, .slice ZB Zp Zd], .bool bZ]) (.agg #[.string (bs Zn), .slice ZA Zq Zc, .slice ZB Zp Zd]) rfl (by first | exact .inl rfl | exact .inr ⟨_, _, _, rfl, rfl, by kernel_rfl, by decide, rfl⟩) (by kernel_rfl) rfl rfl (fun a9 W9 hb9 h9 => by simp [execOp, h9] <;> go_simp)) (by decide) (by decide), ?_⟩
        refine fcs ⟨.plain (at1 76 84 (.tuple #[.agg #[.string (bs Zn), .slice ZA Zq Zc, .slice ZB Zp Zd], .bool bZ]) (.bool bZ) rfl (by first | exact .inl rfl | exact .inr ⟨_, _, _, rfl, rfl, by kernel_rfl, by decide, rfl⟩) (by kernel_rfl) rfl rfl (fun a9 W9 hb9 h9 => by simp [execOp, h9] <;> go_simp)) (by decide) (by decide), ?_⟩
        refine fcs ⟨.alloc rfl rfl rfl (by decide) (fun a9 w9 => ⟨_, by simp [execOp, ptr0] <;> go_simp, ab1 _ (Obj.cells #[.string ⟨#[]⟩, .slice none 0 0, .slice none 0 0] 38), Bx.new3 _ _ _ _ _⟩), ?_⟩
        refine fcs ⟨.store rfl rfl rfl (by kernel_rfl) (by kernel_rfl) (fun a9 w9 b9 h9 hx9 hf9 => (by have k1 : a9.eval (.tmp 20) = .pointer (some ⟨b9, 0, none⟩) := h9; have k2 : a9.eval (.tmp 83) = .agg #[.string (bs Zn), .slice ZA Zq Zc, .slice ZB Zp Zd] := hf9.1; have g0 := hx9.c 0 rfl; have f0 := hx9.f 0 rfl; have g1 := hx9.c 1 rfl; have f1 := hx9.f 1 rfl; have g2 := hx9.c 2 rfl; have f2 := hx9.f 2 rfl; have l9 := hx9.lt; exact ⟨_, by simp [execOp, k1, k2] <;> go_simp, gb_set3 _ _ _ _ _, hx9.put3 _ _ _⟩)), ?_⟩
        refine fcs ⟨.plain (atcopy 84 21 (.bool bZ) (.inr rfl) rfl (by first | exact .inl rfl | exact .inr ⟨_, _, _, rfl, rfl, by kernel_rfl, by decide, rfl⟩) (by kernel_rfl) rfl rfl) (by decide) (by decide), ?_⟩
        exact fnl
      rintro vv wv hvv ⟨gz, hgz, hgl, hX⟩ hbv
      have hv21 : vv 21 = (.bool bZ) := (hvv 21 (by decide)).1
      unfold ptr0 at hgz
      simp only [lay, List.foldl_cons, List.foldl_nil, List.setIfInBounds_toArray, List.set_cons_succ, List.set_cons_zero, hgz, hv21]
      rename World => w12
      have X3 : Bx w12 _ _ := hX
      have hbx2 := Below.next hbx hbv
      replace e0 := cell_next hbv e0
      replace f0 := cell_next hbv f0
      replace R1 := R1.next hbv
      replace R2 := R2.next hbv
      replace X1 := X1.next hbv
      replace X2 := X2.next hbv
      have hkA2 : (a5.add j).block < w12.heap.size := blk_lt e0
      have hkB2 : (a6.add j).block < w12.heap.size := blk_lt f0
      clear hX hvv hgl hbx hbv hkA hkB s0 s1 s2 t0 t1 t2 l1 l2
      have hbx := hbx2
      have hkA := hkA2
      have hkB := hkB2
      clear hbx2 hkA2 hkB2
      have s0 := R1.c 0 rfl
      have s1 := R1.c 1 rfl
      have s2 := R1.c 2 rfl
      have l1 := R1.lt
      have t0 := R2.c 0 rfl
      have t1 := R2.c 1 rfl
      have t2 := R2.c 2 rfl
      have l2 := R2.lt
      clear hgz
      go_upto_region 12 with (fail)
      refine wp_region_box (by kernel_rfl) (FF [(5, Fact.at_ w12 (.pointer (some ⟨(w.heap.size + 1), 0, none⟩))), (10, Fact.at_ w12 (.slice (some a6) q c6)), (15, Fact.at_ w12 (.int .i64 (j : Int))), (86, Fact.at_ w12 (.agg #[.int .i64 T.ver, .slice A3 n3 c3, .slice A4 m4 c4])), (87, Fact.at_ w12 (.slice (some a6) q c6)), (88, Fact.at_ w12 (.int .i64 (j : Int))), (89, Fact.at_ w12 (.pointer (some (a6.add j)))), (90, Fact.at_ w12 (.string (bs z))), (91, Fact.at_ w12 (.tuple #[.agg #[.string (bs Un), .slice UA Uq Uc, .slice UB Up Ud], .bool bU])), (85, Fact.at_ w12 (.tuple #[.agg #[.string (bs Un), .slice UA Uq Uc, .slice UB Up Ud], .bool bU])), (92, Fact.at_ w12 (.agg #[.string (bs Un), .slice UA Uq Uc, .slice UB Up Ud])), (93, Fact.at_ w12 (.bool bU)), (23, Fact.at_ w12 (.bool bU))]) [5, 10, 15] 109 22 10 92 [.string ⟨#[]⟩, .slice none 0 0, .slice none 0 0] [.string (bs Un), .slice UA Uq Uc, .slice UB Up Ud] [86, 87, 88, 89, 90, 91, 85, 92, 93, 23, 22] rfl (by kernel_rfl) (by kernel_rfl) (by kernel_rfl) (by kernel_rfl) (FF_soft (fcs ⟨at_soft w12 (.pointer (some ⟨(w.heap.size + 1), 0, none⟩)), fcs ⟨at_soft w12 (.slice (some a6) q c6), fcs ⟨at_soft w12 (.int .i64 (j : Int)), fcs ⟨at_soft w12 (.agg #[.int .i64 T.ver, .slice A3 n3 c3, .slice A4 m4 c4]), fcs ⟨at_soft w12 (.slice (some a6) q c6), fcs ⟨at_soft w12 (.int .i64 (j : Int)), fcs ⟨at_soft w12 (.pointer (some (a6.add j))), fcs ⟨at_soft w12 (.string (bs z)), fcs ⟨at_soft w12 (.tuple #[.agg #[.string (bs Un), .slice UA Uq Uc, .slice UB Up Ud], .bool bU]), fcs ⟨at_soft w12 (.tuple #[.agg #[.string (bs Un), .slice UA Uq Uc, .slice UB Up Ud], .bool bU]), fcs ⟨at_soft w12 (.agg #[.string (bs Un), .slice UA Uq Uc, .slice UB Up Ud]), fcs ⟨at_soft w12 (.bool bU), fcs ⟨at_soft w12 (.bool bU), fnl⟩⟩⟩⟩⟩⟩⟩⟩⟩⟩⟩⟩⟩)) ?_ ?_ ?_
      · intro t9 ht9
        simp only [List.mem_cons, List.not_mem_nil, or_false] at ht9
        rcases ht9 with rfl | rfl | rfl
        · exact ⟨rfl, Below.refl _ _⟩
        · exact ⟨rfl, Below.refl _ _⟩
        · exact ⟨rfl, Below.refl _ _⟩
      · refine fcs ⟨.plain (at1 5 86 (.pointer (some ⟨(w.heap.size + 1), 0, none⟩)) (.agg #[.int .i64 T.ver, .slice A3 n3 c3, .slice A4 m4 c4]) rfl (by first | exact .inl rfl | exact .inr ⟨_, _, _, rfl, rfl, by kernel_rfl, by decide, rfl⟩) (by kernel_rfl) rfl rfl (fun a9 W9 hb9 h9 => by have g0 := cell_next hb9 t0; have g1 := cell_next hb9 t1; have g2 := cell_next hb9 t2; simp [execOp, h9] <;> go_simp)) (by decide) (by decide), ?_⟩
        refine fcs ⟨.plain (atcopy 10 87 (.slice (some a6) q c6) (.inl rfl) rfl (by first | exact .inl rfl | exact .inr ⟨_, _, _, rfl, rfl, by kernel_rfl, by decide, rfl⟩) (by kernel_rfl) rfl rfl) (by decide) (by decide), ?_⟩
        refine fcs ⟨.plain (atcopy 15 88 (.int .i64 (j : Int)) (.inl rfl) rfl (by first | exact .inl rfl | exact .inr ⟨_, _, _, rfl, rfl, by kernel_rfl, by decide, rfl⟩) (by kernel_rfl) rfl rfl) (by decide) (by decide), ?_⟩
        refine fcs ⟨.plain (at2 87 88 89 (.slice (some a6) q c6) (.int .i64 (j : Int)) (.pointer (some (a6.add j))) rfl (by first | exact .inl rfl | exact .inr ⟨_, _, _, rfl, rfl, by kernel_rfl, by decide, rfl⟩) (by kernel_rfl) (by kernel_rfl) rfl rfl rfl (fun a9 W9 hb9 h9 h8 => by simp [execOp, h9, h8] <;> go_simp)) (by decide) (by decide), ?_⟩
        refine fcs ⟨.plain (at1 89 90 (.pointer (some (a6.add j))) (.string (bs z)) rfl (by first | exact .inl rfl | exact .inr ⟨_, _, _, rfl, rfl, by kernel_rfl, by decide, rfl⟩) (by kernel_rfl) rfl rfl (fun a9 W9 hb9 h9 => by have g0 := cell_next hb9 f0; simp [execOp, h9] <;> go_simp)) (by decide) (by decide), ?_⟩
        refine fcs ⟨.plain (atc2 16 86 90 91 (.agg #[.int .i64 T.ver, .slice A3 n3 c3, .slice A4 m4 c4]) (.string (bs z)) (.tuple #[.agg #[.string (bs Un), .slice UA Uq Uc, .slice UB Up Ud], .bool bU]) _ rfl rfl (by first | exact .inl rfl | exact .inr ⟨_, _, _, rfl, rfl, by kernel_rfl, by decide, rfl⟩) (by kernel_rfl) (by kernel_rfl) rfl rfl (by kernel_rfl) rfl (fun W9 hb9 => cU W9 (Below.next hbx hb9))) (by decide) (by decide), ?_⟩
        refine fcs ⟨.plain (atcopy 91 85 (.tuple #[.agg #[.string (bs Un), .slice UA Uq Uc, .slice UB Up Ud], .bool bU]) (.inl rfl) rfl (by first | exact .inl rfl | exact .inr ⟨_, _, _, rfl, rfl, by kernel_rfl, by decide, rfl⟩) (by kernel_rfl) rfl rfl) (by decide) (by decide), ?_⟩
        refine fcs ⟨.plain (at1 85 92 (.tuple #[.agg #[.string (bs Un), .slice UA Uq Uc, .slice UB Up Ud], .bool bU]) (.agg #[.string (bs Un), .slice UA Uq Uc, .slice UB Up Ud]) rfl (by first | exact .inl rfl | exact .inr ⟨_, _, _, rfl, rfl, by kernel_rfl, by decide, rfl⟩) (by kernel_rfl) rfl rfl (fun a9 W9 hb9 h9 => by simp [execOp, h9] <;> go_simp)) (by decide) (by decide), ?_⟩
        refine fcs ⟨.plain (at1 85 93 (.tuple #[.agg #[.string (bs Un), .slice UA Uq Uc, .slice UB Up Ud], .bool bU]) (.bool bU) rfl (by first | exact .inl rfl | exact .inr ⟨_, _, _, rfl, rfl, by kernel_rfl, by decide, rfl⟩) (by kernel_rfl) rfl rfl (fun a9 W9 hb9 h9 => by simp [execOp, h9] <;> go_simp)) (by decide) (by decide), ?_⟩
        refine fcs ⟨.alloc rfl rfl rfl (by decide) (fun a9 w9 => ⟨_, by simp [execOp, ptr0] <;> go_simp, ab1 _ (Obj.cells #[.string ⟨#[]⟩, .slice none 0 0, .slice none 0 0] 38), Bx.new3 _ _ _ _ _⟩), ?_⟩
        refine fcs ⟨.store rfl rfl rfl (by kernel_rfl) (by kernel_rfl) (fun a9 w9 b9 h9 hx9 hf9 => (by have k1 : a9.eval (.tmp 22) = .pointer (some ⟨b9, 0, none⟩) := h9; have k2 : a9.eval (.tmp 92) = .agg #[.string (bs Un), .slice UA Uq Uc, .slice UB Up Ud] := hf9.1; have g0 := hx9.c 0 rfl; have f0 := hx9.f 0 rfl; have g1 := hx9.c 1 rfl; have f1 := hx9.f 1 rfl; have g2 := hx9.c 2 rfl; have f2 := hx9.f 2 rfl; have l9 := hx9.lt; exact ⟨_, by simp [execOp, k1, k2] <;> go_simp, gb_set3 _ _ _ _ _, hx9.put3 _ _ _⟩)), ?_⟩
        refine fcs ⟨.plain (atcopy 93 23 (.bool bU) (.inr rfl) rfl (by first | exact .inl rfl | exact .inr ⟨_, _, _, rfl, rfl, by kernel_rfl, by decide, rfl⟩) (by kernel_rfl) rfl rfl) (by decide) (by decide), ?_⟩
        exact fnl
      rintro vv wv hvv ⟨gu, hgu, hgl, hX⟩ hbv
      have hv23 : vv 23 = (.bool bU) := (hvv 23 (by decide)).1
      unfold ptr0 at hgu
      simp only [lay, List.foldl_cons, List.foldl_nil, List.setIfInBounds_toArray, List.set_cons_succ, List.set_cons_zero, hgu, hv23]
      rename World => w13
      have X4 : Bx w13 _ _ := hX
      have hbx2 := Below.next hbx hbv
      replace e0 := cell_next hbv e0
      replace f0 := cell_next hbv f0
      replace R1 := R1.next hbv
      replace R2 := R2.next hbv
      replace X1 := X1.next hbv
      replace X2 := X2.next hbv
      replace X3 := X3.next hbv
      have hkA2 : (a5.add j).block < w13.heap.size := blk_lt e0
      have hkB2 : (a6.add j).block < w13.heap.size := blk_lt f0
      clear hX hvv hgl hbx hbv hkA hkB s0 s1 s2 t0 t1 t2 l1 l2
      have hbx := hbx2
      have hkA := hkA2
      have hkB := hkB2
      clear hbx2 hkA2 hkB2
      have s0 := R1.c 0 rfl
      have s1 := R1.c 1 rfl
      have s2 := R1.c 2 rfl
      have l1 := R1.lt
      have t0 := R2.c 0 rfl
      have t1 := R2.c 1 rfl
      have t2 := R2.c 2 rfl
      have l2 := R2.lt
      clear hgu
      clear s0 s1 s2 l1 t0 t1 t2 l2 e0 f0 hkA hkB cX cY cZ cU
      have x0 := X1.c 0 rfl
      have x1 := X1.c 1 rfl
      have x2 := X1.lt
      have y0 := X2.c 0 rfl
      have y1 := X2.c 1 rfl
      have y2 := X2.lt
      have HBw := Below.next hb0 hbx
      by_cases hbb : bX = bY
      case neg =>
        have d1 := bne_t hbb
        have HF : Hid (r = false) := Lib.hid (by rw [Bool.eq_false_iff]; intro h; exact hbb (HP.out.1 (HI2.out.1 h z hzu)).1)
        have HB := HBw
        go_wp2_with fail
        go_ret
        exact ⟨by rw [HF.out]; rfl, HB⟩
      subst hbb
      have d1 := bne_self' bX
      have cT2 := cT _ hbx
      by_cases hst : tX = tY
      case neg =>
        rw [eqS_no hst] at cT2
        have HF : Hid (r = false) := Lib.hid (by rw [Bool.eq_false_iff]; intro h; exact hst (HP.out.1 (HI2.out.1 h z hzu)).2.1)
        go_wp2_with fail
        refine cT2.mono ?_
        rintro e w5 ⟨rfl, hb5⟩
        have HB := Below.next HBw hb5
        go_wp2_with fail
        go_ret
        exact ⟨by rw [HF.out]; rfl, HB⟩
      rw [eqS_iff.2 hst] at cT2
      go_wp2_with fail
      refine cT2.mono ?_
      rintro e w5 ⟨rfl, hb5⟩
      clear x0 x1 x2 y0 y1 y2
      have hbx5 := Below.next hbx hb5
      have x0 := (X3.next hb5).c 0 rfl
      have x1 := (X3.next hb5).c 1 rfl
      have x2 := (X3.next hb5).c 2 rfl
      have x3 := (X3.next hb5).lt
      have y0 := (X4.next hb5).c 0 rfl
      have y1 := (X4.next hb5).c 1 rfl
      have y2 := (X4.next hb5).c 2 rfl
      have y3 := (X4.next hb5).lt
      have cE2 := cE _ hbx5
      by_cases hee : eX = eY
      case neg =>
        rw [eqE_no hee] at cE2
        have HF : Hid (r = false) := Lib.hid (by rw [Bool.eq_false_iff]; intro h; exact hee (HP.out.1 (HI2.out.1 h z hzu)).2.2)
        go_wp2_with fail
        refine cE2.mono ?_
        rintro e w6 ⟨rfl, hb6⟩
        have HB := Below.next hb0 (Below.next hbx5 hb6)
        go_wp2_with fail
        go_ret
        exact ⟨by rw [HF.out]; rfl, HB⟩
      rw [eqE_iff.2 hee] at cE2
      go_wp2_with fail
      refine cE2.mono ?_
      rintro e w6 ⟨rfl, hb6⟩
      have HT := Lib.hid (hta (HP.out.2 ⟨by trivial, hst, hee⟩))
      have hb7 := Below.next hbx5 hb6
      have Q1 := (R1.next hb5).next hb6
      have Q2 := (R2.next hb5).next hb6
      clear x0 x1 x2 x3 y0 y1 y2 y3 X1 X2 X3 X4 cT cE cT2 cE2 hta HZ
      go_wp2_with fail
      go_roundw
      case rel => exact ⟨j + 1, by omega, by go_num, HT, Q1, Q2, hb7⟩
      case measure => simp [intOf]; omega
    · obtain rfl : j = q := by omega
      have HF : Hid (r = true) := Lib.hid (HI2.out.2 (by have h := HZ.out; rw [← HQ.out, List.take_length] at h; exact h))
      have HB := Below.next hb0 hbx
      go_wp2_with fail
      go_ret
      exact ⟨by rw [HF.out]; rfl, HB⟩
end Go.Proofs.YthbhbpcjcnkkkaaGreatDoor
/-
  The law of digests. Go's own bounds of lengths, and what the library's variables hold, are its conditions.
-/
namespace Go.Proofs.YthbhbpcjcnkkkaaGreatDoor
open Go.RowKit Go.Shelf
open Classical in
theorem us_ex {S : Sch} (hO : Okk S) (x : List UInt8) : ∃ l, Us S x l := by
  have key : ∀ r : List (List UInt8), ∃ l, Asc leB l ∧ ∀ y, y ∈ l ↔ (y ∈ r ∧ Reach (nx S) x y) := by
    intro r
    induction r with
    | nil => exact ⟨[], List.Pairwise.nil, fun y => by simp⟩
    | cons z r ih =>
      obtain ⟨l, h1, h2⟩ := ih
      by_cases hz : Reach (nx S) x z
      · refine ⟨put leB l z, asc_put tot_leB l z h1, fun y => ?_⟩
        rw [mem_put, h2, List.mem_cons]
        constructor
        · rintro (rfl | ⟨h3, h4⟩)
          · exact ⟨.inl rfl, hz⟩
          · exact ⟨.inr h3, h4⟩
        · rintro ⟨rfl | h3, h4⟩
          · exact .inl rfl
          · exact .inr ⟨h3, h4⟩
      · refine ⟨l, h1, fun y => ?_⟩
        rw [h2, List.mem_cons]
        constructor
        · rintro ⟨h3, h4⟩; exact ⟨.inr h3, h4⟩
        · rintro ⟨rfl | h3, h4⟩
          · exact absurd h4 hz
          · exact ⟨h3, h4⟩
  obtain ⟨l, h1, h2⟩ := key (univ S)
  exact ⟨l, h1, fun y => (h2 y).trans ⟨fun h => h.2, fun h => ⟨reach_univ hO h, h⟩⟩⟩
theorem dep_no {S : Sch} {x : List UInt8} (h : depA S x ≠ 0) : chk S = 0 ∧ x ∈ sns S := by
  unfold depA at h
  by_cases h1 : chk S = 0
  · rw [if_pos h1] at h
    by_cases h2 : (sns S).contains x = true
    · exact ⟨h1, List.contains_iff_mem.1 h2⟩
    · rw [if_neg h2] at h; exact absurd rfl h
  · rw [if_neg h1] at h; exact absurd rfl h
set_option maxRecDepth 100000 in
set_option maxHeartbeats 16000000 in
theorem schemaDigests_any (S T : Sch) (v v' : Value) (x y : List UInt8) (w : World) (hlk : lokS S) (hlk2 : lokS T) (hv : ScV w S v) (hw : ScV w T v') (hx : x.length ≤ 9223372036854775807) (hy : y.length ≤ 9223372036854775807) (hE : Env w) (hT : Tabs w) :
    Calls Tryz.prog 7 #[v, v', .string (bs x), .string (bs y)] w (Ib (.bool true) w) := by
  have hv0 := hv
  have hw0 := hw
  obtain ⟨A, c, A2, c2, rfl, hS_⟩ := hv
  obtain ⟨A3, c3, A4, c4, rfl, hT_⟩ := hw
  clear hS_ hT_
  obtain ⟨n, hn⟩ : ∃ n, S.enums.length = n := ⟨_, rfl⟩
  obtain ⟨m, hm⟩ : ∃ m, S.structs.length = m := ⟨_, rfl⟩
  obtain ⟨n3, hn3⟩ : ∃ n, T.enums.length = n := ⟨_, rfl⟩
  obtain ⟨m4, hm4⟩ : ∃ m, T.structs.length = m := ⟨_, rfl⟩
  rw [hn, hm] at hv0
  rw [hn3, hm4] at hw0
  rw [hn, hm, hn3, hm4]
  have hab := ab2 w (Obj.cells #[.int .i64 S.ver, .slice A n c, .slice A2 m c2] 25) (Obj.cells #[.int .i64 T.ver, .slice A3 n3 c3, .slice A4 m4 c4] 25)
  have z1 : (w.alloc (Obj.cells #[.int .i64 S.ver, .slice A n c, .slice A2 m c2] 25)).heap.size = w.heap.size + 1 := by simp
  have R1 := (Bx.new3 w 25 (.int .i64 S.ver) (.slice A n c) (.slice A2 m c2)).next (ab1 _ (Obj.cells #[.int .i64 T.ver, .slice A3 n3 c3, .slice A4 m4 c4] 25))
  have R2 := Bx.new3 (w.alloc (Obj.cells #[.int .i64 S.ver, .slice A n c, .slice A2 m c2] 25)) 25 (.int .i64 T.ver) (.slice A3 n3 c3) (.slice A4 m4 c4)
  rw [z1] at R2
  have cF := few_any S _ _ hlk (hv0.next hab)
  have cG := fun W (h : Below w.heap.size w W) => few_any T _ W hlk2 (hw0.next h)
  obtain ⟨f, hf⟩ : ∃ f, few S = f := ⟨_, rfl⟩
  obtain ⟨f2, hf2⟩ : ∃ f, few T = f := ⟨_, rfl⟩
  rw [hf] at cF
  rw [hf2] at cG
  clear z1 hn hm hn3 hm4
  go_enter Tryz.func7, Tryz.ntmps7
  go_wp2_with fail
  refine cF.mono ?_
  rintro e w2 ⟨rfl, hb2⟩
  have HB := Below.next hab hb2
  replace R1 := R1.next hb2
  replace R2 := R2.next hb2
  clear cF hab hb2
  cases f
  · clear R1 R2 cG
    go_wp2_with fail
    refine (awake_any _ (hE.next HB)).mono ?_
    rintro e w8 ⟨rfl, hb8⟩
    go_wp2_with fail
    go_ret
    exact ⟨rfl, Below.next HB hb8⟩
  have hB := few_B hf
  have cG2 := cG w2 HB
  have s0 := R1.c 0 rfl
  have s1 := R1.c 1 rfl
  have s2 := R1.c 2 rfl
  have l1 := R1.lt
  have t0 := R2.c 0 rfl
  have t1 := R2.c 1 rfl
  have t2 := R2.c 2 rfl
  have l2 := R2.lt
  clear cG
  go_wp2_with fail
  refine cG2.mono ?_
  rintro e w3 ⟨rfl, hb3⟩
  replace HB := Below.next HB hb3
  replace R1 := R1.next hb3
  replace R2 := R2.next hb3
  clear cG2 hb3
  clear s0 s1 s2 l1 t0 t1 t2 l2
  cases f2
  · clear R1 R2
    go_wp2_with fail
    refine (awake_any _ (hE.next HB)).mono ?_
    rintro e w8 ⟨rfl, hb8⟩
    go_wp2_with fail
    go_ret
    exact ⟨rfl, Below.next HB hb8⟩
  have hB2 := few_B hf2
  have cDx := fun W (h : Below w3.heap.size w3 W) => devDigest_any S hB x hx _ W (hv0.next (Below.next HB h)) (hE.next (Below.next HB h)) (hT.below (Below.next HB h))
  have cDy := fun W (h : Below w3.heap.size w3 W) => devDigest_any T hB2 y hy _ W (hw0.next (Below.next HB h)) (hE.next (Below.next HB h)) (hT.below (Below.next HB h))
  have cRx := fun W (h : Below w3.heap.size w3 W) => refDigest_any S hB x _ W (hv0.next (Below.next HB h))
  have cRy := fun W (h : Below w3.heap.size w3 W) => refDigest_any T hB2 y _ W (hw0.next (Below.next HB h))
  have cPx := fun W (h : Below w3.heap.size w3 W) => refDepthA_any S hB x _ W (hv0.next (Below.next HB h))
  have cPy := fun W (h : Below w3.heap.size w3 W) => refDepthA_any T hB2 y _ W (hw0.next (Below.next HB h))
  obtain ⟨dx, hdx⟩ : ∃ d, dig S x = d := ⟨_, rfl⟩
  obtain ⟨dy, hdy⟩ : ∃ d, dig T y = d := ⟨_, rfl⟩
  obtain ⟨px, hpx⟩ : ∃ d, depA S x = d := ⟨_, rfl⟩
  obtain ⟨py, hpy⟩ : ∃ d, depA T y = d := ⟨_, rfl⟩
  rw [hdx] at cDx cRx
  rw [hdy] at cDy cRy
  rw [hpx] at cPx
  rw [hpy] at cPy
  have HDX := Lib.hid hdx
  have HDY := Lib.hid hdy
  have HPX := Lib.hid hpx
  have HPY := Lib.hid hpy
  clear hdx hdy hpx hpy
  have s0 := R1.c 0 rfl
  have s1 := R1.c 1 rfl
  have s2 := R1.c 2 rfl
  have l1 := R1.lt
  have t0 := R2.c 0 rfl
  have t1 := R2.c 1 rfl
  have t2 := R2.c 2 rfl
  have l2 := R2.lt
  go_upto_region 3 with (fail)
  refine wp_region_on (by kernel_rfl) (FF [(2, Fact.at_ w3 (.string (bs x))), (3, Fact.at_ w3 (.string (bs y))), (4, Fact.at_ w3 (.pointer (some ⟨w.heap.size, 0, none⟩))), (5, Fact.at_ w3 (.pointer (some ⟨(w.heap.size + 1), 0, none⟩))), (22, Fact.at_ w3 (.agg #[.int .i64 S.ver, .slice A n c, .slice A2 m c2])), (23, Fact.at_ w3 (.string (bs x))), (24, Fact.at_ w3 (.int .u64 (dx : Int))), (25, Fact.at_ w3 (.agg #[.int .i64 T.ver, .slice A3 n3 c3, .slice A4 m4 c4])), (26, Fact.at_ w3 (.string (bs y))), (27, Fact.at_ w3 (.int .u64 (dy : Int))), (9, Fact.at_ w3 (.int .u64 (dx : Int))), (10, Fact.at_ w3 (.int .u64 (dy : Int)))]) [2, 3, 4, 5] 79 [22, 23, 24, 25, 26, 27, 9, 10] rfl (by kernel_rfl) (by kernel_rfl) ?_ ?_ ?_
  · intro t9 ht9
    simp only [List.mem_cons, List.not_mem_nil, or_false] at ht9
    rcases ht9 with rfl | rfl | rfl | rfl
    · exact ⟨rfl, Below.refl _ _⟩
    · exact ⟨rfl, Below.refl _ _⟩
    · exact ⟨rfl, Below.refl _ _⟩
    · exact ⟨rfl, Below.refl _ _⟩
  · refine fcs ⟨at1 4 22 (.pointer (some ⟨w.heap.size, 0, none⟩)) (.agg #[.int .i64 S.ver, .slice A n c, .slice A2 m c2]) rfl (by first | exact .inl rfl | exact .inr ⟨_, _, _, rfl, rfl, by kernel_rfl, by decide, rfl⟩) (by kernel_rfl) rfl rfl (fun a9 W9 hb9 h9 => by have g0 := cell_next hb9 s0; have g1 := cell_next hb9 s1; have g2 := cell_next hb9 s2; simp [execOp, h9] <;> go_simp), ?_⟩
    refine fcs ⟨atcopy 2 23 (.string (bs x)) (.inl rfl) rfl (by first | exact .inl rfl | exact .inr ⟨_, _, _, rfl, rfl, by kernel_rfl, by decide, rfl⟩) (by kernel_rfl) rfl rfl, ?_⟩
    refine fcs ⟨atc2 28 22 23 24 (.agg #[.int .i64 S.ver, .slice A n c, .slice A2 m c2]) (.string (bs x)) (.int .u64 (dx : Int)) _ rfl rfl (by first | exact .inl rfl | exact .inr ⟨_, _, _, rfl, rfl, by kernel_rfl, by decide, rfl⟩) (by kernel_rfl) (by kernel_rfl) rfl rfl (by kernel_rfl) rfl (fun W9 hb9 => cDx W9 hb9), ?_⟩
    refine fcs ⟨at1 5 25 (.pointer (some ⟨(w.heap.size + 1), 0, none⟩)) (.agg #[.int .i64 T.ver, .slice A3 n3 c3, .slice A4 m4 c4]) rfl (by first | exact .inl rfl | exact .inr ⟨_, _, _, rfl, rfl, by kernel_rfl, by decide, rfl⟩) (by kernel_rfl) rfl rfl (fun a9 W9 hb9 h9 => by have g0 := cell_next hb9 t0; have g1 := cell_next hb9 t1; have g2 := cell_next hb9 t2; simp [execOp, h9] <;> go_simp), ?_⟩
    refine fcs ⟨atcopy 3 26 (.string (bs y)) (.inl rfl) rfl (by first | exact .inl rfl | exact .inr ⟨_, _, _, rfl, rfl, by kernel_rfl, by decide, rfl⟩) (by kernel_rfl) rfl rfl, ?_⟩
    refine fcs ⟨atc2 28 25 26 27 (.agg #[.int .i64 T.ver, .slice A3 n3 c3, .slice A4 m4 c4]) (.string (bs y)) (.int .u64 (dy : Int)) _ rfl rfl (by first | exact .inl rfl | exact .inr ⟨_, _, _, rfl, rfl, by kernel_rfl, by decide, rfl⟩) (by kernel_rfl) (by kernel_rfl) rfl rfl (by kernel_rfl) rfl (fun W9 hb9 => cDy W9 hb9), ?_⟩
    refine fcs ⟨atcopy 24 9 (.int .u64 (dx : Int)) (.inr rfl) rfl (by first | exact .inl rfl | exact .inr ⟨_, _, _, rfl, rfl, by kernel_rfl, by decide, rfl⟩) (by kernel_rfl) rfl rfl, ?_⟩
    refine fcs ⟨atcopy 27 10 (.int .u64 (dy : Int)) (.inr rfl) rfl (by first | exact .inl rfl | exact .inr ⟨_, _, _, rfl, rfl, by kernel_rfl, by decide, rfl⟩) (by kernel_rfl) rfl rfl, ?_⟩
    exact fnl
  intro vv wv hvv hbv
  have hv9 : vv 9 = (.int .u64 (dx : Int)) := (hvv 9 (by decide)).1
  have hv10 : vv 10 = (.int .u64 (dy : Int)) := (hvv 10 (by decide)).1
  simp only [lay, List.foldl_cons, List.foldl_nil, List.setIfInBounds_toArray, List.set_cons_succ, List.set_cons_zero, hv9, hv10]
  clear cDx cDy hvv
  rename World => w4
  have hb4 := hbv
  replace R1 := R1.next hb4
  replace R2 := R2.next hb4
  clear s0 s1 s2 l1 t0 t1 t2 l2
  have s0 := R1.c 0 rfl
  have s1 := R1.c 1 rfl
  have s2 := R1.c 2 rfl
  have l1 := R1.lt
  have t0 := R2.c 0 rfl
  have t1 := R2.c 1 rfl
  have t2 := R2.c 2 rfl
  have l2 := R2.lt
  have cA := cRx w4 hb4
  go_wp2_with fail
  refine cA.mono ?_
  rintro e w5 ⟨rfl, hb5⟩
  have hb45 := Below.next hb4 hb5
  replace R1 := R1.next hb5
  replace R2 := R2.next hb5
  clear s0 s1 s2 l1 t0 t1 t2 l2
  have s0 := R1.c 0 rfl
  have s1 := R1.c 1 rfl
  have s2 := R1.c 2 rfl
  have l1 := R1.lt
  have t0 := R2.c 0 rfl
  have t1 := R2.c 1 rfl
  have t2 := R2.c 2 rfl
  have l2 := R2.lt
  have cA2 := cRy w5 hb45
  clear cA cRx
  go_wp2_with fail
  refine cA2.mono ?_
  rintro e w6 ⟨rfl, hb6⟩
  have hb46 := Below.next hb45 hb6
  replace R1 := R1.next hb6
  replace R2 := R2.next hb6
  clear s0 s1 s2 l1 t0 t1 t2 l2
  have s0 := R1.c 0 rfl
  have s1 := R1.c 1 rfl
  have s2 := R1.c 2 rfl
  have l1 := R1.lt
  have t0 := R2.c 0 rfl
  have t1 := R2.c 1 rfl
  have t2 := R2.c 2 rfl
  have l2 := R2.lt
  have cA := cPx w6 hb46
  clear cA2 cRy
  go_wp2_with fail
  refine cA.mono ?_
  rintro e w7 ⟨rfl, hb7⟩
  have hb47 := Below.next hb46 hb7
  replace R1 := R1.next hb7
  replace R2 := R2.next hb7
  clear s0 s1 s2 l1 t0 t1 t2 l2
  clear cA cPx hbv
  by_cases hp0 : px = 0
  · have d1 : ((px : Int) == 0) = true := by simp; omega
    replace HB := Below.next HB hb47
    clear hp0
    go_wp2_with fail
    refine (awake_any _ (hE.next HB)).mono ?_
    rintro e w8 ⟨rfl, hb8⟩
    go_wp2_with fail
    go_ret
    exact ⟨rfl, Below.next HB hb8⟩
  have d1 : ((px : Int) == 0) = false := by simp; omega
  have hq1 := hp0
  clear hp0
  have s0 := R1.c 0 rfl
  have s1 := R1.c 1 rfl
  have s2 := R1.c 2 rfl
  have l1 := R1.lt
  have t0 := R2.c 0 rfl
  have t1 := R2.c 1 rfl
  have t2 := R2.c 2 rfl
  have l2 := R2.lt
  have cA := cPy w7 hb47
  go_wp2_with fail
  refine cA.mono ?_
  rintro e w8 ⟨rfl, hb8⟩
  have hb48 := Below.next hb47 hb8
  replace R1 := R1.next hb8
  replace R2 := R2.next hb8
  clear s0 s1 s2 l1 t0 t1 t2 l2
  clear cA cPy
  by_cases hp0 : py = 0
  · have d2 : ((py : Int) == 0) = true := by simp; omega
    replace HB := Below.next HB hb48
    clear hp0 hq1
    go_wp2_with fail
    refine (awake_any _ (hE.next HB)).mono ?_
    rintro e w8 ⟨rfl, hb8⟩
    go_wp2_with fail
    go_ret
    exact ⟨rfl, Below.next HB hb8⟩
  have d2 : ((py : Int) == 0) = false := by simp; omega
  obtain ⟨hc, hxs⟩ := dep_no (S := S) (x := x) (by rw [HPX.out]; exact hq1)
  obtain ⟨hc2, hys⟩ := dep_no (S := T) (x := y) (by rw [HPY.out]; exact hp0)
  have hV := chk_zero hc
  have hV2 := chk_zero hc2
  have hO := hV.pt.okk hB
  have hO2 := hV2.pt.okk hB2
  obtain ⟨l1_, hU1⟩ := us_ex hO x
  obtain ⟨l2_, hU2⟩ := us_ex hO2 y
  have hbw8 := Below.next HB hb48
  have cA := alike_any S T hB hB2 hlk hlk2 x y hc hc2 hxs hys _ _ w8 (hv0.next hbw8) (hw0.next hbw8)
  have hiff := alk_iff hU1 hU2
  have hDX : dx = hash (des S x l1_) := HDX.out.symm.trans (dig_at hc (List.contains_iff_mem.2 hxs) hU1)
  have hDY : dy = hash (des T y l2_) := HDY.out.symm.trans (dig_at hc2 (List.contains_iff_mem.2 hys) hU2)
  have cX0 := fun W (h : Below w8.heap.size w8 W) => (refDescribeAll_any S hO hV.pt (dd_len hV.pt hB) x (List.mem_append_left _ hxs) _ W (hv0.next (Below.next hbw8 h)))
  have cY0 := fun W (h : Below w8.heap.size w8 W) => (refDescribeAll_any T hO2 hV2.pt (dd_len hV2.pt hB2) y (List.mem_append_left _ hys) _ W (hw0.next (Below.next hbw8 h)))
  obtain ⟨X, hX⟩ : ∃ X, des S x l1_ = X := ⟨_, rfl⟩
  obtain ⟨Y, hY⟩ : ∃ Y, des T y l2_ = Y := ⟨_, rfl⟩
  have cX1 : ∀ W, Below w8.heap.size w8 W → Calls Tryz.prog 31 #[.agg #[.int .i64 S.ver, .slice A n c, .slice A2 m c2], .string (bs x)] W (Ib (.string (bs X)) W) := fun W h => (cX0 W h).mono fun e w' ⟨l, e1, e2, e3⟩ => ⟨by rw [e1, e2.one hU1, hX], e3⟩
  have cY1 : ∀ W, Below w8.heap.size w8 W → Calls Tryz.prog 31 #[.agg #[.int .i64 T.ver, .slice A3 n3 c3, .slice A4 m4 c4], .string (bs y)] W (Ib (.string (bs Y)) W) := fun W h => (cY0 W h).mono fun e w' ⟨l, e1, e2, e3⟩ => ⟨by rw [e1, e2.one hU2, hY], e3⟩
  rw [hX, hY] at hiff
  rw [hX] at hDX
  rw [hY] at hDY
  have HDX2 := Lib.hid hDX
  have HDY2 := Lib.hid hDY
  obtain ⟨r, hr⟩ : ∃ r, alk S T x y = r := ⟨_, rfl⟩
  rw [hr] at cA hiff
  clear hX hY hr cX0 cY0 hU1 hU2 hO hO2 hV hV2 hc hc2 hxs hys hq1 hp0 HPX HPY HDX HDY hDX hDY
  have s0 := R1.c 0 rfl
  have s1 := R1.c 1 rfl
  have s2 := R1.c 2 rfl
  have l1 := R1.lt
  have t0 := R2.c 0 rfl
  have t1 := R2.c 1 rfl
  have t2 := R2.c 2 rfl
  have l2 := R2.lt
  go_wp2_with fail
  refine cA.mono ?_
  rintro e w9 ⟨rfl, hb9⟩
  have hbw9 := Below.next hbw8 hb9
  replace R1 := R1.next hb9
  replace R2 := R2.next hb9
  have cX := fun W (h : Below w9.heap.size w9 W) => cX1 W (Below.next hb9 h)
  have cY := fun W (h : Below w9.heap.size w9 W) => cY1 W (Below.next hb9 h)
  clear s0 s1 s2 l1 t0 t1 t2 l2
  have s0 := R1.c 0 rfl
  have s1 := R1.c 1 rfl
  have s2 := R1.c 2 rfl
  have l1 := R1.lt
  have t0 := R2.c 0 rfl
  have t1 := R2.c 1 rfl
  have t2 := R2.c 2 rfl
  have l2 := R2.lt
  clear cA cX1 cY1 d1 d2 HB hb4 hb5 hb6 hb7 hb8 hb45 hb46 hb47 hb48
  by_cases hXY : X = Y
  · obtain rfl : r = true := hiff.2 hXY
    have q1 := sn_eq hXY
    have q2 := sq_eq hXY
    obtain rfl : dx = dy := by rw [HDX2.out, HDY2.out, hXY]
    clear hXY hiff HDX2 HDY2
    go_upto_region 9 with (fail)
    refine wp_region_on (by kernel_rfl) (FF [(2, Fact.at_ w9 (.string (bs x))), (3, Fact.at_ w9 (.string (bs y))), (4, Fact.at_ w9 (.pointer (some ⟨w.heap.size, 0, none⟩))), (5, Fact.at_ w9 (.pointer (some ⟨(w.heap.size + 1), 0, none⟩))), (9, Fact.at_ w9 (.int .u64 (dx : Int))), (10, Fact.at_ w9 (.int .u64 (dx : Int))), (56, Fact.at_ w9 (.int .u64 (dx : Int))), (57, Fact.at_ w9 (.int .u64 (dx : Int))), (58, Fact.at_ w9 (.bool true)), (59, Fact.at_ w9 (.bool true)), (60, Fact.at_ w9 (.agg #[.int .i64 S.ver, .slice A n c, .slice A2 m c2])), (61, Fact.at_ w9 (.string (bs x))), (62, Fact.at_ w9 (.string (bs X))), (63, Fact.at_ w9 (.agg #[.int .i64 T.ver, .slice A3 n3 c3, .slice A4 m4 c4])), (64, Fact.at_ w9 (.string (bs y))), (65, Fact.at_ w9 (.string (bs Y))), (66, Fact.at_ w9 (.bool false)), (67, Fact.at_ w9 (.bool false)), (12, Fact.at_ w9 (.bool false))]) [2, 3, 4, 5, 9, 10] 79 [56, 57, 58, 59, 60, 61, 62, 63, 64, 65, 66, 67, 12] rfl (by kernel_rfl) (by kernel_rfl) ?_ ?_ ?_
    · intro t9 ht9
      simp only [List.mem_cons, List.not_mem_nil, or_false] at ht9
      rcases ht9 with rfl | rfl | rfl | rfl | rfl | rfl
      · exact ⟨rfl, Below.refl _ _⟩
      · exact ⟨rfl, Below.refl _ _⟩
      · exact ⟨rfl, Below.refl _ _⟩
      · exact ⟨rfl, Below.refl _ _⟩
      · exact ⟨rfl, Below.refl _ _⟩
      · exact ⟨rfl, Below.refl _ _⟩
    · refine fcs ⟨atcopy 9 56 (.int .u64 (dx : Int)) (.inl rfl) rfl (by first | exact .inl rfl | exact .inr ⟨_, _, _, rfl, rfl, by kernel_rfl, by decide, rfl⟩) (by kernel_rfl) rfl rfl, ?_⟩
      refine fcs ⟨atcopy 10 57 (.int .u64 (dx : Int)) (.inl rfl) rfl (by first | exact .inl rfl | exact .inr ⟨_, _, _, rfl, rfl, by kernel_rfl, by decide, rfl⟩) (by kernel_rfl) rfl rfl, ?_⟩
      refine fcs ⟨at2 56 57 58 (.int .u64 (dx : Int)) (.int .u64 (dx : Int)) (.bool true) rfl (by first | exact .inl rfl | exact .inr ⟨_, _, _, rfl, rfl, by kernel_rfl, by decide, rfl⟩) (by kernel_rfl) (by kernel_rfl) rfl rfl rfl (fun a9 W9 hb9 h9 h8 => by simp [execOp, h9, h8] <;> go_simp), ?_⟩
      refine fcs ⟨atcopy 58 59 (.bool true) (.inl rfl) rfl (by first | exact .inl rfl | exact .inr ⟨_, _, _, rfl, rfl, by kernel_rfl, by decide, rfl⟩) (by kernel_rfl) rfl rfl, ?_⟩
      refine fcs ⟨at1 4 60 (.pointer (some ⟨w.heap.size, 0, none⟩)) (.agg #[.int .i64 S.ver, .slice A n c, .slice A2 m c2]) rfl (by first | exact .inl rfl | exact .inr ⟨_, _, _, rfl, rfl, by kernel_rfl, by decide, rfl⟩) (by kernel_rfl) rfl rfl (fun a9 W9 hb9 h9 => by have g0 := cell_next hb9 s0; have g1 := cell_next hb9 s1; have g2 := cell_next hb9 s2; simp [execOp, h9] <;> go_simp), ?_⟩
      refine fcs ⟨atcopy 2 61 (.string (bs x)) (.inl rfl) rfl (by first | exact .inl rfl | exact .inr ⟨_, _, _, rfl, rfl, by kernel_rfl, by decide, rfl⟩) (by kernel_rfl) rfl rfl, ?_⟩
      refine fcs ⟨atc2 31 60 61 62 (.agg #[.int .i64 S.ver, .slice A n c, .slice A2 m c2]) (.string (bs x)) (.string (bs X)) _ rfl rfl (by first | exact .inl rfl | exact .inr ⟨_, _, _, rfl, rfl, by kernel_rfl, by decide, rfl⟩) (by kernel_rfl) (by kernel_rfl) rfl rfl (by kernel_rfl) rfl (fun W9 hb9 => cX W9 hb9), ?_⟩
      refine fcs ⟨at1 5 63 (.pointer (some ⟨(w.heap.size + 1), 0, none⟩)) (.agg #[.int .i64 T.ver, .slice A3 n3 c3, .slice A4 m4 c4]) rfl (by first | exact .inl rfl | exact .inr ⟨_, _, _, rfl, rfl, by kernel_rfl, by decide, rfl⟩) (by kernel_rfl) rfl rfl (fun a9 W9 hb9 h9 => by have g0 := cell_next hb9 t0; have g1 := cell_next hb9 t1; have g2 := cell_next hb9 t2; simp [execOp, h9] <;> go_simp), ?_⟩
      refine fcs ⟨atcopy 3 64 (.string (bs y)) (.inl rfl) rfl (by first | exact .inl rfl | exact .inr ⟨_, _, _, rfl, rfl, by kernel_rfl, by decide, rfl⟩) (by kernel_rfl) rfl rfl, ?_⟩
      refine fcs ⟨atc2 31 63 64 65 (.agg #[.int .i64 T.ver, .slice A3 n3 c3, .slice A4 m4 c4]) (.string (bs y)) (.string (bs Y)) _ rfl rfl (by first | exact .inl rfl | exact .inr ⟨_, _, _, rfl, rfl, by kernel_rfl, by decide, rfl⟩) (by kernel_rfl) (by kernel_rfl) rfl rfl (by kernel_rfl) rfl (fun W9 hb9 => cY W9 hb9), ?_⟩
      refine fcs ⟨at2 62 65 66 (.string (bs X)) (.string (bs Y)) (.bool false) rfl (by first | exact .inl rfl | exact .inr ⟨_, _, _, rfl, rfl, by kernel_rfl, by decide, rfl⟩) (by kernel_rfl) (by kernel_rfl) rfl rfl rfl (fun a9 W9 hb9 h9 h8 => by simp [execOp, h9, h8] <;> go_simp), ?_⟩
      refine fcs ⟨atpick 59 66 67 true (.bool false) _ _ rfl rfl rfl (by first | exact .inl rfl | exact .inr ⟨_, _, _, rfl, rfl, by kernel_rfl, by decide, rfl⟩) (by kernel_rfl) (by kernel_rfl) rfl rfl rfl, ?_⟩
      refine fcs ⟨atcopy 67 12 (.bool false) (.inr rfl) rfl (by first | exact .inl rfl | exact .inr ⟨_, _, _, rfl, rfl, by kernel_rfl, by decide, rfl⟩) (by kernel_rfl) rfl rfl, ?_⟩
      exact fnl
    intro vv wv hvv hbv
    have hv12 : vv 12 = (.bool false) := (hvv 12 (by decide)).1
    simp only [lay, List.foldl_cons, List.foldl_nil, List.setIfInBounds_toArray, List.set_cons_succ, List.set_cons_zero, hv12]
    have hb10 := Below.next hbw9 hbv
    clear hvv cX cY s0 s1 s2 l1 t0 t1 t2 l2
    go_wp2_with fail
    refine (awake_any _ (hE.next hb10)).mono ?_
    rintro e w12 ⟨rfl, hb12⟩
    go_wp2_with fail
    go_ret
    exact ⟨rfl, Below.next hb10 hb12⟩
  obtain rfl : r = false := by
    cases r
    · rfl
    · exact absurd (hiff.1 rfl) hXY
  have q1 := sn_f hXY
  have q2 := sq_f hXY
  clear hXY hiff
  by_cases hd : dx = dy
  · subst hd
    clear HDX2 HDY2
    go_upto_region 9 with (fail)
    refine wp_region_on (by kernel_rfl) (FF [(2, Fact.at_ w9 (.string (bs x))), (3, Fact.at_ w9 (.string (bs y))), (4, Fact.at_ w9 (.pointer (some ⟨w.heap.size, 0, none⟩))), (5, Fact.at_ w9 (.pointer (some ⟨(w.heap.size + 1), 0, none⟩))), (9, Fact.at_ w9 (.int .u64 (dx : Int))), (10, Fact.at_ w9 (.int .u64 (dx : Int))), (56, Fact.at_ w9 (.int .u64 (dx : Int))), (57, Fact.at_ w9 (.int .u64 (dx : Int))), (58, Fact.at_ w9 (.bool true)), (59, Fact.at_ w9 (.bool true)), (60, Fact.at_ w9 (.agg #[.int .i64 S.ver, .slice A n c, .slice A2 m c2])), (61, Fact.at_ w9 (.string (bs x))), (62, Fact.at_ w9 (.string (bs X))), (63, Fact.at_ w9 (.agg #[.int .i64 T.ver, .slice A3 n3 c3, .slice A4 m4 c4])), (64, Fact.at_ w9 (.string (bs y))), (65, Fact.at_ w9 (.string (bs Y))), (66, Fact.at_ w9 (.bool true)), (67, Fact.at_ w9 (.bool true)), (12, Fact.at_ w9 (.bool true))]) [2, 3, 4, 5, 9, 10] 79 [56, 57, 58, 59, 60, 61, 62, 63, 64, 65, 66, 67, 12] rfl (by kernel_rfl) (by kernel_rfl) ?_ ?_ ?_
    · intro t9 ht9
      simp only [List.mem_cons, List.not_mem_nil, or_false] at ht9
      rcases ht9 with rfl | rfl | rfl | rfl | rfl | rfl
      · exact ⟨rfl, Below.refl _ _⟩
      · exact ⟨rfl, Below.refl _ _⟩
      · exact ⟨rfl, Below.refl _ _⟩
      · exact ⟨rfl, Below.refl _ _⟩
      · exact ⟨rfl, Below.refl _ _⟩
      · exact ⟨rfl, Below.refl _ _⟩
    · refine fcs ⟨atcopy 9 56 (.int .u64 (dx : Int)) (.inl rfl) rfl (by first | exact .inl rfl | exact .inr ⟨_, _, _, rfl, rfl, by kernel_rfl, by decide, rfl⟩) (by kernel_rfl) rfl rfl, ?_⟩
      refine fcs ⟨atcopy 10 57 (.int .u64 (dx : Int)) (.inl rfl) rfl (by first | exact .inl rfl | exact .inr ⟨_, _, _, rfl, rfl, by kernel_rfl, by decide, rfl⟩) (by kernel_rfl) rfl rfl, ?_⟩
      refine fcs ⟨at2 56 57 58 (.int .u64 (dx : Int)) (.int .u64 (dx : Int)) (.bool true) rfl (by first | exact .inl rfl | exact .inr ⟨_, _, _, rfl, rfl, by kernel_rfl, by decide, rfl⟩) (by kernel_rfl) (by kernel_rfl) rfl rfl rfl (fun a9 W9 hb9 h9 h8 => by simp [execOp, h9, h8] <;> go_simp), ?_⟩
      refine fcs ⟨atcopy 58 59 (.bool true) (.inl rfl) rfl (by first | exact .inl rfl | exact .inr ⟨_, _, _, rfl, rfl, by kernel_rfl, by decide, rfl⟩) (by kernel_rfl) rfl rfl, ?_⟩
      refine fcs ⟨at1 4 60 (.pointer (some ⟨w.heap.size, 0, none⟩)) (.agg #[.int .i64 S.ver, .slice A n c, .slice A2 m c2]) rfl (by first | exact .inl rfl | exact .inr ⟨_, _, _, rfl, rfl, by kernel_rfl, by decide, rfl⟩) (by kernel_rfl) rfl rfl (fun a9 W9 hb9 h9 => by have g0 := cell_next hb9 s0; have g1 := cell_next hb9 s1; have g2 := cell_next hb9 s2; simp [execOp, h9] <;> go_simp), ?_⟩
      refine fcs ⟨atcopy 2 61 (.string (bs x)) (.inl rfl) rfl (by first | exact .inl rfl | exact .inr ⟨_, _, _, rfl, rfl, by kernel_rfl, by decide, rfl⟩) (by kernel_rfl) rfl rfl, ?_⟩
      refine fcs ⟨atc2 31 60 61 62 (.agg #[.int .i64 S.ver, .slice A n c, .slice A2 m c2]) (.string (bs x)) (.string (bs X)) _ rfl rfl (by first | exact .inl rfl | exact .inr ⟨_, _, _, rfl, rfl, by kernel_rfl, by decide, rfl⟩) (by kernel_rfl) (by kernel_rfl) rfl rfl (by kernel_rfl) rfl (fun W9 hb9 => cX W9 hb9), ?_⟩
      refine fcs ⟨at1 5 63 (.pointer (some ⟨(w.heap.size + 1), 0, none⟩)) (.agg #[.int .i64 T.ver, .slice A3 n3 c3, .slice A4 m4 c4]) rfl (by first | exact .inl rfl | exact .inr ⟨_, _, _, rfl, rfl, by kernel_rfl, by decide, rfl⟩) (by kernel_rfl) rfl rfl (fun a9 W9 hb9 h9 => by have g0 := cell_next hb9 t0; have g1 := cell_next hb9 t1; have g2 := cell_next hb9 t2; simp [execOp, h9] <;> go_simp), ?_⟩
      refine fcs ⟨atcopy 3 64 (.string (bs y)) (.inl rfl) rfl (by first | exact .inl rfl | exact .inr ⟨_, _, _, rfl, rfl, by kernel_rfl, by decide, rfl⟩) (by kernel_rfl) rfl rfl, ?_⟩
      refine fcs ⟨atc2 31 63 64 65 (.agg #[.int .i64 T.ver, .slice A3 n3 c3, .slice A4 m4 c4]) (.string (bs y)) (.string (bs Y)) _ rfl rfl (by first | exact .inl rfl | exact .inr ⟨_, _, _, rfl, rfl, by kernel_rfl, by decide, rfl⟩) (by kernel_rfl) (by kernel_rfl) rfl rfl (by kernel_rfl) rfl (fun W9 hb9 => cY W9 hb9), ?_⟩
      refine fcs ⟨at2 62 65 66 (.string (bs X)) (.string (bs Y)) (.bool true) rfl (by first | exact .inl rfl | exact .inr ⟨_, _, _, rfl, rfl, by kernel_rfl, by decide, rfl⟩) (by kernel_rfl) (by kernel_rfl) rfl rfl rfl (fun a9 W9 hb9 h9 h8 => by simp [execOp, h9, h8] <;> go_simp), ?_⟩
      refine fcs ⟨atpick 59 66 67 true (.bool true) _ _ rfl rfl rfl (by first | exact .inl rfl | exact .inr ⟨_, _, _, rfl, rfl, by kernel_rfl, by decide, rfl⟩) (by kernel_rfl) (by kernel_rfl) rfl rfl rfl, ?_⟩
      refine fcs ⟨atcopy 67 12 (.bool true) (.inr rfl) rfl (by first | exact .inl rfl | exact .inr ⟨_, _, _, rfl, rfl, by kernel_rfl, by decide, rfl⟩) (by kernel_rfl) rfl rfl, ?_⟩
      exact fnl
    intro vv wv hvv hbv
    have hv12 : vv 12 = (.bool true) := (hvv 12 (by decide)).1
    simp only [lay, List.foldl_cons, List.foldl_nil, List.setIfInBounds_toArray, List.set_cons_succ, List.set_cons_zero, hv12]
    have hb10 := Below.next hbw9 hbv
    clear hvv cX cY s0 s1 s2 l1 t0 t1 t2 l2
    go_wp2_with fail
    refine (awake_any _ (hE.next hb10)).mono ?_
    rintro e w12 ⟨rfl, hb12⟩
    go_wp2_with fail
    go_ret
    exact ⟨rfl, Below.next hb10 hb12⟩
  · have e1 : ((dx : Int) == (dy : Int)) = false := by simp; omega
    have e2 : ((dx : Int) = (dy : Int)) = False := by simp; omega
    have e3 : (dx == dy) = false := by simp; omega
    have e4 : (dx = dy) = False := by simp; omega
    clear HDX2 HDY2 hd
    go_upto_region 9 with (fail)
    refine wp_region_on (by kernel_rfl) (FF [(2, Fact.at_ w9 (.string (bs x))), (3, Fact.at_ w9 (.string (bs y))), (4, Fact.at_ w9 (.pointer (some ⟨w.heap.size, 0, none⟩))), (5, Fact.at_ w9 (.pointer (some ⟨(w.heap.size + 1), 0, none⟩))), (9, Fact.at_ w9 (.int .u64 (dx : Int))), (10, Fact.at_ w9 (.int .u64 (dy : Int))), (56, Fact.at_ w9 (.int .u64 (dx : Int))), (57, Fact.at_ w9 (.int .u64 (dy : Int))), (58, Fact.at_ w9 (.bool false)), (59, Fact.at_ w9 (.bool false)), (60, Fact.at_ w9 undef), (61, Fact.at_ w9 undef), (62, Fact.at_ w9 undef), (63, Fact.at_ w9 undef), (64, Fact.at_ w9 undef), (65, Fact.at_ w9 undef), (66, Fact.at_ w9 undef), (67, Fact.at_ w9 (.bool false)), (12, Fact.at_ w9 (.bool false))]) [2, 3, 4, 5, 9, 10] 79 [56, 57, 58, 59, 60, 61, 62, 63, 64, 65, 66, 67, 12] rfl (by kernel_rfl) (by kernel_rfl) ?_ ?_ ?_
    · intro t9 ht9
      simp only [List.mem_cons, List.not_mem_nil, or_false] at ht9
      rcases ht9 with rfl | rfl | rfl | rfl | rfl | rfl
      · exact ⟨rfl, Below.refl _ _⟩
      · exact ⟨rfl, Below.refl _ _⟩
      · exact ⟨rfl, Below.refl _ _⟩
      · exact ⟨rfl, Below.refl _ _⟩
      · exact ⟨rfl, Below.refl _ _⟩
      · exact ⟨rfl, Below.refl _ _⟩
    · refine fcs ⟨atcopy 9 56 (.int .u64 (dx : Int)) (.inl rfl) rfl (by first | exact .inl rfl | exact .inr ⟨_, _, _, rfl, rfl, by kernel_rfl, by decide, rfl⟩) (by kernel_rfl) rfl rfl, ?_⟩
      refine fcs ⟨atcopy 10 57 (.int .u64 (dy : Int)) (.inl rfl) rfl (by first | exact .inl rfl | exact .inr ⟨_, _, _, rfl, rfl, by kernel_rfl, by decide, rfl⟩) (by kernel_rfl) rfl rfl, ?_⟩
      refine fcs ⟨at2 56 57 58 (.int .u64 (dx : Int)) (.int .u64 (dy : Int)) (.bool false) rfl (by first | exact .inl rfl | exact .inr ⟨_, _, _, rfl, rfl, by kernel_rfl, by decide, rfl⟩) (by kernel_rfl) (by kernel_rfl) rfl rfl rfl (fun a9 W9 hb9 h9 h8 => by simp [execOp, h9, h8] <;> go_simp), ?_⟩
      refine fcs ⟨atcopy 58 59 (.bool false) (.inl rfl) rfl (by first | exact .inl rfl | exact .inr ⟨_, _, _, rfl, rfl, by kernel_rfl, by decide, rfl⟩) (by kernel_rfl) rfl rfl, ?_⟩
      refine fcs ⟨atskip 2 3 59 60 true (.string (bs x)) rfl rfl (by kernel_rfl) (by decide) (.inl rfl) (by kernel_rfl) rfl rfl rfl, ?_⟩
      refine fcs ⟨atskip 2 3 59 61 true (.string (bs x)) rfl rfl (by kernel_rfl) (by decide) (.inl rfl) (by kernel_rfl) rfl rfl rfl, ?_⟩
      refine fcs ⟨atskip 2 3 59 62 true (.string (bs x)) rfl rfl (by kernel_rfl) (by decide) (.inl rfl) (by kernel_rfl) rfl rfl rfl, ?_⟩
      refine fcs ⟨atskip 2 3 59 63 true (.string (bs x)) rfl rfl (by kernel_rfl) (by decide) (.inl rfl) (by kernel_rfl) rfl rfl rfl, ?_⟩
      refine fcs ⟨atskip 2 3 59 64 true (.string (bs x)) rfl rfl (by kernel_rfl) (by decide) (.inl rfl) (by kernel_rfl) rfl rfl rfl, ?_⟩
      refine fcs ⟨atskip 2 3 59 65 true (.string (bs x)) rfl rfl (by kernel_rfl) (by decide) (.inl rfl) (by kernel_rfl) rfl rfl rfl, ?_⟩
      refine fcs ⟨atskip 2 3 59 66 true (.string (bs x)) rfl rfl (by kernel_rfl) (by decide) (.inl rfl) (by kernel_rfl) rfl rfl rfl, ?_⟩
      refine fcs ⟨atpickk 59 67 false (.bool false) _ _ rfl rfl rfl (by first | exact .inl rfl | exact .inr ⟨_, _, _, rfl, rfl, by kernel_rfl, by decide, rfl⟩) (by kernel_rfl) rfl rfl, ?_⟩
      refine fcs ⟨atcopy 67 12 (.bool false) (.inr rfl) rfl (by first | exact .inl rfl | exact .inr ⟨_, _, _, rfl, rfl, by kernel_rfl, by decide, rfl⟩) (by kernel_rfl) rfl rfl, ?_⟩
      exact fnl
    intro vv wv hvv hbv
    have hv12 : vv 12 = (.bool false) := (hvv 12 (by decide)).1
    simp only [lay, List.foldl_cons, List.foldl_nil, List.setIfInBounds_toArray, List.set_cons_succ, List.set_cons_zero, hv12]
    have hb10 := Below.next hbw9 hbv
    clear hvv cX cY s0 s1 s2 l1 t0 t1 t2 l2
    go_wp2_with fail
    refine (awake_any _ (hE.next hb10)).mono ?_
    rintro e w12 ⟨rfl, hb12⟩
    go_wp2_with fail
    go_ret
    exact ⟨rfl, Below.next hb10 hb12⟩
end Go.Proofs.YthbhbpcjcnkkkaaGreatDoor

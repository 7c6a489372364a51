import Derived.Test.YtlebppjldoodgaaIh
/-
  The law of fields. Its condition: the values have at most 1048576 values within them.
-/
namespace Go.Proofs.Ytlebppjldoodgaa
open Go.RowKit Go.Shelf Go.Sort
theorem wrap_sz9 {n : Nat} (h : n ≤ 2000000) : wrap64 (n : Int) = (n : Int) := by unfold wrap64; omega
set_option maxRecDepth 100000 in
set_option maxHeartbeats 16000000 in
theorem fields_any (t : Vl) (v : Value) (za zb : Int) (x : Vl) (v' : Value) (w : World) (hok : vok t) (hsz : sz t ≤ 1048576) (hv : VlV w t v) (_ : True) (hox : vok x) (hsx : sz x ≤ 1048576) (hx : VlV w x v') :
    Calls Try.prog 5 #[v, .agg #[.int .i64 za, .int .i64 zb], v'] w (Ib (.bool true) w) := by
  have sT := fun W h => small_any t v W hok (hv.next h)
  have sX := fun W h => small_any x v' W hox (hx.next h)
  rw [wrap_sz9 (show sz t ≤ 2000000 by omega)] at sT
  rw [wrap_sz9 (show sz x ≤ 2000000 by omega)] at sX
  have cW := fun W (h : Below w.heap.size w W) => devWith_any t x za v v' W hsz hsx (hv.next h) (hx.next h)
  have cU := fun W (h : Below w.heap.size w W) => devWithout_any t za v W hsz (hv.next h)
  have cRW0 := fun W (h : Below w.heap.size w W) => refWith_any t x za v v' W hsz (hv.next h) (hx.next h)
  have cRU0 := fun W (h : Below w.heap.size w W) => refWithout_any t za v W hsz (hv.next h)
  have cA := fun W (h : Below w.heap.size w W) => devField_any t zb v W (by omega) (hv.next h)
  have cB := fun W (h : Below w.heap.size w W) => refField_any t zb v W W (Below.refl _ _) (vok_iff.1 hok).2.2.1 (hv.next h)
  unfold WtP at cW cU cRW0 cRU0
  unfold FdP at cA
  unfold FdQ at cB
  have kf0 : vok ((fvl t zb).getD vl0) := by
    cases hf : fvl t zb with
    | none => exact vok_iff.2 ⟨by decide, ⟨by decide, fun _ h => by cases h⟩, by decide, fun _ h => by cases h⟩
    | some u =>
      unfold fvl at hf
      split at hf
      · obtain ⟨y, hy, rfl⟩ := Option.map_eq_some_iff.1 hf
        exact (vok_iff.1 hok).2.2.2 y (List.mem_of_find?_eq_some hy)
      · cases hf
  obtain ⟨s0, rfl, hr0⟩ := rdV_iff.1 hv
  obtain ⟨sx, rfl, hrx⟩ := rdV_iff.1 hx
  change Calls Try.prog 5 #[(.agg #[.int .i64 t.kind, .int .i64 t.n, .string (bs t.s), .slice s0.A t.l.length s0.c, .slice s0.B t.f.length s0.d]), (.agg #[.int .i64 za, .int .i64 zb]), (.agg #[.int .i64 x.kind, .int .i64 x.n, .string (bs x.s), .slice sx.A x.l.length sx.c, .slice sx.B x.f.length sx.d])] w _
  have D1 := (Bx.new5 w 25 (.int .i64 t.kind) (.int .i64 t.n) (.string (bs t.s)) (.slice s0.A t.l.length s0.c) (.slice s0.B t.f.length s0.d)).next (ab2 _ (Obj.cells #[.int .i64 za, .int .i64 zb] 43) (Obj.cells #[.int .i64 x.kind, .int .i64 x.n, .string (bs x.s), .slice sx.A x.l.length sx.c, .slice sx.B x.f.length sx.d] 25))
  have DN := (Bx.new2 (w.alloc (Obj.cells #[.int .i64 t.kind, .int .i64 t.n, .string (bs t.s), .slice s0.A t.l.length s0.c, .slice s0.B t.f.length s0.d] 25)) 43 (.int .i64 za) (.int .i64 zb)).next (ab1 _ (Obj.cells #[.int .i64 x.kind, .int .i64 x.n, .string (bs x.s), .slice sx.A x.l.length sx.c, .slice sx.B x.f.length sx.d] 25))
  have DX := Bx.new5 ((w.alloc (Obj.cells #[.int .i64 t.kind, .int .i64 t.n, .string (bs t.s), .slice s0.A t.l.length s0.c, .slice s0.B t.f.length s0.d] 25)).alloc (Obj.cells #[.int .i64 za, .int .i64 zb] 43)) 25 (.int .i64 x.kind) (.int .i64 x.n) (.string (bs x.s)) (.slice sx.A x.l.length sx.c) (.slice sx.B x.f.length sx.d)
  rw [show (w.alloc (Obj.cells #[.int .i64 t.kind, .int .i64 t.n, .string (bs t.s), .slice s0.A t.l.length s0.c, .slice s0.B t.f.length s0.d] 25)).heap.size = w.heap.size + 1 by simp] at DN
  rw [show ((w.alloc (Obj.cells #[.int .i64 t.kind, .int .i64 t.n, .string (bs t.s), .slice s0.A t.l.length s0.c, .slice s0.B t.f.length s0.d] 25)).alloc (Obj.cells #[.int .i64 za, .int .i64 zb] 43)).heap.size = w.heap.size + 1 + 1 by simp] at DX
  have hab := ab3 w (Obj.cells #[.int .i64 t.kind, .int .i64 t.n, .string (bs t.s), .slice s0.A t.l.length s0.c, .slice s0.B t.f.length s0.d] 25) (Obj.cells #[.int .i64 za, .int .i64 zb] 43) (Obj.cells #[.int .i64 x.kind, .int .i64 x.n, .string (bs x.s), .slice sx.A x.l.length sx.c, .slice sx.B x.f.length sx.d] 25)
  have s1 := sT _ hab
  clear hv hx
  go_enter Try.func5, Try.ntmps5
  go_upto_region 1 with (fail)
  generalize ((w.alloc (Obj.cells #[.int .i64 t.kind, .int .i64 t.n, .string (bs t.s), .slice s0.A t.l.length s0.c, .slice s0.B t.f.length s0.d] 25)).alloc (Obj.cells #[.int .i64 za, .int .i64 zb] 43)).alloc (Obj.cells #[.int .i64 x.kind, .int .i64 x.n, .string (bs x.s), .slice sx.A x.l.length sx.c, .slice sx.B x.f.length sx.d] 25) = w0 at *
  have v0 := D1.c 0 rfl
  have v1 := D1.c 1 rfl
  have v2 := D1.c 2 rfl
  have v3 := D1.c 3 rfl
  have v4 := D1.c 4 rfl
  have n0 := DN.c 0 rfl
  have n1 := DN.c 1 rfl
  have x0 := DX.c 0 rfl
  have x1 := DX.c 1 rfl
  have x2 := DX.c 2 rfl
  have x3 := DX.c 3 rfl
  have x4 := DX.c 4 rfl
  obtain ⟨p, hpp⟩ : ∃ p, decide ((sz t : Int) ≤ 300) = p := ⟨_, rfl⟩
  obtain ⟨q, hqq⟩ : ∃ q, decide ((sz x : Int) ≤ 300) = q := ⟨_, rfl⟩
  rw [hpp] at s1
  simp only [hqq] at sX
  have HP := Lib.hid hpp
  have HQ := Lib.hid hqq
  have HSZ := Lib.hid (And.intro hok (And.intro hox (And.intro hsz hsx)))
  clear hpp hqq sT hok hox hsz hsx
  go_wp2_with fail
  refine s1.mono ?_
  rintro e w1 ⟨rfl, hb1⟩
  replace D1 := D1.next hb1
  replace DN := DN.next hb1
  replace DX := DX.next hb1
  replace hab := Below.next hab hb1
  clear s1 hb1 v0 v1 v2 v3 v4 n0 n1 x0 x1 x2 x3 x4
  have v0 := D1.c 0 rfl
  have v1 := D1.c 1 rfl
  have v2 := D1.c 2 rfl
  have v3 := D1.c 3 rfl
  have v4 := D1.c 4 rfl
  have n0 := DN.c 0 rfl
  have n1 := DN.c 1 rfl
  have x0 := DX.c 0 rfl
  have x1 := DX.c 1 rfl
  have x2 := DX.c 2 rfl
  have x3 := DX.c 3 rfl
  have x4 := DX.c 4 rfl
  cases p
  case false =>
    go_wp2_with fail
    refine (awake_any _).mono ?_
    rintro e w9 ⟨rfl, hb9⟩
    go_wp2_with fail
    go_ret
    exact ⟨rfl, Below.next hab hb9⟩
  case true =>
  have s2 := sX _ hab
  go_wp2_with fail
  refine s2.mono ?_
  rintro e w2 ⟨rfl, hb2⟩
  replace D1 := D1.next hb2
  replace DN := DN.next hb2
  replace DX := DX.next hb2
  replace hab := Below.next hab hb2
  clear s2 hb2 sX v0 v1 v2 v3 v4 n0 n1 x0 x1 x2 x3 x4
  have v0 := D1.c 0 rfl
  have v1 := D1.c 1 rfl
  have v2 := D1.c 2 rfl
  have v3 := D1.c 3 rfl
  have v4 := D1.c 4 rfl
  have n0 := DN.c 0 rfl
  have n1 := DN.c 1 rfl
  have x0 := DX.c 0 rfl
  have x1 := DX.c 1 rfl
  have x2 := DX.c 2 rfl
  have x3 := DX.c 3 rfl
  have x4 := DX.c 4 rfl
  cases q
  case false =>
    go_wp2_with fail
    refine (awake_any _).mono ?_
    rintro e w9 ⟨rfl, hb9⟩
    go_wp2_with fail
    go_ret
    exact ⟨rfl, Below.next hab hb9⟩
  case true =>
  have hp3 : sz t ≤ 300 := by have := of_decide_eq_true HP.out; omega
  have hq3 : sz x ≤ 300 := by have := of_decide_eq_true HQ.out; omega
  have kt := HSZ.out.1
  have kx := HSZ.out.2.1
  have kw := vok_wth (z := za) kt kx (by omega)
  have ku := vok_wto (z := za) kt (by omega)
  have hsw := sz_wth t x za
  have hsu := sz_wto t za
  have hN := Lib.hid (fun (h : t.kind ≠ 6) => And.intro (wth_not (x := x) (z := za) h) (wto_not (z := za) h))
  have hK := Lib.hid (fun (h : t.kind = 6) => And.intro (fvl_wth (x := x) (z := za) h) (And.intro (fvl_wto (z := za) h) (fun (hne : zb ≠ za) => fvl_other (x := x) h hne)))
  have cFw := fun z W s (h : RdV W (wth t za x) s) => devField_any (wth t za x) z _ W (by omega) ⟨s.A, s.c, s.B, s.d, rfl, h⟩
  have cFu := fun z W s (h : RdV W (wto t za) s) => devField_any (wto t za) z _ W (by omega) ⟨s.A, s.c, s.B, s.d, rfl, h⟩
  unfold FdP at cFw cFu
  clear HP HQ HSZ hp3 hq3 hsw hsu
  generalize wth t za x = tw at *
  generalize wto t za = tu at *
  obtain ⟨o, ho⟩ : ∃ o, fvl t zb = o := ⟨_, rfl⟩
  simp only [ho] at cA cB kf0 hK
  obtain ⟨uf, huf⟩ : ∃ uf, o.getD vl0 = uf := ⟨_, rfl⟩
  obtain ⟨b, hbb⟩ : ∃ b, o.isSome = b := ⟨_, rfl⟩
  simp only [huf, hbb] at cA cB kf0
  have kf := kf0
  have HUF := Lib.hid (And.intro huf hbb)
  clear ho huf hbb kf0
  have c1 := cW _ hab
  go_wp2_with fail
  refine (c1).mono ?_
  rintro e wq ⟨sw, rfl, hrw, hbq⟩
  have hbx := ab1 wq (Obj.cells #[.int .i64 tw.kind, .int .i64 tw.n, .string (bs tw.s), .slice sw.A tw.l.length sw.c, .slice sw.B tw.f.length sw.d] 25)
  have DW := Bx.new5 wq 25 (.int .i64 tw.kind) (.int .i64 tw.n) (.string (bs tw.s)) (.slice sw.A tw.l.length sw.c) (.slice sw.B tw.f.length sw.d)
  obtain ⟨gw, hgq⟩ : ∃ g, wq.heap.size = g := ⟨_, rfl⟩
  replace D1 := (D1.next hbq).next hbx
  replace DN := (DN.next hbq).next hbx
  replace DX := (DX.next hbq).next hbx
  replace hrw := hrw.next hbx
  replace hab := Below.next (Below.next hab hbq) hbx
  rw [hgq] at DW
  clear hbq hbx c1 cW v0 v1 v2 v3 v4 n0 n1 x0 x1 x2 x3 x4
  go_upto_region 4 with (fail)
  generalize wq.alloc (Obj.cells #[.int .i64 tw.kind, .int .i64 tw.n, .string (bs tw.s), .slice sw.A tw.l.length sw.c, .slice sw.B tw.f.length sw.d] 25) = W1 at *
  clear hgq
  have v0 := D1.c 0 rfl
  have v1 := D1.c 1 rfl
  have v2 := D1.c 2 rfl
  have v3 := D1.c 3 rfl
  have v4 := D1.c 4 rfl
  have n0 := DN.c 0 rfl
  have n1 := DN.c 1 rfl
  have x0 := DX.c 0 rfl
  have x1 := DX.c 1 rfl
  have x2 := DX.c 2 rfl
  have x3 := DX.c 3 rfl
  have x4 := DX.c 4 rfl
  have c1 := cU _ hab
  go_wp2_with fail
  refine (c1).mono ?_
  rintro e wq ⟨su, rfl, hru, hbq⟩
  have hbx := ab1 wq (Obj.cells #[.int .i64 tu.kind, .int .i64 tu.n, .string (bs tu.s), .slice su.A tu.l.length su.c, .slice su.B tu.f.length su.d] 25)
  have DU := Bx.new5 wq 25 (.int .i64 tu.kind) (.int .i64 tu.n) (.string (bs tu.s)) (.slice su.A tu.l.length su.c) (.slice su.B tu.f.length su.d)
  obtain ⟨gu, hgq⟩ : ∃ g, wq.heap.size = g := ⟨_, rfl⟩
  replace D1 := (D1.next hbq).next hbx
  replace DN := (DN.next hbq).next hbx
  replace DX := (DX.next hbq).next hbx
  replace DW := (DW.next hbq).next hbx
  replace hrw := (hrw.next hbq).next hbx
  replace hru := hru.next hbx
  replace hab := Below.next (Below.next hab hbq) hbx
  rw [hgq] at DU
  clear hbq hbx c1 cU v0 v1 v2 v3 v4 n0 n1 x0 x1 x2 x3 x4
  go_upto_region 5 with (fail)
  generalize wq.alloc (Obj.cells #[.int .i64 tu.kind, .int .i64 tu.n, .string (bs tu.s), .slice su.A tu.l.length su.c, .slice su.B tu.f.length su.d] 25) = W2 at *
  clear hgq
  have v0 := D1.c 0 rfl
  have v1 := D1.c 1 rfl
  have v2 := D1.c 2 rfl
  have v3 := D1.c 3 rfl
  have v4 := D1.c 4 rfl
  have n0 := DN.c 0 rfl
  have n1 := DN.c 1 rfl
  have x0 := DX.c 0 rfl
  have x1 := DX.c 1 rfl
  have x2 := DX.c 2 rfl
  have x3 := DX.c 3 rfl
  have x4 := DX.c 4 rfl
  have c1 := cA _ hab
  go_wp2_with fail
  refine (c1).mono ?_
  rintro e wq ⟨sa, rfl, hra, hbq⟩
  have hbx := ab1 wq (Obj.cells #[.int .i64 uf.kind, .int .i64 uf.n, .string (bs uf.s), .slice sa.A uf.l.length sa.c, .slice sa.B uf.f.length sa.d] 25)
  have DA := Bx.new5 wq 25 (.int .i64 uf.kind) (.int .i64 uf.n) (.string (bs uf.s)) (.slice sa.A uf.l.length sa.c) (.slice sa.B uf.f.length sa.d)
  obtain ⟨ga, hgq⟩ : ∃ g, wq.heap.size = g := ⟨_, rfl⟩
  replace D1 := (D1.next hbq).next hbx
  replace DN := (DN.next hbq).next hbx
  replace DX := (DX.next hbq).next hbx
  replace DW := (DW.next hbq).next hbx
  replace DU := (DU.next hbq).next hbx
  replace hrw := (hrw.next hbq).next hbx
  replace hru := (hru.next hbq).next hbx
  replace hra := hra.next hbx
  replace hab := Below.next (Below.next hab hbq) hbx
  rw [hgq] at DA
  clear hbq hbx c1 cA v0 v1 v2 v3 v4 n0 n1 x0 x1 x2 x3 x4
  go_upto_region 6 with (fail)
  generalize wq.alloc (Obj.cells #[.int .i64 uf.kind, .int .i64 uf.n, .string (bs uf.s), .slice sa.A uf.l.length sa.c, .slice sa.B uf.f.length sa.d] 25) = W3 at *
  clear hgq
  have v0 := D1.c 0 rfl
  have v1 := D1.c 1 rfl
  have v2 := D1.c 2 rfl
  have v3 := D1.c 3 rfl
  have v4 := D1.c 4 rfl
  have n0 := DN.c 0 rfl
  have n1 := DN.c 1 rfl
  have x0 := DX.c 0 rfl
  have x1 := DX.c 1 rfl
  have x2 := DX.c 2 rfl
  have x3 := DX.c 3 rfl
  have x4 := DX.c 4 rfl
  have c1 := cB _ hab
  go_wp2_with fail
  refine (c1).mono ?_
  rintro e wq ⟨sb, rfl, hrb, hbq⟩
  have hbx := ab1 wq (Obj.cells #[.int .i64 uf.kind, .int .i64 uf.n, .string (bs uf.s), .slice sb.A uf.l.length sb.c, .slice sb.B uf.f.length sb.d] 25)
  have DB := Bx.new5 wq 25 (.int .i64 uf.kind) (.int .i64 uf.n) (.string (bs uf.s)) (.slice sb.A uf.l.length sb.c) (.slice sb.B uf.f.length sb.d)
  obtain ⟨gb, hgq⟩ : ∃ g, wq.heap.size = g := ⟨_, rfl⟩
  replace D1 := (D1.next hbq).next hbx
  replace DN := (DN.next hbq).next hbx
  replace DX := (DX.next hbq).next hbx
  replace DW := (DW.next hbq).next hbx
  replace DU := (DU.next hbq).next hbx
  replace DA := (DA.next hbq).next hbx
  replace hrw := (hrw.next hbq).next hbx
  replace hru := (hru.next hbq).next hbx
  replace hra := (hra.next hbq).next hbx
  replace hrb := (hrb.next hbq).next hbx
  replace hab := Below.next (Below.next hab hbq) hbx
  rw [hgq] at DB
  clear hbq hbx c1 cB v0 v1 v2 v3 v4 n0 n1 x0 x1 x2 x3 x4
  go_upto_region 7 with (fail)
  generalize wq.alloc (Obj.cells #[.int .i64 uf.kind, .int .i64 uf.n, .string (bs uf.s), .slice sb.A uf.l.length sb.c, .slice sb.B uf.f.length sb.d] 25) = W5 at *
  clear hgq
  have v0 := D1.c 0 rfl
  have v1 := D1.c 1 rfl
  have v2 := D1.c 2 rfl
  have v3 := D1.c 3 rfl
  have v4 := D1.c 4 rfl
  have n0 := DN.c 0 rfl
  have n1 := DN.c 1 rfl
  have x0 := DX.c 0 rfl
  have x1 := DX.c 1 rfl
  have x2 := DX.c 2 rfl
  have x3 := DX.c 3 rfl
  have x4 := DX.c 4 rfl
  have w0 := DW.c 0 rfl
  have w1 := DW.c 1 rfl
  have w2 := DW.c 2 rfl
  have w3 := DW.c 3 rfl
  have w4 := DW.c 4 rfl
  have u0 := DU.c 0 rfl
  have u1 := DU.c 1 rfl
  have u2 := DU.c 2 rfl
  have u3 := DU.c 3 rfl
  have u4 := DU.c 4 rfl
  have a0 := DA.c 0 rfl
  have a1 := DA.c 1 rfl
  have a2 := DA.c 2 rfl
  have a3 := DA.c 3 rfl
  have a4 := DA.c 4 rfl
  have b0 := DB.c 0 rfl
  have b1 := DB.c 1 rfl
  have b2 := DB.c 2 rfl
  have b3 := DB.c 3 rfl
  have b4 := DB.c 4 rfl
  have cRW := fun W (h : Below W5.heap.size W5 W) => cRW0 W (Below.next hab h)
  have cRU := fun W (h : Below W5.heap.size W5 W) => cRU0 W (Below.next hab h)
  have dnn : (b != b) = false := by cases b <;> rfl
  clear cRW0 cRU0
  refine wp_region_on (by kernel_rfl) (FF [(10, Fact.at_ W5 (.bool b)), (12, Fact.at_ W5 (.bool b)), (9, Fact.at_ W5 (.pointer (some ⟨ga, 0, none⟩))), (11, Fact.at_ W5 (.pointer (some ⟨gb, 0, none⟩))), (7, Fact.at_ W5 (.pointer (some ⟨gw, 0, none⟩))), (8, Fact.at_ W5 (.pointer (some ⟨gu, 0, none⟩))), (3, Fact.at_ W5 (.pointer (some ⟨w.heap.size, 0, none⟩))), (4, Fact.at_ W5 (.pointer (some ⟨(w.heap.size + 1), 0, none⟩))), (5, Fact.at_ W5 (.pointer (some ⟨(w.heap.size + 1 + 1), 0, none⟩))), (51, Fact.at_ W5 (.bool b)), (52, Fact.at_ W5 (.bool b)), (53, Fact.at_ W5 (.bool false)), (54, Fact.at_ W5 (.bool false)), (55, Fact.at_ W5 (.agg #[.int .i64 uf.kind, .int .i64 uf.n, .string (bs uf.s), .slice sa.A uf.l.length sa.c, .slice sa.B uf.f.length sa.d])), (56, Fact.at_ W5 (.agg #[.int .i64 uf.kind, .int .i64 uf.n, .string (bs uf.s), .slice sb.A uf.l.length sb.c, .slice sb.B uf.f.length sb.d])), (57, Fact.at_ W5 (.bool true)), (58, Fact.at_ W5 (.bool false)), (59, Fact.at_ W5 (.bool false)), (60, Fact.at_ W5 (.bool false)), (61, Fact.at_ W5 (.agg #[.int .i64 tw.kind, .int .i64 tw.n, .string (bs tw.s), .slice sw.A tw.l.length sw.c, .slice sw.B tw.f.length sw.d])), (62, Fact.at_ W5 (.agg #[.int .i64 t.kind, .int .i64 t.n, .string (bs t.s), .slice s0.A t.l.length s0.c, .slice s0.B t.f.length s0.d])), (63, Fact.at_ W5 (.pointer (some ⟨(w.heap.size + 1), 0, none⟩))), (64, Fact.at_ W5 (.int .i64 za)), (65, Fact.at_ W5 (.agg #[.int .i64 x.kind, .int .i64 x.n, .string (bs x.s), .slice sx.A x.l.length sx.c, .slice sx.B x.f.length sx.d])), (66, FWt tw W5), (67, Fact.at_ W5 (.bool true)), (68, Fact.at_ W5 (.bool false)), (69, Fact.at_ W5 (.bool false)), (70, Fact.at_ W5 (.bool false)), (71, Fact.at_ W5 (.agg #[.int .i64 tu.kind, .int .i64 tu.n, .string (bs tu.s), .slice su.A tu.l.length su.c, .slice su.B tu.f.length su.d])), (72, Fact.at_ W5 (.agg #[.int .i64 t.kind, .int .i64 t.n, .string (bs t.s), .slice s0.A t.l.length s0.c, .slice s0.B t.f.length s0.d])), (73, Fact.at_ W5 (.pointer (some ⟨(w.heap.size + 1), 0, none⟩))), (74, Fact.at_ W5 (.int .i64 za)), (75, FWt tu W5), (76, Fact.at_ W5 (.bool true)), (77, Fact.at_ W5 (.bool false)), (78, Fact.at_ W5 (.bool false))]) [10, 12, 9, 11, 7, 8, 3, 4, 5] 144 [51, 52, 53, 54, 55, 56, 57, 58, 59, 60, 61, 62, 63, 64, 65, 66, 67, 68, 69, 70, 71, 72, 73, 74, 75, 76, 77, 78] rfl (by kernel_rfl) (by kernel_rfl) ?_ ?_ ?_
  · intro t9 ht9
    simp only [List.mem_cons, List.not_mem_nil, or_false] at ht9
    rcases ht9 with rfl | rfl | rfl | rfl | rfl | rfl | rfl | rfl | rfl
    · exact ⟨rfl, Below.refl _ _⟩
    · exact ⟨rfl, Below.refl _ _⟩
    · exact ⟨rfl, Below.refl _ _⟩
    · exact ⟨rfl, Below.refl _ _⟩
    · exact ⟨rfl, Below.refl _ _⟩
    · exact ⟨rfl, Below.refl _ _⟩
    · exact ⟨rfl, Below.refl _ _⟩
    · exact ⟨rfl, Below.refl _ _⟩
    · exact ⟨rfl, Below.refl _ _⟩
  · refine fcs ⟨atcopy 10 51 (.bool b) (.inl rfl) rfl (by first | exact .inl rfl | exact .inr ⟨_, _, _, rfl, rfl, by kernel_rfl, by decide, rfl⟩) (by kernel_rfl) rfl rfl, ?_⟩
    refine fcs ⟨atcopy 12 52 (.bool b) (.inl rfl) rfl (by first | exact .inl rfl | exact .inr ⟨_, _, _, rfl, rfl, by kernel_rfl, by decide, rfl⟩) (by kernel_rfl) rfl rfl, ?_⟩
    refine fcs ⟨at2 51 52 53 (.bool b) (.bool b) (.bool false) rfl (by first | exact .inl rfl | exact .inr ⟨_, _, _, rfl, rfl, by kernel_rfl, by decide, rfl⟩) (by kernel_rfl) (by kernel_rfl) rfl rfl rfl (fun a9 W9 hb9 h9 h8 => by simp [execOp, h9, h8] <;> go_simp), ?_⟩
    refine fcs ⟨atcopy 53 54 (.bool false) (.inl rfl) rfl (by first | exact .inl rfl | exact .inr ⟨_, _, _, rfl, rfl, by kernel_rfl, by decide, rfl⟩) (by kernel_rfl) rfl rfl, ?_⟩
    refine fcs ⟨at1 9 55 (.pointer (some ⟨ga, 0, none⟩)) (.agg #[.int .i64 uf.kind, .int .i64 uf.n, .string (bs uf.s), .slice sa.A uf.l.length sa.c, .slice sa.B uf.f.length sa.d]) rfl (by first | exact .inl rfl | exact .inr ⟨_, _, _, rfl, rfl, by kernel_rfl, by decide, rfl⟩) (by kernel_rfl) rfl rfl (fun a9 W9 hb9 h9 => by have g0 := cell_next hb9 a0; have g1 := cell_next hb9 a1; have g2 := cell_next hb9 a2; have g3 := cell_next hb9 a3; have g4 := cell_next hb9 a4; simp [execOp, h9] <;> go_simp), ?_⟩
    refine fcs ⟨at1 11 56 (.pointer (some ⟨gb, 0, none⟩)) (.agg #[.int .i64 uf.kind, .int .i64 uf.n, .string (bs uf.s), .slice sb.A uf.l.length sb.c, .slice sb.B uf.f.length sb.d]) rfl (by first | exact .inl rfl | exact .inr ⟨_, _, _, rfl, rfl, by kernel_rfl, by decide, rfl⟩) (by kernel_rfl) rfl rfl (fun a9 W9 hb9 h9 => by have g0 := cell_next hb9 b0; have g1 := cell_next hb9 b1; have g2 := cell_next hb9 b2; have g3 := cell_next hb9 b3; have g4 := cell_next hb9 b4; simp [execOp, h9] <;> go_simp), ?_⟩
    refine fcs ⟨atc2 20 55 56 57 (.agg #[.int .i64 uf.kind, .int .i64 uf.n, .string (bs uf.s), .slice sa.A uf.l.length sa.c, .slice sa.B uf.f.length sa.d]) (.agg #[.int .i64 uf.kind, .int .i64 uf.n, .string (bs uf.s), .slice sb.A uf.l.length sb.c, .slice sb.B uf.f.length sb.d]) (.bool true) _ rfl rfl (by first | exact .inl rfl | exact .inr ⟨_, _, _, rfl, rfl, by kernel_rfl, by decide, rfl⟩) (by kernel_rfl) (by kernel_rfl) rfl rfl (by kernel_rfl) rfl (fun W9 hb9 => eqq uf sa sb W9 kf (hra.next hb9) (hrb.next hb9)), ?_⟩
    refine fcs ⟨at1 57 58 (.bool true) (.bool false) rfl (by first | exact .inl rfl | exact .inr ⟨_, _, _, rfl, rfl, by kernel_rfl, by decide, rfl⟩) (by kernel_rfl) rfl rfl (fun a9 W9 hb9 h9 => by simp [execOp, h9] <;> go_simp), ?_⟩
    refine fcs ⟨atpick 54 58 59 false (.bool false) _ _ rfl rfl rfl (by first | exact .inl rfl | exact .inr ⟨_, _, _, rfl, rfl, by kernel_rfl, by decide, rfl⟩) (by kernel_rfl) (by kernel_rfl) rfl rfl rfl, ?_⟩
    refine fcs ⟨atcopy 59 60 (.bool false) (.inl rfl) rfl (by first | exact .inl rfl | exact .inr ⟨_, _, _, rfl, rfl, by kernel_rfl, by decide, rfl⟩) (by kernel_rfl) rfl rfl, ?_⟩
    refine fcs ⟨at1 7 61 (.pointer (some ⟨gw, 0, none⟩)) (.agg #[.int .i64 tw.kind, .int .i64 tw.n, .string (bs tw.s), .slice sw.A tw.l.length sw.c, .slice sw.B tw.f.length sw.d]) rfl (by first | exact .inl rfl | exact .inr ⟨_, _, _, rfl, rfl, by kernel_rfl, by decide, rfl⟩) (by kernel_rfl) rfl rfl (fun a9 W9 hb9 h9 => by have g0 := cell_next hb9 w0; have g1 := cell_next hb9 w1; have g2 := cell_next hb9 w2; have g3 := cell_next hb9 w3; have g4 := cell_next hb9 w4; simp [execOp, h9] <;> go_simp), ?_⟩
    refine fcs ⟨at1 3 62 (.pointer (some ⟨w.heap.size, 0, none⟩)) (.agg #[.int .i64 t.kind, .int .i64 t.n, .string (bs t.s), .slice s0.A t.l.length s0.c, .slice s0.B t.f.length s0.d]) rfl (by first | exact .inl rfl | exact .inr ⟨_, _, _, rfl, rfl, by kernel_rfl, by decide, rfl⟩) (by kernel_rfl) rfl rfl (fun a9 W9 hb9 h9 => by have g0 := cell_next hb9 v0; have g1 := cell_next hb9 v1; have g2 := cell_next hb9 v2; have g3 := cell_next hb9 v3; have g4 := cell_next hb9 v4; simp [execOp, h9] <;> go_simp), ?_⟩
    refine fcs ⟨at1 4 63 (.pointer (some ⟨(w.heap.size + 1), 0, none⟩)) (.pointer (some ⟨(w.heap.size + 1), 0, none⟩)) rfl (by first | exact .inl rfl | exact .inr ⟨_, _, _, rfl, rfl, by kernel_rfl, by decide, rfl⟩) (by kernel_rfl) rfl rfl (fun a9 W9 hb9 h9 => by simp [execOp, h9] <;> go_simp), ?_⟩
    refine fcs ⟨at1 63 64 (.pointer (some ⟨(w.heap.size + 1), 0, none⟩)) (.int .i64 za) rfl (by first | exact .inl rfl | exact .inr ⟨_, _, _, rfl, rfl, by kernel_rfl, by decide, rfl⟩) (by kernel_rfl) rfl rfl (fun a9 W9 hb9 h9 => by have g0 := cell_next hb9 n0; simp [execOp, h9] <;> go_simp), ?_⟩
    refine fcs ⟨at1 5 65 (.pointer (some ⟨(w.heap.size + 1 + 1), 0, none⟩)) (.agg #[.int .i64 x.kind, .int .i64 x.n, .string (bs x.s), .slice sx.A x.l.length sx.c, .slice sx.B x.f.length sx.d]) rfl (by first | exact .inl rfl | exact .inr ⟨_, _, _, rfl, rfl, by kernel_rfl, by decide, rfl⟩) (by kernel_rfl) rfl rfl (fun a9 W9 hb9 h9 => by have g0 := cell_next hb9 x0; have g1 := cell_next hb9 x1; have g2 := cell_next hb9 x2; have g3 := cell_next hb9 x3; have g4 := cell_next hb9 x4; simp [execOp, h9] <;> go_simp), ?_⟩
    refine fcs ⟨at_enter (W0 := W5) (by first | exact .inl rfl | exact .inr ⟨_, _, _, rfl, rfl, by kernel_rfl, by decide, rfl⟩) (fun a9 W9 hf9 => by have p62 := hf9 62 (by kernel_rfl); have q62 : a9.tmps.getD 62 undef = (.agg #[.int .i64 t.kind, .int .i64 t.n, .string (bs t.s), .slice s0.A t.l.length s0.c, .slice s0.B t.f.length s0.d]) := p62.1; have p64 := hf9 64 (by kernel_rfl); have q64 : a9.tmps.getD 64 undef = (.int .i64 za) := p64.1; have p65 := hf9 65 (by kernel_rfl); have q65 : a9.tmps.getD 65 undef = (.agg #[.int .i64 x.kind, .int .i64 x.n, .string (bs x.s), .slice sx.A x.l.length sx.c, .slice sx.B x.f.length sx.d]) := p65.1; have hb9 := p62.2; exact ⟨21, #[(.agg #[.int .i64 t.kind, .int .i64 t.n, .string (bs t.s), .slice s0.A t.l.length s0.c, .slice s0.B t.f.length s0.d]), (.int .i64 za), (.agg #[.int .i64 x.kind, .int .i64 x.n, .string (bs x.s), .slice sx.A x.l.length sx.c, .slice sx.B x.f.length sx.d])], by rw [← q62, ← q64, ← q65]; simpa [execOp, resolve, Act.eval] using run_invoke (by kernel_rfl) _ W9, (cRW W9 p62.2).mono fun e w' ⟨s, e1, h2, h3⟩ => ⟨_, e1, h3, fun s9 hs9 => by injection hs9 with hs9; subst hs9; exact ⟨s, rfl, h2, upG hb9 h3⟩⟩⟩), ?_⟩
    refine fcs ⟨at_enter (W0 := W5) (by first | exact .inl rfl | exact .inr ⟨_, _, _, rfl, rfl, by kernel_rfl, by decide, rfl⟩) (fun a9 W9 hf9 => by have p61 := hf9 61 (by kernel_rfl); have q61 : a9.tmps.getD 61 undef = (.agg #[.int .i64 tw.kind, .int .i64 tw.n, .string (bs tw.s), .slice sw.A tw.l.length sw.c, .slice sw.B tw.f.length sw.d]) := p61.1; have p66 := hf9 66 (by kernel_rfl); have hb9 := p61.2; exact ⟨20, #[(.agg #[.int .i64 tw.kind, .int .i64 tw.n, .string (bs tw.s), .slice sw.A tw.l.length sw.c, .slice sw.B tw.f.length sw.d]), (a9.tmps.getD 66 undef)], by rw [← q61]; simpa [execOp, resolve, Act.eval] using run_invoke (by kernel_rfl) _ W9, ((show Calls Try.prog 20 #[(.agg #[.int .i64 tw.kind, .int .i64 tw.n, .string (bs tw.s), .slice sw.A tw.l.length sw.c, .slice sw.B tw.f.length sw.d]), a9.tmps.getD 66 undef] W9 (Ib (.bool true) W9) from by obtain ⟨s9, e9, h9, -⟩ := p66; rw [e9]; exact eqq tw sw s9 W9 kw (hrw.next hb9) h9)).mono fun e w' ⟨e1, e2⟩ => ⟨(.bool true), e1, e2, fun s hs => by injection hs with hs; subst hs; exact ⟨rfl, upG hb9 e2⟩⟩⟩), ?_⟩
    refine fcs ⟨at1 67 68 (.bool true) (.bool false) rfl (by first | exact .inl rfl | exact .inr ⟨_, _, _, rfl, rfl, by kernel_rfl, by decide, rfl⟩) (by kernel_rfl) rfl rfl (fun a9 W9 hb9 h9 => by simp [execOp, h9] <;> go_simp), ?_⟩
    refine fcs ⟨atpick 60 68 69 false (.bool false) _ _ rfl rfl rfl (by first | exact .inl rfl | exact .inr ⟨_, _, _, rfl, rfl, by kernel_rfl, by decide, rfl⟩) (by kernel_rfl) (by kernel_rfl) rfl rfl rfl, ?_⟩
    refine fcs ⟨atcopy 69 70 (.bool false) (.inl rfl) rfl (by first | exact .inl rfl | exact .inr ⟨_, _, _, rfl, rfl, by kernel_rfl, by decide, rfl⟩) (by kernel_rfl) rfl rfl, ?_⟩
    refine fcs ⟨at1 8 71 (.pointer (some ⟨gu, 0, none⟩)) (.agg #[.int .i64 tu.kind, .int .i64 tu.n, .string (bs tu.s), .slice su.A tu.l.length su.c, .slice su.B tu.f.length su.d]) rfl (by first | exact .inl rfl | exact .inr ⟨_, _, _, rfl, rfl, by kernel_rfl, by decide, rfl⟩) (by kernel_rfl) rfl rfl (fun a9 W9 hb9 h9 => by have g0 := cell_next hb9 u0; have g1 := cell_next hb9 u1; have g2 := cell_next hb9 u2; have g3 := cell_next hb9 u3; have g4 := cell_next hb9 u4; simp [execOp, h9] <;> go_simp), ?_⟩
    refine fcs ⟨at1 3 72 (.pointer (some ⟨w.heap.size, 0, none⟩)) (.agg #[.int .i64 t.kind, .int .i64 t.n, .string (bs t.s), .slice s0.A t.l.length s0.c, .slice s0.B t.f.length s0.d]) rfl (by first | exact .inl rfl | exact .inr ⟨_, _, _, rfl, rfl, by kernel_rfl, by decide, rfl⟩) (by kernel_rfl) rfl rfl (fun a9 W9 hb9 h9 => by have g0 := cell_next hb9 v0; have g1 := cell_next hb9 v1; have g2 := cell_next hb9 v2; have g3 := cell_next hb9 v3; have g4 := cell_next hb9 v4; simp [execOp, h9] <;> go_simp), ?_⟩
    refine fcs ⟨at1 4 73 (.pointer (some ⟨(w.heap.size + 1), 0, none⟩)) (.pointer (some ⟨(w.heap.size + 1), 0, none⟩)) rfl (by first | exact .inl rfl | exact .inr ⟨_, _, _, rfl, rfl, by kernel_rfl, by decide, rfl⟩) (by kernel_rfl) rfl rfl (fun a9 W9 hb9 h9 => by simp [execOp, h9] <;> go_simp), ?_⟩
    refine fcs ⟨at1 73 74 (.pointer (some ⟨(w.heap.size + 1), 0, none⟩)) (.int .i64 za) rfl (by first | exact .inl rfl | exact .inr ⟨_, _, _, rfl, rfl, by kernel_rfl, by decide, rfl⟩) (by kernel_rfl) rfl rfl (fun a9 W9 hb9 h9 => by have g0 := cell_next hb9 n0; simp [execOp, h9] <;> go_simp), ?_⟩
    refine fcs ⟨at_enter (W0 := W5) (by first | exact .inl rfl | exact .inr ⟨_, _, _, rfl, rfl, by kernel_rfl, by decide, rfl⟩) (fun a9 W9 hf9 => by have p72 := hf9 72 (by kernel_rfl); have q72 : a9.tmps.getD 72 undef = (.agg #[.int .i64 t.kind, .int .i64 t.n, .string (bs t.s), .slice s0.A t.l.length s0.c, .slice s0.B t.f.length s0.d]) := p72.1; have p74 := hf9 74 (by kernel_rfl); have q74 : a9.tmps.getD 74 undef = (.int .i64 za) := p74.1; have hb9 := p72.2; exact ⟨22, #[(.agg #[.int .i64 t.kind, .int .i64 t.n, .string (bs t.s), .slice s0.A t.l.length s0.c, .slice s0.B t.f.length s0.d]), (.int .i64 za)], by rw [← q72, ← q74]; simpa [execOp, resolve, Act.eval] using run_invoke (by kernel_rfl) _ W9, (cRU W9 p72.2).mono fun e w' ⟨s, e1, h2, h3⟩ => ⟨_, e1, h3, fun s9 hs9 => by injection hs9 with hs9; subst hs9; exact ⟨s, rfl, h2, upG hb9 h3⟩⟩⟩), ?_⟩
    refine fcs ⟨at_enter (W0 := W5) (by first | exact .inl rfl | exact .inr ⟨_, _, _, rfl, rfl, by kernel_rfl, by decide, rfl⟩) (fun a9 W9 hf9 => by have p71 := hf9 71 (by kernel_rfl); have q71 : a9.tmps.getD 71 undef = (.agg #[.int .i64 tu.kind, .int .i64 tu.n, .string (bs tu.s), .slice su.A tu.l.length su.c, .slice su.B tu.f.length su.d]) := p71.1; have p75 := hf9 75 (by kernel_rfl); have hb9 := p71.2; exact ⟨20, #[(.agg #[.int .i64 tu.kind, .int .i64 tu.n, .string (bs tu.s), .slice su.A tu.l.length su.c, .slice su.B tu.f.length su.d]), (a9.tmps.getD 75 undef)], by rw [← q71]; simpa [execOp, resolve, Act.eval] using run_invoke (by kernel_rfl) _ W9, ((show Calls Try.prog 20 #[(.agg #[.int .i64 tu.kind, .int .i64 tu.n, .string (bs tu.s), .slice su.A tu.l.length su.c, .slice su.B tu.f.length su.d]), a9.tmps.getD 75 undef] W9 (Ib (.bool true) W9) from by obtain ⟨s9, e9, h9, -⟩ := p75; rw [e9]; exact eqq tu su s9 W9 ku (hru.next hb9) h9)).mono fun e w' ⟨e1, e2⟩ => ⟨(.bool true), e1, e2, fun s hs => by injection hs with hs; subst hs; exact ⟨rfl, upG hb9 e2⟩⟩⟩), ?_⟩
    refine fcs ⟨at1 76 77 (.bool true) (.bool false) rfl (by first | exact .inl rfl | exact .inr ⟨_, _, _, rfl, rfl, by kernel_rfl, by decide, rfl⟩) (by kernel_rfl) rfl rfl (fun a9 W9 hb9 h9 => by simp [execOp, h9] <;> go_simp), ?_⟩
    refine fcs ⟨atpick 70 77 78 false (.bool false) _ _ rfl rfl rfl (by first | exact .inl rfl | exact .inr ⟨_, _, _, rfl, rfl, by kernel_rfl, by decide, rfl⟩) (by kernel_rfl) (by kernel_rfl) rfl rfl rfl, ?_⟩
    exact fnl
  intro vv wv hvv hbv
  have hv78 : vv 78 = (.bool false) := (hvv 78 (by decide)).1
  simp only [lay, List.foldl_cons, List.foldl_nil, List.setIfInBounds_toArray, List.set_cons_succ, List.set_cons_zero, hv78]
  replace D1 := D1.next hbv
  replace DN := DN.next hbv
  replace DX := DX.next hbv
  replace DW := DW.next hbv
  replace DU := DU.next hbv
  replace DA := DA.next hbv
  replace hrw := hrw.next hbv
  replace hru := hru.next hbv
  replace hra := hra.next hbv
  replace hab := Below.next hab hbv
  clear hvv hbv cRW cRU DB hrb hv78 dnn v0 v1 v2 v3 v4 n0 n1 x0 x1 x2 x3 x4 w0 w1 w2 w3 w4 u0 u1 u2 u3 u4 a0 a1 a2 a3 a4 b0 b1 b2 b3 b4
  have v0 := D1.c 0 rfl
  have v1 := D1.c 1 rfl
  have v2 := D1.c 2 rfl
  have v3 := D1.c 3 rfl
  have v4 := D1.c 4 rfl
  by_cases h6 : t.kind = 6
  case neg =>
    have d6 : (t.kind != 6) = true := by simpa using h6
    obtain ⟨e1, e2⟩ := hN.out h6
    obtain rfl : t = tw := e1.symm
    obtain rfl : t = tu := e2.symm
    clear h6 hN hK cFw cFu e1 e2
    have w0 := DW.c 0 rfl
    have w1 := DW.c 1 rfl
    have w2 := DW.c 2 rfl
    have w3 := DW.c 3 rfl
    have w4 := DW.c 4 rfl
    have c1 := eqq t sw s0 wv kt hrw (hr0.next hab)
    go_wp2_with fail
    refine c1.mono ?_
    rintro e wa ⟨rfl, hba⟩
    replace D1 := D1.next hba
    replace DU := DU.next hba
    replace hru := hru.next hba
    replace hab := Below.next hab hba
    clear c1 hba w0 w1 w2 w3 w4 v0 v1 v2 v3 v4 DW hrw
    have v0 := D1.c 0 rfl
    have v1 := D1.c 1 rfl
    have v2 := D1.c 2 rfl
    have v3 := D1.c 3 rfl
    have v4 := D1.c 4 rfl
    have u0 := DU.c 0 rfl
    have u1 := DU.c 1 rfl
    have u2 := DU.c 2 rfl
    have u3 := DU.c 3 rfl
    have u4 := DU.c 4 rfl
    have c1 := eqq t su s0 wa kt hru (hr0.next hab)
    go_wp2_with fail
    refine c1.mono ?_
    rintro e wb ⟨rfl, hbb⟩
    replace hab := Below.next hab hbb
    clear c1 hbb
    go_wp2_with fail
    refine (awake_any _).mono ?_
    rintro e w9 ⟨rfl, hb9⟩
    go_wp2_with fail
    go_ret
    exact ⟨rfl, Below.next hab hb9⟩
  case pos =>
    have d6 : (t.kind != 6) = false := by simp [h6]
    obtain ⟨e1, e2, e3⟩ := hK.out h6
    clear h6 hN hK
    have w0 := DW.c 0 rfl
    have w1 := DW.c 1 rfl
    have w2 := DW.c 2 rfl
    have w3 := DW.c 3 rfl
    have w4 := DW.c 4 rfl
    have n0 := DN.c 0 rfl
    have n1 := DN.c 1 rfl
    have c1 := cFw za wv sw hrw
    rw [e1] at c1
    simp only [Option.getD_some, Option.isSome_some] at c1
    go_wp2_with fail
    refine (c1).mono ?_
    rintro e wq ⟨sy, rfl, hry, hbq⟩
    have hbx := ab1 wq (Obj.cells #[.int .i64 x.kind, .int .i64 x.n, .string (bs x.s), .slice sy.A x.l.length sy.c, .slice sy.B x.f.length sy.d] 25)
    have DY := Bx.new5 wq 25 (.int .i64 x.kind) (.int .i64 x.n) (.string (bs x.s)) (.slice sy.A x.l.length sy.c) (.slice sy.B x.f.length sy.d)
    obtain ⟨gy, hgq⟩ : ∃ g, wq.heap.size = g := ⟨_, rfl⟩
    replace D1 := (D1.next hbq).next hbx
    replace DN := (DN.next hbq).next hbx
    replace DX := (DX.next hbq).next hbx
    replace DW := (DW.next hbq).next hbx
    replace DU := (DU.next hbq).next hbx
    replace DA := (DA.next hbq).next hbx
    replace hrw := (hrw.next hbq).next hbx
    replace hru := (hru.next hbq).next hbx
    replace hra := (hra.next hbq).next hbx
    replace hry := hry.next hbx
    replace hab := Below.next (Below.next hab hbq) hbx
    rw [hgq] at DY
    clear hbq hbx c1 v0 v1 v2 v3 v4 w0 w1 w2 w3 w4 n0 n1
    go_upto_region 12 with (fail)
    generalize wq.alloc (Obj.cells #[.int .i64 x.kind, .int .i64 x.n, .string (bs x.s), .slice sy.A x.l.length sy.c, .slice sy.B x.f.length sy.d] 25) = W6 at *
    clear hgq
    have u0 := DU.c 0 rfl
    have u1 := DU.c 1 rfl
    have u2 := DU.c 2 rfl
    have u3 := DU.c 3 rfl
    have u4 := DU.c 4 rfl
    have n0 := DN.c 0 rfl
    have n1 := DN.c 1 rfl
    have c1 := cFu za W6 su hru
    rw [e2] at c1
    simp only [Option.getD_none, Option.isSome_none] at c1
    go_wp2_with fail
    refine (c1).mono ?_
    rintro e wq ⟨sl, rfl, -, hbq⟩
    have hbx := ab1 wq (Obj.cells #[.int .i64 vl0.kind, .int .i64 vl0.n, .string (bs vl0.s), .slice sl.A vl0.l.length sl.c, .slice sl.B vl0.f.length sl.d] 25)
    have DL := Bx.new5 wq 25 (.int .i64 vl0.kind) (.int .i64 vl0.n) (.string (bs vl0.s)) (.slice sl.A vl0.l.length sl.c) (.slice sl.B vl0.f.length sl.d)
    obtain ⟨gl, hgq⟩ : ∃ g, wq.heap.size = g := ⟨_, rfl⟩
    replace D1 := (D1.next hbq).next hbx
    replace DN := (DN.next hbq).next hbx
    replace DX := (DX.next hbq).next hbx
    replace DW := (DW.next hbq).next hbx
    replace DU := (DU.next hbq).next hbx
    replace DA := (DA.next hbq).next hbx
    replace DY := (DY.next hbq).next hbx
    replace hrw := (hrw.next hbq).next hbx
    replace hra := (hra.next hbq).next hbx
    replace hry := (hry.next hbq).next hbx
    replace hab := Below.next (Below.next hab hbq) hbx
    rw [hgq] at DL
    clear hbq hbx c1 u0 u1 u2 u3 u4 n0 n1 DU hru
    go_upto_region 13 with (fail)
    generalize wq.alloc (Obj.cells #[.int .i64 vl0.kind, .int .i64 vl0.n, .string (bs vl0.s), .slice sl.A vl0.l.length sl.c, .slice sl.B vl0.f.length sl.d] 25) = W7 at *
    clear hgq
    have w0 := DW.c 0 rfl
    have w1 := DW.c 1 rfl
    have w2 := DW.c 2 rfl
    have w3 := DW.c 3 rfl
    have w4 := DW.c 4 rfl
    have n0 := DN.c 0 rfl
    have n1 := DN.c 1 rfl
    have c1 := cFw zb W7 sw hrw
    by_cases hne : zb = za
    · rw [hne, e1] at c1
      simp only [Option.getD_some, Option.isSome_some] at c1
      obtain rfl := hne.symm
      have dzz : (za == za) = true := by simp
      go_wp2_with fail
      refine (c1).mono ?_
      rintro e wq ⟨sz, rfl, -, hbq⟩
      have hbx := ab1 wq (Obj.cells #[.int .i64 x.kind, .int .i64 x.n, .string (bs x.s), .slice sz.A x.l.length sz.c, .slice sz.B x.f.length sz.d] 25)
      have DZ := Bx.new5 wq 25 (.int .i64 x.kind) (.int .i64 x.n) (.string (bs x.s)) (.slice sz.A x.l.length sz.c) (.slice sz.B x.f.length sz.d)
      obtain ⟨gz, hgq⟩ : ∃ g, wq.heap.size = g := ⟨_, rfl⟩
      replace D1 := (D1.next hbq).next hbx
      replace DN := (DN.next hbq).next hbx
      replace DX := (DX.next hbq).next hbx
      replace DA := (DA.next hbq).next hbx
      replace DY := (DY.next hbq).next hbx
      replace hry := (hry.next hbq).next hbx
      replace hab := Below.next (Below.next hab hbq) hbx
      rw [hgq] at DZ
      clear hbq hbx c1 w0 w1 w2 w3 w4 n0 n1 DW hrw
      go_upto_region 14 with (fail)
      generalize wq.alloc (Obj.cells #[.int .i64 x.kind, .int .i64 x.n, .string (bs x.s), .slice sz.A x.l.length sz.c, .slice sz.B x.f.length sz.d] 25) = W8 at *
      clear hgq
      have y0 := DY.c 0 rfl
      have y1 := DY.c 1 rfl
      have y2 := DY.c 2 rfl
      have y3 := DY.c 3 rfl
      have y4 := DY.c 4 rfl
      have x0 := DX.c 0 rfl
      have x1 := DX.c 1 rfl
      have x2 := DX.c 2 rfl
      have x3 := DX.c 3 rfl
      have x4 := DX.c 4 rfl
      have n0 := DN.c 0 rfl
      have n1 := DN.c 1 rfl
      have c1 := eqq x sy sx W8 kx hry (hrx.next hab)
      go_wp2_with fail
      refine c1.mono ?_
      rintro e wa ⟨rfl, hba⟩
      replace DN := DN.next hba
      replace hab := Below.next hab hba
      clear c1 hba y0 y1 y2 y3 y4 x0 x1 x2 x3 x4 n0 n1
      have n0 := DN.c 0 rfl
      have n1 := DN.c 1 rfl
      go_wp2_with fail
      refine (awake_any _).mono ?_
      rintro e w9 ⟨rfl, hb9⟩
      go_wp2_with fail
      go_ret
      exact ⟨rfl, Below.next hab hb9⟩
    · rw [e3 hne] at c1
      simp only [HUF.out.1, HUF.out.2] at c1
      have dzz : (za == zb) = false := by simp; omega
      have dbb : (b == b) = true := by cases b <;> rfl
      clear HUF e1 e2 e3 hne cFw cFu
      go_wp2_with fail
      refine (c1).mono ?_
      rintro e wq ⟨sz, rfl, hrz, hbq⟩
      have hbx := ab1 wq (Obj.cells #[.int .i64 uf.kind, .int .i64 uf.n, .string (bs uf.s), .slice sz.A uf.l.length sz.c, .slice sz.B uf.f.length sz.d] 25)
      have DZ := Bx.new5 wq 25 (.int .i64 uf.kind) (.int .i64 uf.n) (.string (bs uf.s)) (.slice sz.A uf.l.length sz.c) (.slice sz.B uf.f.length sz.d)
      obtain ⟨gz, hgq⟩ : ∃ g, wq.heap.size = g := ⟨_, rfl⟩
      replace D1 := (D1.next hbq).next hbx
      replace DN := (DN.next hbq).next hbx
      replace DX := (DX.next hbq).next hbx
      replace DA := (DA.next hbq).next hbx
      replace DY := (DY.next hbq).next hbx
      replace hry := (hry.next hbq).next hbx
      replace hra := (hra.next hbq).next hbx
      replace hrz := hrz.next hbx
      replace hab := Below.next (Below.next hab hbq) hbx
      rw [hgq] at DZ
      clear hbq hbx c1 w0 w1 w2 w3 w4 n0 n1 DW hrw
      go_upto_region 14 with (fail)
      generalize wq.alloc (Obj.cells #[.int .i64 uf.kind, .int .i64 uf.n, .string (bs uf.s), .slice sz.A uf.l.length sz.c, .slice sz.B uf.f.length sz.d] 25) = W8 at *
      clear hgq
      have y0 := DY.c 0 rfl
      have y1 := DY.c 1 rfl
      have y2 := DY.c 2 rfl
      have y3 := DY.c 3 rfl
      have y4 := DY.c 4 rfl
      have x0 := DX.c 0 rfl
      have x1 := DX.c 1 rfl
      have x2 := DX.c 2 rfl
      have x3 := DX.c 3 rfl
      have x4 := DX.c 4 rfl
      have n0 := DN.c 0 rfl
      have n1 := DN.c 1 rfl
      have c1 := eqq x sy sx W8 kx hry (hrx.next hab)
      go_wp2_with fail
      refine c1.mono ?_
      rintro e wa ⟨rfl, hba⟩
      replace DN := DN.next hba
      replace DZ := DZ.next hba
      replace DA := DA.next hba
      replace hra := hra.next hba
      replace hrz := hrz.next hba
      replace hab := Below.next hab hba
      clear c1 hba y0 y1 y2 y3 y4 x0 x1 x2 x3 x4 n0 n1
      have n0 := DN.c 0 rfl
      have n1 := DN.c 1 rfl
      have z0 := DZ.c 0 rfl
      have z1 := DZ.c 1 rfl
      have z2 := DZ.c 2 rfl
      have z3 := DZ.c 3 rfl
      have z4 := DZ.c 4 rfl
      have a0 := DA.c 0 rfl
      have a1 := DA.c 1 rfl
      have a2 := DA.c 2 rfl
      have a3 := DA.c 3 rfl
      have a4 := DA.c 4 rfl
      have c1 := eqq uf sz sa wa kf hrz hra
      go_wp2_with fail
      refine c1.mono ?_
      rintro e wb ⟨rfl, hbb⟩
      replace hab := Below.next hab hbb
      clear c1 hbb
      go_wp2_with fail
      refine (awake_any _).mono ?_
      rintro e w9 ⟨rfl, hb9⟩
      go_wp2_with fail
      go_ret
      exact ⟨rfl, Below.next hab hb9⟩
end Go.Proofs.Ytlebppjldoodgaa

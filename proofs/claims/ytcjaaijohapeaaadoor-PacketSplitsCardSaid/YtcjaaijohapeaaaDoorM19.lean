/-
  The law of splitting. No conditions beyond those that each names.
-/
import Derived.Test.YtcjaaijohapeaaaDoorM18
import Derived.Test.YtcjaaijohapeaaaDoorM17
import Derived.Test.YtcjaaijohapeaaaDoorM12
import Derived.Test.YtcjaaijohapeaaaDoorM05
import Derived.Deep.Slices
import Derived.WideKeyArgs
import Derived.ChangeMaps5
namespace Go.Proofs.YtcjaaijohapeaaaDoor
open Go.RowKit Go.Sort Go.Lib Go.Shelf
theorem jn_cons (x : Fg) (l : List Fg) : jn (x :: l) = x.dat ++ jn l := rfl
theorem spL_take (id : Int) (s : List UInt8) (z : Nat) : ∀ i, i ≤ (spL id s z).length → jn ((spL id s z).take i) = s.take (i * z)
  | 0, _ => by simp [jn]
  | i + 1, h => by
    rw [List.take_succ_eq_append_getElem (by omega), jn_snoc, spL_at, spL_take id s z i (by omega)]
    show s.take (i * z) ++ (s.take (i * z + z)).drop (i * z) = _
    rw [Nat.add_mul, Nat.one_mul]
    have : s.take (i * z) = (s.take (i * z + z)).take (i * z) := by rw [List.take_take, Nat.min_eq_left (by omega)]
    rw [this, List.take_append_drop]
theorem spN_mul (n z : Nat) (hz : 1 ≤ z) : n ≤ spN n z * z := by
  unfold spN
  have a2 := Nat.lt_div_mul_add (a := n + z - 1) (b := z) (by omega)
  have a3 : (n + z - 1) / z * z ≤ max 1 ((n + z - 1) / z) * z := Nat.mul_le_mul_right z (Nat.le_max_right _ _)
  omega
theorem jn_spL (id : Int) (s : List UInt8) (z : Nat) (hz : 1 ≤ z) : jn (spL id s z) = s := by
  have h := spL_take id s z (spL id s z).length (Nat.le_refl _)
  rw [List.take_length, spL_len] at h
  rw [h, List.take_of_length_le (spN_mul s.length z hz)]
theorem spP_ok {id : Int} {s : List UInt8} {sz : Int} (h : spE id s sz = 0) : (0 ≤ id ∧ id ≤ 1099511627776) ∧ (1 ≤ sz ∧ sz ≤ 4000) ∧ spN s.length sz.toNat ≤ 64 := by
  unfold spE at h
  by_cases h1 : inB id 0 1099511627776 = true
  · rw [if_pos h1] at h
    by_cases h2 : inB sz 1 4000 = true
    · rw [if_pos h2] at h
      by_cases h3 : 64 < spN s.length sz.toNat
      · rw [if_pos h3] at h; cases h
      · exact ⟨of_decide_eq_true h1, of_decide_eq_true h2, by omega⟩
    · rw [if_neg h2] at h; cases h
  · rw [if_neg h1] at h; cases h
theorem spP_valid {id : Int} {s : List UInt8} {sz : Int} (h : spE id s sz = 0) (i : Nat) (hi : i < spN s.length sz.toNat) : fvB (spP id s sz.toNat i) = true := by
  obtain ⟨h1, h2, h3⟩ := spP_ok h
  have h4 : 1 ≤ spN s.length sz.toNat := by unfold spN; omega
  have h5 : ((s.take (i * sz.toNat + sz.toNat)).drop (i * sz.toNat)).length ≤ 4000 := by rw [List.length_drop, List.length_take]; omega
  unfold fvB inB spP
  simp only [Bool.and_eq_true, decide_eq_true_eq]
  omega
set_option maxRecDepth 100000 in
set_option maxHeartbeats 8000000 in
theorem splits_law (id : Int) (s : ByteArray) (sz : Int) (w : World) (hs : s.size ≤ 9223372036854775807) (hT : Tabs w) :
    Calls Tryd.prog 4 #[.int .i64 id, .string s, .int .i64 sz] w (Ib (.bool true) w) := by
  obtain ⟨l, rfl⟩ : ∃ l, s = bs l := ⟨_, bs_of s⟩
  rw [bs_size] at hs
  have z1 : (bs l).size = l.length := rfl
  by_cases h1 : 3000 < l.length
  · have d1 : decide ((3000 : Int) < (l.length : Int)) = true := decide_eq_true (by omega)
    have d1n : decide (3000 < l.length) = true := decide_eq_true h1
    clear hs h1
    go_enter Tryd.func4, Tryd.ntmps4
    go_wp2_with (go_at_call 7; refine (awake_any _).mono ?_; rintro e w1 ⟨rfl, hb1⟩)
    go_ret
    exact ⟨rfl, hb1⟩
  have d1 : decide ((3000 : Int) < (l.length : Int)) = false := decide_eq_false (by omega)
  have d1n : decide (3000 < l.length) = false := decide_eq_false h1
  have HL : Hid (l.length ≤ 3000) := Lib.hid (by omega)
  have cS := split_any id l sz w (by omega)
  have cR := fun W => refSplit_any id l sz W (by omega)
  unfold SpP at cS
  unfold SqP at cR
  clear hs h1
  by_cases he : spE id l sz = 0
  · obtain ⟨hid, hsz, hct⟩ := spP_ok he
    have HV9 := Lib.hid (spP_valid he)
    obtain ⟨z, rfl⟩ := Int.eq_ofNat_of_zero_le (show 0 ≤ sz by omega)
    rw [Int.toNat_natCast] at cS hct
    simp only [Int.toNat_natCast] at cR HV9
    obtain ⟨m, hm⟩ : ∃ m, spN l.length z = m := ⟨_, rfl⟩
    rw [hm] at cS hct HV9
    simp only [hm] at cR
    have HLN : Hid ((spL id l z).length = m) := Lib.hid (by rw [spL_len, hm])
    have HJ : Hid (jn (spL id l z) = l) := Lib.hid (jn_spL id l z (by omega))
    have cS2 : Calls Tryd.prog 12 #[.int .i64 id, .string (bs l), .int .i64 (z : Int)] w (fun e w' => ∃ g c, e = .returned (.tuple #[.slice (some ⟨g, 0, none⟩) m c, .int .i64 0]) ∧ Hid (Below w.heap.size w w' ∧ OwF w.heap.size w' (.slice (some ⟨g, 0, none⟩) m c) (spL id l z))) := cS.mono fun e w' ⟨hb, h⟩ => by
      rcases h with ⟨h, _⟩ | ⟨_, g, c, h1, h2⟩
      · exact absurd he h
      · exact ⟨g, c, h1, Lib.hid ⟨hb, h2⟩⟩
    have cR2 : ∀ W, Calls Tryd.prog 13 #[.int .i64 id, .string (bs l), .int .i64 (z : Int)] W (fun e w' => ∃ A c, e = .returned (.tuple #[.slice A m c, .int .i64 0]) ∧ Hid (Below W.heap.size W w' ∧ OwF W.heap.size w' (.slice A m c) (spL id l z))) := fun W => (cR W).mono fun e w' ⟨hb, h⟩ => by
      rcases h with ⟨h, _⟩ | ⟨_, g, c, h1, h2⟩
      · exact absurd he h
      · exact ⟨g, c, h1, Lib.hid ⟨hb, h2⟩⟩
    have HS2 := Lib.hid cS2
    have HR2 := Lib.hid cR2
    have hmm : ((m : Int) != (m : Int)) = false := by simp
    have hmm2 : (m != m) = false := by simp
    clear cS cR cS2 cR2 he hid hsz hm
    go_enter Tryd.func4, Tryd.ntmps4
    go_wp2_with (first
      | (go_at_call 12; refine HS2.out.mono ?_; rintro e w1 ⟨g1, c1, rfl, H1⟩)
      | (go_at_call 13; refine (HR2.out _).mono ?_; rintro e w2 ⟨A2, c2, rfl, H2⟩))
    have HI0 : Hid (Below w.heap.size w w2 ∧ OwF w.heap.size w2 (.slice (some ⟨g1, 0, none⟩) m c1) (spL id l z) ∧ OwF w.heap.size w2 (.slice A2 m c2) (spL id l z)) := Lib.hid ⟨Below.next H1.out.1 H2.out.1, own_next H1.out.2 H2.out.1, own_mono H2.out.2 H1.out.1.size⟩
    clear HS2 HR2 H1 H2
    go_loopg [12, 11] m (fun kx s12 s11 wr => ∃ i : Nat, s12 = .int .i64 (i : Int) ∧ i ≤ m ∧ m - i ≤ kx ∧ s11 = .string (bs (jn ((spL id l z).take i))) ∧ Hid (Below w.heap.size w wr ∧ OwF w.heap.size wr (.slice (some ⟨g1, 0, none⟩) m c1) (spL id l z) ∧ OwF w.heap.size wr (.slice A2 m c2) (spL id l z)))
    case atStart => exact ⟨0, rfl, Nat.zero_le _, Nat.le_refl _, rfl, HI0⟩
    case round =>
    obtain ⟨i, rfl, hin, hkx, rfl, HI⟩ := hrel
    by_cases hi : i < m
    · have di : decide ((i : Int) < (m : Int)) = true := decide_eq_true (by omega)
      have din : decide (i < m) = true := decide_eq_true hi
      have hil : i < (spL id l z).length := by rw [HLN.out]; exact hi
      obtain ⟨g2, rfl, hg2, hgl2⟩ := OwF.pos HI.out.2.2 (by omega) HLN.out
      have cx := fun j v hv => OwF.cell HI.out.2.1 HLN.out i hil j v hv
      have cy := fun j v hv => OwF.cell HI.out.2.2 HLN.out i hil j v hv
      have x0 := cx 0 _ rfl
      have x1 := cx 1 _ rfl
      have x2 := cx 2 _ rfl
      have x3 := cx 3 _ rfl
      have y0 := cy 0 _ rfl
      have y1 := cy 1 _ rfl
      have y2 := cy 2 _ rfl
      have y3 := cy 3 _ rfl
      have hv := HV9.out i hi
      have hd := (fv_rng hv).2.2.2
      have hJ1 : (jn ((spL id l z).take (i + 1)) = jn ((spL id l z).take i) ++ (spP id l z i).dat) := by rw [List.take_succ_eq_append_getElem hil, jn_snoc, spL_at]
      have hjl : (jn ((spL id l z).take i)).length ≤ 3000 := Nat.le_trans (jn_take_le _ i) (by rw [HJ.out]; exact HL.out)
      rw [spL_at] at x0 x1 x2 x3 y0 y1 y2 y3
      have hu := unf_fr hv
      have hi1 : i + 1 ≤ m := by omega
      generalize spP id l z i = X at *
      have HX := Lib.hid hv
      have hfr : (fr X).length ≤ 10000 := by
        obtain ⟨h1, h2, h3, h4⟩ := fv_rng hv
        unfold fr
        rw [if_pos hv, seal_length]
        unfold fby tv
        have k1 := uv_len10 (n := X.id.toNat) (by omega)
        have k2 := uv_len10 (n := X.ix.toNat) (by omega)
        have k3 := uv_len10 (n := X.ct.toNat) (by omega)
        have k4 := uv_len10 (n := X.dat.length) (by omega)
        simp only [List.length_append]
        omega
      have CF : Hid (∀ W, Tabs W → Calls Tryd.prog 11 #[.agg #[.int .i64 X.id, .int .i64 X.ix, .int .i64 X.ct, .string (bs X.dat)]] W (Ib (.string (bs (fr X))) W)) := Lib.hid fun W hW => frame_any X W (by omega) hW
      have CG : Hid (∀ W, Calls Tryd.prog 14 #[.agg #[.int .i64 X.id, .int .i64 X.ix, .int .i64 X.ct, .string (bs X.dat)]] W (Ib (.string (bs (fr X))) W)) := Lib.hid fun W => refFrame_any X W (by omega)
      have CU : Hid (∀ W, Tabs W → Calls Tryd.prog 10 #[.string (bs (fr X))] W (Ib (.tuple #[.agg #[.int .i64 X.id, .int .i64 X.ix, .int .i64 X.ct, .string (bs X.dat)], .int .i64 0]) W)) := Lib.hid fun W hW => by
        have k := unframe_any (fr X) W (by omega) hW
        rw [hu] at k
        exact k
      have nq := neqF X
      have hsq : ((bs (fr X)).toList != (bs (fr X)).toList) = false := by simp
      have hcat : bs (jn ((spL id l z).take i)) ++ bs X.dat = bs (jn ((spL id l z).take (i + 1))) := by rw [bs_append, hJ1]
      have hz1 : (bs (jn ((spL id l z).take i))).size ≤ 3000 := hjl
      have hz2 : (bs X.dat).size ≤ 4000 := hd
      generalize fr X = FR at *
      obtain ⟨J1, hJ9⟩ : ∃ J1, jn ((spL id l z).take (i + 1)) = J1 := ⟨_, rfl⟩
      have HJ9 := Lib.hid hJ9
      rw [hJ9] at hcat
      clear hJ9 hJ1
      generalize jn ((spL id l z).take i) = J0 at *
      have gl1 := blk_lt x0
      simp only [Nat.add_zero] at x0 y0
      have HT0 := Lib.hid (hT.below HI.out.1)
      clear cx cy hil hv hd hjl hu hfr
      go_wp2_with (first
        | (go_at_call 11; refine (CF.out _ HT0.out).mono ?_; rintro e w3 ⟨rfl, hb3⟩)
        | (go_at_call 10; refine (CU.out _ (HT0.out.below hb3)).mono ?_; rintro e w4 ⟨rfl, hb4⟩))
      have hb5 := Below.next (Below.next hb3 hb4) (ab1 w4 (Obj.cells #[.int .i64 X.id, .int .i64 X.ix, .int .i64 X.ct, .string (bs X.dat)] 32))
      have X3 := Bx.newF w4 32 X
      have HI5 : Hid (Below w.heap.size w _ ∧ OwF w.heap.size _ (.slice (some ⟨g1, 0, none⟩) m c1) (spL id l z) ∧ OwF w.heap.size _ (.slice (some ⟨g2, 0, none⟩) m c2) (spL id l z)) := Lib.hid ⟨Below.next HI.out.1 hb5, own_next HI.out.2.1 hb5, own_next HI.out.2.2 hb5⟩
      have HT5 := Lib.hid (HT0.out.below hb5)
      replace x0 := cell_next hb5 x0
      replace x1 := cell_next hb5 x1
      replace x2 := cell_next hb5 x2
      replace x3 := cell_next hb5 x3
      replace y0 := cell_next hb5 y0
      replace y1 := cell_next hb5 y1
      replace y2 := cell_next hb5 y2
      replace y3 := cell_next hb5 y3
      clear hb3 hb4 hb5 HI HT0 gl1 hgl2
      generalize w4.alloc (Obj.cells #[.int .i64 X.id, .int .i64 X.ix, .int .i64 X.ct, .string (bs X.dat)] 32) = w5 at *
      have v0 := X3.c 0 rfl
      have v1 := X3.c 1 rfl
      have v2 := X3.c 2 rfl
      have v3 := X3.c 3 rfl
      have rx0 := fun d os => cell_regrown x0 d os
      have rx1 := fun d os => cell_regrown x1 d os
      have rx2 := fun d os => cell_regrown x2 d os
      have rx3 := fun d os => cell_regrown x3 d os
      have ry0 := fun d os => cell_regrown y0 d os
      have ry1 := fun d os => cell_regrown y1 d os
      have ry2 := fun d os => cell_regrown y2 d os
      have ry3 := fun d os => cell_regrown y3 d os
      have rv0 := fun d os => cell_regrown v0 d os
      have rv1 := fun d os => cell_regrown v1 d os
      have rv2 := fun d os => cell_regrown v2 d os
      have rv3 := fun d os => cell_regrown v3 d os
      have lv := X3.lt
      have lx := blk_lt x0
      have ly := blk_lt y0
      have cF := fun d os => Calls.regrown_of (CF.out (grow (redrawn w5 d) os) (HT5.out.below (below_regrown w5 d os)))
      have cG := fun d os => Calls.regrown_of (CG.out (grow (redrawn w5 d) os))
      clear X3
      refine wp_region_quiet_below (by kernel_rfl) (by kernel_rfl) ?_
      repeat (go_big_quiet_step (first | (go_at_call 11; exact cF _ _) | (go_at_call 14; exact cG _ _)))
      refine wpQuiet_nil ?_
      intro _ hw'
      obtain ⟨⟨dq, osq⟩, hw''⟩ := hw'
      subst hw''
      have hbq := below_regrown w5 dq osq
      clear rx0 rx1 rx2 rx3 ry0 ry1 ry2 ry3 rv0 rv1 rv2 rv3 v0 v1 v2 v3 cF cG lv lx ly
      have q3 := cell_next hbq x3
      have HI6 : Hid (Below w.heap.size w _ ∧ OwF w.heap.size _ (.slice (some ⟨g1, 0, none⟩) m c1) (spL id l z) ∧ OwF w.heap.size _ (.slice (some ⟨g2, 0, none⟩) m c2) (spL id l z)) := Lib.hid ⟨Below.next HI5.out.1 hbq, own_next HI5.out.2.1 hbq, own_next HI5.out.2.2 hbq⟩
      clear x0 x1 x2 x3 y0 y1 y2 y3
      generalize grow (redrawn w5 dq) osq = w6 at *
      have ql := blk_lt q3
      go_wp2_with fail
      go_roundg (m - (i + 1))
      case measure => omega
      case rel => exact ⟨i + 1, rfl, hi1, Nat.le_refl _, by rw [HJ9.out], HI6⟩
    · obtain rfl : i = m := by omega
      have di : decide ((i : Int) < (i : Int)) = false := decide_eq_false (by omega)
      have din : decide (i < i) = false := decide_eq_false hi
      rw [List.take_of_length_le (Nat.le_of_eq HLN.out), HJ.out]
      have hse := str_eq l
      clear hi hkx
      go_wp2_with (go_at_call 7; refine (awake_any _).mono ?_; rintro e w3 ⟨rfl, hb3⟩)
      go_ret
      exact ⟨rfl, Below.next HI.out.1 hb3⟩
  · have hne : (spE id l sz != 0) = true := bne_iff_ne.2 he
    have heq : (spE id l sz != spE id l sz) = false := by simp
    have cS2 : Calls Tryd.prog 12 #[.int .i64 id, .string (bs l), .int .i64 sz] w (Ib (.tuple #[.slice none 0 0, .int .i64 (spE id l sz)]) w) := cS.mono fun e w' ⟨hb, h⟩ => by
      rcases h with ⟨_, h⟩ | ⟨h, _⟩
      · exact ⟨h, hb⟩
      · exact absurd h he
    have cR2 : ∀ W, Calls Tryd.prog 13 #[.int .i64 id, .string (bs l), .int .i64 sz] W (Ib (.tuple #[.slice none 0 0, .int .i64 (spE id l sz)]) W) := fun W => (cR W).mono fun e w' ⟨hb, h⟩ => by
      rcases h with ⟨_, h⟩ | ⟨h, _⟩
      · exact ⟨h, hb⟩
      · exact absurd h he
    have HS2 := Lib.hid cS2
    have HR2 := Lib.hid cR2
    generalize spE id l sz = e0 at *
    clear cS cR cS2 cR2 he
    go_enter Tryd.func4, Tryd.ntmps4
    go_wp2_with (first
      | (go_at_call 12; refine HS2.out.mono ?_; rintro e w1 ⟨rfl, hb1⟩)
      | (go_at_call 13; refine (HR2.out _).mono ?_; rintro e w2 ⟨rfl, hb2⟩))
    go_loopg [12, 11] 1 (fun kx s12 s11 wr => s12 = .int .i64 0 ∧ wr = w2)
    case atStart => exact ⟨rfl, rfl⟩
    case round =>
      obtain ⟨rfl, rfl⟩ := hrel
      go_wp2_with (go_at_call 7; refine (awake_any _).mono ?_; rintro e w3 ⟨rfl, hb3⟩)
      go_ret
      exact ⟨rfl, Below.next (Below.next hb1 hb2) hb3⟩
end Go.Proofs.YtcjaaijohapeaaaDoor
/-
  The law of splitting over values as they come in. No conditions beyond the row's own.
-/
namespace Go.Proofs.YtcjaaijohapeaaaDoor
open Go.RowKit Go.Lib
theorem splits_row (id : Int) (s : ByteArray) (sz : Int) (w : World) (_ : -9223372036854775808 ≤ id) (_ : id ≤ 9223372036854775807) (hs : s.size ≤ 9223372036854775807) (_ : -9223372036854775808 ≤ sz) (_ : sz ≤ 9223372036854775807) (hl : laidMetH Tryd.prog Rows.packetSplitsRow.laid w) :
    Calls Tryd.prog 4 #[.int .i64 id, .string s, .int .i64 sz] w (Ib (.bool true) w) := splits_law id s sz w hs (tabs_laid hl)
end Go.Proofs.YtcjaaijohapeaaaDoor
/-
  Rows' arguments: fragments. No conditions beyond those that each names.
-/
namespace Go.Proofs.YtcjaaijohapeaaaDoor
open Go.ChangeShapes Go.WideShapes Go.ChangeAt Go.RowKit
theorem trodAll_stays {H : Type} {enc : TypeId × Value → H} {P : Program} (hl : laidOutB P = true) {W W' : World} (hb : Below W.heap.size W W') :
    ∀ {ts : List TypeId} {vs : List Value} {ds : List (DataW H)} {ps : List MemPlace}, (ts.all fun t => P.readableRec t && decide (t < P.types.size)) = true → DataW.TrodAll enc P W 0 (fun _ => true) true ts vs ds ps → (∀ x ∈ ps, x.block < W.heap.size) →
      DataW.TrodAll enc P W' 0 (fun b => decide (b < W.heap.size)) true ts vs ds ps
  | [], [], [], _, _, h, _ => h
  | t :: ts, v :: vs, d :: ds, ps, hr, ⟨p, q, h, hs, e⟩, hlt => by
    simp only [List.all_cons, Bool.and_eq_true, decide_eq_true_eq] at hr
    have hp : ∀ x ∈ p, x.block < W.heap.size := fun x hx => hlt x (by rw [e]; simp [hx])
    have hq : ∀ x ∈ q, x.block < W.heap.size := fun x hx => hlt x (by rw [e]; simp [hx])
    exact ⟨p, q, Go.WideElems.Trod_stays hl hr.1.1 hr.1.2 h (fun x hx => hb.same (hp x hx)) (fun x hx => by simpa using hp x hx), trodAll_stays hl hb hr.2 hs hq, e⟩
set_option maxRecDepth 100000 in
theorem post_stays {H : Type} {enc : TypeId × Value → H} {f : Func} {s : ChangeSpec} {W W' : World} {args : Array Value} {ds : List (DataW H)} {before : List MemPlace} (hs : s.vars = []) (hrt : f.resultTypes = #[4])
    (hW : DataW.Whole enc Tryd.prog f.params.toList s.vars false W args.toList ds [] before) (hres : (s.fn H (ds ++ [])).results = [.lit (.bool true)]) (hvs : (s.fn H (ds ++ [])).vars = []) (hds : (s.fn H (ds ++ [])).args = ds)
    (hr : (f.params.toList.all fun t => Tryd.prog.readableRec t && decide (t < Tryd.prog.types.size)) = true) (hb : Below W.heap.size W W') :
    s.post enc Tryd.prog f false true false false W args (.bool true) W' := by
  have hlt : ∀ p ∈ before, p.block < W.heap.size := fun p hp => hW.lt p hp
  have hW2 := hW
  obtain ⟨p, q, hA, hV, e, _, _⟩ := hW2
  have hA2 : DataW.TrodAll enc Tryd.prog W 0 (fun _ => true) true f.params.toList args.toList ds p := hA
  refine post_true (pa := p) hs hrt hW hres hvs ?_ hb
  rw [hds]
  exact trodAll_stays (by kernel_rfl) hb hr hA2 fun x hx => hlt x (by rw [e]; simp [hx])
section
variable {H : Type} {enc : TypeId × Value → H}
theorem int_cell {W : World} {b : Nat} {sp : Nat → Bool} {hd : Bool} {k : Nat} {t : TypeId} {K : IntKind} {v : Value} {y : DataW H × List MemPlace} (ht : Tryd.prog.underlying t = some (.int K)) (h : DataW.trod enc Tryd.prog W b sp hd k t [v] = some y) : ∃ n, v = .int K n ∧ (Lit.int K n).wf = true := by
  obtain ⟨n, hc, _, hw⟩ := DataW.trod_int ht h
  injection hc with hc _
  exact ⟨n, hc, hw⟩
theorem str_cell {W : World} {b : Nat} {sp : Nat → Bool} {hd : Bool} {k : Nat} {t : TypeId} {v : Value} {y : DataW H × List MemPlace} (ht : Tryd.prog.underlying t = some .string) (h : DataW.trod enc Tryd.prog W b sp hd k t [v] = some y) : ∃ s, v = .string s ∧ s.size ≤ maxLen := by
  obtain ⟨s, hc, _, hs⟩ := DataW.trod_string ht h
  injection hc with hc _
  exact ⟨s, hc, hs⟩
theorem i64_wf {n : Int} (h : (Lit.int .i64 n).wf = true) : -9223372036854775808 ≤ n ∧ n ≤ 9223372036854775807 := by
  simp [Lit.wf, IntKind.min, IntKind.max, IntKind.signed, IntKind.bits] at h
  omega
set_option maxRecDepth 100000 in
/-- A cell that is a slice of structs: its elements' cells, each read by its field's type. -/
theorem open_elems2 {W : World} {k0 : Nat} {t e : TypeId} {z : Nat} {fs : Array Field} {v : Value} {y : DataW H × List MemPlace} (ht : Tryd.prog.underlying t = some (.slice e)) (he : Tryd.prog.underlying e = some (.struct fs)) (hz : Tryd.prog.cellsOf e = z)
    (hf : DataW.trod enc Tryd.prog W 0 (fun _ => true) true k0 t [v] = some y) :
    ∃ A n c, v = .slice A n c ∧ n ≤ 9223372036854775807 ∧ (n = 0 ∨ ∃ a : Addr, A = some a ∧ ∀ i, i < n → ∃ (cs : List Value) (ys : List (DataW H × List MemPlace)) (k : Nat), cs.length = z ∧ ys.length = fs.size ∧
      (∀ j, j < z → W.cell? ((a.add (i * z)).add j) = cs[j]?) ∧ ∀ (j : Nat) (f : Field), fs[j]? = some f → DataW.trod enc Tryd.prog W 0 (fun _ => true) true k f.type ((cs.drop f.offset).take (Tryd.prog.cellsOf f.type)) = ys[j]?) := by
  obtain ⟨d, p⟩ := y
  rcases Go.Deep.open_slice ht hf with ⟨hc, _⟩ | ⟨a, len, cap, m, k, D, Pl, hc, _, hl, hm, hmm, _, hi⟩
  · injection hc with hc
    subst hc
    exact ⟨none, 0, 0, rfl, by decide, .inl rfl⟩
  · injection hc with hc
    subst hc
    refine ⟨_, _, _, rfl, by simp only [maxLen] at hm; omega, .inr ⟨a, rfl, fun i hin => ?_⟩⟩
    obtain ⟨cs, hcells, htr⟩ := hi i (by simp at hmm; omega)
    rw [hz] at hcells
    obtain ⟨ys, k', _, _, hlen, hyl, hg⟩ := DataW.trod_struct he htr
    obtain ⟨_, hcl, hat⟩ := World.cells?_some hcells
    exact ⟨cs, ys, k', hcl, hyl, hat, hg⟩
set_option maxRecDepth 100000 in
theorem one_cell {W : World} {r : Reach} {b0 : Nat} {t e : TypeId} {v : Value} {d : DataW H} {p : List MemPlace} (ht : Tryd.prog.underlying t = some (.slice e)) (hv : Value.okWide Tryd.prog W r b0 t v) (h : DataW.Trod enc Tryd.prog W 0 (fun _ => true) true t v d p) : ∃ k, DataW.trod enc Tryd.prog W 0 (fun _ => true) true k t [v] = some (d, p) := by
  obtain ⟨A, n, c, rfl⟩ := okWide_slice ht hv
  exact h
set_option maxRecDepth 100000 in
/-- A fragment. -/
theorem open_frg {W : World} {r : Reach} {b0 : Nat} {v : Value} {d : DataW H} {p : List MemPlace} (hv : Value.okWide Tryd.prog W r b0 32 v) (h : DataW.Trod enc Tryd.prog W 0 (fun _ => true) true 32 v d p) :
    ∃ (id ix ct : Int) (s : ByteArray), v = .agg #[.int .i64 id, .int .i64 ix, .int .i64 ct, .string s] ∧ s.size ≤ 9223372036854775807 := by
  obtain ⟨cs, rfl, hsz, hrow⟩ : ∃ cs, v = .agg cs ∧ cs.size = Tryd.prog.cellsOf 32 ∧ Row.okWide Tryd.prog W r b0 32 cs := by
    simpa [Value.okWide, Tryd.underlying32] using hv
  obtain ⟨fuel, hf⟩ := h
  obtain ⟨l⟩ := cs
  have hf : DataW.trod enc Tryd.prog W 0 (fun _ => true) true fuel 32 l = some (d, p) := hf
  obtain ⟨xs, n, rfl, -, hcl, hxl, hg⟩ := DataW.trod_struct Tryd.underlying32 hf
  have ez : Tryd.prog.cellsOf 32 = 4 := by kernel_rfl
  rw [ez] at hcl
  match l, hcl with
  | [c0, c1, c2, c3], _ =>
    have h0 : DataW.trod enc Tryd.prog W 0 (fun _ => true) true n 3 (([c0, c1, c2, c3].drop 0).take (Tryd.prog.cellsOf 3)) = xs[0]? := hg 0 _ rfl
    have h1 : DataW.trod enc Tryd.prog W 0 (fun _ => true) true n 3 (([c0, c1, c2, c3].drop 1).take (Tryd.prog.cellsOf 3)) = xs[1]? := hg 1 _ rfl
    have h2 : DataW.trod enc Tryd.prog W 0 (fun _ => true) true n 3 (([c0, c1, c2, c3].drop 2).take (Tryd.prog.cellsOf 3)) = xs[2]? := hg 2 _ rfl
    have h3 : DataW.trod enc Tryd.prog W 0 (fun _ => true) true n 9 (([c0, c1, c2, c3].drop 3).take (Tryd.prog.cellsOf 9)) = xs[3]? := hg 3 _ rfl
    rw [show Tryd.prog.cellsOf 3 = 1 by kernel_rfl] at h0 h1 h2
    rw [show Tryd.prog.cellsOf 9 = 1 by kernel_rfl] at h3
    have h0 : DataW.trod enc Tryd.prog W 0 (fun _ => true) true n 3 [c0] = xs[0]? := h0
    have h1 : DataW.trod enc Tryd.prog W 0 (fun _ => true) true n 3 [c1] = xs[1]? := h1
    have h2 : DataW.trod enc Tryd.prog W 0 (fun _ => true) true n 3 [c2] = xs[2]? := h2
    have h3 : DataW.trod enc Tryd.prog W 0 (fun _ => true) true n 9 [c3] = xs[3]? := h3
    have l4 : xs.length = 4 := hxl
    rw [List.getElem?_eq_getElem (by omega)] at h0 h1 h2 h3
    obtain ⟨id, rfl, -⟩ := int_cell Tryd.underlying3 h0
    obtain ⟨ix, rfl, -⟩ := int_cell Tryd.underlying3 h1
    obtain ⟨ct, rfl, -⟩ := int_cell Tryd.underlying3 h2
    obtain ⟨s, rfl, hs⟩ := str_cell (show Tryd.prog.underlying 9 = some .string by kernel_rfl) h3
    exact ⟨id, ix, ct, s, rfl, by unfold maxLen at hs; omega⟩
end
end Go.Proofs.YtcjaaijohapeaaaDoor

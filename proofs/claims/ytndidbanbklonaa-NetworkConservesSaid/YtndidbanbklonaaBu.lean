import Derived.Test.YtndidbanbklonaaBt
/-
  The laws' sending of a script. No conditions beyond those that each names.
-/
namespace Go.Proofs.Ytndidbanbklonaa
open Go.RowKit Go.Sort Go.Lib Go.Shelf
/-- What sending the first i operations comes to: the network, and what was sent. -/
def sr (q : Nat → Opn) (S : Ns) : Nat → Ns × List Ar
  | 0 => (S, [])
  | i + 1 => if sndE (sr q S i).1 (q i).at_ (q i).fr (q i).to_ (q i).dat.size = 0 then (sndS (sr q S i).1 (q i).at_ (q i).fr (q i).to_ (q i).dat, (sr q S i).2 ++ [⟨(q i).at_, (q i).fr, (q i).to_, (sr q S i).1.sent + 1, (q i).dat⟩]) else sr q S i
theorem sr_sent (q : Nat → Opn) (S : Ns) (h : S.sent = 0) : ∀ i, (sr q S i).1.sent = (sr q S i).2.length ∧ (sr q S i).2.length ≤ i
  | 0 => ⟨h, Nat.le_refl _⟩
  | i + 1 => by
    obtain ⟨h1, h2⟩ := sr_sent q S h i
    unfold sr
    split
    · refine ⟨?_, ?_⟩
      · show (sr q S i).1.sent + 1 = _
        rw [List.length_append, h1]; rfl
      · rw [List.length_append]; show _ + 1 ≤ i + 1; omega
    · exact ⟨h1, by omega⟩
/-- How the script's loop stands. -/
structure SeI (c m : Nat) (V : Int → Value) (tv fv : Value) (q : Nat → Opn) (S : Ns) (w : World) (i : Nat) (x : Value) (V' : Int → Value) (tv' : Value) (wr : World) : Prop where
  ow : OwA w.heap.size wr x (sr q S i).2
  nw : Nw c wr m V' tv' fv (sr q S i).1
  fp : FpN w (Fp c m V tv) (Fp c m V' tv')
  fm : Fm (Fp c m V tv) w wr
  ap : ∀ g, x.ownBlock = some g → ¬ Fp c m V' tv' g ∧ fv.ownBlock ≠ some g
/-- What sending a script leaves. -/
def SentP (c m : Nat) (V : Int → Value) (tv fv : Value) (q : Nat → Opn) (S : Ns) (N : Nat) (w : World) (e : Ending) (w' : World) : Prop := ∃ x V' tv', e = .returned (.tuple #[x, .bool true]) ∧ SeI c m V tv fv q S w N x V' tv' w'
theorem SeI.next {c m : Nat} {V : Int → Value} {tv fv : Value} {q : Nat → Opn} {S : Ns} {w : World} {i : Nat} {x : Value} {V' : Int → Value} {tv' : Value} {wr w1 : World} (h : SeI c m V tv fv q S w i x V' tv' wr) (hb : Below wr.heap.size wr w1) : SeI c m V tv fv q S w i x V' tv' w1 :=
  ⟨own_next h.ow hb, h.nw.next hb, h.fp, h.fm.trans (Fm.of (Fp c m V tv) hb) fun _ _ e => e, h.ap⟩
/-- The network behind a sending. -/
theorem SeI.send {c m : Nat} {V : Int → Value} {tv fv : Value} {q : Nat → Opn} {S : Ns} {w : World} {i : Nat} {x : Value} {V' : Int → Value} {tv' : Value} {wr w1 : World} {S' : Ns} {r : Value} {e : Ending} (h : SeI c m V tv fv q S w i x V' tv' wr) (k : NwM c m V' tv' fv S' r wr e w1) : e = .returned r ∧ ∃ V2 tv2, OwA w.heap.size w1 x (sr q S i).2 ∧ Nw c w1 m V2 tv2 fv S' ∧ FpN w (Fp c m V tv) (Fp c m V2 tv2) ∧ Fm (Fp c m V tv) w w1 ∧ ∀ g, x.ownBlock = some g → ¬ Fp c m V2 tv2 g ∧ fv.ownBlock ≠ some g := by
  obtain ⟨rfl, V2, tv2, k1, k2, k3⟩ := k
  refine ⟨rfl, V2, tv2, h.ow.blk fun g e => k3.blk g (h.ow.lt g e).2 (h.ap g e).1, k1, h.fp.trans h.fm.size k2, h.fm.trans k3 fun i hi e => (h.fp i e).resolve_right (by omega), fun g e => ⟨fun hg => ?_, (h.ap g e).2⟩⟩
  rcases k2 g hg with hg | hg
  · exact (h.ap g e).1 hg
  · have := (h.ow.lt g e).2; omega
set_option maxRecDepth 100000 in
set_option maxHeartbeats 8000000 in
theorem sent_law (c : Nat) (w : World) (m : Nat) (V : Int → Value) (tv fv : Value) (S : Ns) (A : Option Addr) (n cap : Nat) (q : Nat → Opn) (hn : n ≤ 9223372036854775807) (hq : Ops w A n q) (hA : 0 < n → ∀ g, (Value.slice A n cap).ownBlock = some g → ¬ Fp c m V tv g) (h : Nw c w m V tv fv S) (h0 : S.sent = 0) :
    Calls Try.prog 10 #[(.pointer (some ⟨c, 0, none⟩)), .slice A n cap] w (SentP c m V tv fv q S (min n 200) w) := by
  obtain ⟨N, hN⟩ : ∃ N, min n 200 = N := ⟨_, rfl⟩
  rw [hN]
  have hN1 : N ≤ n := by omega
  have hN2 : N ≤ 200 := by omega
  have H := Lib.hid h
  have H0 := Lib.hid h0
  have HQ := Lib.hid hq
  have HA := Lib.hid hA
  have HST : Hid (SeI c m V tv fv q S w 0 (.slice none 0 0) V tv w) := Lib.hid ⟨World.ownsRow_nil _ _ _ _, h, FpN.refl _ _, Fm.refl _ _, fun g e => by cases e⟩
  obtain ⟨i0, hi0, hz, hs5, hby⟩ := info_parts infoA
  clear h h0 hq hA
  go_enter Try.func10, Try.ntmps10
  go_wp2_with fail
  go_loopg [6, 7] N (fun kx s6 s7 wr => ∃ (Ax : Option Addr) (nx dx : Nat) (i : Nat) (V' : Int → Value) (tv' : Value), s6 = .slice Ax nx dx ∧ s7 = .int .i64 (i : Int) ∧ i ≤ N ∧ N - i ≤ kx ∧ Hid (SeI c m V tv fv q S w i (.slice Ax nx dx) V' tv' wr))
  case atStart => exact ⟨none, 0, 0, 0, V, tv, rfl, rfl, Nat.zero_le _, Nat.le_refl _, HST⟩
  case round =>
    obtain ⟨Ax, nx, dx, i, V', tv', rfl, rfl, hiN, hkx, I⟩ := hrel
    by_cases hi : i < N
    · have d1 : decide (i < n) = true := decide_eq_true (by omega)
      have d2 : decide ((i : Int) < 200) = true := decide_eq_true (by omega)
      have d2n : decide (i < 200) = true := decide_eq_true (by omega)
      have hin : i < n := by omega
      obtain ⟨ab, ao, rfl, hab, hcl⟩ : ∃ ab ao : Nat, A = some ⟨ab, ao, none⟩ ∧ ab < w.heap.size ∧ _ := by
        rcases HQ.out with h | h
        · omega
        · exact h
      have hbk : wr.heap[ab]? = w.heap[ab]? := I.out.fm.blk ab hab (HA.out (by omega) ab rfl)
      have hc0 := hcl i hin
      obtain ⟨o, ho⟩ : ∃ o, q i = o := ⟨_, rfl⟩
      have HO := Lib.hid ho
      rw [ho] at hc0
      obtain ⟨q0, q1, q2, q3, q4, hsz, -, -⟩ := hc0
      have cb := fun j v (hv : w.cell? ⟨ab, j, none⟩ = some v) => (World.cell?_of_block (w := w) (w' := wr) (a := ⟨ab, j, none⟩) hbk).trans hv
      have q0 := cb _ _ q0
      have q1 := cb _ _ q1
      have q2 := cb _ _ q2
      have q3 := cb _ _ q3
      have q4 := cb _ _ q4
      have ql : ab < wr.heap.size := blk_lt q0
      have HSZ := Lib.hid hsz
      clear hbk ho hsz cb hcl hab
      have B1 := Bx.new5 wr 48 (.int .u8 o.k) (.int .i64 o.at_) (.int .i64 o.fr) (.int .i64 o.to_) (.string o.dat)
      have hb1 := ab1 wr (Obj.cells #[.int .u8 o.k, .int .i64 o.at_, .int .i64 o.fr, .int .i64 o.to_, .string o.dat] 48)
      go_upto_region 6 with (fail)
      generalize wr.alloc (Obj.cells #[.int .u8 o.k, .int .i64 o.at_, .int .i64 o.fr, .int .i64 o.to_, .string o.dat] 48) = w1 at *
      obtain ⟨vb, hvb⟩ : ∃ vb, wr.heap.size = vb := ⟨_, rfl⟩
      have HI1 := Lib.hid (I.out.next hb1)
      have hvl : vb < w1.heap.size := by rw [← hvb]; exact B1.lt
      have hvb2 : vb = wr.heap.size := hvb.symm
      have HVB := Lib.hid hvb2
      rw [hvb] at B1 ⊢
      clear hvb q0 q1 q2 q3 q4 ql hb1 hvb2
      have b0 := B1.c 0 rfl
      have b1 := B1.c 1 rfl
      have b2 := B1.c 2 rfl
      have b3 := B1.c 3 rfl
      have b4 := B1.c 4 rfl
      have hss := sr_sent q S H0.out i
      have hnx : (sr q S i).2.length = nx := by obtain ⟨A0, c0, e, -⟩ := own_nil_or I.out.ow; injection e with _ e _; exact e.symm
      have hvf : ¬ Fp c m V' tv' vb := fun e => by have := I.out.nw.sb.fp_lt vb e; have := HVB.out; omega
      obtain ⟨Si, hSi⟩ : ∃ Si, (sr q S i).1 = Si := ⟨_, rfl⟩
      have HSI := Lib.hid hSi
      have hN1 := HI1.out.nw
      rw [hSi] at hN1
      have cS := send_any c w1 m V' tv' fv Si o.at_ o.fr o.to_ o.dat HSZ.out hN1 (by rw [← hSi, hss.1]; omega)
      have HSS : Hid (Si.sent = nx) := Lib.hid (by rw [← hSi, hss.1, hnx])
      have hnx2 : nx ≤ 200 := by rw [← hnx]; omega
      have HNX := Lib.hid hnx
      have hi1 : i + 1 ≤ N := by omega
      by_cases he : sndE Si o.at_ o.fr o.to_ o.dat.size = 0
      · rw [if_pos he, if_pos he] at cS
        have HSR : Hid (sr q S (i + 1) = (sndS Si o.at_ o.fr o.to_ o.dat, (sr q S i).2 ++ [⟨o.at_, o.fr, o.to_, Si.sent + 1, o.dat⟩])) := Lib.hid (by
          rw [sr, hSi, HO.out, if_pos he])
        have HC : Hid (∀ e w2, NwM c m V' tv' fv (sndS Si o.at_ o.fr o.to_ o.dat) (.tuple #[.int .i64 ((Si.sent : Int) + 1), .int .i64 0]) w1 e w2 → e = .returned (.tuple #[.int .i64 ((nx : Int) + 1), .int .i64 0]) ∧ Bx w2 vb [.int .u8 o.k, .int .i64 o.at_, .int .i64 o.fr, .int .i64 o.to_, .string o.dat] ∧ ∃ A' d' w4, (Builtin.append_ #[28, 28] 28 #[.slice Ax nx dx, .slice (some ⟨w2.heap.size, 0, none⟩) 1 1]).run Try.prog (w2.alloc (Obj.cells #[.int .i64 o.at_, .int .i64 o.fr, .int .i64 o.to_, .int .i64 ((nx : Int) + 1), .string o.dat] 34)) = .ok (.slice A' (nx + 1) d') w4 ∧ ∃ V2 tv2, Hid (SeI c m V tv fv q S w (i + 1) (.slice A' (nx + 1) d') V2 tv2 w4)) := Lib.hid fun e w2 k => by
          have k3 := k.2
          obtain ⟨rfl, V2, tv2, a1, a2, a3, a4, a5⟩ := HI1.out.send k
          obtain ⟨-, -, -, -, kf⟩ := k3
          have hab2 := ab1 w2 (Obj.cells #[.int .i64 o.at_, .int .i64 o.fr, .int .i64 o.to_, .int .i64 ((nx : Int) + 1), .string o.dat] 34)
          have ho2 := own_next a1 hab2
          refine ⟨by rw [HSS.out], ⟨Nat.lt_of_lt_of_le B1.lt kf.size, fun j v e => ?_⟩, ?_⟩
          · have hbv : w2.heap[vb]? = w1.heap[vb]? := kf.blk vb B1.lt hvf
            exact ⟨(World.cell?_of_block (a := ⟨vb, j, none⟩) hbv).trans (B1.c j e), (World.frozen?_of_block (a := ⟨vb, j, none⟩) hbv).trans (B1.f j e)⟩
          · unfold OwA at ho2
            rw [HNX.out] at ho2
            obtain ⟨v', w4, e1, e2, e3, -, e5⟩ := run_append_own_at (P := Try.prog) (w2.alloc (Obj.cells #[.int .i64 o.at_, .int .i64 o.fr, .int .i64 o.to_, .int .i64 ((nx : Int) + 1), .string o.dat] 34)) w.heap.size 28 28 34 i0 _ 5 48 Try.underlying28 hi0 hz hs5 hby rfl (by omega) (.slice Ax nx dx) nx (tc e5 (sr q S i).2) ho2 ⟨w2.heap.size, 0, none⟩ 1 1 (e5 ⟨o.at_, o.fr, o.to_, nx + 1, o.dat⟩) rfl
              (fun j u hj => by rw [Addr.add_lit, cell_lit (heap_newI w2 _), Nat.zero_add, List.getElem?_toArray]; exact hj) (e5_one _) (by unfold maxLen; omega) (by omega) (Nat.le_trans a4.size hab2.size)
            obtain ⟨A', d', rfl⟩ : ∃ A' d', v' = .slice A' (nx + 1) d' := by
              obtain ⟨-, ⟨h, h2⟩ | ⟨g', cap', cur', h, -⟩⟩ := e2
              · omega
              · exact ⟨_, _, h⟩
            have hlow : ∀ g, (Value.slice Ax nx dx).ownBlock = some g → w.heap.size ≤ g ∧ g < w2.heap.size := fun g e => a1.lt g e
            have hfm4 : Fm (Fp c m V tv) w w4 := (a4.trans (Fm.of (Fp c m V tv) hab2) fun _ _ e => e).trans (t := fun j => (Value.slice Ax nx dx).ownBlock = some j) (Fm.gb e3 fun j e => e) fun j hj e => by have := (hlow j e).1; omega
            refine ⟨A', d', w4, e1, V2, tv2, Lib.hid ⟨?_, ?_, a3, hfm4, fun g e => ?_⟩⟩
            · rw [HSR.out]
              unfold OwA
              rw [tc_app, tc_one, List.length_append, HNX.out, HSS.out]
              exact e2
            · rw [HSR.out]
              exact (a2.next hab2).blk e3.size fun j hj => e3.block j ((a2.next hab2).bl_lt j hj) fun e => by
                rcases hj with hj | hj
                · exact (a5 j e.symm).1 hj
                · exact (a5 j e.symm).2 hj
            · rcases e5 with e5 | e5
              · rw [e5] at e; exact a5 g e
              · rw [e5] at e
                injection e with e
                have hsz2 := hab2.size
                exact ⟨fun hg => by have := a2.bl_lt g (.inl hg); omega, fun hg => by have := a2.bl_lt g (.inr hg); omega⟩
        clear he hss hSi hN1 hnx hvf
        have hkk : ((nx : Int) + 1 != (nx : Int) + 1) = false := by simp
        go_wp2_with (first | (refine cS.mono ?_; intro e w2 k; obtain ⟨rfl, B2, A', d', w4, hap, V2, tv2, HL⟩ := HC.out e w2 k; clear k; have p0 := B2.c 0 rfl; have p1 := B2.c 1 rfl; have p2 := B2.c 2 rfl; have p3 := B2.c 3 rfl; have p4 := B2.c 4 rfl; have p5 := B2.lt) | (at_builtin; refine Lib.wpList_append_run _ rfl _ _ _ _ rfl _ _ rfl rfl _ _ hap ?_))
        go_roundg (N - (i + 1))
        case measure => omega
        case rel => exact ⟨A', nx + 1, d', i + 1, V2, tv2, rfl, rfl, hi1, Nat.le_refl _, HL⟩
      · rw [if_neg he, if_neg he] at cS
        have HSR : Hid (sr q S (i + 1) = sr q S i) := Lib.hid (by rw [sr, hSi, HO.out, if_neg he])
        have hz2 : (sndE Si o.at_ o.fr o.to_ o.dat.size != 0) = true := bne_iff_ne.2 he
        have HC : Hid (∀ e w2, NwM c m V' tv' fv Si (.tuple #[.int .i64 0, .int .i64 (sndE Si o.at_ o.fr o.to_ o.dat.size)]) w1 e w2 → e = .returned (.tuple #[.int .i64 0, .int .i64 (sndE Si o.at_ o.fr o.to_ o.dat.size)]) ∧ ∃ V2 tv2, Hid (SeI c m V tv fv q S w (i + 1) (.slice Ax nx dx) V2 tv2 w2)) := Lib.hid fun e w2 k => by
          obtain ⟨rfl, V2, tv2, a1, a2, a3, a4, a5⟩ := HI1.out.send k
          refine ⟨rfl, V2, tv2, Lib.hid ⟨?_, ?_, a3, a4, a5⟩⟩
          · rw [HSR.out]; exact a1
          · rw [HSR.out, HSI.out]; exact a2
        generalize sndE Si o.at_ o.fr o.to_ o.dat.size = E at *
        clear he hss hSi hN1 hnx hvf
        go_wp2_with (refine cS.mono ?_; intro e w2 k; obtain ⟨rfl, V2, tv2, HL⟩ := HC.out e w2 k; clear k)
        go_roundg (N - (i + 1))
        case measure => omega
        case rel => exact ⟨Ax, nx, dx, i + 1, V2, tv2, rfl, rfl, hi1, Nat.le_refl _, HL⟩
    · obtain rfl : i = N := by omega
      by_cases hin : i < n
      · have d1 : decide (i < n) = true := decide_eq_true hin
        have d2 : decide ((i : Int) < 200) = false := decide_eq_false (by omega)
        have d2n : decide (i < 200) = false := decide_eq_false (by omega)
        clear hi hin
        go_wp2_with fail
        go_ret2
        exact ⟨_, V', tv', rfl, I.out⟩
      · have d1 : decide (i < n) = false := decide_eq_false hin
        clear hi hin
        go_wp2_with fail
        go_ret2
        exact ⟨_, V', tv', rfl, I.out⟩
end Go.Proofs.Ytndidbanbklonaa

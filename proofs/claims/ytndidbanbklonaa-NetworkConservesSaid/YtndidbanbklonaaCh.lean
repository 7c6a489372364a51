import Derived.Test.YtndidbanbklonaaCg
/-
  The law of conservation. No conditions beyond those that each names.
-/
namespace Go.Proofs.Ytndidbanbklonaa
open Go.RowKit Go.Sort Go.Lib Go.Shelf
set_option maxRecDepth 100000 in
set_option maxHeartbeats 8000000 in
theorem conserves_law (nd lt : Int) (A : Option Addr) (cf : Nat) (l : List Ft) (A2 : Option Addr) (n2 c2 : Nat) (q : Nat → Opn) (w : World) (hl9 : l.length ≤ 9223372036854775807) (hF : FtS w A l) (hn2 : n2 ≤ 9223372036854775807) (hO : Ops w A2 n2 q) (_ : -9223372036854775808 ≤ lt ∧ lt ≤ 9223372036854775807) :
    Calls Try.prog 6 #[.agg #[.int .i64 nd, .int .i64 lt, .slice A l.length cf, .slice A2 n2 c2]] w (Ib (.bool true) w) := by
  obtain ⟨nf, hnf⟩ : ∃ nf, l.length = nf := ⟨_, rfl⟩
  rw [hnf] at hl9 ⊢
  have hab0 := ab1 w (Obj.cells #[.int .i64 nd, .int .i64 lt, .slice A nf cf, .slice A2 n2 c2] 38)
  have B0 := Bx.newL w 38 [.int .i64 nd, .int .i64 lt, .slice A nf cf, .slice A2 n2 c2]
  have hF0 := hF.next hab0
  have cN : Calls Try.prog 8 #[.int .i64 nd, .int .i64 lt, .slice A nf cf] (w.alloc (Obj.cells #[.int .i64 nd, .int .i64 lt, .slice A nf cf, .slice A2 n2 c2] 38)) (NwP nd lt l (w.alloc (Obj.cells #[.int .i64 nd, .int .i64 lt, .slice A nf cf, .slice A2 n2 c2] 38))) := new_any nd lt A cf nf l (w.alloc (Obj.cells #[.int .i64 nd, .int .i64 lt, .slice A nf cf, .slice A2 n2 c2] 38)) hnf hl9 hF0
  have hO0 := hO.next hab0
  have HBX : Hid (∀ W, Below (w.alloc (Obj.cells #[.int .i64 nd, .int .i64 lt, .slice A nf cf, .slice A2 n2 c2] 38)).heap.size (w.alloc (Obj.cells #[.int .i64 nd, .int .i64 lt, .slice A nf cf, .slice A2 n2 c2] 38)) W → W.cell? ⟨w.heap.size, 0, none⟩ = some (.int .i64 nd) ∧ W.cell? ⟨w.heap.size, 1, none⟩ = some (.int .i64 lt) ∧ W.cell? ⟨w.heap.size, 2, none⟩ = some (.slice A nf cf) ∧ W.cell? ⟨w.heap.size, 3, none⟩ = some (.slice A2 n2 c2) ∧ w.heap.size < W.heap.size) := Lib.hid fun W hb => by
    have h := Bx.next B0 hb
    exact ⟨h.c 0 rfl, h.c 1 rfl, h.c 2 rfl, h.c 3 rfl, h.lt⟩
  have hap : ∀ i, (w.alloc (Obj.cells #[.int .i64 nd, .int .i64 lt, .slice A nf cf, .slice A2 n2 c2] 38)).heap.size ≤ i → w.heap.size ≤ i := fun i hi => Nat.le_trans hab0.size hi
  have HO := Lib.hid hO
  have HAB := Lib.hid hab0
  have HFT := Lib.hid hF0
  have HNF := Lib.hid hnf
  clear hF hO B0 hl9 hF0
  go_enter Try.func6, Try.ntmps6
  go_upto_region 1 with (fail)
  generalize (w.alloc (Obj.cells #[.int .i64 nd, .int .i64 lt, .slice A nf cf, .slice A2 n2 c2] 38)) = w0 at *
  generalize hwb : w.heap.size = bx at HBX hap ⊢
  have HWB := Lib.hid hwb
  clear hwb
  obtain ⟨b0, b1, b2, b3, bl⟩ := HBX.out w0 (Below.refl _ _)
  by_cases he : nwE nd lt l = 0
  · have hG : 0 ≤ lt ∧ lt ≤ 1099511627776 ∧ l.length ≤ 64 ∧ ∀ y ∈ l, 0 ≤ y.x ∧ y.x ≤ 1099511627776 := by
      unfold nwE at he
      split at he
      · rename_i h
        split at he
        · cases he
        · have h2 := of_decide_eq_true h.2
          exact ⟨h2.1, h2.2, by omega, fun y hy => (ckL_ok he y hy).2.2.2.2.2.2.1⟩
      · cases he
    have HG := Lib.hid hG
    have hn64 : nf ≤ 64 := by have := hG.2.2.1; omega
    have cN1 : Calls Try.prog 8 #[.int .i64 nd, .int .i64 lt, .slice A nf cf] w0 (fun e w1 => ∃ c1 m1 f1, e = .returned (.tuple #[(.pointer (some ⟨c1, 0, none⟩)), .int .i64 0]) ∧ Hid (Below w0.heap.size w0 w1 ∧ Nw c1 w1 m1 (fun _ => .slice none 0 0) (.slice none 0 0) f1 (Ns.new nd lt l) ∧ ∀ i, Fp c1 m1 (fun _ => .slice none 0 0) (.slice none 0 0) i ∨ f1.ownBlock = some i → w0.heap.size ≤ i)) := by
      refine cN.mono ?_
      rintro e w1 ⟨hb, ⟨h, -⟩ | ⟨-, c, m, fv, rfl, k1, k2⟩⟩
      · exact absurd he h
      · exact ⟨c, m, fv, rfl, Lib.hid ⟨hb, k1, k2⟩⟩
    have HS : Hid (∀ c1 m1 f1 w1 W, Hid (Below w0.heap.size w0 w1 ∧ Nw c1 w1 m1 (fun _ => .slice none 0 0) (.slice none 0 0) f1 (Ns.new nd lt l) ∧ ∀ i, Fp c1 m1 (fun _ => .slice none 0 0) (.slice none 0 0) i ∨ f1.ownBlock = some i → w0.heap.size ≤ i) → Below w1.heap.size w1 W → Calls Try.prog 10 #[(.pointer (some ⟨c1, 0, none⟩)), .slice A2 n2 c2] W (fun e w2 => ∃ Ax nx dx, e = .returned (.tuple #[.slice Ax nx dx, .bool true]) ∧ nx ≤ 200 ∧ bx < w2.heap.size ∧ w2.cell? ⟨bx, 1, none⟩ = some (.int .i64 lt) ∧ Calls Try.prog 11 #[(.pointer (some ⟨c1, 0, none⟩)), .int .i64 1152921504606846976] w2 (fun e w3 => ∃ Ay ny dy L, e = .returned (.slice Ay ny dy) ∧ ny ≤ (1 + dp l) * nx ∧ Hid (CvB w0 w3 (.slice Ax nx dx) (.slice Ay ny dy) l lt L (sr q (Ns.new nd lt l) (min n2 200)).2)))) := Lib.hid fun c1 m1 f1 w1 W K hW => by
      have hb1 := Below.next K.out.1 hW
      refine (sent_law c1 W m1 _ _ f1 _ A2 n2 c2 q hn2 (hO0.next hb1) (HO.out.apart fun i hi => by rw [HWB.out]; exact hap i (K.out.2.2 i (.inl hi))) (K.out.2.1.next hW) rfl).mono ?_
      rintro e w2 ⟨x, V, t, rfl, k⟩
      obtain ⟨Ax, dx, rfl, -⟩ := own_nil_or k.ow
      have hlen := (sr_sent q (Ns.new nd lt l) rfl (min n2 200)).2
      have hb2 : Below w0.heap.size w0 w2 := ((Fm.of (fun i => w0.heap.size ≤ i) hb1).trans k.fm fun i _ e => K.out.2.2 i (.inl e)).below (Nat.le_refl _) fun _ e => e
      obtain ⟨-, d1, -, -, dl⟩ := HBX.out w2 hb2
      refine ⟨Ax, _, dx, rfl, by omega, dl, d1, (receive_any c1 w2 m1 V t f1 _ 1152921504606846976 k.nw).mono ?_⟩
      intro e w3 r
      obtain ⟨y, L, rfl, hC⟩ := cv_end ⟨HG.out.1, HG.out.2.1⟩ HG.out.2.2.1 HG.out.2.2.2 hb1 K.out.2.2 k r
      obtain ⟨Ay, dy, rfl, -⟩ := own_nil_or hC.oy
      exact ⟨Ay, _, dy, L, rfl, hC.cv.len, Lib.hid hC⟩
    obtain ⟨hlt0, hlt1, -, -⟩ := hG
    clear cN he hO0 hap HG hnf
    go_wp2_with (go_at_call 8; refine cN1.mono ?_; rintro e w1 ⟨c1, m1, f1, rfl, K1⟩; obtain ⟨e0, e1, e2, e3, el⟩ := HBX.out w1 K1.out.1)
    clear cN1 b0 b1 b2 b3 bl e0 e1 e2 e3 el
    go_loopg [5, 6] nf (fun kx s5 s6 wr => ∃ (cp i : Nat), s5 = .int .i64 (cp : Int) ∧ s6 = .int .i64 (i : Int) ∧ i ≤ nf ∧ nf - i ≤ kx ∧ cp ≤ i + 1 ∧ Hid (Below w1.heap.size w1 wr ∧ cp = 1 + dp (l.take i)))
    case atStart => exact ⟨1, 0, rfl, rfl, Nat.zero_le _, Nat.le_refl _, Nat.le_refl _, Lib.hid ⟨Below.refl _ _, rfl⟩⟩
    case round =>
      obtain ⟨cp, i, rfl, rfl, hin, hkx, hcp, I⟩ := hrel
      obtain ⟨b0, b1, b2, b3, bl⟩ := HBX.out wr (Below.next K1.out.1 I.out.1)
      by_cases hi : i < nf
      · have di : decide (i < nf) = true := decide_eq_true hi
        have hi2 : i < l.length := by rw [HNF.out]; exact hi
        obtain ⟨gf, of, rfl, hgf, hcl⟩ : ∃ ab ao, A = some ⟨ab, ao, none⟩ ∧ ab < w0.heap.size ∧ ∀ j v, (tc e6 l)[j]? = some v → w0.cell? ⟨ab, ao + j, none⟩ = some v := by
          rcases HFT.out with h | h
          · rw [h] at hi2; cases hi2
          · exact h
        obtain ⟨y, hy⟩ : ∃ y, l[i]'hi2 = y := ⟨_, rfl⟩
        have hc := fun j v (hj : j < 6) hv => cell_next (Below.next K1.out.1 I.out.1) (hcl (i * 6 + j) v (by rw [tc_get e6_len l i j hi2 hj]; exact hv))
        rw [hy] at hc
        have q0 : wr.cell? ⟨gf, of + i * 6, none⟩ = some (.int .i64 y.k) := hc 0 _ (by decide) rfl
        have ql : gf < wr.heap.size := blk_lt q0
        have hi1 : i + 1 ≤ nf := by omega
        have hdp := dp_take i hi2
        rw [hy] at hdp
        by_cases hk : y.k = 3
        · rw [if_pos hk] at hdp
          have dk : (y.k == 3) = true := by rw [hk]; rfl
          have I2 : Hid (Below w1.heap.size w1 wr ∧ cp + 1 = 1 + dp (l.take (i + 1))) := Lib.hid ⟨I.out.1, by have := I.out.2; omega⟩
          clear hc hcl hy hi2 hgf hdp hk
          go_wp2_with fail
          go_roundg (nf - (i + 1))
          case measure => omega
          case rel => exact ⟨cp + 1, i + 1, rfl, rfl, hi1, Nat.le_refl _, by omega, I2⟩
        · rw [if_neg hk] at hdp
          have dk : (y.k == 3) = false := beq_eq_false_iff_ne.2 hk
          have I2 : Hid (Below w1.heap.size w1 wr ∧ cp = 1 + dp (l.take (i + 1))) := Lib.hid ⟨I.out.1, by have := I.out.2; omega⟩
          clear hc hcl hy hi2 hgf hdp hk
          go_wp2_with fail
          go_roundg (nf - (i + 1))
          case measure => omega
          case rel => exact ⟨cp, i + 1, rfl, rfl, hi1, Nat.le_refl _, by omega, I2⟩
      · obtain rfl : i = nf := by omega
        have di : decide (i < i) = false := decide_eq_false hi
        have HCP : Hid (cp = 1 + dp l) := Lib.hid (by have := I.out.2; rw [← HNF.out, List.take_length] at this; exact this)
        have cS := HS.out c1 m1 f1 w1 wr K1 I.out.1
        have hcp64 : cp ≤ 65 := by omega
        rw [← HCP.out] at cS
        obtain ⟨sl, hsl⟩ : ∃ sl, (sr q (Ns.new nd lt l) (min n2 200)).2 = sl := ⟨_, rfl⟩
        rw [hsl] at cS
        clear hi HS hsl HFT
        go_wp2_with (first
          | (go_at_call 11; refine cR.mono ?_; rintro e w3 ⟨Ay, ny, dy, L, rfl, hny, HC⟩; have hmx : cp * nx ≤ 13000 := (Nat.le_trans (Nat.mul_le_mul hcp64 hnx) (by decide)); have hm1 : (0 : Int) ≤ (cp : Int) * (nx : Int) := (by rw [← Int.natCast_mul]; omega); have hm2 : (cp : Int) * (nx : Int) ≤ 13000 := (by rw [← Int.natCast_mul]; omega); have dm : decide ((cp : Int) * (nx : Int) < (ny : Int)) = false := decide_eq_false (by rw [← Int.natCast_mul]; omega); obtain ⟨W4, hmk, D4, hb4, hl4⟩ := make_ints w3 nx (by omega))
          | (go_at_call 10; refine cS.mono ?_; rintro e w2 ⟨Ax, nx, dx, rfl, hnx, k1, k2, cR⟩))
        have hsl : sl.length = nx := HC.out.ox.len
        have hLn : L.length = ny := HC.out.oy.len
        have HSL := Lib.hid hsl
        have HLN := Lib.hid hLn
        have HK : Hid (Kt w3 W4 w3.heap.size L 0 nx) := Lib.hid ⟨hb4, Nat.le_refl _, hl4, fun k hk => D4 k hk⟩
        obtain ⟨g, hg⟩ : ∃ g, w3.heap.size = g := ⟨_, rfl⟩
        rw [hg] at HK ⊢
        have hny2 : ny ≤ 13000 := Nat.le_trans hny hmx
        clear hmk D4 hb4 hl4 hg hsl hLn hny hmx hm1 hm2 dm cR cS k1 k2 b0 b1 b2 b3 bl
        go_loopg [11] ny (fun kx s11 wr => ∃ i : Nat, s11 = .int .i64 (i : Int) ∧ i ≤ ny ∧ ny - i ≤ kx ∧ Hid (Kt w3 wr g L i nx))
        case atStart => exact ⟨0, rfl, Nat.zero_le _, Nat.le_refl _, HK⟩
        case round =>
          obtain ⟨i, rfl, hin, hkx, I⟩ := hrel
          by_cases hi : i < ny
          · have di : decide (i < ny) = true := decide_eq_true hi
            have hi2 : i < L.length := by rw [HLN.out]; exact hi
            obtain ⟨j, hj, jn, jf, jt, jd, ja, jb, jc⟩ := HC.out.cv.at_ i hi2
            have hjx : j < nx := by have := HSL.out; omega
            have hjb := HC.out.bd _ (List.getElem_mem hj)
            have hone := HC.out.cv.one i j hi2 jn
            have HSTEP : Hid (∀ W, Below wr.heap.size wr W → Kt w3 (W.setCell ⟨g, j, none⟩ (.int .i64 ((((L.take i).countP (fun a => a.num == j + 1) : Nat) : Int) + 1))) g L (i + 1) nx) := Lib.hid fun W hb => Kt.step (I.out.next hb) hi2 hjx jn
            have ox := own_next HC.out.ox (Below.refl _ _)
            have oy := own_next HC.out.oy (Below.refl _ _)
            obtain ⟨gy, rfl, hgy⟩ := OwA.pos (B := 0) (l := sl) ox (by omega)
            obtain ⟨gx, rfl, hgx⟩ := OwA.pos (B := 0) (l := L) oy (by omega)
            have cx := fun k v hv => OwA.cell (B := 0) oy HLN.out i hi2 k v hv
            have cy := fun k v hv => OwA.cell (B := 0) ox HSL.out j hj k v hv
            have x0 := cx 0 _ rfl
            have x1 := cx 1 _ rfl
            have x2 := cx 2 _ rfl
            have x3 := cx 3 _ rfl
            have x4 := cx 4 _ rfl
            have y0 := cy 0 _ rfl
            have y1 := cy 1 _ rfl
            have y2 := cy 2 _ rfl
            have y4 := cy 4 _ rfl
            rw [← jf] at y1
            rw [← jt] at y2
            rw [← jd] at y4
            rw [jn] at x3
            have HLE : Hid (∀ p, i = p + 1 → ∃ z, w3.cell? ⟨gx, p * 5, none⟩ = some (.int .i64 z) ∧ z ≤ (L[i]'hi2).at_) := Lib.hid fun p e => by
              subst e
              exact ⟨_, OwA.cell (B := 0) oy HLN.out p (Nat.lt_of_succ_lt hi2) 0 _ rfl, HC.out.cv.le p hi2⟩
            obtain ⟨a, ha⟩ : ∃ a, L[i]'hi2 = a := ⟨_, rfl⟩
            rw [ha] at x0 x1 x2 x4 y1 y2 y4 ja jb jc HLE
            obtain ⟨tl, htl⟩ : ∃ tl, (sl[j]'hj).at_ = tl := ⟨_, rfl⟩
            rw [htl] at y0 ja hjb
            obtain ⟨hj0, hj1⟩ := hjb
            simp only [Nat.add_zero] at x0 y0
            obtain ⟨af, haf⟩ : ∃ af, a.fr = af := ⟨_, rfl⟩
            obtain ⟨at2, hat2⟩ : ∃ at2, a.to_ = at2 := ⟨_, rfl⟩
            obtain ⟨ad, had⟩ : ∃ ad, a.dat = ad := ⟨_, rfl⟩
            obtain ⟨aa, haa⟩ : ∃ aa, a.at_ = aa := ⟨_, rfl⟩
            rw [haf] at x1 y1
            rw [hat2] at x2 y2
            rw [had] at x4 y4
            rw [haa] at x0 ja jb jc HLE
            rw [Int.natCast_add] at x3
            have HW : Hid (∀ W, Below w3.heap.size w3 W → W.cell? ⟨gx, i * 5, none⟩ = some (.int .i64 aa) ∧ W.cell? ⟨gx, i * 5 + 1, none⟩ = some (.int .i64 af) ∧ W.cell? ⟨gx, i * 5 + 2, none⟩ = some (.int .i64 at2) ∧ W.cell? ⟨gx, i * 5 + 3, none⟩ = some (.int .i64 ((j : Int) + 1)) ∧ W.cell? ⟨gx, i * 5 + 4, none⟩ = some (.string ad) ∧ W.cell? ⟨gy, j * 5, none⟩ = some (.int .i64 tl) ∧ W.cell? ⟨gy, j * 5 + 1, none⟩ = some (.int .i64 af) ∧ W.cell? ⟨gy, j * 5 + 2, none⟩ = some (.int .i64 at2) ∧ W.cell? ⟨gy, j * 5 + 4, none⟩ = some (.string ad) ∧ gx < W.heap.size ∧ gy < W.heap.size) := Lib.hid fun W hb =>
              ⟨cell_next hb x0, cell_next hb x1, cell_next hb x2, cell_next hb x3, cell_next hb x4, cell_next hb y0, cell_next hb y1, cell_next hb y2, cell_next hb y4, Nat.lt_of_lt_of_le hgx hb.size, Nat.lt_of_lt_of_le hgy hb.size⟩
            obtain ⟨cn, hcn⟩ : ∃ cn, (L.take i).countP (fun a => a.num == j + 1) = cn := ⟨_, rfl⟩
            rw [hcn] at HSTEP hone
            obtain ⟨kc, kf⟩ := I.out.c j hjx
            rw [hcn] at kc
            have kl := I.out.lt
            have hcc : cn + 1 ≤ cp := by have := HCP.out; omega
            have hi1 : i + 1 ≤ ny := by omega
            have d1 : decide ((j : Int) < 0) = false := decide_eq_false (by omega)
            have d2 : decide ((nx : Int) ≤ (j : Int)) = false := decide_eq_false (by omega)
            have d2n : decide (nx ≤ j) = false := decide_eq_false (by omega)
            have d3 : decide (aa < tl + lt) = false := decide_eq_false (by omega)
            have d4 : decide ((cp : Int) < (cn : Int) + 1) = false := decide_eq_false (by omega)
            have d4n : decide (cp < cn + 1) = false := decide_eq_false (by omega)
            clear hcn ox oy cx cy ha haf hat2 had haa htl jf jt jd jn hi2 hj hone x0 x1 x2 x3 x4 y0 y1 y2 y4 hgx hgy
            obtain ⟨x0, x1, x2, x3, x4, y0, y1, y2, y4, gxl, gyl⟩ := HW.out wr I.out.bl
            by_cases h0 : 0 < i
            · obtain ⟨p, hp⟩ : ∃ p, i = p + 1 := ⟨i - 1, by omega⟩
              obtain ⟨z, hz, hza⟩ := HLE.out p hp
              have hpi : (i : Int) - 1 = (p : Int) := by omega
              have hpn : p < ny := by omega
              have z0 := cell_next I.out.bl hz
              have dz : decide (aa < z) = false := decide_eq_false (by omega)
              have d0 : decide ((0 : Int) < (i : Int)) = true := decide_eq_true (by omega)
              have d0n : decide (0 < i) = true := decide_eq_true h0
              clear hz hp hza
              go_upto_region 21 with (fail)
              go_quiet (fail)
              go_upto_region 24 with (fail)
              try clear z0
              have hbq := below_drewN (Below.refl wr.heap.size wr) nq
              have HK5 := Lib.hid (HSTEP.out (wr.drewN nq) hbq)
              have kc5 : ((wr.drewN nq).setCell ⟨g, j, none⟩ (.int .i64 ((cn : Int) + 1))).cell? ⟨g, j, none⟩ = some (.int .i64 ((cn : Int) + 1)) := World.cell?_setCell_same (h := cell_next hbq kc) ..
              clear x0 x1 x2 x3 x4 y0 y1 y2 y4 gxl gyl kc kf kl hbq HSTEP HLE
              generalize (wr.drewN nq).setCell ⟨g, j, none⟩ (.int .i64 ((cn : Int) + 1)) = w5 at *
              obtain ⟨x0, x1, x2, x3, x4, y0, y1, y2, y4, gxl, gyl⟩ := HW.out w5 HK5.out.bl
              obtain ⟨-, b1, -, -, bl⟩ := HBX.out w5 (Below.next HC.out.lo HK5.out.bl)
              have kl := HK5.out.lt
              go_quiet (fail)
              go_wp2_with fail
              go_roundg (ny - (i + 1))
              case measure => omega
              case rel => exact ⟨i + 1, rfl, hi1, Nat.le_refl _, Lib.hid (HK5.out.next (below_drewN (Below.refl _ _) _))⟩
            · have d0 : decide ((0 : Int) < (i : Int)) = false := decide_eq_false (by omega)
              have d0n : decide (0 < i) = false := decide_eq_false h0
              go_upto_region 21 with (fail)
              go_quiet (fail)
              go_upto_region 24 with (fail)
              have hbq := below_drewN (Below.refl wr.heap.size wr) nq
              have HK5 := Lib.hid (HSTEP.out (wr.drewN nq) hbq)
              have kc5 : ((wr.drewN nq).setCell ⟨g, j, none⟩ (.int .i64 ((cn : Int) + 1))).cell? ⟨g, j, none⟩ = some (.int .i64 ((cn : Int) + 1)) := World.cell?_setCell_same (h := cell_next hbq kc) ..
              clear x0 x1 x2 x3 x4 y0 y1 y2 y4 gxl gyl kc kf kl hbq HSTEP HLE
              generalize (wr.drewN nq).setCell ⟨g, j, none⟩ (.int .i64 ((cn : Int) + 1)) = w5 at *
              obtain ⟨x0, x1, x2, x3, x4, y0, y1, y2, y4, gxl, gyl⟩ := HW.out w5 HK5.out.bl
              obtain ⟨-, b1, -, -, bl⟩ := HBX.out w5 (Below.next HC.out.lo HK5.out.bl)
              have kl := HK5.out.lt
              go_quiet (fail)
              go_wp2_with fail
              go_roundg (ny - (i + 1))
              case measure => omega
              case rel => exact ⟨i + 1, rfl, hi1, Nat.le_refl _, Lib.hid (HK5.out.next (below_drewN (Below.refl _ _) _))⟩
          · obtain rfl : i = ny := by omega
            have di : decide (i < i) = false := decide_eq_false hi
            clear hi
            go_wp2_with (go_at_call 9; refine (awake_any _).mono ?_; rintro e w99 ⟨rfl, hb99⟩)
            go_ret
            exact ⟨rfl, Below.next HAB.out (Below.next (Below.next HC.out.lo I.out.bl) hb99)⟩
  · have hz : (nwE nd lt l != 0) = true := bne_iff_ne.2 he
    have hzz : (nwE nd lt l == nwE nd lt l) = true := by simp
    have cN1 : Calls Try.prog 8 #[.int .i64 nd, .int .i64 lt, .slice A nf cf] w0 (fun e w1 => e = .returned (.tuple #[.pointer none, .int .i64 (nwE nd lt l)]) ∧ Below w0.heap.size w0 w1) := by
      refine cN.mono ?_
      rintro e w1 ⟨hb, ⟨-, rfl⟩ | ⟨h, -⟩⟩
      · exact ⟨rfl, hb⟩
      · exact absurd h he
    generalize nwE nd lt l = E at *
    clear he cN hO0 hap
    go_wp2_with (first
      | (go_at_call 8; refine cN1.mono ?_; rintro e w1 ⟨rfl, HB1⟩; obtain ⟨e0, e1, e2, e3, el⟩ := HBX.out w1 HB1)
      | (go_at_call 9; refine (awake_any _).mono ?_; rintro e w99 ⟨rfl, hb99⟩))
    go_ret
    exact ⟨rfl, Below.next HAB.out (Below.next HB1 hb99)⟩
end Go.Proofs.Ytndidbanbklonaa

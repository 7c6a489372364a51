import Derived.Test.YtndidbanbklonaaCb
/-
  The law of stages. No conditions beyond those that each names.
-/
namespace Go.Proofs.Ytndidbanbklonaa
open Go.RowKit Go.Sort Go.Lib Go.Shelf
set_option maxRecDepth 100000 in
set_option maxHeartbeats 8000000 in
theorem stages_law (nd lt : Int) (A : Option Addr) (cf : Nat) (l : List Ft) (A2 : Option Addr) (n2 c2 : Nat) (q : Nat → Opn) (A3 : Option Addr) (n3 c3 : Nat) (qt : Nat → Int) (w : World) (hl9 : l.length ≤ 9223372036854775807) (hF : FtS w A l) (hn2 : n2 ≤ 9223372036854775807) (hO : Ops w A2 n2 q) (_ : -9223372036854775808 ≤ lt ∧ lt ≤ 9223372036854775807) (hn3 : n3 ≤ 9223372036854775807) (hT : Tms w A3 n3 qt) :
    Calls Try.prog 7 #[.agg #[.int .i64 nd, .int .i64 lt, .slice A l.length cf, .slice A2 n2 c2], .slice A3 n3 c3] w (Ib (.bool true) w) := by
  obtain ⟨nf, hnf⟩ : ∃ nf, l.length = nf := ⟨_, rfl⟩
  rw [hnf] at hl9 ⊢
  have hab0 := ab1 w (Obj.cells #[.int .i64 nd, .int .i64 lt, .slice A nf cf, .slice A2 n2 c2] 38)
  have B0 := Bx.newL w 38 [.int .i64 nd, .int .i64 lt, .slice A nf cf, .slice A2 n2 c2]
  have cN : ∀ W, Below (w.alloc (Obj.cells #[.int .i64 nd, .int .i64 lt, .slice A nf cf, .slice A2 n2 c2] 38)).heap.size (w.alloc (Obj.cells #[.int .i64 nd, .int .i64 lt, .slice A nf cf, .slice A2 n2 c2] 38)) W → Calls Try.prog 8 #[.int .i64 nd, .int .i64 lt, .slice A nf cf] W (NwP nd lt l W) := fun W hb => new_any nd lt A cf nf l W hnf hl9 ((hF.next hab0).next hb)
  have hO0 := hO.next hab0
  have HT0 : Hid (Tms (w.alloc (Obj.cells #[.int .i64 nd, .int .i64 lt, .slice A nf cf, .slice A2 n2 c2] 38)) A3 n3 qt) := Lib.hid (by
    rcases hT with h | ⟨ab, ao, e, h1, h2⟩
    · exact .inl h
    · exact .inr ⟨ab, ao, e, Nat.lt_of_lt_of_le h1 hab0.size, fun i hi => cell_next hab0 (h2 i hi)⟩)
  have HBX : Hid (∀ W, Below (w.alloc (Obj.cells #[.int .i64 nd, .int .i64 lt, .slice A nf cf, .slice A2 n2 c2] 38)).heap.size (w.alloc (Obj.cells #[.int .i64 nd, .int .i64 lt, .slice A nf cf, .slice A2 n2 c2] 38)) W → W.cell? ⟨w.heap.size, 0, none⟩ = some (.int .i64 nd) ∧ W.cell? ⟨w.heap.size, 1, none⟩ = some (.int .i64 lt) ∧ W.cell? ⟨w.heap.size, 2, none⟩ = some (.slice A nf cf) ∧ W.cell? ⟨w.heap.size, 3, none⟩ = some (.slice A2 n2 c2) ∧ w.heap.size < W.heap.size) := Lib.hid fun W hb => by
    have h := Bx.next B0 hb
    exact ⟨h.c 0 rfl, h.c 1 rfl, h.c 2 rfl, h.c 3 rfl, h.lt⟩
  have hap : ∀ i, (w.alloc (Obj.cells #[.int .i64 nd, .int .i64 lt, .slice A nf cf, .slice A2 n2 c2] 38)).heap.size ≤ i → w.heap.size ≤ i := fun i hi => Nat.le_trans hab0.size hi
  have HO := Lib.hid hO
  have HAB := Lib.hid hab0
  clear hF hT hO B0 hl9
  go_enter Try.func7, Try.ntmps7
  go_upto_region 1 with (fail)
  generalize w.alloc (Obj.cells #[.int .i64 nd, .int .i64 lt, .slice A nf cf, .slice A2 n2 c2] 38) = w0 at *
  generalize hwb : w.heap.size = bx at HBX hap ⊢
  have HWB := Lib.hid hwb
  clear hwb
  obtain ⟨b0, b1, b2, b3, bl⟩ := HBX.out w0 (Below.refl _ _)
  by_cases he : nwE nd lt l = 0
  · have cN1 : Calls Try.prog 8 #[.int .i64 nd, .int .i64 lt, .slice A nf cf] w0 (fun e w1 => ∃ c1 m1 f1, e = .returned (.tuple #[(.pointer (some ⟨c1, 0, none⟩)), .int .i64 0]) ∧ Hid (Below w0.heap.size w0 w1 ∧ Nw c1 w1 m1 (fun _ => .slice none 0 0) (.slice none 0 0) f1 (Ns.new nd lt l) ∧ ∀ i, Fp c1 m1 (fun _ => .slice none 0 0) (.slice none 0 0) i ∨ f1.ownBlock = some i → w0.heap.size ≤ i)) := by
      refine (cN w0 (Below.refl _ _)).mono ?_
      rintro e w1 ⟨hb, ⟨h, -⟩ | ⟨-, c, m, fv, rfl, k1, k2⟩⟩
      · exact absurd he h
      · exact ⟨c, m, fv, rfl, Lib.hid ⟨hb, k1, k2⟩⟩
    have HN2 : Hid (∀ c1 m1 f1 w1, Hid (Below w0.heap.size w0 w1 ∧ Nw c1 w1 m1 (fun _ => .slice none 0 0) (.slice none 0 0) f1 (Ns.new nd lt l) ∧ ∀ i, Fp c1 m1 (fun _ => .slice none 0 0) (.slice none 0 0) i ∨ f1.ownBlock = some i → w0.heap.size ≤ i) → Calls Try.prog 8 #[.int .i64 nd, .int .i64 lt, .slice A nf cf] w1 (fun e w2 => ∃ c2 m2 f2, e = .returned (.tuple #[(.pointer (some ⟨c2, 0, none⟩)), .int .i64 0]) ∧ Hid (Tw w0 w2 c1 m1 (fun _ => .slice none 0 0) (.slice none 0 0) f1 (Ns.new nd lt l) c2 m2 (fun _ => .slice none 0 0) (.slice none 0 0) f2 (Ns.new nd lt l)))) := Lib.hid fun c1 m1 f1 w1 K => by
      refine (cN w1 K.out.1).mono ?_
      rintro e w2 ⟨hb, ⟨h, -⟩ | ⟨-, c, m, fv, rfl, k1, k2⟩⟩
      · exact absurd he h
      · exact ⟨c, m, fv, rfl, Lib.hid ⟨K.out.2.1.next hb, k1, fun i hi hj => by have := K.out.2.1.bl_lt i hi; have := k2 i hj; omega, Below.next K.out.1 hb, fun i hi => K.out.2.2 i (.inl hi), fun i hi => Nat.le_trans K.out.1.size (k2 i (.inl hi))⟩⟩
    have HS1 : Hid (∀ c1 m1 f1 c2' m2 f2 w2, Hid (Tw w0 w2 c1 m1 (fun _ => .slice none 0 0) (.slice none 0 0) f1 (Ns.new nd lt l) c2' m2 (fun _ => .slice none 0 0) (.slice none 0 0) f2 (Ns.new nd lt l)) → Calls Try.prog 10 #[(.pointer (some ⟨c1, 0, none⟩)), .slice A2 n2 c2] w2 (fun e w3 => ∃ Ax nx dx V t, e = .returned (.tuple #[.slice Ax nx dx, .bool true]) ∧ Hid (Tw w0 w3 c1 m1 V t f1 (sr q (Ns.new nd lt l) (min n2 200)).1 c2' m2 (fun _ => .slice none 0 0) (.slice none 0 0) f2 (Ns.new nd lt l)))) := Lib.hid fun c1 m1 f1 c2' m2 f2 w2 K => by
      refine (sent_law c1 w2 m1 _ _ f1 _ A2 n2 c2 q hn2 (hO0.next K.out.bl) (HO.out.apart fun i hi => by rw [HWB.out]; exact hap i (K.out.l1 i hi)) K.out.n1 rfl).mono ?_
      rintro e w3 ⟨x, V, t, rfl, k⟩
      obtain ⟨Ax, dx, rfl, -⟩ := own_nil_or k.ow
      exact ⟨Ax, _, dx, V, t, rfl, Lib.hid (K.out.sent1 k)⟩
    have HS2 : Hid (∀ c1 m1 V1 t1 f1 c2' m2 f2 w3, Hid (Tw w0 w3 c1 m1 V1 t1 f1 (sr q (Ns.new nd lt l) (min n2 200)).1 c2' m2 (fun _ => .slice none 0 0) (.slice none 0 0) f2 (Ns.new nd lt l)) → Calls Try.prog 10 #[(.pointer (some ⟨c2', 0, none⟩)), .slice A2 n2 c2] w3 (fun e w4 => ∃ Ax nx dx V t, e = .returned (.tuple #[.slice Ax nx dx, .bool true]) ∧ Hid (Tw w0 w4 c1 m1 V1 t1 f1 (sr q (Ns.new nd lt l) (min n2 200)).1 c2' m2 V t f2 (sr q (Ns.new nd lt l) (min n2 200)).1))) := Lib.hid fun c1 m1 V1 t1 f1 c2' m2 f2 w3 K => by
      refine (sent_law c2' w3 m2 _ _ f2 _ A2 n2 c2 q hn2 (hO0.next K.out.bl) (HO.out.apart fun i hi => by rw [HWB.out]; exact hap i (K.out.l2 i hi)) K.out.n2 rfl).mono ?_
      rintro e w4 ⟨x, V, t, rfl, k⟩
      obtain ⟨Ax, dx, rfl, -⟩ := own_nil_or k.ow
      exact ⟨Ax, _, dx, V, t, rfl, Lib.hid (K.out.sent2 k)⟩
    have HG : Hid (0 ≤ lt ∧ lt ≤ 1099511627776 ∧ l.length ≤ 64 ∧ ∀ y ∈ l, 0 ≤ y.x ∧ y.x ≤ 1099511627776) := Lib.hid (by
      unfold nwE at he
      split at he
      · rename_i h
        split at he
        · cases he
        · have h2 := of_decide_eq_true h.2
          exact ⟨h2.1, h2.2, by omega, fun y hy => (ckL_ok he y hy).2.2.2.2.2.2.1⟩
      · cases he)
    clear cN he hO0 hap
    go_wp2_with (first
      | (go_at_call 8; refine (HN2.out c1 m1 f1 w1 K1).mono ?_; rintro e w2 ⟨c2', m2, f2, rfl, K2⟩; obtain ⟨d0, d1, d2, d3, dl⟩ := HBX.out w2 K2.out.bl)
      | (go_at_call 8; refine cN1.mono ?_; rintro e w1 ⟨c1, m1, f1, rfl, K1⟩; obtain ⟨e0, e1, e2, e3, el⟩ := HBX.out w1 K1.out.1)
      | (go_at_call 10; refine (HS2.out c1 m1 V1 t1 f1 c2' m2 f2 w3 K3).mono ?_; rintro e w4 ⟨Az, nz, dz, V2, t2, rfl, K4⟩; obtain ⟨h0, h1, h2, h3, hl⟩ := HBX.out w4 K4.out.bl)
      | (go_at_call 10; refine (HS1.out c1 m1 f1 c2' m2 f2 w2 K2).mono ?_; rintro e w3 ⟨Ay, ny, dy, V1, t1, rfl, K3⟩; obtain ⟨g0, g1, g2, g3, gl⟩ := HBX.out w3 K3.out.bl))
    obtain ⟨S1, hS1⟩ : ∃ S1, (sr q (Ns.new nd lt l) (min n2 200)).1 = S1 := ⟨_, rfl⟩
    have HPR : Hid (∀ a ∈ S1.q.fl, (-4611686018427387904 : Int) < a.at_) := Lib.hid fun a ha => by
      rw [← hS1] at ha
      have h0 : 0 ≤ (Ns.new nd lt l).rch ∧ (Ns.new nd lt l).rch ≤ 1099511627776 := ⟨Int.le_refl _, by show (0 : Int) ≤ _; omega⟩
      have hp := ((sr_perm q (Ns.new nd lt l) h0 Okq.nil rfl (min n2 200)).2.mem_iff).1 ha
      obtain ⟨j, hj, -, -, -, -, -, k, -⟩ := ars_mem q (Ns.new nd lt l) ⟨HG.out.1, HG.out.2.1⟩ HG.out.2.2.1 HG.out.2.2.2 rfl (min n2 200) a hp
      omega
    rw [hS1] at K4
    have HST : Hid (StL w0 w4 c1 m1 V1 t1 f1 S1 c2' m2 V2 t2 f2 S1 (.slice none 0 0) [] (-4611686018427387904)) := Lib.hid ⟨K4.out, World.ownsRow_nil _ _ _ _, fun g e => (by cases e), rfl, fun a h => (by cases h), HPR.out⟩
    clear hS1 K1 K2 K3 K4 HPR cN1 HN2 HS1 HS2 HG b0 b1 b2 b3 bl e0 e1 e2 e3 el d0 d1 d2 d3 dl g0 g1 g2 g3 gl h0 h1 h2 h3 hl hnf hab0
    obtain ⟨N, hN⟩ : ∃ N, min n3 50 = N := ⟨_, rfl⟩
    have hN1 : N ≤ n3 := by omega
    have hN2 : N ≤ 50 := by omega
    generalize (-4611686018427387904 : Int) = last0 at *
    go_loopg [13, 14, 15] N (fun kx s13 s14 s15 wr => ∃ (Ap : Option Addr) (np dp : Nat) (last : Int) (i : Nat) (V1' : Int → Value) (t1' : Value) (S1' : Ns) (lp : List Ar), s13 = .slice Ap np dp ∧ s14 = .int .i64 last ∧ s15 = .int .i64 (i : Int) ∧ i ≤ N ∧ N - i ≤ kx ∧ Hid (StL w0 wr c1 m1 V1' t1' f1 S1' c2' m2 V2 t2 f2 S1 (.slice Ap np dp) lp last))
    case atStart => exact ⟨none, 0, 0, last0, 0, V1, t1, S1, [], rfl, rfl, rfl, Nat.zero_le _, Nat.le_refl _, HST⟩
    case round =>
      obtain ⟨Ap, np, dp, last, i, V1', t1', S1', lp, rfl, rfl, rfl, hiN, hkx, I⟩ := hrel
      by_cases hi : i < N
      · have d1 : decide (i < n3) = true := decide_eq_true (by omega)
        have d2 : decide ((i : Int) < 50) = true := decide_eq_true (by omega)
        have d2n : decide (i < 50) = true := decide_eq_true (by omega)
        have hin : i < n3 := by omega
        obtain ⟨ab, ao, rfl, hab, hcl⟩ : ∃ ab ao : Nat, A3 = some ⟨ab, ao, none⟩ ∧ ab < w0.heap.size ∧ ∀ i, i < n3 → w0.cell? ⟨ab, ao + i, none⟩ = some (.int .i64 (qt i)) := by
          rcases HT0.out with h | h
          · omega
          · exact h
        have kt := cell_next I.out.tw.bl (hcl i hin)
        obtain ⟨t, ht⟩ : ∃ t, qt i = t := ⟨_, rfl⟩
        rw [ht] at kt
        have kl : ab < wr.heap.size := blk_lt kt
        have hi1 : i + 1 ≤ N := by omega
        have cR := receive_any c1 wr m1 V1' t1' f1 S1' (max last t) I.out.tw.n1
        have HC : Hid (∀ e w1, RcP c1 m1 V1' t1' f1 S1' (max last t) wr e w1 → ∃ Ay ny dy, e = .returned (.slice Ay ny dy) ∧ ∃ A' n' d' w2, (Builtin.append_ #[28, 28] 28 #[.slice Ap np dp, .slice Ay ny dy]).run Try.prog w1 = .ok (.slice A' n' d') w2 ∧ ∃ V' t' S' lp', Hid (StL w0 w2 c1 m1 V' t' f1 S' c2' m2 V2 t2 f2 S1 (.slice A' n' d') lp' (max last t))) := Lib.hid fun e w1 k => by
          obtain ⟨y, rfl, A', n', d', w2, V', t', S', lp', a1, a2⟩ := I.out.step k
          obtain ⟨Ay, ny, dy, rfl⟩ : ∃ Ay ny dy, y = .slice Ay ny dy := by
            obtain ⟨x, l, q, V', tv', e, r1, -⟩ := k
            injection e with e
            subst e
            obtain ⟨Ay, dy, rfl, -⟩ := own_nil_or r1
            exact ⟨_, _, _, rfl⟩
          exact ⟨Ay, ny, dy, rfl, A', n', d', w2, a1, V', t', S', lp', Lib.hid a2⟩
        clear ht hcl hab
        go_wp2_with (first | (go_at_call 11; refine cR.mono ?_; intro e w1 k; obtain ⟨Ay, ny, dy, rfl, A', n', d', w2, hap, V', t', S', lp', HL⟩ := HC.out e w1 k; clear k) | (at_builtin; refine Lib.wpList_append_run _ rfl _ _ _ _ rfl _ _ rfl rfl _ _ hap ?_))
        go_roundg (N - (i + 1))
        case measure => omega
        case rel => exact ⟨A', n', d', max last t, i + 1, V', t', S', lp', rfl, rfl, rfl, hi1, Nat.le_refl _, HL⟩
      · obtain rfl : i = N := by omega
        have cR := receive_any c2' wr m2 V2 t2 f2 S1 last I.out.tw.n2
        have hnp : lp.length = np := I.out.ow.len
        have HNP := Lib.hid hnp
        have HC : Hid (∀ e w1, RcP c2' m2 V2 t2 f2 S1 last wr e w1 → ∃ Ay dy, e = .returned (.slice Ay np dy) ∧ Hid (OwA 0 w1 (.slice Ap np dp) lp ∧ OwA 0 w1 (.slice Ay np dy) lp ∧ Below w0.heap.size w0 w1)) := Lib.hid fun e w1 k => by
          obtain ⟨y, rfl, a1, a2, a3⟩ := I.out.end_ k
          obtain ⟨Ay, dy, rfl, -⟩ := own_nil_or a2
          rw [HNP.out] at a2 ⊢
          exact ⟨Ay, dy, rfl, Lib.hid ⟨a1, a2, a3⟩⟩
        have hnp9 : np ≤ 1000000 := by
          have h1 := I.out.tw.n2.ok.qn
          rw [I.out.tw.n2.ok.oq.cnt, I.out.fl, List.length_append, hnp] at h1
          omega
        have hne : ((np : Int) != (np : Int)) = false := by simp
        have hne2 : (np != np) = false := by simp
        have HD : Hid ((decide (i < n3) = false) ∨ (decide (i < n3) = true ∧ decide ((i : Int) < 50) = false ∧ decide (i < 50) = false)) := Lib.hid (by
          by_cases h : i < n3
          · exact .inr ⟨decide_eq_true h, decide_eq_false (by omega), decide_eq_false (by omega)⟩
          · exact .inl (decide_eq_false h))
        clear hi hnp hN
        rcases HD.out with d1 | ⟨d1, d2, d2n⟩
        · go_wp2_with (go_at_call 11; refine cR.mono ?_; intro e w1 k; obtain ⟨Ay, dy, rfl, HL⟩ := HC.out e w1 k; clear k)
          have HLN : Hid (lp.length = np) := HNP
          clear HC cR I HNP HD
          go_loopg [17] np (fun kx s17 w5 => ∃ j : Nat, s17 = .int .i64 (j : Int) ∧ j ≤ np ∧ np - j ≤ kx ∧ Hid (Below w1.heap.size w1 w5))
          case atStart => exact ⟨0, rfl, Nat.zero_le _, Nat.le_refl _, Lib.hid (Below.refl _ _)⟩
          case round =>
            obtain ⟨j, rfl, hj, hkj, HB⟩ := hrel
            by_cases hjn : j < np
            · have di : decide (j < np) = true := decide_eq_true hjn
              have hi2 : j < lp.length := by rw [HLN.out]; exact hjn
              have ox := own_next HL.out.1 HB.out
              have oy := own_next HL.out.2.1 HB.out
              obtain ⟨gx, rfl, hgx⟩ := OwA.pos (B := 0) (l := lp) ox (by omega)
              obtain ⟨gy, rfl, hgy⟩ := OwA.pos (B := 0) (l := lp) oy (by omega)
              have cx := fun k v hv => OwA.cell (B := 0) ox HLN.out j hi2 k v hv
              have cy := fun k v hv => OwA.cell (B := 0) oy HLN.out j hi2 k v hv
              have x0 := cx 0 _ rfl
              have x1 := cx 1 _ rfl
              have x2 := cx 2 _ rfl
              have x3 := cx 3 _ rfl
              have x4 := cx 4 _ rfl
              have y0 := cy 0 _ rfl
              have y1 := cy 1 _ rfl
              have y2 := cy 2 _ rfl
              have y3 := cy 3 _ rfl
              have y4 := cy 4 _ rfl
              obtain ⟨a, ha⟩ : ∃ a, lp[j]'hi2 = a := ⟨_, rfl⟩
              rw [ha] at x0 x1 x2 x3 x4 y0 y1 y2 y3 y4
              simp only [Nat.add_zero] at x0 y0
              have hN := neqA a
              have hi1 : j + 1 ≤ np := by omega
              clear cx cy ha hi2 ox oy
              go_upto_region 22 with (fail)
              go_quiet (fail)
              go_wp2_with fail
              go_roundg (np - (j + 1))
              case measure => omega
              case rel => exact ⟨j + 1, rfl, hi1, Nat.le_refl _, Lib.hid (below_drewN HB.out _)⟩
            · have di : decide (j < np) = false := decide_eq_false hjn
              clear hjn
              go_wp2_with (go_at_call 9; refine (awake_any _).mono ?_; rintro e w99 ⟨rfl, hb99⟩)
              go_ret
              exact ⟨rfl, Below.next HAB.out (Below.next (Below.next HL.out.2.2 (HB.out.mono (Nat.le_refl _))) hb99)⟩
        · go_wp2_with (go_at_call 11; refine cR.mono ?_; intro e w1 k; obtain ⟨Ay, dy, rfl, HL⟩ := HC.out e w1 k; clear k)
          have HLN : Hid (lp.length = np) := HNP
          clear HC cR I HNP HD
          go_loopg [17] np (fun kx s17 w5 => ∃ j : Nat, s17 = .int .i64 (j : Int) ∧ j ≤ np ∧ np - j ≤ kx ∧ Hid (Below w1.heap.size w1 w5))
          case atStart => exact ⟨0, rfl, Nat.zero_le _, Nat.le_refl _, Lib.hid (Below.refl _ _)⟩
          case round =>
            obtain ⟨j, rfl, hj, hkj, HB⟩ := hrel
            by_cases hjn : j < np
            · have di : decide (j < np) = true := decide_eq_true hjn
              have hi2 : j < lp.length := by rw [HLN.out]; exact hjn
              have ox := own_next HL.out.1 HB.out
              have oy := own_next HL.out.2.1 HB.out
              obtain ⟨gx, rfl, hgx⟩ := OwA.pos (B := 0) (l := lp) ox (by omega)
              obtain ⟨gy, rfl, hgy⟩ := OwA.pos (B := 0) (l := lp) oy (by omega)
              have cx := fun k v hv => OwA.cell (B := 0) ox HLN.out j hi2 k v hv
              have cy := fun k v hv => OwA.cell (B := 0) oy HLN.out j hi2 k v hv
              have x0 := cx 0 _ rfl
              have x1 := cx 1 _ rfl
              have x2 := cx 2 _ rfl
              have x3 := cx 3 _ rfl
              have x4 := cx 4 _ rfl
              have y0 := cy 0 _ rfl
              have y1 := cy 1 _ rfl
              have y2 := cy 2 _ rfl
              have y3 := cy 3 _ rfl
              have y4 := cy 4 _ rfl
              obtain ⟨a, ha⟩ : ∃ a, lp[j]'hi2 = a := ⟨_, rfl⟩
              rw [ha] at x0 x1 x2 x3 x4 y0 y1 y2 y3 y4
              simp only [Nat.add_zero] at x0 y0
              have hN := neqA a
              have hi1 : j + 1 ≤ np := by omega
              clear cx cy ha hi2 ox oy
              go_upto_region 22 with (fail)
              go_quiet (fail)
              go_wp2_with fail
              go_roundg (np - (j + 1))
              case measure => omega
              case rel => exact ⟨j + 1, rfl, hi1, Nat.le_refl _, Lib.hid (below_drewN HB.out _)⟩
            · have di : decide (j < np) = false := decide_eq_false hjn
              clear hjn
              go_wp2_with (go_at_call 9; refine (awake_any _).mono ?_; rintro e w99 ⟨rfl, hb99⟩)
              go_ret
              exact ⟨rfl, Below.next HAB.out (Below.next (Below.next HL.out.2.2 (HB.out.mono (Nat.le_refl _))) hb99)⟩
  · have hz : (nwE nd lt l != 0) = true := bne_iff_ne.2 he
    have hzz : (nwE nd lt l == nwE nd lt l) = true := by simp
    have cN1 : ∀ W, Below w0.heap.size w0 W → Calls Try.prog 8 #[.int .i64 nd, .int .i64 lt, .slice A nf cf] W (fun e w1 => e = .returned (.tuple #[.pointer none, .int .i64 (nwE nd lt l)]) ∧ Below W.heap.size W w1) := fun W hb => by
      refine (cN W hb).mono ?_
      rintro e w1 ⟨hb, ⟨-, rfl⟩ | ⟨h, -⟩⟩
      · exact ⟨rfl, hb⟩
      · exact absurd h he
    generalize nwE nd lt l = E at *
    have HCN := Lib.hid cN1
    clear he cN cN1 hO0 hap
    go_wp2_with (first
      | (go_at_call 8; refine (HCN.out w1 HB1).mono ?_; rintro e w2 ⟨rfl, hb2⟩)
      | (go_at_call 8; refine (HCN.out w0 (Below.refl _ _)).mono ?_; rintro e w1 ⟨rfl, HB1⟩; obtain ⟨e0, e1, e2, e3, el⟩ := HBX.out w1 HB1)
      | (go_at_call 9; refine (awake_any _).mono ?_; rintro e w99 ⟨rfl, hb99⟩))
    go_ret
    exact ⟨rfl, Below.next HAB.out (Below.next (Below.next HB1 hb2) hb99)⟩
end Go.Proofs.Ytndidbanbklonaa

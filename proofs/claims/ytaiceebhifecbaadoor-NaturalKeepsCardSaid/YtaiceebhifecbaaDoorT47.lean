/-
  Contract of divideLong, and of divide at every divisor. Conditions: slices of at most 900 digits.
-/
import Derived.Test.YtaiceebhifecbaaDoorT46
namespace Go.Proofs.YtaiceebhifecbaaDoor
open Go.RowKit
theorem divideStep_n (g off c d N K : Nat) (B : Option Addr) (zs ys : List Nat) (w : World) (ho : Own w g off zs) (hy : Rd w B ys) (hf : Off g B ys) (hzd : Nm.Dig zs) (hyd : Nm.Dig ys) (hl : zs.length = N + 1) (hyl : ys.length = N) (hK : K = N + 1) (hN : 2 ≤ N) (hm : N ≤ 900) (htop : 2147483648 ≤ ys[N - 1]'(by omega)) (hlt : Nm.val zs < 4294967296 * Nm.val ys) :
    Calls Tryd.prog 71 #[.slice (some ⟨g, off, none⟩) K c, .slice B N d] w fun e w' => ∃ (q : Nat) (rs : List Nat), e = .returned (.int .u32 q) ∧ Hid (q = Nm.val zs / Nm.val ys ∧ q < 4294967296) ∧ Hid (rs.length = N + 1) ∧ Nm.Dig rs ∧ Hid (Nm.val rs = Nm.val zs % Nm.val ys) ∧ Wr w w' g off rs := by
  subst hK
  obtain ⟨m, rfl⟩ : ∃ m, N = m + 2 := ⟨N - 2, by omega⟩
  exact divideStep_any g off c d m B zs ys w ho hy hf hzd hyd hl hyl (by omega) htop hlt
/-- The loop of divideLong: k digits of the quotient are found. -/
def LongRel (G g2 off2 L M : Nat) (B1 : Option Addr) (vs : List Nat) (U : Nat) (w : World) (iv : Value) (wr : World) : Prop :=
  ∃ (k : Nat) (qs rs : List Nat), k ≤ L ∧ iv = .int .i64 (k : Int) ∧ Hid (qs.length = L) ∧ Nm.Dig qs ∧ Hid (rs.length = M + 1) ∧ Nm.Dig rs ∧ Hid (U = 4294967296 ^ (L - k) * Nm.val (qs.drop (L - k)) * Nm.val vs + Nm.val rs) ∧ Hid (Nm.val (rs.drop (L - k)) < Nm.val vs) ∧ Own wr G 0 qs ∧ Own wr g2 off2 rs ∧ Rd wr B1 vs ∧ Below w.heap.size w wr
set_option maxRecDepth 20000 in
set_option maxHeartbeats 2000000 in
theorem divideLong_any (A B : Option Addr) (X Y : List Nat) (M N : Nat) (w : World) (hx : Rd w A X) (hy : Rd w B Y) (hxd : Nm.Dig X) (hyd : Nm.Dig Y) (hXl : X.length = M) (hYl : Y.length = N) (hM : M ≤ 900) (hN : 2 ≤ N) (hNM : N ≤ M) (ht : Nm.tlen Y = N) :
    Calls Tryd.prog 61 #[.slice A M M, .slice B N N] w (DivPost w X Y) := by
  have hYi : N - 1 < Y.length := by omega
  have hlen : Y[N - 1]'hYi ≠ 0 := Nm.tlen_last Y (N - 1) (by omega) (by omega)
  obtain ⟨g, off, hB, hr⟩ := hy.at_ (i := N - 1) hYi
  have ctop := hr (N - 1) hYi
  have htlt := hyd.at_ (i := N - 1) hYi
  obtain ⟨x, hxx⟩ : ∃ x, Y[N - 1]'hYi = x := ⟨_, rfl⟩
  rw [hxx] at hlen ctop htlt
  obtain ⟨hs32, hnorm, hnormlt⟩ := Nm.zeros_norm (by omega : 0 < x) htlt
  obtain ⟨s, hs⟩ : ∃ s, 32 - Nm.blen x = s := ⟨_, rfl⟩
  have hz := fun W => zeros32_any x W htlt
  rw [hs] at hs32 hnorm hnormlt
  simp only [hs] at hz
  have Hz := Lib.hid hz
  have Hxx := Lib.hid hxx
  have Hnorm := Lib.hid hnorm
  have Hnormlt := Lib.hid hnormlt
  have HXl := Lib.hid hXl
  have HYl := Lib.hid hYl
  have HT := Lib.hid ht
  have ix := fun V => index32 V g off N N (N - 1) ((N : Int) - 1) (by omega) (by omega)
  subst hB
  clear hr htlt hxx hs hz hlen hnorm hnormlt hXl hYl ht
  go_enter Tryd.func61, Tryd.ntmps61
  go_wp2_with fail
  refine (Hz.out _).mono ?_
  rintro e w1 ⟨rfl, rfl⟩
  go_wp2_with fail
  refine (shiftUp_any _ N N s Y _ hy hyd HYl.out (by omega) hs32).mono ?_
  rintro e w1 ⟨A1, c1, ws, rfl, hc1, hwl, hwd, hwv, hwf, hb1⟩
  obtain ⟨g1, off1, rfl, hg1, ho1⟩ := hwf.own (by intro e; have := hwl.out; rw [e] at this; simp at this)
  have hsl1 := fun V => slice_hm g1 off1 (N + 1) c1 N N (N : Int) (N : Int) rfl rfl (Nat.le_refl _) (by omega) (by omega) V
  have hx1 := hx.below hb1
  go_wp2_with fail
  refine (shiftUp_any _ M M s X _ hx1 hxd HXl.out (by omega) hs32).mono ?_
  rintro e w2 ⟨A2, c2, us, rfl, hc2, hul, hud, huv, huf, hb2⟩
  obtain ⟨g2, off2, rfl, hg2, ho2⟩ := huf.own (by intro e; have := hul.out; rw [e] at this; simp at this)
  obtain ⟨L, hL⟩ : ∃ L, M + 1 = L + N := ⟨M + 1 - N, by omega⟩
  have hL1 : 1 ≤ L := by omega
  have hLM : L ≤ M := by omega
  have hmk := fun V => make32 L L (Nat.le_refl _) (by omega) (L : Int) (L : Int) rfl rfl V
  obtain ⟨n, hn⟩ : ∃ n, N = n + 1 := ⟨N - 1, by omega⟩
  obtain ⟨vs, hvs⟩ : ∃ vs, ws.take N = vs := ⟨_, rfl⟩
  have hvl : vs.length = N := by rw [← hvs, List.length_take]; have := hwl.out; omega
  have hvd : Nm.Dig vs := by rw [← hvs]; exact hwd.take N
  have hfit : Nm.val Y * 2 ^ s < 4294967296 ^ N := by
    subst hn
    exact Nm.norm_fits hyd HYl.out Hxx.out Hnormlt.out
  have hvv : Nm.val vs = Nm.val Y * 2 ^ s := by
    rw [← hvs, (Nm.val_small (n := N) (by rw [hwv.out]; exact hfit)).1, hwv.out]
  have hvi : N - 1 < vs.length := by omega
  have hvtop : 2147483648 ≤ vs[N - 1]'hvi := by
    subst hn
    exact Nm.top_norm HYl.out hvl hvd Hxx.out Hnorm.out hvv
  have hstart : Nm.val (us.drop L) < Nm.val vs := by
    subst hn
    exact Nm.long_start hxd (by rw [HXl.out]; exact hL) (by rw [hul.out]; exact hL) huv.out hs32 hvl hvtop
  have hg1w : g1 < w1.heap.size := ho1.1.lt (by have := hwl.out; omega)
  have hg2w : g2 < w2.heap.size := ho2.1.lt (by have := hul.out; omega)
  have hw12 := hb2.size
  have hg12 : g1 ≠ g2 := by omega
  have hg1G : g1 ≠ w2.heap.size := by omega
  have hg2G : g2 ≠ w2.heap.size := by omega
  have hwg2 : w.heap.size ≤ g2 := Nat.le_trans hb1.size hg2
  have hwG : w.heap.size ≤ w2.heap.size := Nat.le_trans hb1.size hw12
  have hrv1 : Rd w2 (some ⟨g1, off1, none⟩) vs := by
    have h1 : Rd w1 (some ⟨g1, off1, none⟩) ws := .inr ⟨_, _, rfl, ho1.1⟩
    have h2 := (h1.below hb2).take N
    rwa [hvs] at h2
  have hb12 := up hb1 hb2
  have hone := one w2 (Obj.cells (madeCells #[Value.int IntKind.u32 0] L) 35)
  have Hvl := Lib.hid hvl
  have Hvv := Lib.hid hvv
  have Hfit := Lib.hid hfit
  have Hvtop := Lib.hid hvtop
  have HL := Lib.hid hL
  have HU := Lib.hid (rfl : Nm.val X * 2 ^ s = Nm.val X * 2 ^ s)
  have hfirst : LongRel w2.heap.size g2 off2 L M (some ⟨g1, off1, none⟩) vs (Nm.val X * 2 ^ s) w (.int .i64 0) (w2.alloc (Obj.cells (madeCells #[Value.int IntKind.u32 0] L) 35)) := by
    refine ⟨0, List.replicate L 0, us, Nat.zero_le _, rfl, by show _ = _; simp, Nm.dig_replicate _, hul, hud, ?_, hstart, own_made w2 L, ho2.of_block (hone.block g2 hg2w), hrv1.below hone, up hb12 hone⟩
    show _ = _
    rw [Nat.sub_zero, List.drop_of_length_le (by simp), huv.out]
    simp [Nm.val]
  have Hfirst := Lib.hid hfirst
  clear hvl hvv hfit hvtop hstart hfirst hone hn hvs
  go_wp2_with fail
  go_loopw [35] (fun iv wr => LongRel w2.heap.size g2 off2 L M (some ⟨g1, off1, none⟩) vs (Nm.val X * 2 ^ s) w iv wr) (fun i _ => L - (intOf i).toNat)
  case atStart => exact Hfirst.out
  case round =>
    obtain ⟨k, qs, rs, hk, rfl, hql, hqd, hrl, hrd, hUv, hlt, hownq, hownr, hrv, hb⟩ := hrel
    by_cases hkl : k < L
    · obtain ⟨i, hi⟩ : ∃ i, L = i + 1 + k := ⟨L - 1 - k, by omega⟩
      have hsl := fun V => slice32 g2 off2 (L + N) c2 i (i + N + 1) ((L : Int) - 1 - (k : Int)) ((L : Int) - 1 - (k : Int) + (N : Int) + 1) (by omega) (by omega) (by omega) (by omega) (by omega) V
      rw [show i + N + 1 - i = N + 1 from by omega] at hsl
      have hix := fun V => index32 V w2.heap.size 0 L L i ((L : Int) - 1 - (k : Int)) (by omega) (by omega)
      have hiq : i < qs.length := by rw [hql.out]; omega
      have hir : i + N + 1 ≤ rs.length := by rw [hrl.out]; omega
      have hUv2 := hUv.out
      have hlt2 := hlt.out
      rw [show L - k = i + 1 from by omega] at hUv2 hlt2
      have hpart := hownr.part i (N + 1)
      obtain ⟨part, hpe⟩ : ∃ part, (rs.drop i).take (N + 1) = part := ⟨_, rfl⟩
      have hpl : part.length = N + 1 := by rw [← hpe, List.length_take, List.length_drop]; omega
      have hpd : Nm.Dig part := by rw [← hpe]; exact (hrd.drop i).take (N + 1)
      have hVb : Nm.val vs ≤ 4294967296 ^ N := by rw [Hvv.out]; exact Nat.le_of_lt Hfit.out
      have hround := fun (rs' : List Nat) (Q : Nat) (hl' : rs'.length = N + 1) (hQ : Q = Nm.val part / Nm.val vs) (hR : Nm.val rs' = Nm.val part % Nm.val vs) => Nm.long_step hiq hir hpe.symm hl' hrd hVb hlt2 hUv2 hQ hR
      have hplt : Nm.val part < 4294967296 * Nm.val vs := by
        have h1 := Nm.val_small (n := N) (Nat.lt_of_lt_of_le hlt2 hVb)
        have hir' : i < rs.length := by omega
        have hd : Nm.val (rs.drop i) = rs[i] + 4294967296 * Nm.val (rs.drop (i + 1)) := Nm.val_drop rs i hir'
        have hpv : Nm.val part = Nm.val (rs.drop i) := by
          rw [← hpe, List.drop_eq_getElem_cons hir', List.take_succ_cons]
          show rs[i] + 4294967296 * Nm.val ((rs.drop (i + 1)).take N) = rs[i] + 4294967296 * Nm.val (rs.drop (i + 1))
          rw [h1.1]
        have := hrd.at_ hir'
        rw [hpv, hd]
        omega
      rw [hpe] at hpart
      have hcall := divideStep_n g2 (off2 + i) (c2 - i) N N (N + 1) (some ⟨g1, off1, none⟩) part vs wr hpart hrv (.inr ⟨_, _, rfl, hg12⟩) hpd hvd hpl Hvl.out rfl hN (by omega) Hvtop.out hplt
      have Hcall := Lib.hid hcall
      have Hround := Lib.hid hround
      have Hi := Lib.hid hi
      clear hUv2 hlt2 hpart hpe hpl hpd hVb hround hplt hcall hi
      go_wp2_with fail
      refine Hcall.out.mono ?_
      rintro e w3 ⟨q, rs', rfl, hq, hrl', hrd', hrv', hwr⟩
      have hownr2 := hownr.splice (k := i) hwr (by rw [hrl'.out]; omega)
      have hownq3 : Own w3 w2.heap.size 0 qs := hownq.of_block (hwr.grown.block w2.heap.size (hownq.1.lt (by omega)) (by intro e; injection e with e; omega))
      have hrv3 := hrv.wr hwr (.inr ⟨_, _, rfl, hg12⟩)
      have hb3 := Wr.below hb hwr (by omega : w.heap.size ≤ g2) hb.size
      have c3 := hownq3.1 i hiq
      have f3 := hownq3.2 i hiq
      have hset := (Wr.refl hownq3).set i hiq q
      rw [Nat.zero_add] at c3 f3 hset
      have hownr4 := hownr2.of_block (hset.grown.block g2 (hownr2.1.lt (by rw [List.length_append, List.length_append, hrl'.out]; omega)) (by intro e; injection e with e; omega))
      have hrv4 := hrv3.wr hset (.inr ⟨_, _, rfl, hg1G⟩)
      have hb4 : Below w.heap.size w (w3.setCell ⟨w2.heap.size, i, none⟩ (.int .u32 (q : Int))) := hb3.setCell hwG _
      have hnew := Hround.out rs' q hrl'.out hq.out.1 hrv'.out
      have Hnew := Lib.hid hnew
      have Hset := Lib.hid hset
      clear hnew hset
      go_wp2_with fail
      go_roundw
      case rel =>
        have hii : L - (k + 1) = i := by have := Hi.out; omega
        refine ⟨k + 1, qs.set i q, rs.take i ++ rs' ++ rs.drop (i + rs'.length), by omega, by go_num, ?_, hqd.set _ hq.out.2, ?_, ((hrd.take i).append hrd').append (hrd.drop _), ?_, ?_, Hset.out.own, hownr4, hrv4, hb4⟩
        · show _ = _
          rw [List.length_set]; exact hql.out
        · show _ = _
          have := hrl.out
          have := hrl'.out
          simp
          omega
        · show _ = _
          rw [hii]
          exact Hnew.out.2.2
        · show _ < _
          rw [hii]
          exact Hnew.out.2.1
      case measure => simp [intOf]; omega
    · have hkL : k = L := by omega
      subst hkL
      have hsl := fun V => slice_hm g2 off2 (k + N) c2 N N (N : Int) (N : Int) rfl rfl (Nat.le_refl _) (by omega) (by omega) V
      have hUv2 := hUv.out
      have hlt2 := hlt.out
      rw [Nat.sub_self, List.drop_zero] at hlt2
      rw [Nat.sub_self, List.drop_zero, Nat.pow_zero, Nat.one_mul, Hvv.out] at hUv2
      rw [Hvv.out] at hlt2
      have hend := Nm.long_end hUv2 hlt2
      have hval : Nm.val (rs.take N) = Nm.val rs := (Nm.val_small (n := N) (Nat.lt_trans hlt2 Hfit.out)).1
      have hdown := shiftDown_any (some ⟨g2, off2, none⟩) N N s (rs.take N) wr ((Rd.take (.inr ⟨_, _, rfl, hownr.1⟩) N)) (hrd.take N) (by rw [List.length_take, hrl.out]; omega) (by omega) hs32
      rw [hval] at hdown
      have Hend := Lib.hid hend
      have Hdown := Lib.hid hdown
      clear hUv2 hlt2 hend hval hdown
      go_wp2_with fail
      refine Hdown.out.mono ?_
      rintro e w4 ⟨A4, c4, ds, rfl, hc4, hdl, hdd, hdv, hdf, hb4⟩
      go_wp2_with fail
      go_ret2
      refine ⟨some ⟨w2.heap.size, 0, none⟩, A4, k, c4, qs, ds, by rw [hql.out, hdl.out]; rfl, by rw [hql.out]; exact Nat.le_refl _, by rw [hdl.out]; exact hc4, by rw [hql.out, HXl.out]; exact hLM, by rw [hdl.out, HYl.out]; omega, hqd, hdd, Fr.below (.inr ⟨_, _, rfl, hwG, hownq⟩) hb4, hdf.mono hb.size, ?_, up hb hb4⟩
      show _ ∧ _
      rw [hdv.out]
      exact Hend.out
set_option maxHeartbeats 400000 in
theorem divide_long (A B : Option Addr) (X Y : List Nat) (n m : Nat) (w : World) (hx : Rd w A X) (hy : Rd w B Y) (hxd : Nm.Dig X) (hyd : Nm.Dig Y) (hXl : X.length = n) (hYl : Y.length = m) (hn : n ≤ 900) (hm : 2 ≤ m) (hmn : m ≤ n) (ht : Nm.tlen Y = m) :
    Calls Tryd.prog 48 #[.slice A n n, .slice B m m] w (DivPost w X Y) := by
  have hcall := divideLong_any A B X Y n m w hx hy hxd hyd hXl hYl hn hm hmn ht
  have Hcall := Lib.hid hcall
  clear hcall hXl hYl ht
  go_enter Tryd.func48, Tryd.ntmps48
  go_wp2_with fail
  refine Hcall.out.mono ?_
  rintro e w' ⟨A1, A2, c1, c2, qs, rs, rfl, h1, h2, h3, h4, h5, h6, h7, h8, h9, h10⟩
  go_wp2_with fail
  go_ret2
  exact ⟨A1, A2, c1, c2, qs, rs, rfl, h1, h2, h3, h4, h5, h6, h7, h8, h9, h10⟩
theorem divOk_all : DivOk 900 := by
  intro A B X Y n m w hx hy hxd hyd hXl hYl hn hm0 hm ht
  rcases Nat.lt_or_ge n m with h | h
  · exact divide_less A B X Y n m w hx hxd hXl hYl hn ht h
  · rcases Nat.lt_or_ge 1 m with h1 | h1
    · exact divide_long A B X Y n m w hx hy hxd hyd hXl hYl hn h1 h ht
    · exact divide_one A B X Y n m w hx hy hxd hyd hXl hYl hn (by omega) ht (by omega)
end Go.Proofs.YtaiceebhifecbaaDoor

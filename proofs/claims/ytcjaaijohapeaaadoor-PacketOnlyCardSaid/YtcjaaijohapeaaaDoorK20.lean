/-
  A fragment that is framed is unframed as it was; what is unframed was framed so. No conditions.
-/
import Derived.Test.YtcjaaijohapeaaaDoorK19
import Derived.Test.YtcjaaijohapeaaaDoorK16
import Derived.Test.YtcjaaijohapeaaaDoorShelfC
import Derived.Lib.LaidU8
import Derived.PinnedBridge
import Derived.MakeChecks
import Derived.KernelRfl
import Derived.Test.YtcjaaijohapeaaaDoorK14
import Derived.Test.YtcjaaijohapeaaaDoorK06
import Derived.Deep.Slices
import Derived.WideKeyArgs
import Derived.ChangeMaps5
namespace Go.Proofs.YtcjaaijohapeaaaDoor
open Go.RowKit
theorem opn_seal (l : List UInt8) : opn (seal_ l) = (l, 0) := by
  have h1 : (seal_ l).length = 4 + l.length := seal_length l
  have h2 : (seal_ l).drop 4 = l := by
    unfold seal_
    rw [List.drop_append_of_le_length (by rw [le_length]; exact Nat.le_refl _), List.drop_of_length_le (by rw [le_length]; exact Nat.le_refl _), List.nil_append]
  unfold opn
  rw [if_neg (by omega), h2, if_pos rfl]
theorem uf_front {x : Fg} (h : fvB x = true) : ufF (fby x) = x ∧ ufE (fby x) = 0 := by
  obtain ⟨id, ix, ct, dat⟩ := x
  obtain ⟨h0, h1, h2, h3⟩ := fv_rng h
  simp only at h0 h1 h2 h3
  obtain ⟨a, rfl⟩ := Int.eq_ofNat_of_zero_le h0.1
  obtain ⟨b, rfl⟩ := Int.eq_ofNat_of_zero_le h2.1
  obtain ⟨c, rfl⟩ := Int.eq_ofNat_of_zero_le (show 0 ≤ ct by omega)
  have e : fby ⟨a, b, c, dat⟩ = uv a ++ (uv b ++ (uv c ++ (tv dat ++ []))) := by unfold fby; simp
  rw [e]
  obtain ⟨r1, v1⟩ := Rs.small_front (n := a) (M := 1099511627776) (uv b ++ (uv c ++ (tv dat ++ []))) (by omega) (by omega)
  obtain ⟨r2, v2⟩ := Rs.small_front (n := b) (M := 64) (uv c ++ (tv dat ++ [])) (by omega) (by omega)
  obtain ⟨r3, v3⟩ := Rs.small_front (n := c) (M := 64) (tv dat ++ []) (by omega) (by omega)
  obtain ⟨r4, v4⟩ := Rs.text_front (s := dat) (M := 4000) [] (by omega) (by omega)
  constructor
  · unfold ufF ur3 ur2 ur1
    rw [r1, r2, r3, v1, v2, v3, v4]
  · unfold ufE ur4 ur3 ur2 ur1
    rw [r1, r2, r3, r4]; rfl
theorem unf_fr {x : Fg} (h : fvB x = true) : unf (fr x) = (x, 0) := by
  obtain ⟨h1, h2⟩ := uf_front h
  unfold unf fr
  rw [h, if_pos rfl, opn_seal, if_pos rfl]
  simp only
  rw [h1, h2, h, if_pos rfl, if_pos rfl]
theorem unf_only {s : List UInt8} {x : Fg} (h : unf s = (x, 0)) : fr x = s := by
  unfold unf at h
  by_cases h0 : (opn s).2 = 0
  · rw [if_pos h0] at h
    have hs : seal_ (s.drop 4) = s ∧ (opn s).1 = s.drop 4 := by
      unfold opn at h0 ⊢
      by_cases h1 : s.length < 4
      · rw [if_pos h1] at h0; cases h0
      · rw [if_neg h1] at h0 ⊢
        by_cases h2 : seal_ (s.drop 4) = s
        · rw [if_pos h2]; exact ⟨h2, rfl⟩
        · rw [if_neg h2] at h0; cases h0
    rw [hs.2] at h
    generalize s.drop 4 = b at *
    by_cases h1 : ufE b = 0
    · rw [if_pos h1] at h
      by_cases h2 : fvB (ufF b) = true
      · rw [if_pos h2] at h
        injection h with h _
        subst h
        unfold fr
        rw [if_pos h2, show fby (ufF b) = b from ?_, hs.1]
        have hr : (ur4 b).e = 0 ∧ (ur4 b).l = [] := by
          unfold ufE eN at h1
          by_cases e : (ur4 b).e = 0
          · rw [if_neg (by omega)] at h1
            by_cases e2 : (ur4 b).l.isEmpty = true
            · exact ⟨e, by simpa using e2⟩
            · rw [if_neg e2] at h1; cases h1
          · rw [if_pos e] at h1; exact absurd h1 e
        obtain ⟨a3, b3⟩ := Rs.text_back (r := ur3 b) (M := 4000) hr.1
        obtain ⟨a2, b2⟩ := Rs.small_back (r := ur2 b) (M := 64) a3
        obtain ⟨a1, b1⟩ := Rs.small_back (r := ur1 b) (M := 64) a2
        obtain ⟨-, b0⟩ := Rs.small_back (r := Rs.mk b 0) (M := 1099511627776) a1
        have c0 : b = uv ((Rs.mk b 0).sval 1099511627776) ++ (ur1 b).l := b0
        have c1 : (ur1 b).l = uv ((ur1 b).sval 64) ++ (ur2 b).l := b1
        have c2 : (ur2 b).l = uv ((ur2 b).sval 64) ++ (ur3 b).l := b2
        have c3 : (ur3 b).l = tv ((ur3 b).tval 4000) ++ (ur4 b).l := b3
        rw [hr.2, List.append_nil] at c3
        show (uv _ ++ uv _) ++ uv _ ++ tv _ = b
        conv => rhs; rw [c0, c1, c2, c3]
        simp [ufF]
      · rw [if_neg h2] at h; injection h with _ h; cases h
    · rw [if_neg h1] at h; injection h with _ h; exact absurd h h1
  · rw [if_neg h0] at h; injection h with _ h; exact absurd h h0
end Go.Proofs.YtcjaaijohapeaaaDoor
/-
  The law that what is decoded was encoded so. No conditions beyond those that each names.
-/
namespace Go.Proofs.YtcjaaijohapeaaaDoor
open Go.RowKit Go.Sort Go.Lib Go.Shelf
set_option maxRecDepth 100000 in
set_option maxHeartbeats 8000000 in
theorem only_law (s : ByteArray) (w : World) (hs : s.size ≤ 9223372036854775807) (hT : Tabs w) :
    Calls Tryd.prog 3 #[.string s] w (Ib (.bool true) w) := by
  obtain ⟨l, rfl⟩ : ∃ l, s = bs l := ⟨_, bs_of s⟩
  rw [bs_size] at hs
  have z1 : (bs l).size = l.length := rfl
  by_cases h1 : 3000 < l.length
  · have d1 : decide ((3000 : Int) < (l.length : Int)) = true := decide_eq_true (by omega)
    have d1n : decide (3000 < l.length) = true := decide_eq_true h1
    clear hs h1
    go_enter Tryd.func3, Tryd.ntmps3
    go_wp2_with (go_at_call 7; refine (awake_any _).mono ?_; rintro e w1 ⟨rfl, hb1⟩)
    go_ret
    exact ⟨rfl, hb1⟩
  have d1 : decide ((3000 : Int) < (l.length : Int)) = false := decide_eq_false (by omega)
  have d1n : decide (3000 < l.length) = false := decide_eq_false h1
  have hl : l.length ≤ 1000000 := by omega
  have cD0 := fun W => decode_any l W hl
  unfold DcQ at cD0
  have hdl := dec_len hl
  have hdo := dec_only (b := l)
  obtain ⟨⟨P, e2⟩, hD⟩ : ∃ q, dec l = q := ⟨_, rfl⟩
  rw [hD] at cD0 hdl hdo
  have cE0 := fun mv W hM => encode_any P mv W hM hdl.1 hdl.2
  have hUL : (unf l).1.dat.length ≤ 1000000 := by unfold unf; (repeat' split) <;> first | exact Nat.le_trans (uf_len _) (Nat.le_trans (opn_len _) hl) | exact Nat.zero_le _
  have cU0 := fun W hW => unframe_any l W (by omega) hW
  have hUO : (unf l).2 = 0 → fr (unf l).1 = l := fun h => unf_only (Prod.ext rfl h)
  obtain ⟨⟨U, ue⟩, hU⟩ : ∃ q, unf l = q := ⟨_, rfl⟩
  rw [hU] at cU0 hUL hUO
  have HUL := Lib.hid hUL
  have HDO := Lib.hid hdo
  clear hD hU hdl hdo hUL
  have str := str_eq l
  by_cases he : e2 = 0
  · subst he
    have hEP : encP P = (l, 0) := (HDO.out rfl).1
    have cE : Hid (∀ mv W, Mis W mv P.mis → Calls Tryd.prog 9 #[P.val mv] W (Ib (.tuple #[.string (bs l), .int .i64 0]) W)) := Lib.hid fun mv W hM => by have k := cE0 mv W hM; rw [hEP] at k; exact k
    have cD := Lib.hid cD0
    clear cE0 cD0 hEP HDO
    by_cases hu : ue = 0
    · subst hu
      have HFU : Hid (fr U = l) := Lib.hid (hUO rfl)
      have cU : Hid (∀ W, Tabs W → Calls Tryd.prog 10 #[.string (bs l)] W (Ib (.tuple #[.agg #[.int .i64 U.id, .int .i64 U.ix, .int .i64 U.ct, .string (bs U.dat)], .int .i64 0]) W)) := Lib.hid cU0
      clear cU0 hUO
      clear hs h1
      go_enter Tryd.func3, Tryd.ntmps3
      go_wp2_with (first
        | (go_at_call 7; refine (awake_any _).mono ?_; rintro e w6 ⟨rfl, hb6⟩; have HB6 := Lib.hid (Below.next HB5.out hb6))
        | (go_at_call 11; refine (show Calls Tryd.prog 11 #[.agg #[.int .i64 U.id, .int .i64 U.ix, .int .i64 U.ct, .string (bs U.dat)]] _ _ from frame_any U _ HUL.out (hT.below (Below.next HB3.out (ab1 _ _)))).mono ?_; rw [HFU.out]; rintro e w5 ⟨rfl, hb5⟩; have HB5 := Lib.hid (Below.next (Below.next HB3.out (ab1 _ _)) hb5))
        | (go_at_call 10; refine (cU.out _ HT2.out).mono ?_; rintro e w3 ⟨rfl, hb3⟩; have HB3 := Lib.hid (Below.next HB2.out hb3))
        | (go_at_call 9; refine (cE2 _ (Below.refl _ _)).mono ?_; rintro e w2 ⟨rfl, hb2⟩; have HB2 := Lib.hid (Below.next HB1.out hb2); have HT2 := Lib.hid (hT.below HB2.out))
        | (go_at_call 8; refine (cD.out _).mono ?_; rintro e w1 ⟨hb1, mv, h3, hM⟩; obtain ⟨A, cc, rfl, hA⟩ := hM; have hM : Mis w1 (.slice A P.mis.length cc) P.mis := ⟨A, cc, rfl, hA⟩; have h4 : e = .returned (.tuple #[.agg #[.int .i64 P.kind, .int .i64 P.fr, .int .i64 P.to_, .int .i64 P.wr, .int .i64 P.rd, .int .i64 P.sq, .int .i64 P.fi, .int .i64 P.la, .int .i64 P.at_, .slice A P.mis.length cc, .string (bs P.pay)], .int .i64 0]) := h3; subst h4; clear h3; have ab4 := ab1 w1 (Obj.cells #[.int .i64 P.kind, .int .i64 P.fr, .int .i64 P.to_, .int .i64 P.wr, .int .i64 P.rd, .int .i64 P.sq, .int .i64 P.fi, .int .i64 P.la, .int .i64 P.at_, .slice A P.mis.length cc, .string (bs P.pay)] 25); have HB1 := Lib.hid (Below.next hb1 ab4); have T4 := Bx.newP w1 25 P (.slice A P.mis.length cc); have t0 := T4.c 0 rfl; have t1 := T4.c 1 rfl; have t2 := T4.c 2 rfl; have t3 := T4.c 3 rfl; have t4 := T4.c 4 rfl; have t5 := T4.c 5 rfl; have t6 := T4.c 6 rfl; have t7 := T4.c 7 rfl; have t8 := T4.c 8 rfl; have t9 := T4.c 9 rfl; have t10 := T4.c 10 rfl; have tl := T4.lt; have cE2 : ∀ W, Below (w1.alloc (Obj.cells #[.int .i64 P.kind, .int .i64 P.fr, .int .i64 P.to_, .int .i64 P.wr, .int .i64 P.rd, .int .i64 P.sq, .int .i64 P.fi, .int .i64 P.la, .int .i64 P.at_, .slice A P.mis.length cc, .string (bs P.pay)] 25)).heap.size (w1.alloc (Obj.cells #[.int .i64 P.kind, .int .i64 P.fr, .int .i64 P.to_, .int .i64 P.wr, .int .i64 P.rd, .int .i64 P.sq, .int .i64 P.fi, .int .i64 P.la, .int .i64 P.at_, .slice A P.mis.length cc, .string (bs P.pay)] 25)) W → Calls Tryd.prog 9 #[.agg #[.int .i64 P.kind, .int .i64 P.fr, .int .i64 P.to_, .int .i64 P.wr, .int .i64 P.rd, .int .i64 P.sq, .int .i64 P.fi, .int .i64 P.la, .int .i64 P.at_, .slice A P.mis.length cc, .string (bs P.pay)]] W (Ib (.tuple #[.string (bs l), .int .i64 0]) W) := fun W hW => cE.out _ W ((hM.next ab4).next hW)))
      go_ret
      exact ⟨rfl, HB6.out⟩
    · have hne : (((ue : Nat) : Int) != 0) = true := bne_iff_ne.2 (by omega)
      have cU : Hid (∀ W, Tabs W → Calls Tryd.prog 10 #[.string (bs l)] W (Ib (.tuple #[.agg #[.int .i64 U.id, .int .i64 U.ix, .int .i64 U.ct, .string (bs U.dat)], .int .i64 (ue : Nat)]) W)) := Lib.hid cU0
      clear cU0 hUO hu
      clear hs h1
      go_enter Tryd.func3, Tryd.ntmps3
      go_wp2_with (first
        | (go_at_call 7; refine (awake_any _).mono ?_; rintro e w6 ⟨rfl, hb6⟩; have HB6 := Lib.hid (Below.next (Below.next HB3.out (ab1 _ _)) hb6))
        | (go_at_call 10; refine (cU.out _ HT2.out).mono ?_; rintro e w3 ⟨rfl, hb3⟩; have HB3 := Lib.hid (Below.next HB2.out hb3))
        | (go_at_call 9; refine (cE2 _ (Below.refl _ _)).mono ?_; rintro e w2 ⟨rfl, hb2⟩; have HB2 := Lib.hid (Below.next HB1.out hb2); have HT2 := Lib.hid (hT.below HB2.out))
        | (go_at_call 8; refine (cD.out _).mono ?_; rintro e w1 ⟨hb1, mv, h3, hM⟩; obtain ⟨A, cc, rfl, hA⟩ := hM; have hM : Mis w1 (.slice A P.mis.length cc) P.mis := ⟨A, cc, rfl, hA⟩; have h4 : e = .returned (.tuple #[.agg #[.int .i64 P.kind, .int .i64 P.fr, .int .i64 P.to_, .int .i64 P.wr, .int .i64 P.rd, .int .i64 P.sq, .int .i64 P.fi, .int .i64 P.la, .int .i64 P.at_, .slice A P.mis.length cc, .string (bs P.pay)], .int .i64 0]) := h3; subst h4; clear h3; have ab4 := ab1 w1 (Obj.cells #[.int .i64 P.kind, .int .i64 P.fr, .int .i64 P.to_, .int .i64 P.wr, .int .i64 P.rd, .int .i64 P.sq, .int .i64 P.fi, .int .i64 P.la, .int .i64 P.at_, .slice A P.mis.length cc, .string (bs P.pay)] 25); have HB1 := Lib.hid (Below.next hb1 ab4); have T4 := Bx.newP w1 25 P (.slice A P.mis.length cc); have t0 := T4.c 0 rfl; have t1 := T4.c 1 rfl; have t2 := T4.c 2 rfl; have t3 := T4.c 3 rfl; have t4 := T4.c 4 rfl; have t5 := T4.c 5 rfl; have t6 := T4.c 6 rfl; have t7 := T4.c 7 rfl; have t8 := T4.c 8 rfl; have t9 := T4.c 9 rfl; have t10 := T4.c 10 rfl; have tl := T4.lt; have cE2 : ∀ W, Below (w1.alloc (Obj.cells #[.int .i64 P.kind, .int .i64 P.fr, .int .i64 P.to_, .int .i64 P.wr, .int .i64 P.rd, .int .i64 P.sq, .int .i64 P.fi, .int .i64 P.la, .int .i64 P.at_, .slice A P.mis.length cc, .string (bs P.pay)] 25)).heap.size (w1.alloc (Obj.cells #[.int .i64 P.kind, .int .i64 P.fr, .int .i64 P.to_, .int .i64 P.wr, .int .i64 P.rd, .int .i64 P.sq, .int .i64 P.fi, .int .i64 P.la, .int .i64 P.at_, .slice A P.mis.length cc, .string (bs P.pay)] 25)) W → Calls Tryd.prog 9 #[.agg #[.int .i64 P.kind, .int .i64 P.fr, .int .i64 P.to_, .int .i64 P.wr, .int .i64 P.rd, .int .i64 P.sq, .int .i64 P.fi, .int .i64 P.la, .int .i64 P.at_, .slice A P.mis.length cc, .string (bs P.pay)]] W (Ib (.tuple #[.string (bs l), .int .i64 0]) W) := fun W hW => cE.out _ W ((hM.next ab4).next hW)))
      go_ret
      exact ⟨rfl, HB6.out⟩
  · have hne2 : (e2 == 0) = false := by simpa using he
    obtain ⟨⟨eb, ee⟩, hEP⟩ : ∃ q, encP P = q := ⟨_, rfl⟩
    have cE : Hid (∀ mv W, Mis W mv P.mis → Calls Tryd.prog 9 #[P.val mv] W (Ib (.tuple #[.string (bs eb), .int .i64 ee]) W)) := Lib.hid fun mv W hM => by have k := cE0 mv W hM; rw [hEP] at k; exact k
    have cD := Lib.hid cD0
    clear cE0 cD0 hEP HDO he
    by_cases hu : ue = 0
    · subst hu
      have HFU : Hid (fr U = l) := Lib.hid (hUO rfl)
      have cU : Hid (∀ W, Tabs W → Calls Tryd.prog 10 #[.string (bs l)] W (Ib (.tuple #[.agg #[.int .i64 U.id, .int .i64 U.ix, .int .i64 U.ct, .string (bs U.dat)], .int .i64 0]) W)) := Lib.hid cU0
      clear cU0 hUO
      clear hs h1
      go_enter Tryd.func3, Tryd.ntmps3
      go_wp2_with (first
        | (go_at_call 7; refine (awake_any _).mono ?_; rintro e w6 ⟨rfl, hb6⟩; have HB6 := Lib.hid (Below.next HB5.out hb6))
        | (go_at_call 11; refine (show Calls Tryd.prog 11 #[.agg #[.int .i64 U.id, .int .i64 U.ix, .int .i64 U.ct, .string (bs U.dat)]] _ _ from frame_any U _ HUL.out (hT.below (Below.next HB3.out (ab1 _ _)))).mono ?_; rw [HFU.out]; rintro e w5 ⟨rfl, hb5⟩; have HB5 := Lib.hid (Below.next (Below.next HB3.out (ab1 _ _)) hb5))
        | (go_at_call 10; refine (cU.out _ HT2.out).mono ?_; rintro e w3 ⟨rfl, hb3⟩; have HB3 := Lib.hid (Below.next HB2.out hb3))
        | (go_at_call 9; refine (cE2 _ (Below.refl _ _)).mono ?_; rintro e w2 ⟨rfl, hb2⟩; have HB2 := Lib.hid (Below.next HB1.out hb2); have HT2 := Lib.hid (hT.below HB2.out))
        | (go_at_call 8; refine (cD.out _).mono ?_; rintro e w1 ⟨hb1, mv, h3, hM⟩; obtain ⟨A, cc, rfl, hA⟩ := hM; have hM : Mis w1 (.slice A P.mis.length cc) P.mis := ⟨A, cc, rfl, hA⟩; have h4 : e = .returned (.tuple #[.agg #[.int .i64 P.kind, .int .i64 P.fr, .int .i64 P.to_, .int .i64 P.wr, .int .i64 P.rd, .int .i64 P.sq, .int .i64 P.fi, .int .i64 P.la, .int .i64 P.at_, .slice A P.mis.length cc, .string (bs P.pay)], .int .i64 e2]) := h3; subst h4; clear h3; have ab4 := ab1 w1 (Obj.cells #[.int .i64 P.kind, .int .i64 P.fr, .int .i64 P.to_, .int .i64 P.wr, .int .i64 P.rd, .int .i64 P.sq, .int .i64 P.fi, .int .i64 P.la, .int .i64 P.at_, .slice A P.mis.length cc, .string (bs P.pay)] 25); have HB1 := Lib.hid (Below.next hb1 ab4); have T4 := Bx.newP w1 25 P (.slice A P.mis.length cc); have t0 := T4.c 0 rfl; have t1 := T4.c 1 rfl; have t2 := T4.c 2 rfl; have t3 := T4.c 3 rfl; have t4 := T4.c 4 rfl; have t5 := T4.c 5 rfl; have t6 := T4.c 6 rfl; have t7 := T4.c 7 rfl; have t8 := T4.c 8 rfl; have t9 := T4.c 9 rfl; have t10 := T4.c 10 rfl; have tl := T4.lt; have cE2 : ∀ W, Below (w1.alloc (Obj.cells #[.int .i64 P.kind, .int .i64 P.fr, .int .i64 P.to_, .int .i64 P.wr, .int .i64 P.rd, .int .i64 P.sq, .int .i64 P.fi, .int .i64 P.la, .int .i64 P.at_, .slice A P.mis.length cc, .string (bs P.pay)] 25)).heap.size (w1.alloc (Obj.cells #[.int .i64 P.kind, .int .i64 P.fr, .int .i64 P.to_, .int .i64 P.wr, .int .i64 P.rd, .int .i64 P.sq, .int .i64 P.fi, .int .i64 P.la, .int .i64 P.at_, .slice A P.mis.length cc, .string (bs P.pay)] 25)) W → Calls Tryd.prog 9 #[.agg #[.int .i64 P.kind, .int .i64 P.fr, .int .i64 P.to_, .int .i64 P.wr, .int .i64 P.rd, .int .i64 P.sq, .int .i64 P.fi, .int .i64 P.la, .int .i64 P.at_, .slice A P.mis.length cc, .string (bs P.pay)]] W (Ib (.tuple #[.string (bs eb), .int .i64 ee]) W) := fun W hW => cE.out _ W ((hM.next ab4).next hW)))
      go_ret
      exact ⟨rfl, HB6.out⟩
    · have hne : (((ue : Nat) : Int) != 0) = true := bne_iff_ne.2 (by omega)
      have cU : Hid (∀ W, Tabs W → Calls Tryd.prog 10 #[.string (bs l)] W (Ib (.tuple #[.agg #[.int .i64 U.id, .int .i64 U.ix, .int .i64 U.ct, .string (bs U.dat)], .int .i64 (ue : Nat)]) W)) := Lib.hid cU0
      clear cU0 hUO hu
      clear hs h1
      go_enter Tryd.func3, Tryd.ntmps3
      go_wp2_with (first
        | (go_at_call 7; refine (awake_any _).mono ?_; rintro e w6 ⟨rfl, hb6⟩; have HB6 := Lib.hid (Below.next (Below.next HB3.out (ab1 _ _)) hb6))
        | (go_at_call 10; refine (cU.out _ HT2.out).mono ?_; rintro e w3 ⟨rfl, hb3⟩; have HB3 := Lib.hid (Below.next HB2.out hb3))
        | (go_at_call 9; refine (cE2 _ (Below.refl _ _)).mono ?_; rintro e w2 ⟨rfl, hb2⟩; have HB2 := Lib.hid (Below.next HB1.out hb2); have HT2 := Lib.hid (hT.below HB2.out))
        | (go_at_call 8; refine (cD.out _).mono ?_; rintro e w1 ⟨hb1, mv, h3, hM⟩; obtain ⟨A, cc, rfl, hA⟩ := hM; have hM : Mis w1 (.slice A P.mis.length cc) P.mis := ⟨A, cc, rfl, hA⟩; have h4 : e = .returned (.tuple #[.agg #[.int .i64 P.kind, .int .i64 P.fr, .int .i64 P.to_, .int .i64 P.wr, .int .i64 P.rd, .int .i64 P.sq, .int .i64 P.fi, .int .i64 P.la, .int .i64 P.at_, .slice A P.mis.length cc, .string (bs P.pay)], .int .i64 e2]) := h3; subst h4; clear h3; have ab4 := ab1 w1 (Obj.cells #[.int .i64 P.kind, .int .i64 P.fr, .int .i64 P.to_, .int .i64 P.wr, .int .i64 P.rd, .int .i64 P.sq, .int .i64 P.fi, .int .i64 P.la, .int .i64 P.at_, .slice A P.mis.length cc, .string (bs P.pay)] 25); have HB1 := Lib.hid (Below.next hb1 ab4); have T4 := Bx.newP w1 25 P (.slice A P.mis.length cc); have t0 := T4.c 0 rfl; have t1 := T4.c 1 rfl; have t2 := T4.c 2 rfl; have t3 := T4.c 3 rfl; have t4 := T4.c 4 rfl; have t5 := T4.c 5 rfl; have t6 := T4.c 6 rfl; have t7 := T4.c 7 rfl; have t8 := T4.c 8 rfl; have t9 := T4.c 9 rfl; have t10 := T4.c 10 rfl; have tl := T4.lt; have cE2 : ∀ W, Below (w1.alloc (Obj.cells #[.int .i64 P.kind, .int .i64 P.fr, .int .i64 P.to_, .int .i64 P.wr, .int .i64 P.rd, .int .i64 P.sq, .int .i64 P.fi, .int .i64 P.la, .int .i64 P.at_, .slice A P.mis.length cc, .string (bs P.pay)] 25)).heap.size (w1.alloc (Obj.cells #[.int .i64 P.kind, .int .i64 P.fr, .int .i64 P.to_, .int .i64 P.wr, .int .i64 P.rd, .int .i64 P.sq, .int .i64 P.fi, .int .i64 P.la, .int .i64 P.at_, .slice A P.mis.length cc, .string (bs P.pay)] 25)) W → Calls Tryd.prog 9 #[.agg #[.int .i64 P.kind, .int .i64 P.fr, .int .i64 P.to_, .int .i64 P.wr, .int .i64 P.rd, .int .i64 P.sq, .int .i64 P.fi, .int .i64 P.la, .int .i64 P.at_, .slice A P.mis.length cc, .string (bs P.pay)]] W (Ib (.tuple #[.string (bs eb), .int .i64 ee]) W) := fun W hW => cE.out _ W ((hM.next ab4).next hW)))
      go_ret
      exact ⟨rfl, HB6.out⟩
end Go.Proofs.YtcjaaijohapeaaaDoor
/-
  The tables of utf8 read as they were laid, out of the rows' own condition; the law of unframing over values as they come in. No conditions beyond the row's own.
-/
namespace Go.Proofs.YtcjaaijohapeaaaDoor
open Go.RowKit Go.Lib
theorem u8extra : U8Extra Tryd.prog Tryd.lays260_ren := { n3 := by kernel_rfl, n4 := by kernel_rfl, y3 := by kernel_rfl, y4 := by kernel_rfl, c5 := by kernel_rfl, c119 := by kernel_rfl, c138 := by kernel_rfl }
theorem first_is : Rows.laid_unicode_utf8_first = firstData := Pinned.utf8First_eq
theorem accept_is : (Rows.laid_unicode_utf8_acceptRanges : DataW Unit) = acceptData := by kernel_rfl
theorem tabs_laid {w : World} (hl : laidMetH Tryd.prog [("unicode/utf8.acceptRanges", Rows.laid_unicode_utf8_acceptRanges), ("unicode/utf8.first", Rows.laid_unicode_utf8_first)] w) : Tabs w := by
  rw [MakeChecks.laidMetH_plain _ _ _ (by kernel_rfl)] at hl
  have h3 := laidMet.reads hl (n := "unicode/utf8.first") (d := Rows.laid_unicode_utf8_first) (List.Mem.tail _ (List.Mem.head _))
  have h4 := laidMet.reads hl (n := "unicode/utf8.acceptRanges") (d := Rows.laid_unicode_utf8_acceptRanges) (List.Mem.head _)
  rw [first_is] at h3
  rw [accept_is] at h4
  exact utf8Tabs_of_reads Tryd.lays260 u8extra h3 h4
theorem unframes_row (s : ByteArray) (id ix ct : Int) (t : ByteArray) (w : World) (hs : s.size ≤ 9223372036854775807) (ht : t.size ≤ 9223372036854775807) (hl : laidMetH Tryd.prog Rows.packetUnframesRow.laid w) :
    Calls Tryd.prog 5 #[.string s, .agg #[.int .i64 id, .int .i64 ix, .int .i64 ct, .string t]] w (Ib (.bool true) w) := unframes_law s id ix ct t w hs ht (tabs_laid hl)
end Go.Proofs.YtcjaaijohapeaaaDoor
/-
  The law of decoding alone over values as they come in. No conditions beyond the row's own.
-/
namespace Go.Proofs.YtcjaaijohapeaaaDoor
open Go.RowKit Go.Lib
theorem only_row (s : ByteArray) (w : World) (hs : s.size ≤ 9223372036854775807) (hl : laidMetH Tryd.prog Rows.packetOnlyRow.laid w) :
    Calls Tryd.prog 3 #[.string s] w (Ib (.bool true) w) := only_law s w hs (tabs_laid hl)
end Go.Proofs.YtcjaaijohapeaaaDoor
/-
  Rows' arguments: fragments. No conditions beyond those that each names.
-/
namespace Go.Proofs.YtcjaaijohapeaaaDoor
open Go.ChangeShapes Go.WideShapes Go.ChangeAt Go.RowKit
theorem trodAll_stays {H : Type} {enc : TypeId × Value → H} {P : Program} (hl : laidOutB P = true) {W W' : World} (hb : Below W.heap.size W W') :
    ∀ {ts : List TypeId} {vs : List Value} {ds : List (DataW H)} {ps : List MemPlace}, (ts.all fun t => P.readableRec t && decide (t < P.types.size)) = true → DataW.TrodAll enc P W 0 (fun _ => true) true ts vs ds ps → (∀ x ∈ ps, x.block < W.heap.size) →
      DataW.TrodAll enc P W' 0 (fun b => decide (b < W.heap.size)) true ts vs ds ps
  | [], [], [], _, _, h, _ => h
  | t :: ts, v :: vs, d :: ds, ps, hr, ⟨p, q, h, hs, e⟩, hlt => by
    simp only [List.all_cons, Bool.and_eq_true, decide_eq_true_eq] at hr
    have hp : ∀ x ∈ p, x.block < W.heap.size := fun x hx => hlt x (by rw [e]; simp [hx])
    have hq : ∀ x ∈ q, x.block < W.heap.size := fun x hx => hlt x (by rw [e]; simp [hx])
    exact ⟨p, q, Go.WideElems.Trod_stays hl hr.1.1 hr.1.2 h (fun x hx => hb.same (hp x hx)) (fun x hx => by simpa using hp x hx), trodAll_stays hl hb hr.2 hs hq, e⟩
set_option maxRecDepth 100000 in
theorem post_stays {H : Type} {enc : TypeId × Value → H} {f : Func} {s : ChangeSpec} {W W' : World} {args : Array Value} {ds : List (DataW H)} {before : List MemPlace} (hs : s.vars = []) (hrt : f.resultTypes = #[4])
    (hW : DataW.Whole enc Tryd.prog f.params.toList s.vars false W args.toList ds [] before) (hres : (s.fn H (ds ++ [])).results = [.lit (.bool true)]) (hvs : (s.fn H (ds ++ [])).vars = []) (hds : (s.fn H (ds ++ [])).args = ds)
    (hr : (f.params.toList.all fun t => Tryd.prog.readableRec t && decide (t < Tryd.prog.types.size)) = true) (hb : Below W.heap.size W W') :
    s.post enc Tryd.prog f false true false false W args (.bool true) W' := by
  have hlt : ∀ p ∈ before, p.block < W.heap.size := fun p hp => hW.lt p hp
  have hW2 := hW
  obtain ⟨p, q, hA, hV, e, _, _⟩ := hW2
  have hA2 : DataW.TrodAll enc Tryd.prog W 0 (fun _ => true) true f.params.toList args.toList ds p := hA
  refine post_true (pa := p) hs hrt hW hres hvs ?_ hb
  rw [hds]
  exact trodAll_stays (by kernel_rfl) hb hr hA2 fun x hx => hlt x (by rw [e]; simp [hx])
section
variable {H : Type} {enc : TypeId × Value → H}
theorem int_cell {W : World} {b : Nat} {sp : Nat → Bool} {hd : Bool} {k : Nat} {t : TypeId} {K : IntKind} {v : Value} {y : DataW H × List MemPlace} (ht : Tryd.prog.underlying t = some (.int K)) (h : DataW.trod enc Tryd.prog W b sp hd k t [v] = some y) : ∃ n, v = .int K n ∧ (Lit.int K n).wf = true := by
  obtain ⟨n, hc, _, hw⟩ := DataW.trod_int ht h
  injection hc with hc _
  exact ⟨n, hc, hw⟩
theorem str_cell {W : World} {b : Nat} {sp : Nat → Bool} {hd : Bool} {k : Nat} {t : TypeId} {v : Value} {y : DataW H × List MemPlace} (ht : Tryd.prog.underlying t = some .string) (h : DataW.trod enc Tryd.prog W b sp hd k t [v] = some y) : ∃ s, v = .string s ∧ s.size ≤ maxLen := by
  obtain ⟨s, hc, _, hs⟩ := DataW.trod_string ht h
  injection hc with hc _
  exact ⟨s, hc, hs⟩
theorem i64_wf {n : Int} (h : (Lit.int .i64 n).wf = true) : -9223372036854775808 ≤ n ∧ n ≤ 9223372036854775807 := by
  simp [Lit.wf, IntKind.min, IntKind.max, IntKind.signed, IntKind.bits] at h
  omega
set_option maxRecDepth 100000 in
/-- A cell that is a slice of structs: its elements' cells, each read by its field's type. -/
theorem open_elems2 {W : World} {k0 : Nat} {t e : TypeId} {z : Nat} {fs : Array Field} {v : Value} {y : DataW H × List MemPlace} (ht : Tryd.prog.underlying t = some (.slice e)) (he : Tryd.prog.underlying e = some (.struct fs)) (hz : Tryd.prog.cellsOf e = z)
    (hf : DataW.trod enc Tryd.prog W 0 (fun _ => true) true k0 t [v] = some y) :
    ∃ A n c, v = .slice A n c ∧ n ≤ 9223372036854775807 ∧ (n = 0 ∨ ∃ a : Addr, A = some a ∧ ∀ i, i < n → ∃ (cs : List Value) (ys : List (DataW H × List MemPlace)) (k : Nat), cs.length = z ∧ ys.length = fs.size ∧
      (∀ j, j < z → W.cell? ((a.add (i * z)).add j) = cs[j]?) ∧ ∀ (j : Nat) (f : Field), fs[j]? = some f → DataW.trod enc Tryd.prog W 0 (fun _ => true) true k f.type ((cs.drop f.offset).take (Tryd.prog.cellsOf f.type)) = ys[j]?) := by
  obtain ⟨d, p⟩ := y
  rcases Go.Deep.open_slice ht hf with ⟨hc, _⟩ | ⟨a, len, cap, m, k, D, Pl, hc, _, hl, hm, hmm, _, hi⟩
  · injection hc with hc
    subst hc
    exact ⟨none, 0, 0, rfl, by decide, .inl rfl⟩
  · injection hc with hc
    subst hc
    refine ⟨_, _, _, rfl, by simp only [maxLen] at hm; omega, .inr ⟨a, rfl, fun i hin => ?_⟩⟩
    obtain ⟨cs, hcells, htr⟩ := hi i (by simp at hmm; omega)
    rw [hz] at hcells
    obtain ⟨ys, k', _, _, hlen, hyl, hg⟩ := DataW.trod_struct he htr
    obtain ⟨_, hcl, hat⟩ := World.cells?_some hcells
    exact ⟨cs, ys, k', hcl, hyl, hat, hg⟩
set_option maxRecDepth 100000 in
theorem one_cell {W : World} {r : Reach} {b0 : Nat} {t e : TypeId} {v : Value} {d : DataW H} {p : List MemPlace} (ht : Tryd.prog.underlying t = some (.slice e)) (hv : Value.okWide Tryd.prog W r b0 t v) (h : DataW.Trod enc Tryd.prog W 0 (fun _ => true) true t v d p) : ∃ k, DataW.trod enc Tryd.prog W 0 (fun _ => true) true k t [v] = some (d, p) := by
  obtain ⟨A, n, c, rfl⟩ := okWide_slice ht hv
  exact h
set_option maxRecDepth 100000 in
/-- A fragment. -/
theorem open_frg {W : World} {r : Reach} {b0 : Nat} {v : Value} {d : DataW H} {p : List MemPlace} (hv : Value.okWide Tryd.prog W r b0 32 v) (h : DataW.Trod enc Tryd.prog W 0 (fun _ => true) true 32 v d p) :
    ∃ (id ix ct : Int) (s : ByteArray), v = .agg #[.int .i64 id, .int .i64 ix, .int .i64 ct, .string s] ∧ s.size ≤ 9223372036854775807 := by
  obtain ⟨cs, rfl, hsz, hrow⟩ : ∃ cs, v = .agg cs ∧ cs.size = Tryd.prog.cellsOf 32 ∧ Row.okWide Tryd.prog W r b0 32 cs := by
    simpa [Value.okWide, Tryd.underlying32] using hv
  obtain ⟨fuel, hf⟩ := h
  obtain ⟨l⟩ := cs
  have hf : DataW.trod enc Tryd.prog W 0 (fun _ => true) true fuel 32 l = some (d, p) := hf
  obtain ⟨xs, n, rfl, -, hcl, hxl, hg⟩ := DataW.trod_struct Tryd.underlying32 hf
  have ez : Tryd.prog.cellsOf 32 = 4 := by kernel_rfl
  rw [ez] at hcl
  match l, hcl with
  | [c0, c1, c2, c3], _ =>
    have h0 : DataW.trod enc Tryd.prog W 0 (fun _ => true) true n 3 (([c0, c1, c2, c3].drop 0).take (Tryd.prog.cellsOf 3)) = xs[0]? := hg 0 _ rfl
    have h1 : DataW.trod enc Tryd.prog W 0 (fun _ => true) true n 3 (([c0, c1, c2, c3].drop 1).take (Tryd.prog.cellsOf 3)) = xs[1]? := hg 1 _ rfl
    have h2 : DataW.trod enc Tryd.prog W 0 (fun _ => true) true n 3 (([c0, c1, c2, c3].drop 2).take (Tryd.prog.cellsOf 3)) = xs[2]? := hg 2 _ rfl
    have h3 : DataW.trod enc Tryd.prog W 0 (fun _ => true) true n 9 (([c0, c1, c2, c3].drop 3).take (Tryd.prog.cellsOf 9)) = xs[3]? := hg 3 _ rfl
    rw [show Tryd.prog.cellsOf 3 = 1 by kernel_rfl] at h0 h1 h2
    rw [show Tryd.prog.cellsOf 9 = 1 by kernel_rfl] at h3
    have h0 : DataW.trod enc Tryd.prog W 0 (fun _ => true) true n 3 [c0] = xs[0]? := h0
    have h1 : DataW.trod enc Tryd.prog W 0 (fun _ => true) true n 3 [c1] = xs[1]? := h1
    have h2 : DataW.trod enc Tryd.prog W 0 (fun _ => true) true n 3 [c2] = xs[2]? := h2
    have h3 : DataW.trod enc Tryd.prog W 0 (fun _ => true) true n 9 [c3] = xs[3]? := h3
    have l4 : xs.length = 4 := hxl
    rw [List.getElem?_eq_getElem (by omega)] at h0 h1 h2 h3
    obtain ⟨id, rfl, -⟩ := int_cell Tryd.underlying3 h0
    obtain ⟨ix, rfl, -⟩ := int_cell Tryd.underlying3 h1
    obtain ⟨ct, rfl, -⟩ := int_cell Tryd.underlying3 h2
    obtain ⟨s, rfl, hs⟩ := str_cell (show Tryd.prog.underlying 9 = some .string by kernel_rfl) h3
    exact ⟨id, ix, ct, s, rfl, by unfold maxLen at hs; omega⟩
end
end Go.Proofs.YtcjaaijohapeaaaDoor

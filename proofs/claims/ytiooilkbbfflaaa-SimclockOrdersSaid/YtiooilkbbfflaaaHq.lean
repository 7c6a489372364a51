import Derived.Test.YtiooilkbbfflaaaHp
/-
  A clock: adding timers. No conditions beyond those that each names.
-/
namespace Go.Proofs.Ytiooilkbbfflaaa
open Go.RowKit Go.Sort Go.Lib Go.Shelf
theorem Sd.set {B p o j : Nat} {w : World} {v u : Value} {l : List Tm} (h : Sd B p o w v l) (hj : j ≠ o) : Sd B p o (w.setCell ⟨p, j, none⟩ u) v l := by
  have nn : (⟨p, j, none⟩ : Addr) ≠ ⟨p, o, none⟩ := fun e => hj (by injection e)
  refine ⟨(World.cell?_setCell_other (h := nn) ..).trans h.c, ?_, h.own.kept (gb_set1 w ⟨p, j, none⟩ u) (.inr h.ne), h.ne⟩
  rw [← h.f]; simp
theorem fr_set (w : World) (p j i : Nat) (u : Value) : (w.setCell ⟨p, j, none⟩ u).frozen? ⟨p, i, none⟩ = w.frozen? ⟨p, i, none⟩ := by simp
theorem Okc.add {S : Cs} (h : Okc S) {t : Nat} {per : Nat} (h1 : S.now ≤ t) (h2 : t ≤ 1099511627776) (h3 : S.l.length < 64) (hl : S.last < 999999) (hper : per ≤ 1099511627776) : Okc ⟨S.now, S.last + 1, ins ⟨S.last + 1, t, per⟩ S.l⟩ := by
  refine ⟨h.iv.ins (fun y hy => ?_) (by show t ≤ _; omega) hper (by show S.last + 1 ≤ _; omega), h.nw, ?_, fun x hx => ?_, fun x hx => ?_⟩
  · have := (h.ids y hy).2
    show y.id ≠ S.last + 1
    omega
  · show (ins _ S.l).length ≤ 64
    rw [ins_len]; omega
  · show 1 ≤ x.id ∧ x.id ≤ S.last + 1
    rcases ins_mem.1 hx with rfl | hx
    · exact ⟨by show 1 ≤ S.last + 1; omega, Nat.le_refl _⟩
    · have := h.ids x hx; omega
  · rcases ins_mem.1 hx with rfl | hx
    · exact h1
    · exact h.ge x hx
set_option maxRecDepth 100000 in
set_option maxHeartbeats 4000000 in
theorem cadd_any (c : Nat) (v : Value) (S : Cs) (t : Int) (per : Nat) (w : World) (h : Ck c w v S) (hl : S.last < 999999) (hper : per ≤ 1099511627776) :
    Calls Try.prog 29 #[(.pointer (some ⟨c, 0, none⟩)), .int .i64 t, .int .i64 (per : Int)] w (CkM c v (addS S t per).1 (.tuple #[.int .i64 ((addS S t per).2.1 : Int), .int .i64 (addS S t per).2.2]) w) := by
  have cA := ahead_any c v S t w h
  have c1 := h.c1
  have f1 := h.f1
  have lc := h.lt
  have H := Lib.hid h
  cases ha : ahd S t with
  | false =>
    rw [ha] at cA
    have HR := Lib.hid (show addS S t per = (S, 0, 4) by unfold addS; rw [ha]; rfl)
    clear h ha
    go_enter Try.func29, Try.ntmps29
    go_wp2_with (refine cA.mono ?_; rintro e w1 ⟨rfl, hb1⟩)
    go_ret2
    rw [HR.out]
    exact CkM.same H.out ⟨rfl, hb1⟩
  | true =>
    rw [ha] at cA
    have hd := h.sd
    obtain ⟨A, d, rfl, -⟩ := own_nil_or hd.own
    have c2 := hd.c
    have hsn := h.ok.len
    obtain ⟨n, hn⟩ : ∃ n, S.l.length = n := ⟨_, rfl⟩
    have HN := Lib.hid hn
    have ht := of_decide_eq_true ha
    rw [hn] at c2 hsn
    have hn9 : n ≤ 1000 := by omega
    clear h
    by_cases hf : 64 ≤ n
    · have d1 : decide ((64 : Int) ≤ (n : Int)) = true := decide_eq_true (by omega)
      have d2 : decide (64 ≤ n) = true := decide_eq_true hf
      have HR := Lib.hid (show addS S t per = (S, 0, 15) by unfold addS; rw [ha, if_pos rfl, if_pos (by rw [hn]; exact hf)])
      have HC := Lib.hid c2
      clear hf hsn ht ha hn hd
      go_enter Try.func29, Try.ntmps29
      go_wp2_with (refine cA.mono ?_; rintro e w1 ⟨rfl, hb1⟩; have k2 := cell_next hb1 c2; have k1 := cell_next hb1 c1; have kl := blk_lt k1)
      go_ret2
      rw [HR.out]
      exact CkM.same H.out ⟨rfl, hb1⟩
    · have d1 : decide ((64 : Int) ≤ (n : Int)) = false := decide_eq_false (by omega)
      have d2 : decide (64 ≤ n) = false := decide_eq_false hf
      have HR := Lib.hid (show addS S t per = (⟨S.now, S.last + 1, ins ⟨S.last + 1, t.toNat, per⟩ S.l⟩, S.last + 1, 0) by unfold addS; rw [ha, if_pos rfl, if_neg (by rw [hn]; exact hf)])
      have HT := Lib.hid ht
      have HF := Lib.hid (show S.l.length < 64 by rw [hn]; omega)
      have HD := Lib.hid hd
      clear hf hsn ht ha hn hd
      go_enter Try.func29, Try.ntmps29
      go_upto_region 8 with (refine cA.mono ?_; rintro e w0 ⟨rfl, hb0⟩; have k2 := cell_next hb0 c2; have k1 := cell_next hb0 c1; have kf := (hb0.frozen lc).trans f1; have kl := blk_lt k1)
      have sd1 := (HD.out.next hb0).set (j := 1) (u := .int .i64 ((S.last : Int) + 1)) (by decide)
      have G1 : w.grownBy (w0.setCell ⟨c, 1, none⟩ (.int .i64 ((S.last : Int) + 1))) (some c) := (gbq_of hb0 _).trans (gb_set1 w0 ⟨c, 1, none⟩ _)
      have j1 : (w0.setCell ⟨c, 1, none⟩ (.int .i64 ((S.last : Int) + 1))).cell? ⟨c, 1, none⟩ = some (.int .i64 ((S.last : Int) + 1)) := World.cell?_setCell_same (h := k1) ..
      have j0 : (w0.setCell ⟨c, 1, none⟩ (.int .i64 ((S.last : Int) + 1))).cell? ⟨c, 0, none⟩ = some (.int .i64 (S.now : Int)) := (World.cell?_setCell_other (h := fun e => by injection e with _ e; cases e) ..).trans (cell_next hb0 H.out.c0)
      have q0 : (w0.setCell ⟨c, 1, none⟩ (.int .i64 ((S.last : Int) + 1))).frozen? ⟨c, 0, none⟩ = false := (fr_set _ _ _ _ _).trans ((hb0.frozen lc).trans H.out.f0)
      have q1 : (w0.setCell ⟨c, 1, none⟩ (.int .i64 ((S.last : Int) + 1))).frozen? ⟨c, 1, none⟩ = false := (fr_set _ _ _ _ _).trans kf
      generalize w0.setCell ⟨c, 1, none⟩ (.int .i64 ((S.last : Int) + 1)) = w1 at *
      clear k1 k2 kf kl hb0
      have k1 := j1
      have kl := blk_lt k1
      refine wp_region_seqN (by kernel_rfl) (FF [(0, Fact.at_ w1 (.pointer (some ⟨c, 0, none⟩))), (1, Fact.at_ w1 (.int .i64 t)), (2, Fact.at_ w1 (.int .i64 (per : Int))), (28, Fact.at_ w1 (.pointer (some ⟨c, 0, none⟩))), (29, Fact.at_ w1 (.pointer (some ⟨c, 0, none⟩))), (30, Fact.at_ w1 (.pointer (some ⟨c, 2, none⟩))), (31, Fact.at_ w1 (.pointer (some ⟨c, 0, none⟩))), (32, Fact.at_ w1 (.pointer (some ⟨c, 0, none⟩))), (33, Fact.at_ w1 (.pointer (some ⟨c, 1, none⟩))), (34, Fact.at_ w1 (.int .i64 ((S.last : Int) + 1))), (35, Fact.at_ w1 (.int .i64 t)), (36, Fact.at_ w1 (.agg #[.int .i64 ((S.last : Int) + 1), .int .i64 t])), (37, Fact.at_ w1 (.int .i64 (per : Int))), (38, Fact.at_ w1 (.agg #[.int .i64 ((S.last : Int) + 1), .int .i64 t, .int .i64 (per : Int)]))]) [0, 1, 2] [] 44 11 [28, 29, 30, 31, 32, 33, 34, 35, 36, 37, 38] rfl (by kernel_rfl) (by kernel_rfl) (by decide) (by kernel_rfl) (by kernel_rfl) ?_ ?_ ?_
      · intro t9 ht9
        simp only [List.mem_cons, List.not_mem_nil, or_false] at ht9
        rcases ht9 with rfl | rfl | rfl
        · exact ⟨rfl, Below.refl _ _⟩
        · exact ⟨rfl, Below.refl _ _⟩
        · exact ⟨rfl, Below.refl _ _⟩
      · refine fcs ⟨Ob.new_ (atcopy 0 28 (.pointer (some ⟨c, 0, none⟩)) (.inl rfl) rfl (by first | exact .inl rfl | exact .inr ⟨_, _, _, rfl, rfl, by kernel_rfl, by decide, rfl⟩) (by kernel_rfl) rfl rfl) (by kernel_rfl), ?_⟩
        refine fcs ⟨Ob.new_ (at1 28 29 (.pointer (some ⟨c, 0, none⟩)) (.pointer (some ⟨c, 0, none⟩)) rfl (by first | exact .inl rfl | exact .inr ⟨_, _, _, rfl, rfl, by kernel_rfl, by decide, rfl⟩) (by kernel_rfl) rfl rfl (fun a9 W9 hb9 h9 => by simp [execOp, h9] <;> go_simp)) (by kernel_rfl), ?_⟩
        refine fcs ⟨Ob.new_ (at1 29 30 (.pointer (some ⟨c, 0, none⟩)) (.pointer (some ⟨c, 2, none⟩)) rfl (by first | exact .inl rfl | exact .inr ⟨_, _, _, rfl, rfl, by kernel_rfl, by decide, rfl⟩) (by kernel_rfl) rfl rfl (fun a9 W9 hb9 h9 => by simp [execOp, h9] <;> go_simp)) (by kernel_rfl), ?_⟩
        refine fcs ⟨Ob.new_ (atcopy 0 31 (.pointer (some ⟨c, 0, none⟩)) (.inl rfl) rfl (by first | exact .inl rfl | exact .inr ⟨_, _, _, rfl, rfl, by kernel_rfl, by decide, rfl⟩) (by kernel_rfl) rfl rfl) (by kernel_rfl), ?_⟩
        refine fcs ⟨Ob.new_ (at1 31 32 (.pointer (some ⟨c, 0, none⟩)) (.pointer (some ⟨c, 0, none⟩)) rfl (by first | exact .inl rfl | exact .inr ⟨_, _, _, rfl, rfl, by kernel_rfl, by decide, rfl⟩) (by kernel_rfl) rfl rfl (fun a9 W9 hb9 h9 => by simp [execOp, h9] <;> go_simp)) (by kernel_rfl), ?_⟩
        refine fcs ⟨Ob.new_ (at1 32 33 (.pointer (some ⟨c, 0, none⟩)) (.pointer (some ⟨c, 1, none⟩)) rfl (by first | exact .inl rfl | exact .inr ⟨_, _, _, rfl, rfl, by kernel_rfl, by decide, rfl⟩) (by kernel_rfl) rfl rfl (fun a9 W9 hb9 h9 => by simp [execOp, h9] <;> go_simp)) (by kernel_rfl), ?_⟩
        refine fcs ⟨Ob.new_ (at1 33 34 (.pointer (some ⟨c, 1, none⟩)) (.int .i64 ((S.last : Int) + 1)) rfl (by first | exact .inl rfl | exact .inr ⟨_, _, _, rfl, rfl, by kernel_rfl, by decide, rfl⟩) (by kernel_rfl) rfl rfl (fun a9 W9 hb9 h9 => by have g0 := cell_next hb9 k1; simp [execOp, h9] <;> go_simp)) (by kernel_rfl), ?_⟩
        refine fcs ⟨Ob.new_ (atcopy 1 35 (.int .i64 t) (.inl rfl) rfl (by first | exact .inl rfl | exact .inr ⟨_, _, _, rfl, rfl, by kernel_rfl, by decide, rfl⟩) (by kernel_rfl) rfl rfl) (by kernel_rfl), ?_⟩
        refine fcs ⟨Ob.new_ (at2 34 35 36 (.int .i64 ((S.last : Int) + 1)) (.int .i64 t) (.agg #[.int .i64 ((S.last : Int) + 1), .int .i64 t]) rfl (by first | exact .inl rfl | exact .inr ⟨_, _, _, rfl, rfl, by kernel_rfl, by decide, rfl⟩) (by kernel_rfl) (by kernel_rfl) rfl rfl rfl (fun a9 W9 hb9 h9 h8 => by simp [execOp, h9, h8] <;> go_simp)) (by kernel_rfl), ?_⟩
        refine fcs ⟨Ob.new_ (atcopy 2 37 (.int .i64 (per : Int)) (.inl rfl) rfl (by first | exact .inl rfl | exact .inr ⟨_, _, _, rfl, rfl, by kernel_rfl, by decide, rfl⟩) (by kernel_rfl) rfl rfl) (by kernel_rfl), ?_⟩
        refine fcs ⟨Ob.new_ (at2 36 37 38 (.agg #[.int .i64 ((S.last : Int) + 1), .int .i64 t]) (.int .i64 (per : Int)) (.agg #[.int .i64 ((S.last : Int) + 1), .int .i64 t, .int .i64 (per : Int)]) rfl (by first | exact .inl rfl | exact .inr ⟨_, _, _, rfl, rfl, by kernel_rfl, by decide, rfl⟩) (by kernel_rfl) (by kernel_rfl) rfl rfl rfl (fun a9 W9 hb9 h9 h8 => by simp [execOp, h9, h8] <;> go_simp)) (by kernel_rfl), ?_⟩
        exact fnl
      intro vv wv hvv hbv _ _
      have hv28 : vv 28 = (.pointer (some ⟨c, 0, none⟩)) := (hvv 28 (by decide)).1
      have hv29 : vv 29 = (.pointer (some ⟨c, 0, none⟩)) := (hvv 29 (by decide)).1
      have hv30 : vv 30 = (.pointer (some ⟨c, 2, none⟩)) := (hvv 30 (by decide)).1
      have hv31 : vv 31 = (.pointer (some ⟨c, 0, none⟩)) := (hvv 31 (by decide)).1
      have hv32 : vv 32 = (.pointer (some ⟨c, 0, none⟩)) := (hvv 32 (by decide)).1
      have hv33 : vv 33 = (.pointer (some ⟨c, 1, none⟩)) := (hvv 33 (by decide)).1
      have hv34 : vv 34 = (.int .i64 ((S.last : Int) + 1)) := (hvv 34 (by decide)).1
      have hv35 : vv 35 = (.int .i64 t) := (hvv 35 (by decide)).1
      have hv36 : vv 36 = (.agg #[.int .i64 ((S.last : Int) + 1), .int .i64 t]) := (hvv 36 (by decide)).1
      have hv37 : vv 37 = (.int .i64 (per : Int)) := (hvv 37 (by decide)).1
      have hv38 : vv 38 = (.agg #[.int .i64 ((S.last : Int) + 1), .int .i64 t, .int .i64 (per : Int)]) := (hvv 38 (by decide)).1
      simp only [lay, List.foldl_cons, List.foldl_nil, List.setIfInBounds_toArray, List.set_cons_succ, List.set_cons_zero, hv28, hv29, hv30, hv31, hv32, hv33, hv34, hv35, hv36, hv37, hv38, List.drop_succ_cons, List.drop_zero]
      have t0 : ((t.toNat : Nat) : Int) = t := Int.toNat_of_nonneg (by have := HT.out.1; omega)
      have cS := sadd_any c c 2 _ ⟨S.last + 1, t.toNat, per⟩ S.l wv (by rw [HN.out]; omega) (Nat.le_trans (Nat.le_of_lt kl) hbv.size) (sd1.next hbv) (fun i j hi hj hij h => sq_mono H.out.ok.iv.sq _ i j hi hj hij h)
      have cS2 : Calls Try.prog 37 #[(.pointer (some ⟨c, 2, none⟩)), (.agg #[.int .i64 ((S.last : Int) + 1), .int .i64 t, .int .i64 (per : Int)])] wv (MvP c c 2 (.slice A S.l.length d) (ins ⟨S.last + 1, t.toNat, per⟩ S.l) (.tuple #[]) wv) := by
        have h := cS
        simp only [t0, Int.natCast_add] at h
        exact h
      have HZ : ∀ w6, MvP c c 2 (.slice A S.l.length d) (ins ⟨S.last + 1, t.toNat, per⟩ S.l) (.tuple #[]) wv (.returned (.tuple #[])) w6 → w6.cell? ⟨c, 1, none⟩ = some (.int .i64 ((S.last : Int) + 1)) ∧ c < w6.heap.size ∧ Hid (CkM c (.slice A S.l.length d) (addS S t per).1 (.tuple #[.int .i64 ((S.last : Int) + 1), .int .i64 0]) w (.returned (.tuple #[.int .i64 ((S.last : Int) + 1), .int .i64 0])) w6) := by
        rintro w6 ⟨-, v6, M6⟩
        have m0 := (M6.cl 0 (by decide)).trans (cell_next hbv j0)
        have m1 := (M6.cl 1 (by decide)).trans (cell_next hbv j1)
        refine ⟨m1, blk_lt m1, Lib.hid ?_⟩
        rw [HR.out]
        have hge := HT.out
        refine ⟨rfl, v6, ⟨m0, (M6.fr 0).trans ((hbv.frozen (p := ⟨c, 0, none⟩) kl).trans q0), by simpa using m1, (M6.fr 1).trans ((hbv.frozen (p := ⟨c, 1, none⟩) kl).trans q1), M6.sd, H.out.ok.add (by omega) (by omega) HF.out hl hper⟩, ?_, ?_⟩
        · exact M6.nb.w (Nat.le_trans G1.size hbv.size)
        · exact ((Fm.gb (s := fun i => i = c ∨ (Value.slice A S.l.length d).ownBlock = some i) G1 fun i e => by injection e with e; exact .inl e.symm).trans (Fm.of (fun i => i = c ∨ (Value.slice A S.l.length d).ownBlock = some i) hbv) fun i _ e => e).trans M6.fm fun i _ e => e
      have HZ2 := Lib.hid HZ
      clear HZ cS G1 sd1 j0 j1 q0 q1 hvv t0
      go_wp2_with (refine cS2.mono ?_; intro e w6 k6; obtain rfl := k6.1; obtain ⟨n1, nl, HK⟩ := HZ2.out w6 k6; clear k6)
      go_ret2
      rw [HR.out] at HK ⊢
      exact HK.out
end Go.Proofs.Ytiooilkbbfflaaa

/-
  Contract of the reference's ReadText. No conditions but Go's own bounds.
-/
import Derived.Test.YtcjaaijohapeaaaDoorWi
namespace Go.Proofs.YtcjaaijohapeaaaDoor
open Go.RowKit
/-- How many bytes a string with its length takes. -/
def kT (l : List UInt8) : Nat := kU l + nU l
theorem wr_i {k : Nat} (h : k ≤ 9223372036854775807) : IntKind.i64.wrap (k : Int) = (k : Int) := IntWalk.i64_in _ (by omega)
theorem wr_u {k : Nat} (h : k ≤ 9223372036854775807) : IntKind.u64.wrap (k : Int) = (k : Int) := by rw [IntKind.wrap_u64]; omega
theorem wr_w {k : Nat} (h : k ≤ 9223372036854775807) : wrap64 (k : Int) = (k : Int) := wrap64_in (by omega) (by omega)
theorem kU_len {l : List UInt8} (h : eU l = 0) : kU l ≤ l.length := by
  have := ((dv_le l 0 0 _ _ _ (dv_all l) (by decide) (by decide)).2.1 h).2
  unfold kU; omega
theorem rU_eq {l : List UInt8} (h : eU l = 0) : rU l = l.drop (kU l) := by unfold rU; rw [if_pos h]; rfl
set_option maxRecDepth 100000 in
set_option maxHeartbeats 1000000 in
theorem refT_any (S : List UInt8) (a e : Nat) (M : Int) (w : World) (hS : S.length ≤ 9223372036854775000) (ha : a ≤ S.length) (h1 : -9223372036854775808 ≤ M) (h2 : M ≤ 9223372036854775807) :
    Calls Tryd.prog 45 #[rs S a e, .int .i64 M] w (Ib (.tuple #[rs S (aP e (eT M (S.drop a)) a (kT (S.drop a))) (aE e (eT M (S.drop a))), .string (bs (if e = 0 then tT M (S.drop a) else []))]) w) := by
  have cU := fun w => refU_any S a e w hS ha
  have cF := fun e2 w => failed_any S a e e2 w
  have hnl := nU_le (S.drop a)
  by_cases he : e = 0
  · subst he
    by_cases hU : eU (S.drop a) = 0
    · have hkl := kU_len hU
      have hru := rU_eq hU
      rw [List.drop_drop] at hru
      rw [List.length_drop] at hkl
      rw [hU, if_pos rfl, show aP 0 0 a (kU (S.drop a)) = a + kU (S.drop a) by rfl, show aE 0 0 = 0 by rfl] at cU
      rw [if_pos rfl, show aE 0 (eT M (S.drop a)) = eT M (S.drop a) by rfl]
      by_cases hM : M < 0
      · have e11 : eS M 3 (S.drop a) = 3 := by unfold eS; rw [if_neg (by omega), if_pos (.inl hM)]
        have e1 : eT M (S.drop a) = 3 := by unfold eT; rw [e11]; rfl
        have e2 : bs (tT M (S.drop a)) = ⟨#[]⟩ := by unfold tT; rw [e1]; rfl
        rw [e1, e2, aP0 _ _ _ (by decide)]
        clear e1 e2 e11 hU hS ha hru hkl
        generalize nU (S.drop a) = n at *
        generalize a + kU (S.drop a) = p at *
        unfold rs at *
        go_enter Tryd.func45, Tryd.ntmps45
        go_wp2_with fail
        refine (cU _).mono ?_
        rintro e w1 ⟨rfl, hb⟩
        obtain ⟨V1, V2⟩ := vars2 hb
        have hb2 := Below.next (two w _ _) hb
        have V2k := V2
        obtain ⟨u0, u1, u2, u3, u4, u5, u6⟩ := V1
        obtain ⟨v0, v1, v2, v3, v4, v5, v6⟩ := V2
        go_wp2_with fail
        refine (cF 3 _).mono ?_
        rintro e w2 ⟨rfl, hb3⟩
        have hb4 := Below.next (hb2.alloc hb2.size _) hb3
        have V3k := (V2k.next (one w1 _)).next hb3
        clear v0 v1 v2 v3 v4 v5 v6
        obtain ⟨v0, v1, v2, v3, v4, v5, v6⟩ := V3k
        go_wp2_with fail
        refine bodyPost_ret (v := .tuple #[.agg #[.string (bs S), .int .i64 (a : Int), .int .i64 (3 : Int)], .string ⟨#[]⟩]) (by simp [results, Tryd.results45, go_sem, v1, v2, v3]) rfl ⟨rfl, ?_⟩
        exact set3 hb4 _ _ _ _ (Nat.le_succ _)
      · obtain ⟨m, rfl⟩ : ∃ m : Nat, M = (m : Int) := ⟨M.toNat, by omega⟩
        have d0 : decide ((m : Int) < 0) = false := by simp
        have k1 : IntKind.u64.wrap (m : Int) = (m : Int) := by rw [IntKind.wrap_u64]; omega
        by_cases hm : m < nU (S.drop a)
        · have e11 : eS m 3 (S.drop a) = 3 := by unfold eS; rw [if_neg (by omega), if_pos (.inr (by omega))]
          have e1 : eT m (S.drop a) = 3 := by unfold eT; rw [e11]; rfl
          have e2 : bs (tT m (S.drop a)) = ⟨#[]⟩ := by unfold tT; rw [e1]; rfl
          rw [e1, e2, aP0 _ _ _ (by decide)]
          clear e1 e2 e11 hU hS ha hM hru hkl
          generalize nU (S.drop a) = n at *
          generalize a + kU (S.drop a) = p at *
          have d1 : decide (m < n) = true := by simpa using hm
          unfold rs at *
          go_enter Tryd.func45, Tryd.ntmps45
          go_wp2_with fail
          refine (cU _).mono ?_
          rintro e w1 ⟨rfl, hb⟩
          obtain ⟨V1, V2⟩ := vars2 hb
          have hb2 := Below.next (two w _ _) hb
          have V2k := V2
          obtain ⟨u0, u1, u2, u3, u4, u5, u6⟩ := V1
          obtain ⟨v0, v1, v2, v3, v4, v5, v6⟩ := V2
          go_wp2_with fail
          refine (cF 3 _).mono ?_
          rintro e w2 ⟨rfl, hb3⟩
          have hb4 := Below.next (hb2.alloc hb2.size _) hb3
          have V3k := (V2k.next (one w1 _)).next hb3
          clear v0 v1 v2 v3 v4 v5 v6
          obtain ⟨v0, v1, v2, v3, v4, v5, v6⟩ := V3k
          go_wp2_with fail
          refine bodyPost_ret (v := .tuple #[.agg #[.string (bs S), .int .i64 (a : Int), .int .i64 (3 : Int)], .string ⟨#[]⟩]) (by simp [results, Tryd.results45, go_sem, v1, v2, v3]) rfl ⟨rfl, ?_⟩
          exact set3 hb4 _ _ _ _ (Nat.le_succ _)
        · have e11 : eS m 3 (S.drop a) = 0 := by unfold eS; rw [if_neg (by omega), if_neg (by omega)]
          have hsz : (bs S).size = S.length := rfl
          have hx : nU (S.drop a) ≤ 9223372036854775807 := by omega
          by_cases hs : (rU (S.drop a)).length < nU (S.drop a)
          · have e1 : eT m (S.drop a) = 1 := by unfold eT; rw [e11, if_neg (by decide), if_pos hs]
            have e2 : bs (tT m (S.drop a)) = ⟨#[]⟩ := by unfold tT; rw [e1]; rfl
            rw [e1, e2, aP0 _ _ _ (by decide)]
            rw [hru, List.length_drop] at hs
            have hp : a + kU (S.drop a) ≤ S.length := by omega
            clear e1 e2 e11 hU ha hM hkl hru
            generalize nU (S.drop a) = n at *
            generalize a + kU (S.drop a) = p at *
            obtain ⟨d, hd⟩ : ∃ d, S.length - p = d := ⟨_, rfl⟩
            rw [hd] at hs
            have d1 : decide (m < n) = false := by simpa using hm
            have l1 : IntKind.i64.wrap ((S.length : Int) - (p : Int)) = (d : Int) := by rw [show (S.length : Int) - (p : Int) = (d : Int) by omega]; exact IntWalk.i64_in _ (by omega)
            have l2 : (S.length : Int) - (p : Int) = (d : Int) := by omega
            have l3 : IntKind.u64.wrap (d : Int) = (d : Int) := by rw [IntKind.wrap_u64]; omega
            have d2 : decide (d < n) = true := by simpa using hs
            clear hd hS
            unfold rs at *
            go_enter Tryd.func45, Tryd.ntmps45
            go_wp2_with fail
            refine (cU _).mono ?_
            rintro e w1 ⟨rfl, hb⟩
            obtain ⟨V1, V2⟩ := vars2 hb
            have hb2 := Below.next (two w _ _) hb
            have V2k := V2
            obtain ⟨u0, u1, u2, u3, u4, u5, u6⟩ := V1
            obtain ⟨v0, v1, v2, v3, v4, v5, v6⟩ := V2
            go_wp2_with fail
            refine (cF 1 _).mono ?_
            rintro e w2 ⟨rfl, hb3⟩
            have hb4 := Below.next (hb2.alloc hb2.size _) hb3
            have V3k := (V2k.next (one w1 _)).next hb3
            clear v0 v1 v2 v3 v4 v5 v6
            obtain ⟨v0, v1, v2, v3, v4, v5, v6⟩ := V3k
            go_wp2_with fail
            refine bodyPost_ret (v := .tuple #[.agg #[.string (bs S), .int .i64 (a : Int), .int .i64 (1 : Int)], .string ⟨#[]⟩]) (by simp [results, Tryd.results45, go_sem, v1, v2, v3]) rfl ⟨rfl, ?_⟩
            exact set3 hb4 _ _ _ _ (Nat.le_succ _)
          · have e1 : eT m (S.drop a) = 0 := by unfold eT; rw [e11, if_neg (by decide), if_neg hs]
            have e2 : tT m (S.drop a) = (rU (S.drop a)).take (nU (S.drop a)) := by unfold tT; rw [if_pos e1]
            rw [e1, e2, hru, show aP 0 0 a (kT (S.drop a)) = a + kU (S.drop a) + nU (S.drop a) by unfold kT; show a + (_ + _) = _; omega]
            rw [hru, List.length_drop] at hs
            have hp : a + kU (S.drop a) ≤ S.length := by omega
            clear e1 e2 e11 hU ha hM hkl hru
            generalize nU (S.drop a) = n at *
            generalize a + kU (S.drop a) = p at *
            obtain ⟨d, hd⟩ : ∃ d, S.length - p = d := ⟨_, rfl⟩
            obtain ⟨r, hr⟩ : ∃ r, p + n = r := ⟨_, rfl⟩
            rw [hd] at hs
            have hpr : p ≤ r := by omega
            have hrS : r ≤ S.length := by omega
            have hd9 : d ≤ 9223372036854775807 := by omega
            have hr9 : r ≤ 9223372036854775807 := by omega
            have l2 : (S.length : Int) - (p : Int) = (d : Int) := by omega
            have l6 : (p : Int) + (n : Int) = (r : Int) := by omega
            have d1 : decide (m < n) = false := by simpa using hm
            have d2 : decide (d < n) = false := by simpa using hs
            have l1 : IntKind.i64.wrap ((S.length : Int) - (p : Int)) = (d : Int) := by rw [l2]; exact wr_i hd9
            have l3 : IntKind.u64.wrap (d : Int) = (d : Int) := wr_u hd9
            have l4 : IntKind.i64.wrap (n : Int) = (n : Int) := wr_i hx
            have l5 : IntKind.i64.wrap ((p : Int) + (n : Int)) = (r : Int) := by rw [l6]; exact wr_i hr9
            have l10 : decide (IntKind.u64.wrap (wrap64 (d : Int)) < (n : Int)) = false := by rw [wr_w hd9, l3]; simpa using hs
            have l11 : (0 : Int) ≤ wrap64 (r : Int) ∧ wrap64 (r : Int) ≤ (S.length : Int) := by rw [wr_w hr9]; exact ⟨Int.natCast_nonneg _, Int.ofNat_le.2 hrS⟩
            have l12 : (p : Int) ≤ wrap64 (r : Int) := by rw [wr_w hr9]; exact Int.ofNat_le.2 hpr
            have HR9 := Lib.hid hr9
            have k2 : (bs S).extract p r = bs ((S.drop p).take n) := by rw [bs_slice, List.drop_take, ← hr, Nat.add_sub_cancel_left]
            rw [hr, ← k2]
            clear hd hS hr k2 hd9 hr9
            unfold rs at *
            go_enter Tryd.func45, Tryd.ntmps45
            go_wp2_with fail
            refine (cU _).mono ?_
            rintro e w1 ⟨rfl, hb⟩
            obtain ⟨V1, V2⟩ := vars2 hb
            have hb2 := Below.next (two w _ _) hb
            have V2k := V2
            obtain ⟨u0, u1, u2, u3, u4, u5, u6⟩ := V1
            obtain ⟨v0, v1, v2, v3, v4, v5, v6⟩ := V2
            go_wp2_with fail
            simp only [wr_w HR9.out, Int.toNat_natCast]
            refine bodyPost_ret (v := .tuple #[.agg #[.string (bs S), .int .i64 (r : Int), .int .i64 (0 : Int)], .string ((bs S).extract p r)]) (by simp [results, Tryd.results45, go_sem, v0, v1, v2, v3]) rfl ⟨rfl, ?_⟩
            exact set3a hb2 _ _ _ _ _ (Nat.le_succ _)
    · have e11 : ∀ c, eS M c (S.drop a) = eU (S.drop a) := fun c => by unfold eS; rw [if_pos hU]
      have e1 : eT M (S.drop a) = eU (S.drop a) := by unfold eT; rw [e11, if_pos hU]
      have e2 : bs (tT M (S.drop a)) = ⟨#[]⟩ := by unfold tT; rw [e1, if_neg hU]; rfl
      rw [if_pos rfl, e1, e2, aP0 _ _ _ hU, show aE 0 (eU (S.drop a)) = eU (S.drop a) by rfl]
      rw [if_pos rfl, aP0 _ _ _ hU, show aE 0 (eU (S.drop a)) = eU (S.drop a) by rfl] at cU
      clear e1 e2 e11 hS ha h1 h2
      generalize nU (S.drop a) = n at *
      generalize eU (S.drop a) = q at *
      have hd : ((q : Int) != 0) = true := by simpa using hU
      clear hU
      unfold rs at *
      go_enter Tryd.func45, Tryd.ntmps45
      go_wp2_with fail
      refine (cU _).mono ?_
      rintro e w1 ⟨rfl, hb⟩
      obtain ⟨V1, V2⟩ := vars2 hb
      have hb2 := Below.next (two w _ _) hb
      have V2k := V2
      obtain ⟨u0, u1, u2, u3, u4, u5, u6⟩ := V1
      obtain ⟨v0, v1, v2, v3, v4, v5, v6⟩ := V2
      go_wp2_with fail
      refine bodyPost_ret (v := .tuple #[.agg #[.string (bs S), .int .i64 (a : Int), .int .i64 (q : Int)], .string ⟨#[]⟩]) (by simp [results, Tryd.results45, go_sem, v0, v1, v2, v3]) rfl ⟨rfl, ?_⟩
      exact set3a hb2 _ _ _ _ _ (Nat.le_succ _)
  · rw [if_neg he, aP1 _ _ _ he, aE1 _ he]
    rw [if_neg he, aP1 _ _ _ he, aE1 _ he] at cU
    have hd : ((e : Int) != 0) = true := by simpa using he
    have hz : bs ([] : List UInt8) = ⟨#[]⟩ := rfl
    rw [hz]
    clear hS ha h1 h2 he hz
    unfold rs at *
    go_enter Tryd.func45, Tryd.ntmps45
    go_wp2_with fail
    refine (cU _).mono ?_
    rintro e w1 ⟨rfl, hb⟩
    obtain ⟨V1, V2⟩ := vars2 hb
    have hb2 := Below.next (two w _ _) hb
    have V2k := V2
    obtain ⟨u0, u1, u2, u3, u4, u5, u6⟩ := V1
    obtain ⟨v0, v1, v2, v3, v4, v5, v6⟩ := V2
    go_wp2_with fail
    refine bodyPost_ret (v := .tuple #[.agg #[.string (bs S), .int .i64 (a : Int), .int .i64 (e : Int)], .string ⟨#[]⟩]) (by simp [results, Tryd.results45, go_sem, v0, v1, v2, v3]) rfl ⟨rfl, ?_⟩
    exact set3a hb2 _ _ _ _ _ (Nat.le_succ _)
end Go.Proofs.YtcjaaijohapeaaaDoor

/-
  Contracts of the reference's reader: ReadInt, ReadSmall, ReadText, Left, End. No conditions but Go's own bounds.
-/
import Derived.Test.YtcjaaijohapeaaaDoorWh
namespace Go.Proofs.YtcjaaijohapeaaaDoor
open Go.RowKit
theorem wrap64_in {n : Int} (h1 : -9223372036854775808 ≤ n) (h2 : n ≤ 9223372036854775807) : wrap64 n = n := by unfold wrap64; omega
theorem refEnd_any (S : List UInt8) (a e : Nat) (w : World) (ha : a ≤ S.length) :
    Calls Tryd.prog 46 #[rs S a e] w (Ib (.int .i64 (eN (S.drop a) e : Nat)) w) := by
  have hsz : (bs S).size = S.length := rfl
  unfold rs
  by_cases he : e = 0
  · subst he
    by_cases h : a < S.length
    · rw [show eN (S.drop a) 0 = 3 by
        unfold eN
        rw [if_neg (by simp), if_neg]
        rw [List.isEmpty_iff, List.drop_eq_nil_iff]
        omega]
      have d1 : decide (a < S.length) = true := by simpa using h
      go_enter Tryd.func46, Tryd.ntmps46
      go_wp2_with fail
      go_ret
      exact ⟨rfl, one _ _⟩
    · rw [show eN (S.drop a) 0 = 0 by
        unfold eN
        rw [if_neg (by simp), if_pos]
        rw [List.isEmpty_iff, List.drop_eq_nil_iff]
        omega]
      have d1 : decide (a < S.length) = false := by simpa using h
      go_enter Tryd.func46, Tryd.ntmps46
      go_wp2_with fail
      go_ret
      exact ⟨rfl, one _ _⟩
  · rw [show eN (S.drop a) e = e by unfold eN; rw [if_pos he]]
    have hd : ((e : Int) == 0) = false := by simpa using he
    go_enter Tryd.func46, Tryd.ntmps46
    go_wp2_with fail
    go_ret
    exact ⟨rfl, one _ _⟩
theorem set3 {w0 w1 : World} (h : Below w0.heap.size w0 w1) (b : Nat) (x y z : Value) (hb : w0.heap.size ≤ b) : Below w0.heap.size w0 (((w1.setCell ⟨b, 0, none⟩ x).setCell ⟨b, 1, none⟩ y).setCell ⟨b, 2, none⟩ z) :=
  ((h.setCell (p := ⟨b, 0, none⟩) hb _).setCell (p := ⟨b, 1, none⟩) hb _).setCell (p := ⟨b, 2, none⟩) hb _
theorem set3a {w0 w1 : World} (h : Below w0.heap.size w0 w1) (b : Nat) (x y z : Value) (o : Obj) (hb : w0.heap.size ≤ b) : Below w0.heap.size w0 ((((w1.setCell ⟨b, 0, none⟩ x).setCell ⟨b, 1, none⟩ y).setCell ⟨b, 2, none⟩ z).alloc o) :=
  (set3 h b x y z hb).alloc (set3 h b x y z hb).size o
/-- What a walk knows of the two variables behind a call. -/
theorem vars2 {w w1 : World} {x y z x' y' z' : Value} {t t' : TypeId} (hb : Below ((w.alloc (Obj.cells #[x, y, z] t)).alloc (Obj.cells #[x', y', z'] t')).heap.size ((w.alloc (Obj.cells #[x, y, z] t)).alloc (Obj.cells #[x', y', z'] t')) w1) :
    V3 w1 w.heap.size x y z ∧ V3 w1 (w.heap.size + 1) x' y' z' := by
  refine ⟨((V3.new w x y z t).next (one _ _)).next hb, ?_⟩
  have h := (V3.new (w.alloc (Obj.cells #[x, y, z] t)) x' y' z' t').next hb
  have hs : (w.alloc (Obj.cells #[x, y, z] t)).heap.size = w.heap.size + 1 := by simp
  rwa [hs] at h
set_option maxRecDepth 100000 in
set_option maxHeartbeats 1000000 in
theorem refS_any (S : List UInt8) (a e : Nat) (M : Int) (w : World) (hS : S.length ≤ 9223372036854775000) (ha : a ≤ S.length) (h1 : -9223372036854775808 ≤ M) (h2 : M ≤ 9223372036854775807) :
    Calls Tryd.prog 44 #[rs S a e, .int .i64 M] w (Ib (.tuple #[rs S (aP e (eS M 4 (S.drop a)) a (kU (S.drop a))) (aE e (eS M 4 (S.drop a))), .int .i64 ((if e = 0 then nS M (S.drop a) else 0 : Nat) : Int)]) w) := by
  have cU := fun w => refU_any S a e w hS ha
  have cF := fun e2 w => failed_any S a e e2 w
  have hnl := nU_le (S.drop a)
  by_cases he : e = 0
  · subst he
    by_cases hU : eU (S.drop a) = 0
    · rw [hU, if_pos rfl, show aP 0 0 a (kU (S.drop a)) = a + kU (S.drop a) by rfl, show aE 0 0 = 0 by rfl] at cU
      rw [if_pos rfl, show aE 0 (eS M 4 (S.drop a)) = eS M 4 (S.drop a) by rfl]
      by_cases hM : M < 0
      · have e1 : eS M 4 (S.drop a) = 4 := by unfold eS; rw [if_neg (by omega), if_pos (.inl hM)]
        have e11 : eS M 1 (S.drop a) = 1 := by unfold eS; rw [if_neg (by omega), if_pos (.inl hM)]
        have e2 : nS M (S.drop a) = 0 := by unfold nS; rw [e11]; rfl
        rw [e1, e2, aP0 _ _ _ (by decide)]
        clear e1 e2 e11 hU hS ha
        generalize nU (S.drop a) = n at *
        generalize a + kU (S.drop a) = p at *
        unfold rs at *
        go_enter Tryd.func44, Tryd.ntmps44
        go_wp2_with fail
        refine (cU _).mono ?_
        rintro e w1 ⟨rfl, hb⟩
        obtain ⟨V1, V2⟩ := vars2 hb
        have hb2 := Below.next (two w _ _) hb
        have V2k := V2
        obtain ⟨u0, u1, u2, u3, u4, u5, u6⟩ := V1
        obtain ⟨v0, v1, v2, v3, v4, v5, v6⟩ := V2
        go_wp2_with fail
        refine (cF 4 _).mono ?_
        rintro e w2 ⟨rfl, hb3⟩
        have hb4 := Below.next (hb2.alloc hb2.size _) hb3
        have V3k := (V2k.next (one w1 _)).next hb3
        clear v0 v1 v2 v3 v4 v5 v6
        obtain ⟨v0, v1, v2, v3, v4, v5, v6⟩ := V3k
        go_wp2_with fail
        refine bodyPost_ret (v := .tuple #[.agg #[.string (bs S), .int .i64 (a : Int), .int .i64 (4 : Int)], .int .i64 0]) (by simp [results, Tryd.results44, go_sem, v1, v2, v3]) rfl ⟨rfl, ?_⟩
        exact set3 hb4 _ _ _ _ (Nat.le_succ _)
      · obtain ⟨m, rfl⟩ : ∃ m : Nat, M = (m : Int) := ⟨M.toNat, by omega⟩
        by_cases hm : m < nU (S.drop a)
        · have e1 : eS m 4 (S.drop a) = 4 := by unfold eS; rw [if_neg (by omega), if_pos (.inr (by omega))]
          have e11 : eS m 1 (S.drop a) = 1 := by unfold eS; rw [if_neg (by omega), if_pos (.inr (by omega))]
          have e2 : nS m (S.drop a) = 0 := by unfold nS; rw [e11]; rfl
          rw [e1, e2, aP0 _ _ _ (by decide)]
          clear e1 e2 e11 hU hS ha hM
          generalize nU (S.drop a) = n at *
          generalize a + kU (S.drop a) = p at *
          have d1 : decide (m < n) = true := by simpa using hm
          have d0 : decide ((m : Int) < 0) = false := by simp
          have k1 : IntKind.u64.wrap (m : Int) = (m : Int) := by rw [IntKind.wrap_u64]; omega
          unfold rs at *
          go_enter Tryd.func44, Tryd.ntmps44
          go_wp2_with fail
          refine (cU _).mono ?_
          rintro e w1 ⟨rfl, hb⟩
          obtain ⟨V1, V2⟩ := vars2 hb
          have hb2 := Below.next (two w _ _) hb
          have V2k := V2
          obtain ⟨u0, u1, u2, u3, u4, u5, u6⟩ := V1
          obtain ⟨v0, v1, v2, v3, v4, v5, v6⟩ := V2
          go_wp2_with fail
          refine (cF 4 _).mono ?_
          rintro e w2 ⟨rfl, hb3⟩
          have hb4 := Below.next (hb2.alloc hb2.size _) hb3
          have V3k := (V2k.next (one w1 _)).next hb3
          clear v0 v1 v2 v3 v4 v5 v6
          obtain ⟨v0, v1, v2, v3, v4, v5, v6⟩ := V3k
          go_wp2_with fail
          refine bodyPost_ret (v := .tuple #[.agg #[.string (bs S), .int .i64 (a : Int), .int .i64 (4 : Int)], .int .i64 0]) (by simp [results, Tryd.results44, go_sem, v1, v2, v3]) rfl ⟨rfl, ?_⟩
          exact set3 hb4 _ _ _ _ (Nat.le_succ _)
        · have e1 : eS m 4 (S.drop a) = 0 := by unfold eS; rw [if_neg (by omega), if_neg (by omega)]
          have e11 : eS m 1 (S.drop a) = 0 := by unfold eS; rw [if_neg (by omega), if_neg (by omega)]
          have e2 : nS m (S.drop a) = nU (S.drop a) := by unfold nS; rw [e11]; rfl
          rw [e1, e2, show aP 0 0 a (kU (S.drop a)) = a + kU (S.drop a) by rfl]
          clear e1 e2 e11 hU hS ha hM
          generalize nU (S.drop a) = n at *
          generalize a + kU (S.drop a) = p at *
          have d1 : decide (m < n) = false := by simpa using hm
          have d0 : decide ((m : Int) < 0) = false := by simp
          have k1 : IntKind.u64.wrap (m : Int) = (m : Int) := by rw [IntKind.wrap_u64]; omega
          have hx : n ≤ 9223372036854775807 := by omega
          have k2 : IntKind.i64.wrap (n : Int) = (n : Int) := IntWalk.i64_in _ (by omega)
          have k3 : wrap64 (n : Int) = (n : Int) := wrap64_in (by omega) (by omega)
          unfold rs at *
          go_enter Tryd.func44, Tryd.ntmps44
          go_wp2_with fail
          refine (cU _).mono ?_
          rintro e w1 ⟨rfl, hb⟩
          obtain ⟨V1, V2⟩ := vars2 hb
          have hb2 := Below.next (two w _ _) hb
          have V2k := V2
          obtain ⟨u0, u1, u2, u3, u4, u5, u6⟩ := V1
          obtain ⟨v0, v1, v2, v3, v4, v5, v6⟩ := V2
          go_wp2_with fail
          refine bodyPost_ret (v := .tuple #[.agg #[.string (bs S), .int .i64 (p : Int), .int .i64 (0 : Int)], .int .i64 (n : Int)]) (by simp [results, Tryd.results44, go_sem, v0, v1, v2, v3]) rfl ⟨rfl, ?_⟩
          exact set3a hb2 _ _ _ _ _ (Nat.le_succ _)
    · have e1 : ∀ c, eS M c (S.drop a) = eU (S.drop a) := fun c => by unfold eS; rw [if_pos hU]
      have e2 : nS M (S.drop a) = 0 := by unfold nS; rw [e1, if_neg hU]
      rw [if_pos rfl, e1, e2, aP0 _ _ _ hU, show aE 0 (eU (S.drop a)) = eU (S.drop a) by rfl]
      rw [if_pos rfl, aP0 _ _ _ hU, show aE 0 (eU (S.drop a)) = eU (S.drop a) by rfl] at cU
      clear e1 e2 hS ha h1 h2
      generalize nU (S.drop a) = n at *
      generalize eU (S.drop a) = q at *
      have hd : ((q : Int) != 0) = true := by simpa using hU
      clear hU
      unfold rs at *
      go_enter Tryd.func44, Tryd.ntmps44
      go_wp2_with fail
      refine (cU _).mono ?_
      rintro e w1 ⟨rfl, hb⟩
      obtain ⟨V1, V2⟩ := vars2 hb
      have hb2 := Below.next (two w _ _) hb
      have V2k := V2
      obtain ⟨u0, u1, u2, u3, u4, u5, u6⟩ := V1
      obtain ⟨v0, v1, v2, v3, v4, v5, v6⟩ := V2
      go_wp2_with fail
      refine bodyPost_ret (v := .tuple #[.agg #[.string (bs S), .int .i64 (a : Int), .int .i64 (q : Int)], .int .i64 0]) (by simp [results, Tryd.results44, go_sem, v0, v1, v2, v3]) rfl ⟨rfl, ?_⟩
      exact set3a hb2 _ _ _ _ _ (Nat.le_succ _)
  · rw [if_neg he, aP1 _ _ _ he, aE1 _ he]
    rw [if_neg he, aP1 _ _ _ he, aE1 _ he] at cU
    have hd : ((e : Int) != 0) = true := by simpa using he
    clear hS ha h1 h2 he
    unfold rs at *
    go_enter Tryd.func44, Tryd.ntmps44
    go_wp2_with fail
    refine (cU _).mono ?_
    rintro e w1 ⟨rfl, hb⟩
    obtain ⟨V1, V2⟩ := vars2 hb
    have hb2 := Below.next (two w _ _) hb
    have V2k := V2
    obtain ⟨u0, u1, u2, u3, u4, u5, u6⟩ := V1
    obtain ⟨v0, v1, v2, v3, v4, v5, v6⟩ := V2
    go_wp2_with fail
    refine bodyPost_ret (v := .tuple #[.agg #[.string (bs S), .int .i64 (a : Int), .int .i64 (e : Int)], .int .i64 0]) (by simp [results, Tryd.results44, go_sem, v0, v1, v2, v3]) rfl ⟨rfl, ?_⟩
    exact set3a hb2 _ _ _ _ _ (Nat.le_succ _)
end Go.Proofs.YtcjaaijohapeaaaDoor

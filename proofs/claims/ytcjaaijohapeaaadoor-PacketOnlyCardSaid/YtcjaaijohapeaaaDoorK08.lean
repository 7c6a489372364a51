/-
  Contracts of the reference's reader. No conditions but Go's own bounds.
-/
import Derived.Test.YtcjaaijohapeaaaDoorK07
namespace Go.Proofs.YtcjaaijohapeaaaDoor
open Go.RowKit
/-- The reference's reader. -/
def rs (S : List UInt8) (a e : Nat) : Value := .agg #[.string (bs S), .int .i64 (a : Int), .int .i64 (e : Int)]
/-- A variable of three cells that can be written. -/
structure V3 (w : World) (b : Nat) (x y z : Value) : Prop where
  lt : b < w.heap.size
  c0 : w.cell? ⟨b, 0, none⟩ = some x
  c1 : w.cell? ⟨b, 1, none⟩ = some y
  c2 : w.cell? ⟨b, 2, none⟩ = some z
  f0 : w.frozen? ⟨b, 0, none⟩ = false
  f1 : w.frozen? ⟨b, 1, none⟩ = false
  f2 : w.frozen? ⟨b, 2, none⟩ = false
theorem V3.next {w w' : World} {b : Nat} {x y z : Value} (h : V3 w b x y z) (hb : Below w.heap.size w w') : V3 w' b x y z :=
  ⟨Nat.lt_of_lt_of_le h.lt hb.size, (hb.cell h.lt).trans h.c0, (hb.cell h.lt).trans h.c1, (hb.cell h.lt).trans h.c2, (hb.frozen h.lt).trans h.f0, (hb.frozen h.lt).trans h.f1, (hb.frozen h.lt).trans h.f2⟩
theorem V3.new (w : World) (x y z : Value) (t : TypeId) : V3 (w.alloc (Obj.cells #[x, y, z] t)) w.heap.size x y z :=
  ⟨by simp, by simp, by simp, by simp, by simp, by simp, by simp⟩
theorem two (w : World) (o o' : Obj) : Below w.heap.size w ((w.alloc o).alloc o') := Below.next (one w o) (one _ o')
set_option maxRecDepth 100000 in
set_option maxHeartbeats 1000000 in
theorem failed_any (S : List UInt8) (a e e2 : Nat) (w : World) :
    Calls Tryd.prog 77 #[rs S a e, .int .i64 (e2 : Int)] w (Ib (rs S a e2) w) := by
  unfold rs
  go_enter Tryd.func77, Tryd.ntmps77
  go_wp2_with fail
  refine bodyPost_ret (v := .agg #[.string (bs S), .int .i64 (a : Int), .int .i64 (e2 : Int)]) (by simp [results, Tryd.results77, go_sem]) rfl ⟨rfl, two _ _ _⟩
/-- How many bytes a varint takes. -/
def kU (l : List UInt8) : Nat := (dv 0 0 l).2.1
/-- Where a reader stands behind a read. -/
def aP (e e2 a k : Nat) : Nat := if e = 0 ∧ e2 = 0 then a + k else a
theorem aP0 (e2 a k : Nat) (h : e2 ≠ 0) : aP 0 e2 a k = a := by unfold aP; rw [if_neg (fun x => h x.2)]
theorem aP1 {e : Nat} (e2 a k : Nat) (h : e ≠ 0) : aP e e2 a k = a := by unfold aP; rw [if_neg (fun x => h x.1)]
set_option maxRecDepth 100000 in
set_option maxHeartbeats 1000000 in
theorem refU_any (S : List UInt8) (a e : Nat) (w : World) (hS : S.length ≤ 9223372036854775000) (ha : a ≤ S.length) :
    Calls Tryd.prog 76 #[rs S a e] w (Ib (.tuple #[rs S (aP e (eU (S.drop a)) a (kU (S.drop a))) (aE e (eU (S.drop a))), .int .u64 ((if e = 0 then nU (S.drop a) else 0 : Nat) : Int)]) w) := by
  have cV : ∀ w, Calls Tryd.prog 93 #[.string (bs S), .int .i64 (a : Int)] w (Is (.tuple #[.int .u64 (nU (S.drop a) : Int), .int .i64 ((a + kU (S.drop a) : Nat) : Int), .int .i64 (eU (S.drop a) : Int)]) w) := fun w => varint_any S w a _ _ _ hS ha (dv_all (S.drop a))
  have cF := fun e2 w => failed_any S a e e2 w
  have hn : eU (S.drop a) ≠ 0 → nU (S.drop a) = 0 := nU_err
  generalize eU (S.drop a) = e2 at *
  generalize nU (S.drop a) = n at *
  generalize kU (S.drop a) = k at *
  unfold rs at *
  by_cases he : e = 0
  · subst he
    rw [if_pos rfl, show aE 0 e2 = e2 by rfl]
    by_cases h2 : e2 = 0
    · subst h2
      rw [show aP 0 0 a k = a + k by rfl]
      generalize a + k = p at *
      clear hn cF
      go_enter Tryd.func76, Tryd.ntmps76
      go_wp2_with fail
      refine (cV _).mono ?_
      rintro e w' ⟨rfl, rfl⟩
      go_wp2_with fail
      refine bodyPost_ret (v := .tuple #[.agg #[.string (bs S), .int .i64 (p : Int), .int .i64 0], .int .u64 (n : Int)]) (by simp [results, Tryd.results76, go_sem]) rfl ⟨rfl, two _ _ _⟩
    · rw [aP0 _ _ _ h2]
      rw [hn h2] at cV ⊢
      have hd : ((e2 : Int) != 0) = true := by simpa using h2
      have hv := (V3.new (w.alloc (Obj.cells #[.string (bs S), .int .i64 (a : Int), .int .i64 0] 93)) (.string ⟨#[]⟩) (.int .i64 0) (.int .i64 0) 93)
      clear hn h2
      go_enter Tryd.func76, Tryd.ntmps76
      go_wp2_with fail
      refine (cV _).mono ?_
      rintro e w' ⟨rfl, rfl⟩
      go_wp2_with fail
      refine (cF e2 _).mono ?_
      rintro e w1 ⟨rfl, hb⟩
      have hb2 := Below.next (two w _ _) hb
      have hv2 := hv.next hb
      obtain ⟨v0, v1, v2, v3, v4, v5, v6⟩ := hv2
      have hs : (w.alloc (Obj.cells #[.string (bs S), .int .i64 (a : Int), .int .i64 0] 93)).heap.size = w.heap.size + 1 := by simp
      rw [hs] at v0 v1 v2 v3 v4 v5 v6
      clear hv hs
      go_wp2_with fail
      refine bodyPost_ret (v := .tuple #[.agg #[.string (bs S), .int .i64 (a : Int), .int .i64 (e2 : Int)], .int .u64 0]) (by simp [results, Tryd.results76, go_sem, v1, v2, v3]) rfl ⟨rfl, ?_⟩
      exact ((hb2.setCell (by simp) _).setCell (by simp) _).setCell (by simp) _
  · rw [if_neg he, aP1 _ _ _ he, aE1 _ he]
    have hd : ((e : Int) != 0) = true := by simpa using he
    clear he hn cF cV
    go_enter Tryd.func76, Tryd.ntmps76
    go_wp2_with fail
    refine bodyPost_ret (v := .tuple #[.agg #[.string (bs S), .int .i64 (a : Int), .int .i64 (e : Int)], .int .u64 0]) (by simp [results, Tryd.results76, go_sem]) rfl ⟨rfl, two _ _ _⟩
end Go.Proofs.YtcjaaijohapeaaaDoor
/-
  Contracts of the reference's reader: ReadInt, ReadSmall, ReadText, Left, End. No conditions but Go's own bounds.
-/
namespace Go.Proofs.YtcjaaijohapeaaaDoor
open Go.RowKit
theorem wrap64_in {n : Int} (h1 : -9223372036854775808 ≤ n) (h2 : n ≤ 9223372036854775807) : wrap64 n = n := by unfold wrap64; omega
theorem refEnd_any (S : List UInt8) (a e : Nat) (w : World) (ha : a ≤ S.length) :
    Calls Tryd.prog 46 #[rs S a e] w (Ib (.int .i64 (eN (S.drop a) e : Nat)) w) := by
  have hsz : (bs S).size = S.length := rfl
  unfold rs
  by_cases he : e = 0
  · subst he
    by_cases h : a < S.length
    · rw [show eN (S.drop a) 0 = 3 by
        unfold eN
        rw [if_neg (by simp), if_neg]
        rw [List.isEmpty_iff, List.drop_eq_nil_iff]
        omega]
      have d1 : decide (a < S.length) = true := by simpa using h
      go_enter Tryd.func46, Tryd.ntmps46
      go_wp2_with fail
      go_ret
      exact ⟨rfl, one _ _⟩
    · rw [show eN (S.drop a) 0 = 0 by
        unfold eN
        rw [if_neg (by simp), if_pos]
        rw [List.isEmpty_iff, List.drop_eq_nil_iff]
        omega]
      have d1 : decide (a < S.length) = false := by simpa using h
      go_enter Tryd.func46, Tryd.ntmps46
      go_wp2_with fail
      go_ret
      exact ⟨rfl, one _ _⟩
  · rw [show eN (S.drop a) e = e by unfold eN; rw [if_pos he]]
    have hd : ((e : Int) == 0) = false := by simpa using he
    go_enter Tryd.func46, Tryd.ntmps46
    go_wp2_with fail
    go_ret
    exact ⟨rfl, one _ _⟩
theorem set3 {w0 w1 : World} (h : Below w0.heap.size w0 w1) (b : Nat) (x y z : Value) (hb : w0.heap.size ≤ b) : Below w0.heap.size w0 (((w1.setCell ⟨b, 0, none⟩ x).setCell ⟨b, 1, none⟩ y).setCell ⟨b, 2, none⟩ z) :=
  ((h.setCell (p := ⟨b, 0, none⟩) hb _).setCell (p := ⟨b, 1, none⟩) hb _).setCell (p := ⟨b, 2, none⟩) hb _
theorem set3a {w0 w1 : World} (h : Below w0.heap.size w0 w1) (b : Nat) (x y z : Value) (o : Obj) (hb : w0.heap.size ≤ b) : Below w0.heap.size w0 ((((w1.setCell ⟨b, 0, none⟩ x).setCell ⟨b, 1, none⟩ y).setCell ⟨b, 2, none⟩ z).alloc o) :=
  (set3 h b x y z hb).alloc (set3 h b x y z hb).size o
/-- What a walk knows of the two variables behind a call. -/
theorem vars2 {w w1 : World} {x y z x' y' z' : Value} {t t' : TypeId} (hb : Below ((w.alloc (Obj.cells #[x, y, z] t)).alloc (Obj.cells #[x', y', z'] t')).heap.size ((w.alloc (Obj.cells #[x, y, z] t)).alloc (Obj.cells #[x', y', z'] t')) w1) :
    V3 w1 w.heap.size x y z ∧ V3 w1 (w.heap.size + 1) x' y' z' := by
  refine ⟨((V3.new w x y z t).next (one _ _)).next hb, ?_⟩
  have h := (V3.new (w.alloc (Obj.cells #[x, y, z] t)) x' y' z' t').next hb
  have hs : (w.alloc (Obj.cells #[x, y, z] t)).heap.size = w.heap.size + 1 := by simp
  rwa [hs] at h
set_option maxRecDepth 100000 in
set_option maxHeartbeats 1000000 in
theorem refS_any (S : List UInt8) (a e : Nat) (M : Int) (w : World) (hS : S.length ≤ 9223372036854775000) (ha : a ≤ S.length) (h1 : -9223372036854775808 ≤ M) (h2 : M ≤ 9223372036854775807) :
    Calls Tryd.prog 44 #[rs S a e, .int .i64 M] w (Ib (.tuple #[rs S (aP e (eS M 4 (S.drop a)) a (kU (S.drop a))) (aE e (eS M 4 (S.drop a))), .int .i64 ((if e = 0 then nS M (S.drop a) else 0 : Nat) : Int)]) w) := by
  have cU := fun w => refU_any S a e w hS ha
  have cF := fun e2 w => failed_any S a e e2 w
  have hnl := nU_le (S.drop a)
  by_cases he : e = 0
  · subst he
    by_cases hU : eU (S.drop a) = 0
    · rw [hU, if_pos rfl, show aP 0 0 a (kU (S.drop a)) = a + kU (S.drop a) by rfl, show aE 0 0 = 0 by rfl] at cU
      rw [if_pos rfl, show aE 0 (eS M 4 (S.drop a)) = eS M 4 (S.drop a) by rfl]
      by_cases hM : M < 0
      · have e1 : eS M 4 (S.drop a) = 4 := by unfold eS; rw [if_neg (by omega), if_pos (.inl hM)]
        have e11 : eS M 1 (S.drop a) = 1 := by unfold eS; rw [if_neg (by omega), if_pos (.inl hM)]
        have e2 : nS M (S.drop a) = 0 := by unfold nS; rw [e11]; rfl
        rw [e1, e2, aP0 _ _ _ (by decide)]
        clear e1 e2 e11 hU hS ha
        generalize nU (S.drop a) = n at *
        generalize a + kU (S.drop a) = p at *
        unfold rs at *
        go_enter Tryd.func44, Tryd.ntmps44
        go_wp2_with fail
        refine (cU _).mono ?_
        rintro e w1 ⟨rfl, hb⟩
        obtain ⟨V1, V2⟩ := vars2 hb
        have hb2 := Below.next (two w _ _) hb
        have V2k := V2
        obtain ⟨u0, u1, u2, u3, u4, u5, u6⟩ := V1
        obtain ⟨v0, v1, v2, v3, v4, v5, v6⟩ := V2
        go_wp2_with fail
        refine (cF 4 _).mono ?_
        rintro e w2 ⟨rfl, hb3⟩
        have hb4 := Below.next (hb2.alloc hb2.size _) hb3
        have V3k := (V2k.next (one w1 _)).next hb3
        clear v0 v1 v2 v3 v4 v5 v6
        obtain ⟨v0, v1, v2, v3, v4, v5, v6⟩ := V3k
        go_wp2_with fail
        refine bodyPost_ret (v := .tuple #[.agg #[.string (bs S), .int .i64 (a : Int), .int .i64 (4 : Int)], .int .i64 0]) (by simp [results, Tryd.results44, go_sem, v1, v2, v3]) rfl ⟨rfl, ?_⟩
        exact set3 hb4 _ _ _ _ (Nat.le_succ _)
      · obtain ⟨m, rfl⟩ : ∃ m : Nat, M = (m : Int) := ⟨M.toNat, by omega⟩
        by_cases hm : m < nU (S.drop a)
        · have e1 : eS m 4 (S.drop a) = 4 := by unfold eS; rw [if_neg (by omega), if_pos (.inr (by omega))]
          have e11 : eS m 1 (S.drop a) = 1 := by unfold eS; rw [if_neg (by omega), if_pos (.inr (by omega))]
          have e2 : nS m (S.drop a) = 0 := by unfold nS; rw [e11]; rfl
          rw [e1, e2, aP0 _ _ _ (by decide)]
          clear e1 e2 e11 hU hS ha hM
          generalize nU (S.drop a) = n at *
          generalize a + kU (S.drop a) = p at *
          have d1 : decide (m < n) = true := by simpa using hm
          have d0 : decide ((m : Int) < 0) = false := by simp
          have k1 : IntKind.u64.wrap (m : Int) = (m : Int) := by rw [IntKind.wrap_u64]; omega
          unfold rs at *
          go_enter Tryd.func44, Tryd.ntmps44
          go_wp2_with fail
          refine (cU _).mono ?_
          rintro e w1 ⟨rfl, hb⟩
          obtain ⟨V1, V2⟩ := vars2 hb
          have hb2 := Below.next (two w _ _) hb
          have V2k := V2
          obtain ⟨u0, u1, u2, u3, u4, u5, u6⟩ := V1
          obtain ⟨v0, v1, v2, v3, v4, v5, v6⟩ := V2
          go_wp2_with fail
          refine (cF 4 _).mono ?_
          rintro e w2 ⟨rfl, hb3⟩
          have hb4 := Below.next (hb2.alloc hb2.size _) hb3
          have V3k := (V2k.next (one w1 _)).next hb3
          clear v0 v1 v2 v3 v4 v5 v6
          obtain ⟨v0, v1, v2, v3, v4, v5, v6⟩ := V3k
          go_wp2_with fail
          refine bodyPost_ret (v := .tuple #[.agg #[.string (bs S), .int .i64 (a : Int), .int .i64 (4 : Int)], .int .i64 0]) (by simp [results, Tryd.results44, go_sem, v1, v2, v3]) rfl ⟨rfl, ?_⟩
          exact set3 hb4 _ _ _ _ (Nat.le_succ _)
        · have e1 : eS m 4 (S.drop a) = 0 := by unfold eS; rw [if_neg (by omega), if_neg (by omega)]
          have e11 : eS m 1 (S.drop a) = 0 := by unfold eS; rw [if_neg (by omega), if_neg (by omega)]
          have e2 : nS m (S.drop a) = nU (S.drop a) := by unfold nS; rw [e11]; rfl
          rw [e1, e2, show aP 0 0 a (kU (S.drop a)) = a + kU (S.drop a) by rfl]
          clear e1 e2 e11 hU hS ha hM
          generalize nU (S.drop a) = n at *
          generalize a + kU (S.drop a) = p at *
          have d1 : decide (m < n) = false := by simpa using hm
          have d0 : decide ((m : Int) < 0) = false := by simp
          have k1 : IntKind.u64.wrap (m : Int) = (m : Int) := by rw [IntKind.wrap_u64]; omega
          have hx : n ≤ 9223372036854775807 := by omega
          have k2 : IntKind.i64.wrap (n : Int) = (n : Int) := IntWalk.i64_in _ (by omega)
          have k3 : wrap64 (n : Int) = (n : Int) := wrap64_in (by omega) (by omega)
          unfold rs at *
          go_enter Tryd.func44, Tryd.ntmps44
          go_wp2_with fail
          refine (cU _).mono ?_
          rintro e w1 ⟨rfl, hb⟩
          obtain ⟨V1, V2⟩ := vars2 hb
          have hb2 := Below.next (two w _ _) hb
          have V2k := V2
          obtain ⟨u0, u1, u2, u3, u4, u5, u6⟩ := V1
          obtain ⟨v0, v1, v2, v3, v4, v5, v6⟩ := V2
          go_wp2_with fail
          refine bodyPost_ret (v := .tuple #[.agg #[.string (bs S), .int .i64 (p : Int), .int .i64 (0 : Int)], .int .i64 (n : Int)]) (by simp [results, Tryd.results44, go_sem, v0, v1, v2, v3]) rfl ⟨rfl, ?_⟩
          exact set3a hb2 _ _ _ _ _ (Nat.le_succ _)
    · have e1 : ∀ c, eS M c (S.drop a) = eU (S.drop a) := fun c => by unfold eS; rw [if_pos hU]
      have e2 : nS M (S.drop a) = 0 := by unfold nS; rw [e1, if_neg hU]
      rw [if_pos rfl, e1, e2, aP0 _ _ _ hU, show aE 0 (eU (S.drop a)) = eU (S.drop a) by rfl]
      rw [if_pos rfl, aP0 _ _ _ hU, show aE 0 (eU (S.drop a)) = eU (S.drop a) by rfl] at cU
      clear e1 e2 hS ha h1 h2
      generalize nU (S.drop a) = n at *
      generalize eU (S.drop a) = q at *
      have hd : ((q : Int) != 0) = true := by simpa using hU
      clear hU
      unfold rs at *
      go_enter Tryd.func44, Tryd.ntmps44
      go_wp2_with fail
      refine (cU _).mono ?_
      rintro e w1 ⟨rfl, hb⟩
      obtain ⟨V1, V2⟩ := vars2 hb
      have hb2 := Below.next (two w _ _) hb
      have V2k := V2
      obtain ⟨u0, u1, u2, u3, u4, u5, u6⟩ := V1
      obtain ⟨v0, v1, v2, v3, v4, v5, v6⟩ := V2
      go_wp2_with fail
      refine bodyPost_ret (v := .tuple #[.agg #[.string (bs S), .int .i64 (a : Int), .int .i64 (q : Int)], .int .i64 0]) (by simp [results, Tryd.results44, go_sem, v0, v1, v2, v3]) rfl ⟨rfl, ?_⟩
      exact set3a hb2 _ _ _ _ _ (Nat.le_succ _)
  · rw [if_neg he, aP1 _ _ _ he, aE1 _ he]
    rw [if_neg he, aP1 _ _ _ he, aE1 _ he] at cU
    have hd : ((e : Int) != 0) = true := by simpa using he
    clear hS ha h1 h2 he
    unfold rs at *
    go_enter Tryd.func44, Tryd.ntmps44
    go_wp2_with fail
    refine (cU _).mono ?_
    rintro e w1 ⟨rfl, hb⟩
    obtain ⟨V1, V2⟩ := vars2 hb
    have hb2 := Below.next (two w _ _) hb
    have V2k := V2
    obtain ⟨u0, u1, u2, u3, u4, u5, u6⟩ := V1
    obtain ⟨v0, v1, v2, v3, v4, v5, v6⟩ := V2
    go_wp2_with fail
    refine bodyPost_ret (v := .tuple #[.agg #[.string (bs S), .int .i64 (a : Int), .int .i64 (e : Int)], .int .i64 0]) (by simp [results, Tryd.results44, go_sem, v0, v1, v2, v3]) rfl ⟨rfl, ?_⟩
    exact set3a hb2 _ _ _ _ _ (Nat.le_succ _)
end Go.Proofs.YtcjaaijohapeaaaDoor
/-
  Contract of the reference's ReadText. No conditions but Go's own bounds.
-/
namespace Go.Proofs.YtcjaaijohapeaaaDoor
open Go.RowKit
/-- How many bytes a string with its length takes. -/
def kT (l : List UInt8) : Nat := kU l + nU l
theorem wr_i {k : Nat} (h : k ≤ 9223372036854775807) : IntKind.i64.wrap (k : Int) = (k : Int) := IntWalk.i64_in _ (by omega)
theorem wr_u {k : Nat} (h : k ≤ 9223372036854775807) : IntKind.u64.wrap (k : Int) = (k : Int) := by rw [IntKind.wrap_u64]; omega
theorem wr_w {k : Nat} (h : k ≤ 9223372036854775807) : wrap64 (k : Int) = (k : Int) := wrap64_in (by omega) (by omega)
theorem kU_len {l : List UInt8} (h : eU l = 0) : kU l ≤ l.length := by
  have := ((dv_le l 0 0 _ _ _ (dv_all l) (by decide) (by decide)).2.1 h).2
  unfold kU; omega
theorem rU_eq {l : List UInt8} (h : eU l = 0) : rU l = l.drop (kU l) := by unfold rU; rw [if_pos h]; rfl
set_option maxRecDepth 100000 in
set_option maxHeartbeats 1000000 in
theorem refT_any (S : List UInt8) (a e : Nat) (M : Int) (w : World) (hS : S.length ≤ 9223372036854775000) (ha : a ≤ S.length) (h1 : -9223372036854775808 ≤ M) (h2 : M ≤ 9223372036854775807) :
    Calls Tryd.prog 45 #[rs S a e, .int .i64 M] w (Ib (.tuple #[rs S (aP e (eT M (S.drop a)) a (kT (S.drop a))) (aE e (eT M (S.drop a))), .string (bs (if e = 0 then tT M (S.drop a) else []))]) w) := by
  have cU := fun w => refU_any S a e w hS ha
  have cF := fun e2 w => failed_any S a e e2 w
  have hnl := nU_le (S.drop a)
  by_cases he : e = 0
  · subst he
    by_cases hU : eU (S.drop a) = 0
    · have hkl := kU_len hU
      have hru := rU_eq hU
      rw [List.drop_drop] at hru
      rw [List.length_drop] at hkl
      rw [hU, if_pos rfl, show aP 0 0 a (kU (S.drop a)) = a + kU (S.drop a) by rfl, show aE 0 0 = 0 by rfl] at cU
      rw [if_pos rfl, show aE 0 (eT M (S.drop a)) = eT M (S.drop a) by rfl]
      by_cases hM : M < 0
      · have e11 : eS M 3 (S.drop a) = 3 := by unfold eS; rw [if_neg (by omega), if_pos (.inl hM)]
        have e1 : eT M (S.drop a) = 3 := by unfold eT; rw [e11]; rfl
        have e2 : bs (tT M (S.drop a)) = ⟨#[]⟩ := by unfold tT; rw [e1]; rfl
        rw [e1, e2, aP0 _ _ _ (by decide)]
        clear e1 e2 e11 hU hS ha hru hkl
        generalize nU (S.drop a) = n at *
        generalize a + kU (S.drop a) = p at *
        unfold rs at *
        go_enter Tryd.func45, Tryd.ntmps45
        go_wp2_with fail
        refine (cU _).mono ?_
        rintro e w1 ⟨rfl, hb⟩
        obtain ⟨V1, V2⟩ := vars2 hb
        have hb2 := Below.next (two w _ _) hb
        have V2k := V2
        obtain ⟨u0, u1, u2, u3, u4, u5, u6⟩ := V1
        obtain ⟨v0, v1, v2, v3, v4, v5, v6⟩ := V2
        go_wp2_with fail
        refine (cF 3 _).mono ?_
        rintro e w2 ⟨rfl, hb3⟩
        have hb4 := Below.next (hb2.alloc hb2.size _) hb3
        have V3k := (V2k.next (one w1 _)).next hb3
        clear v0 v1 v2 v3 v4 v5 v6
        obtain ⟨v0, v1, v2, v3, v4, v5, v6⟩ := V3k
        go_wp2_with fail
        refine bodyPost_ret (v := .tuple #[.agg #[.string (bs S), .int .i64 (a : Int), .int .i64 (3 : Int)], .string ⟨#[]⟩]) (by simp [results, Tryd.results45, go_sem, v1, v2, v3]) rfl ⟨rfl, ?_⟩
        exact set3 hb4 _ _ _ _ (Nat.le_succ _)
      · obtain ⟨m, rfl⟩ : ∃ m : Nat, M = (m : Int) := ⟨M.toNat, by omega⟩
        have d0 : decide ((m : Int) < 0) = false := by simp
        have k1 : IntKind.u64.wrap (m : Int) = (m : Int) := by rw [IntKind.wrap_u64]; omega
        by_cases hm : m < nU (S.drop a)
        · have e11 : eS m 3 (S.drop a) = 3 := by unfold eS; rw [if_neg (by omega), if_pos (.inr (by omega))]
          have e1 : eT m (S.drop a) = 3 := by unfold eT; rw [e11]; rfl
          have e2 : bs (tT m (S.drop a)) = ⟨#[]⟩ := by unfold tT; rw [e1]; rfl
          rw [e1, e2, aP0 _ _ _ (by decide)]
          clear e1 e2 e11 hU hS ha hM hru hkl
          generalize nU (S.drop a) = n at *
          generalize a + kU (S.drop a) = p at *
          have d1 : decide (m < n) = true := by simpa using hm
          unfold rs at *
          go_enter Tryd.func45, Tryd.ntmps45
          go_wp2_with fail
          refine (cU _).mono ?_
          rintro e w1 ⟨rfl, hb⟩
          obtain ⟨V1, V2⟩ := vars2 hb
          have hb2 := Below.next (two w _ _) hb
          have V2k := V2
          obtain ⟨u0, u1, u2, u3, u4, u5, u6⟩ := V1
          obtain ⟨v0, v1, v2, v3, v4, v5, v6⟩ := V2
          go_wp2_with fail
          refine (cF 3 _).mono ?_
          rintro e w2 ⟨rfl, hb3⟩
          have hb4 := Below.next (hb2.alloc hb2.size _) hb3
          have V3k := (V2k.next (one w1 _)).next hb3
          clear v0 v1 v2 v3 v4 v5 v6
          obtain ⟨v0, v1, v2, v3, v4, v5, v6⟩ := V3k
          go_wp2_with fail
          refine bodyPost_ret (v := .tuple #[.agg #[.string (bs S), .int .i64 (a : Int), .int .i64 (3 : Int)], .string ⟨#[]⟩]) (by simp [results, Tryd.results45, go_sem, v1, v2, v3]) rfl ⟨rfl, ?_⟩
          exact set3 hb4 _ _ _ _ (Nat.le_succ _)
        · have e11 : eS m 3 (S.drop a) = 0 := by unfold eS; rw [if_neg (by omega), if_neg (by omega)]
          have hsz : (bs S).size = S.length := rfl
          have hx : nU (S.drop a) ≤ 9223372036854775807 := by omega
          by_cases hs : (rU (S.drop a)).length < nU (S.drop a)
          · have e1 : eT m (S.drop a) = 1 := by unfold eT; rw [e11, if_neg (by decide), if_pos hs]
            have e2 : bs (tT m (S.drop a)) = ⟨#[]⟩ := by unfold tT; rw [e1]; rfl
            rw [e1, e2, aP0 _ _ _ (by decide)]
            rw [hru, List.length_drop] at hs
            have hp : a + kU (S.drop a) ≤ S.length := by omega
            clear e1 e2 e11 hU ha hM hkl hru
            generalize nU (S.drop a) = n at *
            generalize a + kU (S.drop a) = p at *
            obtain ⟨d, hd⟩ : ∃ d, S.length - p = d := ⟨_, rfl⟩
            rw [hd] at hs
            have d1 : decide (m < n) = false := by simpa using hm
            have l1 : IntKind.i64.wrap ((S.length : Int) - (p : Int)) = (d : Int) := by rw [show (S.length : Int) - (p : Int) = (d : Int) by omega]; exact IntWalk.i64_in _ (by omega)
            have l2 : (S.length : Int) - (p : Int) = (d : Int) := by omega
            have l3 : IntKind.u64.wrap (d : Int) = (d : Int) := by rw [IntKind.wrap_u64]; omega
            have d2 : decide (d < n) = true := by simpa using hs
            clear hd hS
            unfold rs at *
            go_enter Tryd.func45, Tryd.ntmps45
            go_wp2_with fail
            refine (cU _).mono ?_
            rintro e w1 ⟨rfl, hb⟩
            obtain ⟨V1, V2⟩ := vars2 hb
            have hb2 := Below.next (two w _ _) hb
            have V2k := V2
            obtain ⟨u0, u1, u2, u3, u4, u5, u6⟩ := V1
            obtain ⟨v0, v1, v2, v3, v4, v5, v6⟩ := V2
            go_wp2_with fail
            refine (cF 1 _).mono ?_
            rintro e w2 ⟨rfl, hb3⟩
            have hb4 := Below.next (hb2.alloc hb2.size _) hb3
            have V3k := (V2k.next (one w1 _)).next hb3
            clear v0 v1 v2 v3 v4 v5 v6
            obtain ⟨v0, v1, v2, v3, v4, v5, v6⟩ := V3k
            go_wp2_with fail
            refine bodyPost_ret (v := .tuple #[.agg #[.string (bs S), .int .i64 (a : Int), .int .i64 (1 : Int)], .string ⟨#[]⟩]) (by simp [results, Tryd.results45, go_sem, v1, v2, v3]) rfl ⟨rfl, ?_⟩
            exact set3 hb4 _ _ _ _ (Nat.le_succ _)
          · have e1 : eT m (S.drop a) = 0 := by unfold eT; rw [e11, if_neg (by decide), if_neg hs]
            have e2 : tT m (S.drop a) = (rU (S.drop a)).take (nU (S.drop a)) := by unfold tT; rw [if_pos e1]
            rw [e1, e2, hru, show aP 0 0 a (kT (S.drop a)) = a + kU (S.drop a) + nU (S.drop a) by unfold kT; show a + (_ + _) = _; omega]
            rw [hru, List.length_drop] at hs
            have hp : a + kU (S.drop a) ≤ S.length := by omega
            clear e1 e2 e11 hU ha hM hkl hru
            generalize nU (S.drop a) = n at *
            generalize a + kU (S.drop a) = p at *
            obtain ⟨d, hd⟩ : ∃ d, S.length - p = d := ⟨_, rfl⟩
            obtain ⟨r, hr⟩ : ∃ r, p + n = r := ⟨_, rfl⟩
            rw [hd] at hs
            have hpr : p ≤ r := by omega
            have hrS : r ≤ S.length := by omega
            have hd9 : d ≤ 9223372036854775807 := by omega
            have hr9 : r ≤ 9223372036854775807 := by omega
            have l2 : (S.length : Int) - (p : Int) = (d : Int) := by omega
            have l6 : (p : Int) + (n : Int) = (r : Int) := by omega
            have d1 : decide (m < n) = false := by simpa using hm
            have d2 : decide (d < n) = false := by simpa using hs
            have l1 : IntKind.i64.wrap ((S.length : Int) - (p : Int)) = (d : Int) := by rw [l2]; exact wr_i hd9
            have l3 : IntKind.u64.wrap (d : Int) = (d : Int) := wr_u hd9
            have l4 : IntKind.i64.wrap (n : Int) = (n : Int) := wr_i hx
            have l5 : IntKind.i64.wrap ((p : Int) + (n : Int)) = (r : Int) := by rw [l6]; exact wr_i hr9
            have l10 : decide (IntKind.u64.wrap (wrap64 (d : Int)) < (n : Int)) = false := by rw [wr_w hd9, l3]; simpa using hs
            have l11 : (0 : Int) ≤ wrap64 (r : Int) ∧ wrap64 (r : Int) ≤ (S.length : Int) := by rw [wr_w hr9]; exact ⟨Int.natCast_nonneg _, Int.ofNat_le.2 hrS⟩
            have l12 : (p : Int) ≤ wrap64 (r : Int) := by rw [wr_w hr9]; exact Int.ofNat_le.2 hpr
            have HR9 := Lib.hid hr9
            have k2 : (bs S).extract p r = bs ((S.drop p).take n) := by rw [bs_slice, List.drop_take, ← hr, Nat.add_sub_cancel_left]
            rw [hr, ← k2]
            clear hd hS hr k2 hd9 hr9
            unfold rs at *
            go_enter Tryd.func45, Tryd.ntmps45
            go_wp2_with fail
            refine (cU _).mono ?_
            rintro e w1 ⟨rfl, hb⟩
            obtain ⟨V1, V2⟩ := vars2 hb
            have hb2 := Below.next (two w _ _) hb
            have V2k := V2
            obtain ⟨u0, u1, u2, u3, u4, u5, u6⟩ := V1
            obtain ⟨v0, v1, v2, v3, v4, v5, v6⟩ := V2
            go_wp2_with fail
            simp only [wr_w HR9.out, Int.toNat_natCast]
            refine bodyPost_ret (v := .tuple #[.agg #[.string (bs S), .int .i64 (r : Int), .int .i64 (0 : Int)], .string ((bs S).extract p r)]) (by simp [results, Tryd.results45, go_sem, v0, v1, v2, v3]) rfl ⟨rfl, ?_⟩
            exact set3a hb2 _ _ _ _ _ (Nat.le_succ _)
    · have e11 : ∀ c, eS M c (S.drop a) = eU (S.drop a) := fun c => by unfold eS; rw [if_pos hU]
      have e1 : eT M (S.drop a) = eU (S.drop a) := by unfold eT; rw [e11, if_pos hU]
      have e2 : bs (tT M (S.drop a)) = ⟨#[]⟩ := by unfold tT; rw [e1, if_neg hU]; rfl
      rw [if_pos rfl, e1, e2, aP0 _ _ _ hU, show aE 0 (eU (S.drop a)) = eU (S.drop a) by rfl]
      rw [if_pos rfl, aP0 _ _ _ hU, show aE 0 (eU (S.drop a)) = eU (S.drop a) by rfl] at cU
      clear e1 e2 e11 hS ha h1 h2
      generalize nU (S.drop a) = n at *
      generalize eU (S.drop a) = q at *
      have hd : ((q : Int) != 0) = true := by simpa using hU
      clear hU
      unfold rs at *
      go_enter Tryd.func45, Tryd.ntmps45
      go_wp2_with fail
      refine (cU _).mono ?_
      rintro e w1 ⟨rfl, hb⟩
      obtain ⟨V1, V2⟩ := vars2 hb
      have hb2 := Below.next (two w _ _) hb
      have V2k := V2
      obtain ⟨u0, u1, u2, u3, u4, u5, u6⟩ := V1
      obtain ⟨v0, v1, v2, v3, v4, v5, v6⟩ := V2
      go_wp2_with fail
      refine bodyPost_ret (v := .tuple #[.agg #[.string (bs S), .int .i64 (a : Int), .int .i64 (q : Int)], .string ⟨#[]⟩]) (by simp [results, Tryd.results45, go_sem, v0, v1, v2, v3]) rfl ⟨rfl, ?_⟩
      exact set3a hb2 _ _ _ _ _ (Nat.le_succ _)
  · rw [if_neg he, aP1 _ _ _ he, aE1 _ he]
    rw [if_neg he, aP1 _ _ _ he, aE1 _ he] at cU
    have hd : ((e : Int) != 0) = true := by simpa using he
    have hz : bs ([] : List UInt8) = ⟨#[]⟩ := rfl
    rw [hz]
    clear hS ha h1 h2 he hz
    unfold rs at *
    go_enter Tryd.func45, Tryd.ntmps45
    go_wp2_with fail
    refine (cU _).mono ?_
    rintro e w1 ⟨rfl, hb⟩
    obtain ⟨V1, V2⟩ := vars2 hb
    have hb2 := Below.next (two w _ _) hb
    have V2k := V2
    obtain ⟨u0, u1, u2, u3, u4, u5, u6⟩ := V1
    obtain ⟨v0, v1, v2, v3, v4, v5, v6⟩ := V2
    go_wp2_with fail
    refine bodyPost_ret (v := .tuple #[.agg #[.string (bs S), .int .i64 (a : Int), .int .i64 (e : Int)], .string ⟨#[]⟩]) (by simp [results, Tryd.results45, go_sem, v0, v1, v2, v3]) rfl ⟨rfl, ?_⟩
    exact set3a hb2 _ _ _ _ _ (Nat.le_succ _)
end Go.Proofs.YtcjaaijohapeaaaDoor

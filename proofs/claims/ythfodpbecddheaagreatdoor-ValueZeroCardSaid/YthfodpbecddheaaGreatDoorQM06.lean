/-
  Contracts of the developers' cutString and cut. No conditions but Go's own bounds of a string's length, and what the library's variables hold.
-/
import Derived.Test.YthfodpbecddheaaGreatDoorQM05
import Derived.Lib.Replace
import Derived.Lib.ItoaNum
import Derived.Lib.Join
import Derived.Test.YthfodpbecddheaaGreatDoorShelfD
import Derived.Lib.AppendIntMem
namespace Go.Proofs.YthfodpbecddheaaGreatDoor
open Go.RowKit
theorem tok_quo (r : List UInt8) : tok 34 r = (match qs r 1 [] with | .error i => .error (2, i) | .ok (t, k) => if 200 < t.length then .error (3, 0) else .ok (3, t, 0, k)) := by
  unfold tok
  rfl
set_option maxRecDepth 100000 in
set_option maxHeartbeats 2000000 in
theorem cutString_any (l : List UInt8) (j : Nat) (w : World) (hl : l.length ≤ 140737488355328) (h : j < l.length) (hc : l[j]'h = 34) :
    Calls Tryz.prog 203 #[.string (bs l), .int .i64 (j : Int)] w (CutP j (tokAt l j) w) := by
  have hsz : (bs l).size = l.length := rfl
  have hT := tokAt_cons h
  rw [hc, tok_quo] at hT
  have cC := fun W => content_any l j W hl h
  obtain ⟨f, hf⟩ : ∃ f, j + 1 = f := ⟨_, rfl⟩
  have l11 : (j : Int) + 1 = (f : Int) := by omega
  have hfl : f ≤ l.length := by omega
  rw [hf] at cC hT
  have V0 := V4.new w (.int .i64 0) (.string ⟨#[]⟩) (.int .i64 0) (.int .i64 0) 199
  have hg1 := grown1 (w := w) (Obj.cells #[.int .i64 0, .string ⟨#[]⟩, .int .i64 0, .int .i64 0] 199)
  generalize qs (l.drop f) 1 [] = R at *
  rcases R with i | ⟨t, k⟩
  · have cC : ∀ W, Calls Tryz.prog 215 #[.string (bs l), .int .i64 (f : Int)] W (Ib (.tuple #[.string ⟨#[]⟩, .int .i64 2, .int .i64 ((j + i : Nat) : Int)]) W) := cC
    replace hT : tokAt l j = .error (2, i) := hT
    rw [hT]
    generalize hx : j + i = x at *
    go_enter Tryz.func203, Tryz.ntmps203
    go_wp2_with fail
    refine (cC _).mono ?_
    rintro e w2 ⟨rfl, hb⟩
    have hg := Below.next hg1 hb
    obtain ⟨v0, v1, v2, v3, v4, v5, v6, v7, v8⟩ := V0.next hb
    clear hg1 hb V0 cC
    go_wp2_with fail
    refine bodyPost_ret (v := .tuple #[.agg #[.int .i64 0, .string ⟨#[]⟩, .int .i64 0, .int .i64 0], .int .i64 2, .int .i64 (x : Int)]) (by simp [results, Tryz.results203, go_sem, v1, v2, v3, v4]) rfl ⟨by rw [← hx]; rfl, ?_⟩
    exact (((hg.setCell (by simp) _).setCell (by simp) _).setCell (by simp) _).setCell (by simp) _
  · have cC : ∀ W, Calls Tryz.prog 215 #[.string (bs l), .int .i64 (f : Int)] W (Ib (.tuple #[.string (bs t), .int .i64 0, .int .i64 ((j + k : Nat) : Int)]) W) := cC
    replace hT : tokAt l j = if 200 < t.length then .error (3, 0) else .ok (3, t, 0, k) := hT
    generalize hx : j + k = x at *
    have htz : (bs t).size = t.length := rfl
    by_cases h200 : 200 < t.length
    · rw [if_pos h200] at hT
      rw [hT]
      have d1 : decide ((200 : Int) < (t.length : Int)) = true := by simp; omega
      go_enter Tryz.func203, Tryz.ntmps203
      go_wp2_with fail
      refine (cC _).mono ?_
      rintro e w2 ⟨rfl, hb⟩
      have hg := Below.next hg1 hb
      obtain ⟨v0, v1, v2, v3, v4, v5, v6, v7, v8⟩ := V0.next hb
      clear hg1 hb V0 cC
      go_wp2_with fail
      refine bodyPost_ret (v := .tuple #[.agg #[.int .i64 0, .string ⟨#[]⟩, .int .i64 0, .int .i64 0], .int .i64 3, .int .i64 (j : Int)]) (by simp [results, Tryz.results203, go_sem, v1, v2, v3, v4]) rfl ⟨rfl, ?_⟩
      exact (((hg.setCell (by simp) _).setCell (by simp) _).setCell (by simp) _).setCell (by simp) _
    · rw [if_neg h200] at hT
      rw [hT]
      have d1 : decide ((200 : Int) < (t.length : Int)) = false := by simp; omega
      go_enter Tryz.func203, Tryz.ntmps203
      go_wp2_with fail
      refine (cC _).mono ?_
      rintro e w2 ⟨rfl, hb⟩
      have hg := Below.next hg1 hb
      obtain ⟨v0, v1, v2, v3, v4, v5, v6, v7, v8⟩ := V0.next hb
      clear hg1 hb V0 cC
      go_wp2_with fail
      refine bodyPost_ret (v := .tuple #[.agg #[.int .i64 3, .string (bs t), .int .i64 0, .int .i64 (j : Int)], .int .i64 0, .int .i64 (x : Int)]) (by simp [results, Tryz.results203, go_sem, v1, v2, v3, v4]) rfl ⟨by rw [← hx]; rfl, ?_⟩
      exact (((hg.setCell (by simp) _).setCell (by simp) _).setCell (by simp) _).setCell (by simp) _
theorem cutV_form (j : Nat) (R : Except (Nat × Nat) (Nat × List UInt8 × Int × Nat)) : ∃ (K : Int) (S : ByteArray) (N P E X : Int), cutV j R = .tuple #[.agg #[.int .i64 K, .string S, .int .i64 N, .int .i64 P], .int .i64 E, .int .i64 X] := by
  rcases R with ⟨e, o⟩ | ⟨kd, t, n, k⟩
  · exact ⟨_, _, _, _, _, _, rfl⟩
  · exact ⟨_, _, _, _, _, _, rfl⟩
theorem tokAt_end (l : List UInt8) : tokAt l l.length = .error (2, 0) := by
  unfold tokAt
  rw [List.drop_length]
set_option maxRecDepth 100000 in
set_option maxHeartbeats 4000000 in
theorem cut_any (l : List UInt8) (j : Nat) (w : World) (hl : l.length ≤ 140737488355328) (hj : j ≤ l.length) (hE : Env w) :
    Calls Tryz.prog 193 #[.string (bs l), .int .i64 (j : Int)] w (CutP j (tokAt l j) w) := by
  have hsz : (bs l).size = l.length := rfl
  have cK := fun W => kindAt_any l j W
  have V0 := V4.new w (.int .i64 0) (.string ⟨#[]⟩) (.int .i64 0) (.int .i64 0) 199
  have hg1 := grown1 (w := w) (Obj.cells #[.int .i64 0, .string ⟨#[]⟩, .int .i64 0, .int .i64 0] 199)
  have hE1 := hE.next hg1
  have X : (kat l j = 2 ∧ ∀ W, Calls Tryz.prog 201 #[.string (bs l), .int .i64 (j : Int)] W (CutP j (tokAt l j) W)) ∨
      ((kat l j = 3 ∨ kat l j = 5) ∧ ∀ W, Env W → Calls Tryz.prog 202 #[.string (bs l), .int .i64 (j : Int)] W (CutP j (tokAt l j) W)) ∨
      (kat l j = 6 ∧ ∀ W, Calls Tryz.prog 203 #[.string (bs l), .int .i64 (j : Int)] W (CutP j (tokAt l j) W)) ∨
      (kat l j = 8 ∧ j < l.length ∧ tokAt l j = .ok (4, (l.take (j + 1)).drop j, 0, 1)) ∨
      (kat l j ≠ 2 ∧ kat l j ≠ 3 ∧ kat l j ≠ 5 ∧ kat l j ≠ 6 ∧ kat l j ≠ 8 ∧ tokAt l j = .error (2, 0)) := by
    by_cases h : j < l.length
    · obtain ⟨f2, f3, -, f5, f6, -, f8, -⟩ := kd_facts (l[j]'h)
      rw [kat_lt h]
      by_cases k2 : kd (l[j]'h).toNat = 2
      · exact .inl ⟨k2, fun W => cutName_any l j W (by omega) h (f2.1 k2)⟩
      have nL : isL (l[j]'h) = false := by
        cases e : isL (l[j]'h)
        · rfl
        · exact absurd (f2.2 e) k2
      by_cases k3 : kd (l[j]'h).toNat = 3
      · exact .inr (.inl ⟨.inl k3, fun W hW => cutNum_any l j W (by omega) h nL (by rw [f3.1 k3]; rfl) hW⟩)
      by_cases k5 : kd (l[j]'h).toNat = 5
      · exact .inr (.inl ⟨.inr k5, fun W hW => cutNum_any l j W (by omega) h nL (by rw [f5.1 k5]; rfl) hW⟩)
      by_cases k6 : kd (l[j]'h).toNat = 6
      · exact .inr (.inr (.inl ⟨k6, fun W => cutString_any l j W hl h (f6.1 k6)⟩))
      by_cases k8 : kd (l[j]'h).toNat = 8
      · refine .inr (.inr (.inr (.inl ⟨k8, h, ?_⟩)))
        have hlt : j < (l.take (j + 1)).length := by rw [List.length_take]; omega
        have e : (l.take (j + 1)).drop j = [l[j]'h] := by
          rw [List.drop_eq_getElem_cons hlt, List.getElem_take, List.drop_eq_nil_of_le (by rw [List.length_take]; omega)]
        rw [tokAt_cons h, mark_tok _ (f8.1 k8), e]
      · refine .inr (.inr (.inr (.inr ⟨k2, k3, k5, k6, k8, ?_⟩)))
        rw [tokAt_cons h]
        refine no_tok _ nL ?_ (fun e => k6 (f6.2 e)) ?_
        · cases e : isD (l[j]'h)
          · cases e2 : (l[j]'h) == 45
            · rfl
            · exact absurd (f5.2 (by simpa using e2)) k5
          · exact absurd (f3.2 e) k3
        · cases e : isM (l[j]'h)
          · rfl
          · exact absurd (f8.2 e) k8
    · obtain rfl : j = l.length := by omega
      rw [kat_end (Nat.le_refl _), tokAt_end]
      exact .inr (.inr (.inr (.inr ⟨by decide, by decide, by decide, by decide, by decide, rfl⟩)))
  rcases X with ⟨hk, c1⟩ | ⟨hk, c1⟩ | ⟨hk, c1⟩ | ⟨hk, h, hT⟩ | ⟨k2, k3, k5, k6, k8, hT⟩
  · rw [hk] at cK
    replace cK : ∀ W, Calls Tryz.prog 200 #[.string (bs l), .int .i64 (j : Int)] W (Is (.int .i64 2) W) := cK
    obtain ⟨K, S, N, P, E, X, hv⟩ := cutV_form j (tokAt l j)
    generalize tokAt l j = R at *
    go_enter Tryz.func193, Tryz.ntmps193
    go_wp2_with fail
    refine (cK _).mono ?_
    rintro e w' ⟨rfl, rfl⟩
    go_wp2_with fail
    refine (c1 _).mono ?_
    rintro e w2 ⟨he, hb⟩
    rw [hv] at he
    subst he
    have hg := Below.next hg1 hb
    obtain ⟨v0, v1, v2, v3, v4, v5, v6, v7, v8⟩ := V0.next hb
    clear hg1 hb V0 c1
    go_wp2_with fail
    refine bodyPost_ret (v := .tuple #[.agg #[.int .i64 K, .string S, .int .i64 N, .int .i64 P], .int .i64 E, .int .i64 X]) (by simp [results, Tryz.results193, go_sem, v1, v2, v3, v4]) rfl ⟨by rw [hv], ?_⟩
    exact (((hg.setCell (by simp) _).setCell (by simp) _).setCell (by simp) _).setCell (by simp) _
  · rcases hk with hk | hk
    all_goals rw [hk] at cK
    · replace cK : ∀ W, Calls Tryz.prog 200 #[.string (bs l), .int .i64 (j : Int)] W (Is (.int .i64 3) W) := cK
      obtain ⟨K, S, N, P, E, X, hv⟩ := cutV_form j (tokAt l j)
      generalize tokAt l j = R at *
      go_enter Tryz.func193, Tryz.ntmps193
      go_wp2_with fail
      refine (cK _).mono ?_
      rintro e w' ⟨rfl, rfl⟩
      go_wp2_with fail
      refine (c1 _ hE1).mono ?_
      rintro e w2 ⟨he, hb⟩
      rw [hv] at he
      subst he
      have hg := Below.next hg1 hb
      obtain ⟨v0, v1, v2, v3, v4, v5, v6, v7, v8⟩ := V0.next hb
      clear hg1 hb V0 c1
      go_wp2_with fail
      refine bodyPost_ret (v := .tuple #[.agg #[.int .i64 K, .string S, .int .i64 N, .int .i64 P], .int .i64 E, .int .i64 X]) (by simp [results, Tryz.results193, go_sem, v1, v2, v3, v4]) rfl ⟨by rw [hv], ?_⟩
      exact (((hg.setCell (by simp) _).setCell (by simp) _).setCell (by simp) _).setCell (by simp) _
    · replace cK : ∀ W, Calls Tryz.prog 200 #[.string (bs l), .int .i64 (j : Int)] W (Is (.int .i64 5) W) := cK
      obtain ⟨K, S, N, P, E, X, hv⟩ := cutV_form j (tokAt l j)
      generalize tokAt l j = R at *
      go_enter Tryz.func193, Tryz.ntmps193
      go_wp2_with fail
      refine (cK _).mono ?_
      rintro e w' ⟨rfl, rfl⟩
      go_wp2_with fail
      refine (c1 _ hE1).mono ?_
      rintro e w2 ⟨he, hb⟩
      rw [hv] at he
      subst he
      have hg := Below.next hg1 hb
      obtain ⟨v0, v1, v2, v3, v4, v5, v6, v7, v8⟩ := V0.next hb
      clear hg1 hb V0 c1
      go_wp2_with fail
      refine bodyPost_ret (v := .tuple #[.agg #[.int .i64 K, .string S, .int .i64 N, .int .i64 P], .int .i64 E, .int .i64 X]) (by simp [results, Tryz.results193, go_sem, v1, v2, v3, v4]) rfl ⟨by rw [hv], ?_⟩
      exact (((hg.setCell (by simp) _).setCell (by simp) _).setCell (by simp) _).setCell (by simp) _
  · rw [hk] at cK
    replace cK : ∀ W, Calls Tryz.prog 200 #[.string (bs l), .int .i64 (j : Int)] W (Is (.int .i64 6) W) := cK
    obtain ⟨K, S, N, P, E, X, hv⟩ := cutV_form j (tokAt l j)
    generalize tokAt l j = R at *
    go_enter Tryz.func193, Tryz.ntmps193
    go_wp2_with fail
    refine (cK _).mono ?_
    rintro e w' ⟨rfl, rfl⟩
    go_wp2_with fail
    refine (c1 _).mono ?_
    rintro e w2 ⟨he, hb⟩
    rw [hv] at he
    subst he
    have hg := Below.next hg1 hb
    obtain ⟨v0, v1, v2, v3, v4, v5, v6, v7, v8⟩ := V0.next hb
    clear hg1 hb V0 c1
    go_wp2_with fail
    refine bodyPost_ret (v := .tuple #[.agg #[.int .i64 K, .string S, .int .i64 N, .int .i64 P], .int .i64 E, .int .i64 X]) (by simp [results, Tryz.results193, go_sem, v1, v2, v3, v4]) rfl ⟨by rw [hv], ?_⟩
    exact (((hg.setCell (by simp) _).setCell (by simp) _).setCell (by simp) _).setCell (by simp) _
  · rw [hk] at cK
    replace cK : ∀ W, Calls Tryz.prog 200 #[.string (bs l), .int .i64 (j : Int)] W (Is (.int .i64 8) W) := cK
    rw [hT]
    obtain ⟨f, hf⟩ : ∃ f, j + 1 = f := ⟨_, rfl⟩
    have l11 : (j : Int) + 1 = (f : Int) := by omega
    have hfl : f ≤ l.length := by omega
    have ext := bs_slice l j f
    rw [hf]
    generalize (l.take f).drop j = T at *
    clear hT hk hE hE1
    go_enter Tryz.func193, Tryz.ntmps193
    go_wp2_with fail
    refine (cK _).mono ?_
    rintro e w' ⟨rfl, rfl⟩
    generalize w.alloc (Obj.cells #[.int .i64 0, .string ⟨#[]⟩, .int .i64 0, .int .i64 0] 199) = w1 at *
    obtain ⟨v0, v1, v2, v3, v4, v5, v6, v7, v8⟩ := V0
    go_wp2_with fail
    refine bodyPost_ret (v := .tuple #[.agg #[.int .i64 4, .string (bs T), .int .i64 0, .int .i64 (j : Int)], .int .i64 0, .int .i64 (f : Int)]) (by simp [results, Tryz.results193, go_sem, v1, v2, v3, v4]) rfl ⟨by rw [← hf]; rfl, ?_⟩
    exact (((hg1.setCell (by simp) _).setCell (by simp) _).setCell (by simp) _).setCell (by simp) _
  · rw [hT]
    generalize kat l j = k at *
    have d2 : ((k : Int) == 2) = false := by simp; omega
    have d3 : ((k : Int) == 3) = false := by simp; omega
    have d5 : ((k : Int) == 5) = false := by simp; omega
    have d6 : ((k : Int) == 6) = false := by simp; omega
    have d8 : ((k : Int) == 8) = false := by simp; omega
    clear hT hE hE1 k2 k3 k5 k6 k8
    go_enter Tryz.func193, Tryz.ntmps193
    go_wp2_with fail
    refine (cK _).mono ?_
    rintro e w' ⟨rfl, rfl⟩
    generalize w.alloc (Obj.cells #[.int .i64 0, .string ⟨#[]⟩, .int .i64 0, .int .i64 0] 199) = w1 at *
    obtain ⟨v0, v1, v2, v3, v4, v5, v6, v7, v8⟩ := V0
    go_wp2_with fail
    refine bodyPost_ret (v := .tuple #[.agg #[.int .i64 0, .string ⟨#[]⟩, .int .i64 0, .int .i64 0], .int .i64 2, .int .i64 (j : Int)]) (by simp [results, Tryz.results193, go_sem, v1, v2, v3, v4]) rfl ⟨rfl, ?_⟩
    exact (((hg1.setCell (by simp) _).setCell (by simp) _).setCell (by simp) _).setCell (by simp) _
end Go.Proofs.YthfodpbecddheaaGreatDoor
/-
  The mathematics of what the developers' printing asks of the library: ReplaceAll at one byte, FormatInt, Join; which tokens are valid. No conditions beyond those that each names.
-/
namespace Go.Proofs.YthfodpbecddheaaGreatDoor
theorem index_cons (c b : UInt8) (l : List UInt8) : Lib.index (b :: l) [c] = if c = b then 0 else if Lib.index l [c] == -1 then -1 else Lib.index l [c] + 1 := by
  rw [Lib.index]
  simp [List.isPrefixOf]
theorem rk_skip (c : UInt8) (new : List UInt8) (b : UInt8) (h : c ≠ b) (k : Nat) (l : List UInt8) : Lib.replaceK [c] new k (b :: l) = b :: Lib.replaceK [c] new k l := by
  cases k with
  | zero => rfl
  | succ k =>
    have hg := Lib.index_ge l [c]
    rw [Lib.replaceK, Lib.replaceK, index_cons, if_neg h]
    by_cases e : Lib.index l [c] = -1
    · simp [e]
    · have e1 : (Lib.index l [c] == -1) = false := by simpa using e
      have e2 : (Lib.index l [c] + 1 == -1) = false := by simp; omega
      obtain ⟨i, hi⟩ : ∃ i : Nat, Lib.index l [c] = i := ⟨(Lib.index l [c]).toNat, by omega⟩
      rw [hi] at e1 e2 ⊢
      simp only [e1, e2, Bool.false_eq_true, if_false]
      rw [show ((i : Int) + 1).toNat = i + 1 by omega, show (i : Int).toNat = i by omega]
      rw [show i + 1 + [c].length = (i + [c].length) + 1 by omega]
      rfl
theorem rk_hit (c : UInt8) (new : List UInt8) (k : Nat) (l : List UInt8) : Lib.replaceK [c] new (k + 1) (c :: l) = new ++ Lib.replaceK [c] new k l := by
  rw [Lib.replaceK_hit [c] new k (c :: l) 0 (by rw [index_cons, if_pos rfl]; rfl)]
  rfl
theorem rk_all (c : UInt8) (new : List UInt8) (l : List UInt8) : Lib.replaceK [c] new (Lib.count l [c]) l = l.flatMap (fun b => if b = c then new else [b]) := by
  induction l with
  | nil =>
    rw [Lib.count_one]
    rfl
  | cons b l ih =>
    by_cases h : b = c
    · subst h
      rw [Lib.count_cons_eq, Nat.add_comm 1, rk_hit, ih]
      simp
    · rw [Lib.count_cons_ne _ _ _ h, rk_skip c new b (fun e => h e.symm), ih]
      simp [h]
theorem replaceAll_one (c : UInt8) (new l : List UInt8) (h : [c] ≠ new) : Lib.replaceAll l [c] new = l.flatMap (fun b => if b = c then new else [b]) := by
  unfold Lib.replaceAll Lib.replace
  rw [if_neg (by simpa using h)]
  unfold Lib.replaceNum
  rw [if_pos (.inl (by decide))]
  exact rk_all c new l
theorem esc_eq (l : List UInt8) : Lib.replaceAll (Lib.replaceAll l [92] [92, 92]) [34] [92, 34] = esc l := by
  rw [replaceAll_one _ _ _ (by decide), replaceAll_one _ _ _ (by decide)]
  induction l with
  | nil => rfl
  | cons b l ih =>
    rw [List.flatMap_cons, List.flatMap_append, ih]
    rw [show esc (b :: l) = (if b = 34 ∨ b = 92 then 92 :: b :: esc l else b :: esc l) from rfl]
    by_cases h1 : b = 92
    · subst h1
      rw [if_pos rfl, if_pos (.inr rfl)]
      rfl
    · rw [if_neg h1]
      by_cases h2 : b = 34
      · subst h2
        rw [if_pos (.inl rfl)]
        rfl
      · rw [if_neg (by simp [h1, h2])]
        simp [h2]
theorem dd_eq (n : Nat) : Lib.decDigits n = dg n := by
  induction n using Nat.strongRecOn with
  | ind n ih =>
    rw [Lib.decDigits]
    by_cases h : n < 10
    · rw [dif_pos h, dg_small h]
    · rw [dif_neg h, dg_big h, ih _ (by omega)]
theorem itoa_dec (n : Int) : Lib.itoa n = dec n := by
  unfold Lib.itoa dec
  rw [dd_eq, dd_eq]
  by_cases h : n < 0
  · rw [if_pos h, if_pos h]
  · rw [if_neg h, if_neg h, show n.toNat = n.natAbs by omega]
/-- What a token is written as. -/
def wrt (K : Int) (T : List UInt8) (N : Int) : List UInt8 := if K = 2 then dec N else if K = 3 then quo T else T
/-- Is a token the first one of what it is written as? -/
def back (K : Int) (T : List UInt8) (N : Int) : Bool := match tokAt (wrt K T N) 0 with
  | .error _ => false
  | .ok (kd, t, n, _) => decide ((kd : Int) = K) && (t == T) && (n == N)
theorem qs_bytes (l : List UInt8) : ∀ (n : Nat), l.length ≤ n → ∀ (i : Nat) (out t : List UInt8) (k : Nat), (∀ c ∈ out, 32 ≤ c.toNat ∧ c.toNat ≤ 126) → qs l i out = .ok (t, k) → ∀ c ∈ t, 32 ≤ c.toNat ∧ c.toNat ≤ 126 := by
  intro n
  induction n generalizing l with
  | zero =>
    intro hl i out t k ho h
    obtain rfl : l = [] := List.eq_nil_of_length_eq_zero (by omega)
    rw [qs] at h
    cases h
  | succ n ih =>
    intro hl i out t k ho h
    cases l with
    | nil => rw [qs] at h; cases h
    | cons c r =>
      rw [qs_cons] at h
      simp only [List.length_cons] at hl
      by_cases h34 : c = 34
      · rw [if_pos h34] at h
        injection h with h
        injection h with h1 h2
        subst h1
        exact ho
      · rw [if_neg h34] at h
        by_cases hr : c.toNat < 32 ∨ 126 < c.toNat
        · rw [if_pos hr] at h; cases h
        · rw [if_neg hr] at h
          by_cases h92 : c = 92
          · rw [if_pos h92] at h
            cases r with
            | nil => cases h
            | cons d r =>
              simp only at h
              by_cases hd : d = 34 ∨ d = 92
              · rw [if_pos hd] at h
                simp only [List.length_cons] at hl
                refine ih r (by omega) _ _ _ _ ?_ h
                intro x hx
                simp only [List.mem_append, List.mem_singleton] at hx
                rcases hx with hx | rfl
                · exact ho x hx
                · rcases hd with rfl | rfl <;> decide
              · rw [if_neg hd] at h; cases h
          · rw [if_neg h92] at h
            refine ih r (by omega) _ _ _ _ ?_ h
            intro x hx
            simp only [List.mem_append, List.mem_singleton] at hx
            rcases hx with hx | rfl
            · exact ho x hx
            · omega
theorem tok_more {c : UInt8} {r t : List UInt8} {kd k : Nat} {n : Int} (h : tok c r = .ok (kd, t, n, k)) :
    (kd = 1 → n = 0) ∧ (kd = 2 → t = []) ∧ (kd = 3 → n = 0 ∧ t.length ≤ 200 ∧ ∀ c ∈ t, 32 ≤ c.toNat ∧ c.toNat ≤ 126) ∧ (kd = 4 → n = 0 ∧ ∃ c, t = [c] ∧ isM c = true) := by
  unfold tok at h
  by_cases hL : isL c = true
  · rw [if_pos hL] at h
    by_cases h16 : 16 < ((c :: r).takeWhile isW).length
    · rw [if_pos h16] at h; cases h
    · rw [if_neg h16] at h
      by_cases h45 : ((c :: r).drop ((c :: r).takeWhile isW).length).head? = some 45
      · rw [if_pos h45] at h; cases h
      · rw [if_neg h45] at h
        injection h with h
        injection h with e1 h
        injection h with e2 h
        injection h with e3 e4
        subst e1 e3
        exact ⟨fun _ => rfl, fun e => absurd e (by decide), fun e => absurd e (by decide), fun e => absurd e (by decide)⟩
  · rw [if_neg hL] at h
    by_cases hD : (isD c || c == 45) = true
    · rw [if_pos hD] at h
      generalize numOf (c == 45) ((if c == 45 then r else c :: r).takeWhile isD) = q at h
      cases q with
      | error x => cases h
      | ok x =>
        simp only at h
        by_cases hj : ((c :: r).drop ((c == 45).toNat + ((if c == 45 then r else c :: r).takeWhile isD).length)).head?.any (fun d => isW d || d == 45) = true
        · rw [if_pos hj] at h; cases h
        · rw [if_neg hj] at h
          injection h with h
          injection h with e1 h
          injection h with e2 h
          subst e1 e2
          exact ⟨fun e => absurd e (by decide), fun _ => rfl, fun e => absurd e (by decide), fun e => absurd e (by decide)⟩
    · rw [if_neg hD] at h
      by_cases h34 : c = 34
      · rw [if_pos h34] at h
        cases hq : qs r 1 [] with
        | error x => rw [hq] at h; cases h
        | ok x =>
          obtain ⟨t', k'⟩ := x
          rw [hq] at h
          simp only at h
          by_cases h200 : 200 < t'.length
          · rw [if_pos h200] at h; cases h
          · rw [if_neg h200] at h
            injection h with h
            injection h with e1 h
            injection h with e2 h
            injection h with e3 e4
            subst e1 e2 e3
            exact ⟨fun e => absurd e (by decide), fun e => absurd e (by decide), fun _ => ⟨rfl, by omega, qs_bytes _ _ (Nat.le_refl _) _ _ _ _ (by simp) hq⟩, fun e => absurd e (by decide)⟩
      · rw [if_neg h34] at h
        by_cases hM : isM c = true
        · rw [if_pos hM] at h
          injection h with h
          injection h with e1 h
          injection h with e2 h
          injection h with e3 e4
          subst e1 e2 e3
          exact ⟨fun e => absurd e (by decide), fun e => absurd e (by decide), fun e => absurd e (by decide), fun _ => ⟨rfl, _, rfl, hM⟩⟩
        · rw [if_neg hM] at h; cases h
end Go.Proofs.YthfodpbecddheaaGreatDoor
/-
  A token is valid just where it is the first one of what it is written as. No conditions but Go's own bounds of a number.
-/
namespace Go.Proofs.YthfodpbecddheaaGreatDoor
theorem wrt_pr (K : Int) (T : List UInt8) (N A : Int) (h : 0 ≤ K) : wrt K T N = pr (Tv.tk ⟨K, T, N, A⟩) := by
  unfold wrt pr Tv.tk
  have e2 : (K.toNat = 2) = (K = 2) := propext ⟨fun h => by omega, fun h => by omega⟩
  have e3 : (K.toNat = 3) = (K = 3) := propext ⟨fun h => by omega, fun h => by omega⟩
  simp only [e2, e3]
theorem okT_nonneg {K : Int} {T : List UInt8} {N A : Int} (h : okT (Tv.tk ⟨K, T, N, A⟩) = true) : 0 ≤ K := by
  by_cases h1 : K = 1
  · omega
  by_cases h2 : K = 2
  · omega
  by_cases h3 : K = 3
  · omega
  by_cases h4 : K = 4
  · omega
  rw [okT0 K T N A h1 h2 h3 h4] at h
  cases h
theorem back_eq (K : Int) (T : List UInt8) (N A : Int) (h1 : -9223372036854775808 ≤ N) (h2 : N ≤ 9223372036854775807) : back K T N = okT (Tv.tk ⟨K, T, N, A⟩) := by
  rw [Bool.eq_iff_iff]
  constructor
  · intro h
    unfold back at h
    cases hT : tokAt (wrt K T N) 0 with
    | error x => rw [hT] at h; cases h
    | ok x =>
      obtain ⟨kd, t, n, k⟩ := x
      rw [hT] at h
      simp only [Bool.and_eq_true, decide_eq_true_eq, beq_iff_eq] at h
      obtain ⟨⟨rfl, rfl⟩, rfl⟩ := h
      unfold tokAt at hT
      rw [List.drop_zero] at hT
      cases hw : wrt kd t n with
      | nil => rw [hw] at hT; cases hT
      | cons c r =>
        rw [hw] at hT
        simp only at hT
        obtain ⟨a1, a2, -, -, a5⟩ := tok_ok hT
        obtain ⟨b1, b2, b3, b4⟩ := tok_more hT
        rcases a1 with rfl | rfl | rfl | rfl
        · obtain ⟨c1, c2, -⟩ := a5 rfl
          have hL := a2.2 rfl
          have ht : t = c :: r := hw
          have hn := b1 rfl
          subst hn
          show okT (Tv.tk ⟨1, t, 0, A⟩) = true
          rw [okT1]
          have hall : t.all isW = true := by rw [c1]; exact List.all_takeWhile
          unfold isN
          rw [hall, ht]
          rw [ht] at c2
          simp only [List.length_cons] at c2
          simp [hL]
          omega
        · show okT (Tv.tk ⟨2, t, n, A⟩) = true
          rw [okT2, b2 rfl]
          rfl
        · obtain ⟨c1, c2, c3⟩ := b3 rfl
          subst c1
          show okT (Tv.tk ⟨3, t, 0, A⟩) = true
          rw [okT3]
          simp only [Bool.and_eq_true, List.all_eq_true, decide_eq_true_eq]
          exact ⟨⟨fun x hx => c3 x hx, c2⟩, rfl⟩
        · obtain ⟨c1, c', rfl, c3⟩ := b4 rfl
          subst c1
          show okT (Tv.tk ⟨4, [c'], 0, A⟩) = true
          rw [okT4]
          simp [oneM, c3]
  · intro h
    have hK := okT_nonneg h
    obtain ⟨c, r, e1, -, -, e2⟩ := tok_pr (z := []) h (fun _ => ⟨h1, h2⟩) (.inl rfl)
    unfold back tokAt
    rw [wrt_pr K T N A hK, List.drop_zero, e1]
    rw [List.append_nil] at e2
    simp only
    rw [e2]
    show (decide (((Tv.tk ⟨K, T, N, A⟩).kind : Int) = K) && (T == T) && (N == N)) = true
    have : ((Tv.tk ⟨K, T, N, A⟩).kind : Int) = K := by
      show ((K.toNat : Nat) : Int) = K
      omega
    simp [this]
end Go.Proofs.YthfodpbecddheaaGreatDoor
/-
  Contracts of the developers' quote, written, isValid and IsName. No conditions but Go's own bounds of a number, what the library's variables hold, and a bound of a string that is quoted.
-/
namespace Go.Proofs.YthfodpbecddheaaGreatDoor
open Go.RowKit
/-- The variable of the library's search for strings holds a number. -/
def Mx (w : World) : Prop := ∃ m : Int, w.cell? ⟨5, 0, none⟩ = some (.int .i64 m)
theorem Mx.next {w w' : World} (h : Mx w) (hb : Below w.heap.size w w') : Mx w' := by
  obtain ⟨m, e⟩ := h
  exact ⟨m, (hb.cell (World.block_lt_of_cell? w _ e)).trans e⟩
theorem replaceAll_any (c : UInt8) (new l : List UInt8) (w : World) (hl : l.length ≤ 2097152) (hn : new.length ≤ 2) (hM : Mx w) :
    Calls Tryz.prog 217 #[.string (bs l), .string (bs [c]), .string (bs new)] w (Ib (.string (bs (Lib.replaceAll l [c] new))) w) := by
  obtain ⟨m, hm⟩ := hM
  refine (Tryz.strings_ReplaceAll (bs l) (bs [c]) (bs new) m w (by show l.length < _; omega) hm (by show 1 ≤ 1; decide) ?_).mono ?_
  · have hc : Lib.count l [c] ≤ l.length := by rw [Lib.count_one]; exact List.count_le_length
    have := Nat.mul_le_mul hc hn
    show l.length + Lib.count l [c] * new.length ≤ 140737488355328
    omega
  · rintro e w' ⟨rfl, hb⟩
    exact ⟨rfl, hb⟩
theorem fm_length (c : UInt8) (new l : List UInt8) (hn : new.length ≤ 2) : (l.flatMap (fun b => if b = c then new else [b])).length ≤ 2 * l.length := by
  induction l with
  | nil => simp
  | cons b l ih =>
    rw [List.flatMap_cons, List.length_append, List.length_cons]
    have : (if b = c then new else [b]).length ≤ 2 := by split <;> simp [hn]
    omega
set_option maxRecDepth 100000 in
theorem quote_any (l : List UInt8) (w : World) (hl : l.length ≤ 1048576) (hM : Mx w) :
    Calls Tryz.prog 205 #[.string (bs l)] w (Ib (.string (bs (quo l))) w) := by
  have c1 := replaceAll_any 92 [92, 92] l w (by omega) (by decide) hM
  have hx : (Lib.replaceAll l [92] [92, 92]).length ≤ 2097152 := by
    rw [replaceAll_one _ _ _ (by decide)]
    have := fm_length 92 [92, 92] l (by decide)
    omega
  have c2 := fun W h => replaceAll_any 34 [92, 34] (Lib.replaceAll l [92] [92, 92]) W hx (by decide) h
  rw [esc_eq] at c2
  generalize Lib.replaceAll l [92] [92, 92] = x at *
  have n1 : (⟨#[92]⟩ : ByteArray) = bs [92] := rfl
  have n2 : (⟨#[92, 92]⟩ : ByteArray) = bs [92, 92] := rfl
  have n3 : (⟨#[34]⟩ : ByteArray) = bs [34] := rfl
  have n4 : (⟨#[92, 34]⟩ : ByteArray) = bs [92, 34] := rfl
  have s3 : (bs [34]).size = 1 := rfl
  have hel := esc_length l
  have s4 : (bs (esc l)).size = (esc l).length := rfl
  have a1 : bs [34] ++ bs (esc l) = bs (34 :: esc l) := bs_append [34] (esc l)
  have a2 : bs (34 :: esc l) ++ bs [34] = bs (quo l) := bs_append (34 :: esc l) [34]
  have s5 : (bs (34 :: esc l)).size = (esc l).length + 1 := rfl
  have hel2 : (esc l).length ≤ 2097152 := by omega
  generalize esc l = E at *
  go_enter Tryz.func205, Tryz.ntmps205
  go_wp2_with fail
  refine c1.mono ?_
  rintro e w2 ⟨rfl, hb⟩
  go_wp2_with fail
  refine (c2 _ (hM.next hb)).mono ?_
  rintro e w3 ⟨rfl, hb3⟩
  clear c1 c2 hx hl hel
  have hb4 := Below.next hb hb3
  go_wp2_with fail
  go_ret
  exact ⟨by first | rfl | (rw [← a2]; rfl), hb4⟩
theorem format_any (n : Int) (w : World) (h1 : -9223372036854775808 ≤ n) (h2 : n ≤ 9223372036854775807) (hE : Env w) :
    Calls Tryz.prog 204 #[.int .i64 n, .int .i64 10] w (Ib (.string (bs (dec n))) w) := by
  refine (Tryz.strconv_FormatInt_10 n h1 h2 w hE.tab).mono ?_
  rintro e w' ⟨rfl, k, os, rfl⟩
  rw [itoa_dec]
  exact ⟨rfl, Lib.below_grow _ _ (Nat.le_refl _) _ _⟩
set_option maxRecDepth 100000 in
theorem written_any (K : Int) (T : List UInt8) (N A : Int) (w : World) (h1 : -9223372036854775808 ≤ N) (h2 : N ≤ 9223372036854775807) (hE : Env w) (hM : K = 3 → T.length ≤ 1048576 ∧ Mx w) :
    Calls Tryz.prog 194 #[.agg #[.int .i64 K, .string (bs T), .int .i64 N, .int .i64 A]] w (Ib (.string (bs (wrt K T N))) w) := by
  have hg := grown1 (w := w) (Obj.cells #[.int .i64 K, .string (bs T), .int .i64 N, .int .i64 A] 199)
  unfold wrt
  by_cases k2 : K = 2
  · subst k2
    rw [if_pos rfl]
    have cF := format_any N _ h1 h2 (hE.next hg)
    clear hM hE
    go_enter Tryz.func194, Tryz.ntmps194
    go_wp2_with fail
    refine cF.mono ?_
    rintro e w2 ⟨rfl, hb⟩
    have hb2 := Below.next hg hb
    go_wp2_with fail
    go_ret
    exact ⟨rfl, hb2⟩
  · rw [if_neg k2]
    have d2 : ((K : Int) == 2) = false := by simpa using k2
    by_cases k3 : K = 3
    · subst k3
      rw [if_pos rfl]
      obtain ⟨hT, hm⟩ := hM rfl
      have cQ := quote_any T _ hT (hm.next hg)
      go_enter Tryz.func194, Tryz.ntmps194
      go_wp2_with fail
      refine cQ.mono ?_
      rintro e w2 ⟨rfl, hb⟩
      have hb2 := Below.next hg hb
      go_wp2_with fail
      go_ret
      exact ⟨rfl, hb2⟩
    · rw [if_neg k3]
      have d3 : ((K : Int) == 3) = false := by simpa using k3
      go_enter Tryz.func194, Tryz.ntmps194
      go_wp2_with fail
      go_ret
      exact ⟨rfl, hg⟩
theorem tokAt_error {l : List UInt8} {j e o : Nat} (h : tokAt l j = .error (e, o)) : e ≠ 0 := by
  unfold tokAt at h
  split at h
  · cases h; decide
  · have := (tok_error h).1; omega
set_option maxRecDepth 100000 in
set_option maxHeartbeats 1000000 in
theorem isValid_any (K : Int) (T : List UInt8) (N A : Int) (w : World) (h1 : -9223372036854775808 ≤ N) (h2 : N ≤ 9223372036854775807) (hT : T.length ≤ 140737488355328) (hE : Env w) (hM : K = 3 → T.length ≤ 1048576 ∧ Mx w) :
    Calls Tryz.prog 165 #[.agg #[.int .i64 K, .string (bs T), .int .i64 N, .int .i64 A]] w (Ib (.bool (okT (Tv.tk ⟨K, T, N, A⟩))) w) := by
  rw [← back_eq K T N A h1 h2]
  have hwl : (wrt K T N).length ≤ 140737488355328 := by
    unfold wrt
    split
    · have := dec_len N h1 h2; omega
    · split
      · rename_i h
        have := quo_len T
        have := (hM h).1
        omega
      · exact hT
  have cW := fun W hW hMW => written_any K T N 0 W h1 h2 hW hMW
  have cC := fun W hW => cut_any (wrt K T N) 0 W hwl (Nat.zero_le _) hW
  have hR : ∀ e o, tokAt (wrt K T N) 0 = .error (e, o) → e ≠ 0 := fun e o h => tokAt_error h
  have hB : back K T N = match tokAt (wrt K T N) 0 with | .error _ => false | .ok (kd, t, n, _) => decide ((kd : Int) = K) && (t == T) && (n == N) := rfl
  rw [hB]
  generalize tokAt (wrt K T N) 0 = R at *
  generalize wrt K T N = X at *
  clear hB
  have hg := grown1 (w := w) (Obj.cells #[.int .i64 K, .string (bs T), .int .i64 N, .int .i64 0] 199)
  have V0 := V4.new w (.int .i64 K) (.string (bs T)) (.int .i64 N) (.int .i64 0) 199
  have cW0 := cW _ (hE.next hg) (fun h => ⟨(hM h).1, (hM h).2.next hg⟩)
  rcases R with ⟨e, o⟩ | ⟨kd, t, n, k⟩
  · have he : ((e : Int) == 0) = false := by have := hR e o rfl; simp; omega
    have cC : ∀ W, Env W → Calls Tryz.prog 193 #[.string (bs X), .int .i64 0] W (Ib (.tuple #[.agg #[.int .i64 0, .string ⟨#[]⟩, .int .i64 0, .int .i64 0], .int .i64 (e : Int), .int .i64 ((0 + o : Nat) : Int)]) W) := cC
    go_enter Tryz.func165, Tryz.ntmps165
    go_wp2_with fail
    refine cW0.mono ?_
    rintro e1 w2 ⟨rfl, hb⟩
    have hg2 := Below.next hg hb
    go_wp2_with fail
    refine (cC _ (hE.next hg2)).mono ?_
    rintro e1 w3 ⟨rfl, hb3⟩
    have hg3 := Below.next hg2 hb3
    clear cC cW cW0 hM
    go_wp2_with fail
    go_ret
    exact ⟨rfl, Below.next hg3 (one _ _)⟩
  · have cC : ∀ W, Env W → Calls Tryz.prog 193 #[.string (bs X), .int .i64 0] W (Ib (.tuple #[.agg #[.int .i64 (kd : Int), .string (bs t), .int .i64 n, .int .i64 0], .int .i64 0, .int .i64 ((0 + k : Nat) : Int)]) W) := cC
    go_enter Tryz.func165, Tryz.ntmps165
    go_wp2_with fail
    refine cW0.mono ?_
    rintro e1 w2 ⟨rfl, hb⟩
    have hg2 := Below.next hg hb
    have V1 := V0.next hb
    go_wp2_with fail
    refine (cC _ (hE.next hg2)).mono ?_
    rintro e1 w3 ⟨rfl, hb3⟩
    have hg3 := Below.next hg2 hb3
    obtain ⟨v0, v1, v2, v3, v4, v5, v6, v7, v8⟩ := V1.next hb3
    clear cC cW cW0 hM V0 V1
    go_wp2_with fail
    all_goals
      go_ret
      refine ⟨congrArg (fun b => Ending.returned (.bool b)) ?_, Below.next hg3 (one _ _)⟩
      try simp only [toList_bs] at *
      simp [*]
set_option maxRecDepth 100000 in
theorem isNameD_any (l : List UInt8) (w : World) (hl : l.length ≤ 140737488355328) (hE : Env w) :
    Calls Tryz.prog 116 #[.string (bs l)] w (Ib (.bool (isN l)) w) := by
  have cV := isValid_any 1 l 0 0 w (by decide) (by decide) hl hE (fun h => absurd h (by decide))
  rw [okT1] at cV
  rw [show (isN l && (0 : Int) == 0) = isN l by simp] at cV
  go_enter Tryz.func116, Tryz.ntmps116
  go_wp2_with fail
  refine cV.mono ?_
  rintro e w2 ⟨rfl, hb⟩
  go_wp2_with fail
  go_ret
  exact ⟨rfl, hb⟩
end Go.Proofs.YthfodpbecddheaaGreatDoor


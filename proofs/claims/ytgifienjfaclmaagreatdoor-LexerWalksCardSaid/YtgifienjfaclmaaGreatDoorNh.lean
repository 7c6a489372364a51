/-
  Contracts of the developers' cutString and cut. No conditions but Go's own bounds of a string's length, and what the library's variables hold.
-/
import Derived.Test.YtgifienjfaclmaaGreatDoorNg
namespace Go.Proofs.YtgifienjfaclmaaGreatDoor
open Go.RowKit
theorem tok_quo (r : List UInt8) : tok 34 r = (match qs r 1 [] with | .error i => .error (2, i) | .ok (t, k) => if 200 < t.length then .error (3, 0) else .ok (3, t, 0, k)) := by
  unfold tok
  rfl
set_option maxRecDepth 100000 in
set_option maxHeartbeats 2000000 in
theorem cutString_any (l : List UInt8) (j : Nat) (w : World) (hl : l.length ≤ 140737488355328) (h : j < l.length) (hc : l[j]'h = 34) :
    Calls Tryz.prog 34 #[.string (bs l), .int .i64 (j : Int)] w (CutP j (tokAt l j) w) := by
  have hsz : (bs l).size = l.length := rfl
  have hT := tokAt_cons h
  rw [hc, tok_quo] at hT
  have cC := fun W => content_any l j W hl h
  obtain ⟨f, hf⟩ : ∃ f, j + 1 = f := ⟨_, rfl⟩
  have l11 : (j : Int) + 1 = (f : Int) := by omega
  have hfl : f ≤ l.length := by omega
  rw [hf] at cC hT
  have V0 := V4.new w (.int .i64 0) (.string ⟨#[]⟩) (.int .i64 0) (.int .i64 0) 34
  have hg1 := grown1 (w := w) (Obj.cells #[.int .i64 0, .string ⟨#[]⟩, .int .i64 0, .int .i64 0] 34)
  generalize qs (l.drop f) 1 [] = R at *
  rcases R with i | ⟨t, k⟩
  · have cC : ∀ W, Calls Tryz.prog 44 #[.string (bs l), .int .i64 (f : Int)] W (Ib (.tuple #[.string ⟨#[]⟩, .int .i64 2, .int .i64 ((j + i : Nat) : Int)]) W) := cC
    replace hT : tokAt l j = .error (2, i) := hT
    rw [hT]
    generalize hx : j + i = x at *
    go_enter Tryz.func34, Tryz.ntmps34
    go_wp2_with fail
    refine (cC _).mono ?_
    rintro e w2 ⟨rfl, hb⟩
    have hg := Below.next hg1 hb
    obtain ⟨v0, v1, v2, v3, v4, v5, v6, v7, v8⟩ := V0.next hb
    clear hg1 hb V0 cC
    go_wp2_with fail
    refine bodyPost_ret (v := .tuple #[.agg #[.int .i64 0, .string ⟨#[]⟩, .int .i64 0, .int .i64 0], .int .i64 2, .int .i64 (x : Int)]) (by simp [results, Tryz.results34, go_sem, v1, v2, v3, v4]) rfl ⟨by rw [← hx]; rfl, ?_⟩
    exact (((hg.setCell (by simp) _).setCell (by simp) _).setCell (by simp) _).setCell (by simp) _
  · have cC : ∀ W, Calls Tryz.prog 44 #[.string (bs l), .int .i64 (f : Int)] W (Ib (.tuple #[.string (bs t), .int .i64 0, .int .i64 ((j + k : Nat) : Int)]) W) := cC
    replace hT : tokAt l j = if 200 < t.length then .error (3, 0) else .ok (3, t, 0, k) := hT
    generalize hx : j + k = x at *
    have htz : (bs t).size = t.length := rfl
    by_cases h200 : 200 < t.length
    · rw [if_pos h200] at hT
      rw [hT]
      have d1 : decide ((200 : Int) < (t.length : Int)) = true := by simp; omega
      go_enter Tryz.func34, Tryz.ntmps34
      go_wp2_with fail
      refine (cC _).mono ?_
      rintro e w2 ⟨rfl, hb⟩
      have hg := Below.next hg1 hb
      obtain ⟨v0, v1, v2, v3, v4, v5, v6, v7, v8⟩ := V0.next hb
      clear hg1 hb V0 cC
      go_wp2_with fail
      refine bodyPost_ret (v := .tuple #[.agg #[.int .i64 0, .string ⟨#[]⟩, .int .i64 0, .int .i64 0], .int .i64 3, .int .i64 (j : Int)]) (by simp [results, Tryz.results34, go_sem, v1, v2, v3, v4]) rfl ⟨rfl, ?_⟩
      exact (((hg.setCell (by simp) _).setCell (by simp) _).setCell (by simp) _).setCell (by simp) _
    · rw [if_neg h200] at hT
      rw [hT]
      have d1 : decide ((200 : Int) < (t.length : Int)) = false := by simp; omega
      go_enter Tryz.func34, Tryz.ntmps34
      go_wp2_with fail
      refine (cC _).mono ?_
      rintro e w2 ⟨rfl, hb⟩
      have hg := Below.next hg1 hb
      obtain ⟨v0, v1, v2, v3, v4, v5, v6, v7, v8⟩ := V0.next hb
      clear hg1 hb V0 cC
      go_wp2_with fail
      refine bodyPost_ret (v := .tuple #[.agg #[.int .i64 3, .string (bs t), .int .i64 0, .int .i64 (j : Int)], .int .i64 0, .int .i64 (x : Int)]) (by simp [results, Tryz.results34, go_sem, v1, v2, v3, v4]) rfl ⟨by rw [← hx]; rfl, ?_⟩
      exact (((hg.setCell (by simp) _).setCell (by simp) _).setCell (by simp) _).setCell (by simp) _
theorem cutV_form (j : Nat) (R : Except (Nat × Nat) (Nat × List UInt8 × Int × Nat)) : ∃ (K : Int) (S : ByteArray) (N P E X : Int), cutV j R = .tuple #[.agg #[.int .i64 K, .string S, .int .i64 N, .int .i64 P], .int .i64 E, .int .i64 X] := by
  rcases R with ⟨e, o⟩ | ⟨kd, t, n, k⟩
  · exact ⟨_, _, _, _, _, _, rfl⟩
  · exact ⟨_, _, _, _, _, _, rfl⟩
theorem tokAt_end (l : List UInt8) : tokAt l l.length = .error (2, 0) := by
  unfold tokAt
  rw [List.drop_length]
set_option maxRecDepth 100000 in
set_option maxHeartbeats 4000000 in
theorem cut_any (l : List UInt8) (j : Nat) (w : World) (hl : l.length ≤ 140737488355328) (hj : j ≤ l.length) (hE : Env w) :
    Calls Tryz.prog 20 #[.string (bs l), .int .i64 (j : Int)] w (CutP j (tokAt l j) w) := by
  have hsz : (bs l).size = l.length := rfl
  have cK := fun W => kindAt_any l j W
  have V0 := V4.new w (.int .i64 0) (.string ⟨#[]⟩) (.int .i64 0) (.int .i64 0) 34
  have hg1 := grown1 (w := w) (Obj.cells #[.int .i64 0, .string ⟨#[]⟩, .int .i64 0, .int .i64 0] 34)
  have hE1 := hE.next hg1
  have X : (kat l j = 2 ∧ ∀ W, Calls Tryz.prog 32 #[.string (bs l), .int .i64 (j : Int)] W (CutP j (tokAt l j) W)) ∨
      ((kat l j = 3 ∨ kat l j = 5) ∧ ∀ W, Env W → Calls Tryz.prog 33 #[.string (bs l), .int .i64 (j : Int)] W (CutP j (tokAt l j) W)) ∨
      (kat l j = 6 ∧ ∀ W, Calls Tryz.prog 34 #[.string (bs l), .int .i64 (j : Int)] W (CutP j (tokAt l j) W)) ∨
      (kat l j = 8 ∧ j < l.length ∧ tokAt l j = .ok (4, (l.take (j + 1)).drop j, 0, 1)) ∨
      (kat l j ≠ 2 ∧ kat l j ≠ 3 ∧ kat l j ≠ 5 ∧ kat l j ≠ 6 ∧ kat l j ≠ 8 ∧ tokAt l j = .error (2, 0)) := by
    by_cases h : j < l.length
    · obtain ⟨f2, f3, -, f5, f6, -, f8, -⟩ := kd_facts (l[j]'h)
      rw [kat_lt h]
      by_cases k2 : kd (l[j]'h).toNat = 2
      · exact .inl ⟨k2, fun W => cutName_any l j W (by omega) h (f2.1 k2)⟩
      have nL : isL (l[j]'h) = false := by
        cases e : isL (l[j]'h)
        · rfl
        · exact absurd (f2.2 e) k2
      by_cases k3 : kd (l[j]'h).toNat = 3
      · exact .inr (.inl ⟨.inl k3, fun W hW => cutNum_any l j W (by omega) h nL (by rw [f3.1 k3]; rfl) hW⟩)
      by_cases k5 : kd (l[j]'h).toNat = 5
      · exact .inr (.inl ⟨.inr k5, fun W hW => cutNum_any l j W (by omega) h nL (by rw [f5.1 k5]; rfl) hW⟩)
      by_cases k6 : kd (l[j]'h).toNat = 6
      · exact .inr (.inr (.inl ⟨k6, fun W => cutString_any l j W hl h (f6.1 k6)⟩))
      by_cases k8 : kd (l[j]'h).toNat = 8
      · refine .inr (.inr (.inr (.inl ⟨k8, h, ?_⟩)))
        have hlt : j < (l.take (j + 1)).length := by rw [List.length_take]; omega
        have e : (l.take (j + 1)).drop j = [l[j]'h] := by
          rw [List.drop_eq_getElem_cons hlt, List.getElem_take, List.drop_eq_nil_of_le (by rw [List.length_take]; omega)]
        rw [tokAt_cons h, mark_tok _ (f8.1 k8), e]
      · refine .inr (.inr (.inr (.inr ⟨k2, k3, k5, k6, k8, ?_⟩)))
        rw [tokAt_cons h]
        refine no_tok _ nL ?_ (fun e => k6 (f6.2 e)) ?_
        · cases e : isD (l[j]'h)
          · cases e2 : (l[j]'h) == 45
            · rfl
            · exact absurd (f5.2 (by simpa using e2)) k5
          · exact absurd (f3.2 e) k3
        · cases e : isM (l[j]'h)
          · rfl
          · exact absurd (f8.2 e) k8
    · obtain rfl : j = l.length := by omega
      rw [kat_end (Nat.le_refl _), tokAt_end]
      exact .inr (.inr (.inr (.inr ⟨by decide, by decide, by decide, by decide, by decide, rfl⟩)))
  rcases X with ⟨hk, c1⟩ | ⟨hk, c1⟩ | ⟨hk, c1⟩ | ⟨hk, h, hT⟩ | ⟨k2, k3, k5, k6, k8, hT⟩
  · rw [hk] at cK
    replace cK : ∀ W, Calls Tryz.prog 30 #[.string (bs l), .int .i64 (j : Int)] W (Is (.int .i64 2) W) := cK
    obtain ⟨K, S, N, P, E, X, hv⟩ := cutV_form j (tokAt l j)
    generalize tokAt l j = R at *
    go_enter Tryz.func20, Tryz.ntmps20
    go_wp2_with fail
    refine (cK _).mono ?_
    rintro e w' ⟨rfl, rfl⟩
    go_wp2_with fail
    refine (c1 _).mono ?_
    rintro e w2 ⟨he, hb⟩
    rw [hv] at he
    subst he
    have hg := Below.next hg1 hb
    obtain ⟨v0, v1, v2, v3, v4, v5, v6, v7, v8⟩ := V0.next hb
    clear hg1 hb V0 c1
    go_wp2_with fail
    refine bodyPost_ret (v := .tuple #[.agg #[.int .i64 K, .string S, .int .i64 N, .int .i64 P], .int .i64 E, .int .i64 X]) (by simp [results, Tryz.results20, go_sem, v1, v2, v3, v4]) rfl ⟨by rw [hv], ?_⟩
    exact (((hg.setCell (by simp) _).setCell (by simp) _).setCell (by simp) _).setCell (by simp) _
  · rcases hk with hk | hk
    all_goals rw [hk] at cK
    · replace cK : ∀ W, Calls Tryz.prog 30 #[.string (bs l), .int .i64 (j : Int)] W (Is (.int .i64 3) W) := cK
      obtain ⟨K, S, N, P, E, X, hv⟩ := cutV_form j (tokAt l j)
      generalize tokAt l j = R at *
      go_enter Tryz.func20, Tryz.ntmps20
      go_wp2_with fail
      refine (cK _).mono ?_
      rintro e w' ⟨rfl, rfl⟩
      go_wp2_with fail
      refine (c1 _ hE1).mono ?_
      rintro e w2 ⟨he, hb⟩
      rw [hv] at he
      subst he
      have hg := Below.next hg1 hb
      obtain ⟨v0, v1, v2, v3, v4, v5, v6, v7, v8⟩ := V0.next hb
      clear hg1 hb V0 c1
      go_wp2_with fail
      refine bodyPost_ret (v := .tuple #[.agg #[.int .i64 K, .string S, .int .i64 N, .int .i64 P], .int .i64 E, .int .i64 X]) (by simp [results, Tryz.results20, go_sem, v1, v2, v3, v4]) rfl ⟨by rw [hv], ?_⟩
      exact (((hg.setCell (by simp) _).setCell (by simp) _).setCell (by simp) _).setCell (by simp) _
    · replace cK : ∀ W, Calls Tryz.prog 30 #[.string (bs l), .int .i64 (j : Int)] W (Is (.int .i64 5) W) := cK
      obtain ⟨K, S, N, P, E, X, hv⟩ := cutV_form j (tokAt l j)
      generalize tokAt l j = R at *
      go_enter Tryz.func20, Tryz.ntmps20
      go_wp2_with fail
      refine (cK _).mono ?_
      rintro e w' ⟨rfl, rfl⟩
      go_wp2_with fail
      refine (c1 _ hE1).mono ?_
      rintro e w2 ⟨he, hb⟩
      rw [hv] at he
      subst he
      have hg := Below.next hg1 hb
      obtain ⟨v0, v1, v2, v3, v4, v5, v6, v7, v8⟩ := V0.next hb
      clear hg1 hb V0 c1
      go_wp2_with fail
      refine bodyPost_ret (v := .tuple #[.agg #[.int .i64 K, .string S, .int .i64 N, .int .i64 P], .int .i64 E, .int .i64 X]) (by simp [results, Tryz.results20, go_sem, v1, v2, v3, v4]) rfl ⟨by rw [hv], ?_⟩
      exact (((hg.setCell (by simp) _).setCell (by simp) _).setCell (by simp) _).setCell (by simp) _
  · rw [hk] at cK
    replace cK : ∀ W, Calls Tryz.prog 30 #[.string (bs l), .int .i64 (j : Int)] W (Is (.int .i64 6) W) := cK
    obtain ⟨K, S, N, P, E, X, hv⟩ := cutV_form j (tokAt l j)
    generalize tokAt l j = R at *
    go_enter Tryz.func20, Tryz.ntmps20
    go_wp2_with fail
    refine (cK _).mono ?_
    rintro e w' ⟨rfl, rfl⟩
    go_wp2_with fail
    refine (c1 _).mono ?_
    rintro e w2 ⟨he, hb⟩
    rw [hv] at he
    subst he
    have hg := Below.next hg1 hb
    obtain ⟨v0, v1, v2, v3, v4, v5, v6, v7, v8⟩ := V0.next hb
    clear hg1 hb V0 c1
    go_wp2_with fail
    refine bodyPost_ret (v := .tuple #[.agg #[.int .i64 K, .string S, .int .i64 N, .int .i64 P], .int .i64 E, .int .i64 X]) (by simp [results, Tryz.results20, go_sem, v1, v2, v3, v4]) rfl ⟨by rw [hv], ?_⟩
    exact (((hg.setCell (by simp) _).setCell (by simp) _).setCell (by simp) _).setCell (by simp) _
  · rw [hk] at cK
    replace cK : ∀ W, Calls Tryz.prog 30 #[.string (bs l), .int .i64 (j : Int)] W (Is (.int .i64 8) W) := cK
    rw [hT]
    obtain ⟨f, hf⟩ : ∃ f, j + 1 = f := ⟨_, rfl⟩
    have l11 : (j : Int) + 1 = (f : Int) := by omega
    have hfl : f ≤ l.length := by omega
    have ext := bs_slice l j f
    rw [hf]
    generalize (l.take f).drop j = T at *
    clear hT hk hE hE1
    go_enter Tryz.func20, Tryz.ntmps20
    go_wp2_with fail
    refine (cK _).mono ?_
    rintro e w' ⟨rfl, rfl⟩
    generalize w.alloc (Obj.cells #[.int .i64 0, .string ⟨#[]⟩, .int .i64 0, .int .i64 0] 34) = w1 at *
    obtain ⟨v0, v1, v2, v3, v4, v5, v6, v7, v8⟩ := V0
    go_wp2_with fail
    refine bodyPost_ret (v := .tuple #[.agg #[.int .i64 4, .string (bs T), .int .i64 0, .int .i64 (j : Int)], .int .i64 0, .int .i64 (f : Int)]) (by simp [results, Tryz.results20, go_sem, v1, v2, v3, v4]) rfl ⟨by rw [← hf]; rfl, ?_⟩
    exact (((hg1.setCell (by simp) _).setCell (by simp) _).setCell (by simp) _).setCell (by simp) _
  · rw [hT]
    generalize kat l j = k at *
    have d2 : ((k : Int) == 2) = false := by simp; omega
    have d3 : ((k : Int) == 3) = false := by simp; omega
    have d5 : ((k : Int) == 5) = false := by simp; omega
    have d6 : ((k : Int) == 6) = false := by simp; omega
    have d8 : ((k : Int) == 8) = false := by simp; omega
    clear hT hE hE1 k2 k3 k5 k6 k8
    go_enter Tryz.func20, Tryz.ntmps20
    go_wp2_with fail
    refine (cK _).mono ?_
    rintro e w' ⟨rfl, rfl⟩
    generalize w.alloc (Obj.cells #[.int .i64 0, .string ⟨#[]⟩, .int .i64 0, .int .i64 0] 34) = w1 at *
    obtain ⟨v0, v1, v2, v3, v4, v5, v6, v7, v8⟩ := V0
    go_wp2_with fail
    refine bodyPost_ret (v := .tuple #[.agg #[.int .i64 0, .string ⟨#[]⟩, .int .i64 0, .int .i64 0], .int .i64 2, .int .i64 (j : Int)]) (by simp [results, Tryz.results20, go_sem, v1, v2, v3, v4]) rfl ⟨rfl, ?_⟩
    exact (((hg1.setCell (by simp) _).setCell (by simp) _).setCell (by simp) _).setCell (by simp) _
end Go.Proofs.YtgifienjfaclmaaGreatDoor

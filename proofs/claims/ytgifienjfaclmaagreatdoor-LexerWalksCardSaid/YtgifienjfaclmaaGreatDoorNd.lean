/-
  Contracts of the developers' cutName. No conditions but Go's own bounds of a string's length.
-/
import Derived.Test.YtgifienjfaclmaaGreatDoorNc
import Derived.Test.YtgifienjfaclmaaGreatDoorLu
namespace Go.Proofs.YtgifienjfaclmaaGreatDoor
open Go.RowKit
/-- What stands at a place, as a token. -/
def tokAt (l : List UInt8) (j : Nat) : Except (Nat × Nat) (Nat × List UInt8 × Int × Nat) := match l.drop j with | [] => .error (2, 0) | c :: r => tok c r
/-- What cut returns at place j. -/
def cutV (j : Nat) : Except (Nat × Nat) (Nat × List UInt8 × Int × Nat) → Value
  | .error (e, o) => .tuple #[.agg #[.int .i64 0, .string ⟨#[]⟩, .int .i64 0, .int .i64 0], .int .i64 (e : Int), .int .i64 ((j + o : Nat) : Int)]
  | .ok (kd, t, n, k) => .tuple #[.agg #[.int .i64 (kd : Int), .string (bs t), .int .i64 n, .int .i64 (j : Int)], .int .i64 0, .int .i64 ((j + k : Nat) : Int)]
theorem tokAt_cons {l : List UInt8} {j : Nat} (h : j < l.length) : tokAt l j = tok (l[j]'h) (l.drop (j + 1)) := by
  unfold tokAt
  rw [List.drop_eq_getElem_cons h]
/-- A name's token by what follows it. -/
theorem tokAt_name {l : List UInt8} {j m : Nat} (h : j < l.length) (hL : isL (l[j]'h) = true) (hm : j + ((l.drop j).takeWhile isW).length = m) :
    m ≤ l.length ∧ j < m ∧ ((16 < m - j ∧ tokAt l j = .error (3, 0)) ∨ (m - j ≤ 16 ∧ jn l m = true ∧ tokAt l j = .error (2, m - j)) ∨ (m - j ≤ 16 ∧ jn l m = false ∧ tokAt l j = .ok (1, (l.take m).drop j, 0, m - j))) := by
  have hd := List.drop_eq_getElem_cons h
  have hlen : ((l.drop j).takeWhile isW).length ≤ l.length - j := tw_le isW l j
  have hw : isW (l[j]'h) = true := by unfold isW; rw [hL]; rfl
  have hpos : 1 ≤ ((l.drop j).takeWhile isW).length := by
    rw [tw_at isW l j h, if_pos hw]; omega
  have e : m - j = ((l.drop j).takeWhile isW).length := by omega
  have hjn := jn_eq l m
  have hst := tw_stop isW l j
  have hsub : (l.take m).drop j = (l.drop j).takeWhile isW := by rw [← hm]; exact tw_prefix isW l j
  have hdh := drop_head l j ((l.drop j).takeWhile isW).length
  rw [hm] at hst hdh
  refine ⟨by omega, by omega, ?_⟩
  rw [tokAt_cons h]
  unfold tok
  rw [if_pos hL, ← hd]
  by_cases h16 : 16 < ((l.drop j).takeWhile isW).length
  · exact .inl ⟨by omega, by rw [if_pos h16]⟩
  · rw [if_neg h16, hdh]
    have hj : jn l m = decide (l[m]? = some 45) := by
      rw [hjn]
      by_cases hm2 : m < l.length
      · rw [List.getElem?_eq_getElem hm2]
        rw [Option.any_some, hst hm2, Bool.false_or, Bool.eq_iff_iff]
        simp
      · rw [List.getElem?_eq_none (by omega)]; rfl
    by_cases h45 : l[m]? = some 45
    · refine .inr (.inl ⟨by omega, by rw [hj]; simp [h45], ?_⟩)
      rw [if_pos h45, e]
    · refine .inr (.inr ⟨by omega, by rw [hj]; simp [h45], ?_⟩)
      rw [if_neg h45, e, hsub]
/-- What cut leaves. -/
def CutP (j : Nat) (R : Except (Nat × Nat) (Nat × List UInt8 × Int × Nat)) (w : World) (e : Ending) (w' : World) : Prop := e = .returned (cutV j R) ∧ Below w.heap.size w w'
set_option maxRecDepth 100000 in
set_option maxHeartbeats 2000000 in
theorem cutName_any (l : List UInt8) (j : Nat) (w : World) (hl : l.length ≤ 9223372036854775000) (h : j < l.length) (hL : isL (l[j]'h) = true) :
    Calls Tryz.prog 32 #[.string (bs l), .int .i64 (j : Int)] w (CutP j (tokAt l j) w) := by
  have hsz : (bs l).size = l.length := rfl
  obtain ⟨m, hm⟩ : ∃ m, j + ((l.drop j).takeWhile isW).length = m := ⟨_, rfl⟩
  obtain ⟨h1, h2, h3⟩ := tokAt_name h hL hm
  have ext : (bs l).extract j m = bs ((l.take m).drop j) := bs_slice l j m
  have V0 := V4.new w (.int .i64 0) (.string ⟨#[]⟩) (.int .i64 0) (.int .i64 0) 34
  have hg1 := grown1 (w := w) (Obj.cells #[.int .i64 0, .string ⟨#[]⟩, .int .i64 0, .int .i64 0] 34)
  have hs1 : (w.alloc (Obj.cells #[.int .i64 0, .string ⟨#[]⟩, .int .i64 0, .int .i64 0] 34)).heap.size = w.heap.size + 1 := by simp
  have hK := Ks.of (w := w.alloc (Obj.cells #[.int .i64 0, .string ⟨#[]⟩, .int .i64 0, .int .i64 0] 34)) (ks := [2, 3, 4]) (t := 56)
  have hg2 := grown1 (w := w.alloc (Obj.cells #[.int .i64 0, .string ⟨#[]⟩, .int .i64 0, .int .i64 0] 34)) (Obj.cells #[.int .i64 2, .int .i64 3, .int .i64 4] 56)
  rw [hs1] at hK
  have V0 := V0.next hg2
  have hg := Below.next hg1 hg2
  have cP := past_any (w.heap.size + 1) 3 [2, 3, 4] l j ((w.alloc (Obj.cells #[.int .i64 0, .string ⟨#[]⟩, .int .i64 0, .int .i64 0] 34)).alloc (Obj.cells #[.int .i64 2, .int .i64 3, .int .i64 4] 56)) hl (by omega) (by decide) hK rfl
  rw [inK_word, hm] at cP
  have cJ := fun W => joined_any l m W
  obtain ⟨d, hd⟩ : ∃ d, m - j = d := ⟨_, rfl⟩
  have l11 : (m : Int) - (j : Int) = (d : Int) := by omega
  have hd2 : d ≤ l.length := by omega
  have hjd : j + d = m := by omega
  rw [hd] at h3
  have X : ∃ b, jn l m = b := ⟨_, rfl⟩
  obtain ⟨b, hb⟩ := X
  rw [hb] at h3 cJ
  generalize (l.take m).drop j = T at *
  generalize tokAt l j = R at *
  clear hb hm hL hg1 hg2 hs1
  go_enter Tryz.func32, Tryz.ntmps32
  go_wp2_with fail
  refine cP.mono ?_
  rintro e w' ⟨q, rfl, rfl⟩
  have V1 := V0.next (below_drewN (Below.refl _ _) q)
  have hg := below_drewN hg q
  clear V0 hK
  generalize ((w.alloc (Obj.cells #[.int .i64 0, .string ⟨#[]⟩, .int .i64 0, .int .i64 0] 34)).alloc (Obj.cells #[.int .i64 2, .int .i64 3, .int .i64 4] 56)).drewN q = w2 at *
  obtain ⟨v0, v1, v2, v3, v4, v5, v6, v7, v8⟩ := V1
  rcases h3 with ⟨h3, rfl⟩ | ⟨h3, rfl, rfl⟩ | ⟨h3, rfl, rfl⟩
  · have d1 : decide ((16 : Int) < (d : Int)) = true := by simp; omega
    go_wp2_with fail
    refine bodyPost_ret (v := .tuple #[.agg #[.int .i64 0, .string ⟨#[]⟩, .int .i64 0, .int .i64 0], .int .i64 3, .int .i64 (j : Int)]) (by simp [results, Tryz.results32, go_sem, v1, v2, v3, v4]) rfl ⟨rfl, ?_⟩
    exact (((hg.setCell (by simp) _).setCell (by simp) _).setCell (by simp) _).setCell (by simp) _
  · have d1 : decide ((16 : Int) < (d : Int)) = false := by simp; omega
    go_wp2_with fail
    refine (cJ _).mono ?_
    rintro e w' ⟨rfl, rfl⟩
    go_wp2_with fail
    refine bodyPost_ret (v := .tuple #[.agg #[.int .i64 0, .string ⟨#[]⟩, .int .i64 0, .int .i64 0], .int .i64 2, .int .i64 (m : Int)]) (by simp [results, Tryz.results32, go_sem, v1, v2, v3, v4]) rfl ⟨by rw [← hjd]; rfl, ?_⟩
    exact (((hg.setCell (by simp) _).setCell (by simp) _).setCell (by simp) _).setCell (by simp) _
  · have d1 : decide ((16 : Int) < (d : Int)) = false := by simp; omega
    go_wp2_with fail
    refine (cJ _).mono ?_
    rintro e w' ⟨rfl, rfl⟩
    go_wp2_with fail
    refine bodyPost_ret (v := .tuple #[.agg #[.int .i64 1, .string (bs T), .int .i64 0, .int .i64 (j : Int)], .int .i64 0, .int .i64 (m : Int)]) (by simp [results, Tryz.results32, go_sem, v1, v2, v3, v4]) rfl ⟨by rw [← hjd]; rfl, ?_⟩
    exact (((hg.setCell (by simp) _).setCell (by simp) _).setCell (by simp) _).setCell (by simp) _
end Go.Proofs.YtgifienjfaclmaaGreatDoor

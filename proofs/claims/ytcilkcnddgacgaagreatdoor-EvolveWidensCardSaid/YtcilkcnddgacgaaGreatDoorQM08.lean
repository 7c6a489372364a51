/-
  A token is valid just where it is the first one of what it is written as. No conditions but Go's own bounds of a number.
-/
import Derived.Test.YtcilkcnddgacgaaGreatDoorQM07
import Derived.Test.YtcilkcnddgacgaaGreatDoorQM06
import Derived.Test.YtcilkcnddgacgaaGreatDoorQShelfD
import Derived.Lib.AppendIntMem
namespace Go.Proofs.YtcilkcnddgacgaaGreatDoor
theorem wrt_pr (K : Int) (T : List UInt8) (N A : Int) (h : 0 ≤ K) : wrt K T N = pr (Tv.tk ⟨K, T, N, A⟩) := by
  unfold wrt pr Tv.tk
  have e2 : (K.toNat = 2) = (K = 2) := propext ⟨fun h => by omega, fun h => by omega⟩
  have e3 : (K.toNat = 3) = (K = 3) := propext ⟨fun h => by omega, fun h => by omega⟩
  simp only [e2, e3]
theorem okT_nonneg {K : Int} {T : List UInt8} {N A : Int} (h : okT (Tv.tk ⟨K, T, N, A⟩) = true) : 0 ≤ K := by
  by_cases h1 : K = 1
  · omega
  by_cases h2 : K = 2
  · omega
  by_cases h3 : K = 3
  · omega
  by_cases h4 : K = 4
  · omega
  rw [okT0 K T N A h1 h2 h3 h4] at h
  cases h
theorem back_eq (K : Int) (T : List UInt8) (N A : Int) (h1 : -9223372036854775808 ≤ N) (h2 : N ≤ 9223372036854775807) : back K T N = okT (Tv.tk ⟨K, T, N, A⟩) := by
  rw [Bool.eq_iff_iff]
  constructor
  · intro h
    unfold back at h
    cases hT : tokAt (wrt K T N) 0 with
    | error x => rw [hT] at h; cases h
    | ok x =>
      obtain ⟨kd, t, n, k⟩ := x
      rw [hT] at h
      simp only [Bool.and_eq_true, decide_eq_true_eq, beq_iff_eq] at h
      obtain ⟨⟨rfl, rfl⟩, rfl⟩ := h
      unfold tokAt at hT
      rw [List.drop_zero] at hT
      cases hw : wrt kd t n with
      | nil => rw [hw] at hT; cases hT
      | cons c r =>
        rw [hw] at hT
        simp only at hT
        obtain ⟨a1, a2, -, -, a5⟩ := tok_ok hT
        obtain ⟨b1, b2, b3, b4⟩ := tok_more hT
        rcases a1 with rfl | rfl | rfl | rfl
        · obtain ⟨c1, c2, -⟩ := a5 rfl
          have hL := a2.2 rfl
          have ht : t = c :: r := hw
          have hn := b1 rfl
          subst hn
          show okT (Tv.tk ⟨1, t, 0, A⟩) = true
          rw [okT1]
          have hall : t.all isW = true := by rw [c1]; exact List.all_takeWhile
          unfold isN
          rw [hall, ht]
          rw [ht] at c2
          simp only [List.length_cons] at c2
          simp [hL]
          omega
        · show okT (Tv.tk ⟨2, t, n, A⟩) = true
          rw [okT2, b2 rfl]
          rfl
        · obtain ⟨c1, c2, c3⟩ := b3 rfl
          subst c1
          show okT (Tv.tk ⟨3, t, 0, A⟩) = true
          rw [okT3]
          simp only [Bool.and_eq_true, List.all_eq_true, decide_eq_true_eq]
          exact ⟨⟨fun x hx => c3 x hx, c2⟩, rfl⟩
        · obtain ⟨c1, c', rfl, c3⟩ := b4 rfl
          subst c1
          show okT (Tv.tk ⟨4, [c'], 0, A⟩) = true
          rw [okT4]
          simp [oneM, c3]
  · intro h
    have hK := okT_nonneg h
    obtain ⟨c, r, e1, -, -, e2⟩ := tok_pr (z := []) h (fun _ => ⟨h1, h2⟩) (.inl rfl)
    unfold back tokAt
    rw [wrt_pr K T N A hK, List.drop_zero, e1]
    rw [List.append_nil] at e2
    simp only
    rw [e2]
    show (decide (((Tv.tk ⟨K, T, N, A⟩).kind : Int) = K) && (T == T) && (N == N)) = true
    have : ((Tv.tk ⟨K, T, N, A⟩).kind : Int) = K := by
      show ((K.toNat : Nat) : Int) = K
      omega
    simp [this]
end Go.Proofs.YtcilkcnddgacgaaGreatDoor
/-
  Contracts of the developers' quote, written, isValid and IsName. No conditions but Go's own bounds of a number, what the library's variables hold, and a bound of a string that is quoted.
-/
namespace Go.Proofs.YtcilkcnddgacgaaGreatDoor
open Go.RowKit
/-- The variable of the library's search for strings holds a number. -/
def Mx (w : World) : Prop := ∃ m : Int, w.cell? ⟨5, 0, none⟩ = some (.int .i64 m)
theorem Mx.next {w w' : World} (h : Mx w) (hb : Below w.heap.size w w') : Mx w' := by
  obtain ⟨m, e⟩ := h
  exact ⟨m, (hb.cell (World.block_lt_of_cell? w _ e)).trans e⟩
theorem replaceAll_any (c : UInt8) (new l : List UInt8) (w : World) (hl : l.length ≤ 2097152) (hn : new.length ≤ 2) (hM : Mx w) :
    Calls Tryz.prog 191 #[.string (bs l), .string (bs [c]), .string (bs new)] w (Ib (.string (bs (Lib.replaceAll l [c] new))) w) := by
  obtain ⟨m, hm⟩ := hM
  refine (Tryz.strings_ReplaceAll (bs l) (bs [c]) (bs new) m w (by show l.length < _; omega) hm (by show 1 ≤ 1; decide) ?_).mono ?_
  · have hc : Lib.count l [c] ≤ l.length := by rw [Lib.count_one]; exact List.count_le_length
    have := Nat.mul_le_mul hc hn
    show l.length + Lib.count l [c] * new.length ≤ 140737488355328
    omega
  · rintro e w' ⟨rfl, hb⟩
    exact ⟨rfl, hb⟩
theorem fm_length (c : UInt8) (new l : List UInt8) (hn : new.length ≤ 2) : (l.flatMap (fun b => if b = c then new else [b])).length ≤ 2 * l.length := by
  induction l with
  | nil => simp
  | cons b l ih =>
    rw [List.flatMap_cons, List.length_append, List.length_cons]
    have : (if b = c then new else [b]).length ≤ 2 := by split <;> simp [hn]
    omega
set_option maxRecDepth 100000 in
theorem quote_any (l : List UInt8) (w : World) (hl : l.length ≤ 1048576) (hM : Mx w) :
    Calls Tryz.prog 180 #[.string (bs l)] w (Ib (.string (bs (quo l))) w) := by
  have c1 := replaceAll_any 92 [92, 92] l w (by omega) (by decide) hM
  have hx : (Lib.replaceAll l [92] [92, 92]).length ≤ 2097152 := by
    rw [replaceAll_one _ _ _ (by decide)]
    have := fm_length 92 [92, 92] l (by decide)
    omega
  have c2 := fun W h => replaceAll_any 34 [92, 34] (Lib.replaceAll l [92] [92, 92]) W hx (by decide) h
  rw [esc_eq] at c2
  generalize Lib.replaceAll l [92] [92, 92] = x at *
  have n1 : (⟨#[92]⟩ : ByteArray) = bs [92] := rfl
  have n2 : (⟨#[92, 92]⟩ : ByteArray) = bs [92, 92] := rfl
  have n3 : (⟨#[34]⟩ : ByteArray) = bs [34] := rfl
  have n4 : (⟨#[92, 34]⟩ : ByteArray) = bs [92, 34] := rfl
  have s3 : (bs [34]).size = 1 := rfl
  have hel := esc_length l
  have s4 : (bs (esc l)).size = (esc l).length := rfl
  have a1 : bs [34] ++ bs (esc l) = bs (34 :: esc l) := bs_append [34] (esc l)
  have a2 : bs (34 :: esc l) ++ bs [34] = bs (quo l) := bs_append (34 :: esc l) [34]
  have s5 : (bs (34 :: esc l)).size = (esc l).length + 1 := rfl
  have hel2 : (esc l).length ≤ 2097152 := by omega
  generalize esc l = E at *
  go_enter Tryz.func180, Tryz.ntmps180
  go_wp2_with fail
  refine c1.mono ?_
  rintro e w2 ⟨rfl, hb⟩
  go_wp2_with fail
  refine (c2 _ (hM.next hb)).mono ?_
  rintro e w3 ⟨rfl, hb3⟩
  clear c1 c2 hx hl hel
  have hb4 := Below.next hb hb3
  go_wp2_with fail
  go_ret
  exact ⟨by first | rfl | (rw [← a2]; rfl), hb4⟩
theorem format_any (n : Int) (w : World) (h1 : -9223372036854775808 ≤ n) (h2 : n ≤ 9223372036854775807) (hE : Env w) :
    Calls Tryz.prog 179 #[.int .i64 n, .int .i64 10] w (Ib (.string (bs (dec n))) w) := by
  refine (Tryz.strconv_FormatInt_10 n h1 h2 w hE.tab).mono ?_
  rintro e w' ⟨rfl, k, os, rfl⟩
  rw [itoa_dec]
  exact ⟨rfl, Lib.below_grow _ _ (Nat.le_refl _) _ _⟩
set_option maxRecDepth 100000 in
theorem written_any (K : Int) (T : List UInt8) (N A : Int) (w : World) (h1 : -9223372036854775808 ≤ N) (h2 : N ≤ 9223372036854775807) (hE : Env w) (hM : K = 3 → T.length ≤ 1048576 ∧ Mx w) :
    Calls Tryz.prog 167 #[.agg #[.int .i64 K, .string (bs T), .int .i64 N, .int .i64 A]] w (Ib (.string (bs (wrt K T N))) w) := by
  have hg := grown1 (w := w) (Obj.cells #[.int .i64 K, .string (bs T), .int .i64 N, .int .i64 A] 180)
  unfold wrt
  by_cases k2 : K = 2
  · subst k2
    rw [if_pos rfl]
    have cF := format_any N _ h1 h2 (hE.next hg)
    clear hM hE
    go_enter Tryz.func167, Tryz.ntmps167
    go_wp2_with fail
    refine cF.mono ?_
    rintro e w2 ⟨rfl, hb⟩
    have hb2 := Below.next hg hb
    go_wp2_with fail
    go_ret
    exact ⟨rfl, hb2⟩
  · rw [if_neg k2]
    have d2 : ((K : Int) == 2) = false := by simpa using k2
    by_cases k3 : K = 3
    · subst k3
      rw [if_pos rfl]
      obtain ⟨hT, hm⟩ := hM rfl
      have cQ := quote_any T _ hT (hm.next hg)
      go_enter Tryz.func167, Tryz.ntmps167
      go_wp2_with fail
      refine cQ.mono ?_
      rintro e w2 ⟨rfl, hb⟩
      have hb2 := Below.next hg hb
      go_wp2_with fail
      go_ret
      exact ⟨rfl, hb2⟩
    · rw [if_neg k3]
      have d3 : ((K : Int) == 3) = false := by simpa using k3
      go_enter Tryz.func167, Tryz.ntmps167
      go_wp2_with fail
      go_ret
      exact ⟨rfl, hg⟩
theorem tokAt_error {l : List UInt8} {j e o : Nat} (h : tokAt l j = .error (e, o)) : e ≠ 0 := by
  unfold tokAt at h
  split at h
  · cases h; decide
  · have := (tok_error h).1; omega
set_option maxRecDepth 100000 in
set_option maxHeartbeats 1000000 in
theorem isValid_any (K : Int) (T : List UInt8) (N A : Int) (w : World) (h1 : -9223372036854775808 ≤ N) (h2 : N ≤ 9223372036854775807) (hT : T.length ≤ 140737488355328) (hE : Env w) (hM : K = 3 → T.length ≤ 1048576 ∧ Mx w) :
    Calls Tryz.prog 148 #[.agg #[.int .i64 K, .string (bs T), .int .i64 N, .int .i64 A]] w (Ib (.bool (okT (Tv.tk ⟨K, T, N, A⟩))) w) := by
  rw [← back_eq K T N A h1 h2]
  have hwl : (wrt K T N).length ≤ 140737488355328 := by
    unfold wrt
    split
    · have := dec_len N h1 h2; omega
    · split
      · rename_i h
        have := quo_len T
        have := (hM h).1
        omega
      · exact hT
  have cW := fun W hW hMW => written_any K T N 0 W h1 h2 hW hMW
  have cC := fun W hW => cut_any (wrt K T N) 0 W hwl (Nat.zero_le _) hW
  have hR : ∀ e o, tokAt (wrt K T N) 0 = .error (e, o) → e ≠ 0 := fun e o h => tokAt_error h
  have hB : back K T N = match tokAt (wrt K T N) 0 with | .error _ => false | .ok (kd, t, n, _) => decide ((kd : Int) = K) && (t == T) && (n == N) := rfl
  rw [hB]
  generalize tokAt (wrt K T N) 0 = R at *
  generalize wrt K T N = X at *
  clear hB
  have hg := grown1 (w := w) (Obj.cells #[.int .i64 K, .string (bs T), .int .i64 N, .int .i64 0] 180)
  have V0 := V4.new w (.int .i64 K) (.string (bs T)) (.int .i64 N) (.int .i64 0) 180
  have cW0 := cW _ (hE.next hg) (fun h => ⟨(hM h).1, (hM h).2.next hg⟩)
  rcases R with ⟨e, o⟩ | ⟨kd, t, n, k⟩
  · have he : ((e : Int) == 0) = false := by have := hR e o rfl; simp; omega
    have cC : ∀ W, Env W → Calls Tryz.prog 166 #[.string (bs X), .int .i64 0] W (Ib (.tuple #[.agg #[.int .i64 0, .string ⟨#[]⟩, .int .i64 0, .int .i64 0], .int .i64 (e : Int), .int .i64 ((0 + o : Nat) : Int)]) W) := cC
    go_enter Tryz.func148, Tryz.ntmps148
    go_wp2_with fail
    refine cW0.mono ?_
    rintro e1 w2 ⟨rfl, hb⟩
    have hg2 := Below.next hg hb
    go_wp2_with fail
    refine (cC _ (hE.next hg2)).mono ?_
    rintro e1 w3 ⟨rfl, hb3⟩
    have hg3 := Below.next hg2 hb3
    clear cC cW cW0 hM
    go_wp2_with fail
    go_ret
    exact ⟨rfl, Below.next hg3 (one _ _)⟩
  · have cC : ∀ W, Env W → Calls Tryz.prog 166 #[.string (bs X), .int .i64 0] W (Ib (.tuple #[.agg #[.int .i64 (kd : Int), .string (bs t), .int .i64 n, .int .i64 0], .int .i64 0, .int .i64 ((0 + k : Nat) : Int)]) W) := cC
    go_enter Tryz.func148, Tryz.ntmps148
    go_wp2_with fail
    refine cW0.mono ?_
    rintro e1 w2 ⟨rfl, hb⟩
    have hg2 := Below.next hg hb
    have V1 := V0.next hb
    go_wp2_with fail
    refine (cC _ (hE.next hg2)).mono ?_
    rintro e1 w3 ⟨rfl, hb3⟩
    have hg3 := Below.next hg2 hb3
    obtain ⟨v0, v1, v2, v3, v4, v5, v6, v7, v8⟩ := V1.next hb3
    clear cC cW cW0 hM V0 V1
    go_wp2_with fail
    all_goals
      go_ret
      refine ⟨congrArg (fun b => Ending.returned (.bool b)) ?_, Below.next hg3 (one _ _)⟩
      try simp only [toList_bs] at *
      simp [*]
set_option maxRecDepth 100000 in
theorem isNameD_any (l : List UInt8) (w : World) (hl : l.length ≤ 140737488355328) (hE : Env w) :
    Calls Tryz.prog 109 #[.string (bs l)] w (Ib (.bool (isN l)) w) := by
  have cV := isValid_any 1 l 0 0 w (by decide) (by decide) hl hE (fun h => absurd h (by decide))
  rw [okT1] at cV
  rw [show (isN l && (0 : Int) == 0) = isN l by simp] at cV
  go_enter Tryz.func109, Tryz.ntmps109
  go_wp2_with fail
  refine cV.mono ?_
  rintro e w2 ⟨rfl, hb⟩
  go_wp2_with fail
  go_ret
  exact ⟨rfl, hb⟩
end Go.Proofs.YtcilkcnddgacgaaGreatDoor


/-
  The library's variables read as they were laid, out of the rows' own condition; the law of scans over values as they come in. No conditions beyond the rows' own.
-/
import Derived.Test.YtgifienjfaclmaaDoorNp
import Derived.Lib.LaidU8
import Derived.Lib.LaidTab
import Derived.Stop.LaidErr
import Derived.MakeChecks
namespace Go.Proofs.YtgifienjfaclmaaDoor
open Go.RowKit Go.Lib
theorem rowErr (u : TypeId) (h : Tryd.prog.typeName? 3 u = some "*errors.errorString") : u = 114 := by
  have star : "*" ++ "errors.errorString" = "*errors.errorString" := by decide
  exact typeName_ptr_named (nm := "errors.errorString") (by rw [star]; kernel_rfl) (by kernel_rfl) (by decide) u (by rw [star]; exact h)
/-- The rows' list of variables. -/
def laidRows : List (String × DataW Unit) := [("math/bits.deBruijn32tab", Rows.laid_math_bits_deBruijn32tab), ("math/bits.deBruijn64tab", Rows.laid_math_bits_deBruijn64tab), ("internal/strconv.uint64pow10", Rows.laid_internal_strconv_uint64pow10), ("unicode/utf8.acceptRanges", Rows.laid_unicode_utf8_acceptRanges), ("strconv.ErrRange", Rows.laid_strconv_ErrRange), ("strconv.ErrSyntax", Rows.laid_strconv_ErrSyntax), ("unicode/utf8.first", Rows.laid_unicode_utf8_first)]
theorem env_laid {w : World} (hl : laidMetH Tryd.prog laidRows w) : Env w := by
  rw [MakeChecks.laidMetH_plain _ _ _ (by kernel_rfl)] at hl
  have ht := tabIs_of_head (zs := pow10Tab) (g := 0) (t := 99) (e := 74) (n := 20) (by kernel_rfl) (by kernel_rfl) Tryd.underlying99 Tryd.underlying74 (by kernel_rfl) (by kernel_rfl) hl.tail.tail
  obtain ⟨a, s, hv, -, -, -⟩ := laid_sentinel hl.tail.tail.tail.tail (g := 3) (ti := 61) (tp := 114) (te := 116) (ts := 9) (by kernel_rfl) (by kernel_rfl) Tryd.underlying61 rowErr Tryd.underlying114 Tryd.underlying116 rfl rfl Tryd.underlying9 (by kernel_rfl) (by kernel_rfl)
  exact ⟨⟨_, _, hv⟩, ht⟩
theorem scans_row (s : ByteArray) (w : World) (_h : s.size ≤ 9223372036854775807) (z : s.data.toList.length ≤ reachBytes) (hl : laidMetH Tryd.prog Rows.lexerScansRow.laid w) :
    Calls Tryd.prog 3 #[.string s] w (Ib (.bool true) w) := by
  rw [bs_of s]
  exact scans_any _ w (Nat.le_trans z (by decide)) (env_laid hl)
set_option maxRecDepth 100000 in
set_option maxHeartbeats 2000000 in
theorem names_any (l : List UInt8) (w : World) (hl : l.length ≤ 140737488355328) (hE : Env w) :
    Calls Tryd.prog 6 #[.string (bs l)] w (Ib (.bool true) w) := by
  have cD := scanD_any l w (by omega) hE
  have cN := fun W hW => isNameD_any l W hl hW
  have cR := fun W => isName_any l W (by omega)
  have cA := fun W hW => awake_any W hW
  have X : (∃ x p, scan l = .error (x, p) ∧ isN l = false ∧ x ≠ 0) ∨ (∃ ts, scan l = .ok ts ∧ 0 < ts.length ∧ ts.length ≠ 2 ∧ isN l = false) ∨
      ∃ (t u : Tk), scan l = .ok [t, u] ∧ (isN l = (decide (t.kind = 1) && (t.text == l))) := by
    cases hR : scan l with
    | error x =>
      obtain ⟨x, p⟩ := x
      refine .inl ⟨x, p, rfl, ?_, (scan_error hR).1⟩
      cases e : isN l
      · rfl
      · rw [scan_name l e] at hR; cases hR
    | ok ts =>
      by_cases h2 : ts.length = 2
      · match ts, h2 with
        | [t, u], _ =>
          refine .inr (.inr ⟨t, u, rfl, ?_⟩)
          rw [Bool.eq_iff_iff]
          simp only [Bool.and_eq_true, decide_eq_true_eq, beq_iff_eq]
          constructor
          · intro h
            rw [scan_name l h] at hR
            cases hR
            exact ⟨rfl, rfl⟩
          · rintro ⟨h1, h2⟩
            exact name_scan l t u hR h1 h2
      · refine .inr (.inl ⟨ts, rfl, (scan_len hR).2.1, h2, ?_⟩)
        cases e : isN l
        · rfl
        · rw [scan_name l e] at hR
          cases hR
          exact absurd rfl h2
  rcases X with ⟨x, p, hR, hN, hx⟩ | ⟨ts, hR, h0, h2, hN⟩ | ⟨t, u, hR, hN⟩
  · rw [hR] at cD
    rw [hN] at cN cR
    have dx : ((x : Int) == 0) = false := by simp; omega
    clear hR hN hx
    go_enter Tryd.func6, Tryd.ntmps6
    go_wp2_with fail
    refine cD.mono ?_
    rintro e w2 ⟨hb, h3⟩
    replace h3 : e = .returned (.tuple #[.slice none 0 0, .int .i64 (x : Int), .int .i64 (p : Int)]) := h3
    subst h3
    go_wp2_with fail
    refine (cN _ (hE.next hb)).mono ?_
    rintro e w3 ⟨rfl, hb3⟩
    have hb := Below.next hb hb3
    go_wp2_with fail
    refine (cR _).mono ?_
    rintro e w' ⟨rfl, rfl⟩
    go_wp2_with fail
    refine (cN _ (hE.next hb)).mono ?_
    rintro e w4 ⟨rfl, hb4⟩
    have hb := Below.next hb hb4
    go_wp2_with fail
    refine (cA _ (hE.next hb)).mono ?_
    rintro e w5 ⟨rfl, hb5⟩
    go_wp2_with fail
    go_ret
    exact ⟨rfl, Below.next hb hb5⟩
  · rw [hR] at cD
    rw [hN] at cN cR
    clear hR hN
    go_enter Tryd.func6, Tryd.ntmps6
    go_wp2_with fail
    refine cD.mono ?_
    rintro e w2 ⟨hb, v, rfl, ho⟩
    obtain ⟨g, cap, rfl, hg, hc⟩ := ho.get h0
    generalize ts.length = n at *
    have d2 : ((n : Int) == 2) = false := by simp; omega
    clear hc ho h2
    go_wp2_with fail
    refine (cN _ (hE.next hb)).mono ?_
    rintro e w3 ⟨rfl, hb3⟩
    have hb := Below.next hb hb3
    go_wp2_with fail
    refine (cR _).mono ?_
    rintro e w' ⟨rfl, rfl⟩
    go_wp2_with fail
    refine (cN _ (hE.next hb)).mono ?_
    rintro e w4 ⟨rfl, hb4⟩
    have hb := Below.next hb hb4
    go_wp2_with fail
    refine (cA _ (hE.next hb)).mono ?_
    rintro e w5 ⟨rfl, hb5⟩
    go_wp2_with fail
    go_ret
    exact ⟨rfl, Below.next hb hb5⟩
  · rw [hR] at cD
    obtain ⟨K, T, N, P⟩ := t
    replace hN : isN l = (decide (K = 1) && (T == l)) := hN
    have hq := str_beq T l
    obtain ⟨b1, hb1, hb1'⟩ : ∃ b, ((K : Int) == 1) = b ∧ decide (K = 1) = b := ⟨_, rfl, by rw [Bool.eq_iff_iff]; simp; omega⟩
    obtain ⟨b2, hb2⟩ : ∃ b, (T == l) = b := ⟨_, rfl⟩
    rw [hb1', hb2] at hN
    rw [hb2] at hq
    rw [hN] at cN cR
    clear hR hN hb2 hb1'
    cases b1 <;> cases b2
    all_goals
      go_enter Tryd.func6, Tryd.ntmps6
      go_wp2_with fail
      refine cD.mono ?_
      rintro e w2 ⟨hb, v, rfl, ho⟩
      obtain ⟨g, cap, rfl, hg, hc⟩ := ho.get (by simp)
      have c0 := hc 0 _ rfl
      have c1 := hc 1 _ rfl
      clear hc ho
      go_wp2_with fail
      refine (cN _ (hE.next hb)).mono ?_
      rintro e w3 ⟨rfl, hb3⟩
      have hb := Below.next hb hb3
      go_wp2_with fail
      refine (cR _).mono ?_
      rintro e w' ⟨rfl, rfl⟩
      go_wp2_with fail
      refine (cN _ (hE.next hb)).mono ?_
      rintro e w4 ⟨rfl, hb4⟩
      have hb := Below.next hb hb4
      go_wp2_with fail
      refine (cA _ (hE.next hb)).mono ?_
      rintro e w5 ⟨rfl, hb5⟩
      go_wp2_with fail
      go_ret
      exact ⟨rfl, Below.next hb hb5⟩
theorem names_row (s : ByteArray) (w : World) (_h : s.size ≤ 9223372036854775807) (z : s.data.toList.length ≤ reachBytes) (hl : laidMetH Tryd.prog Rows.lexerNamesRow.laid w) :
    Calls Tryd.prog 6 #[.string s] w (Ib (.bool true) w) := by
  rw [bs_of s]
  exact names_any _ w (Nat.le_trans z (by decide)) (env_laid hl)
end Go.Proofs.YtgifienjfaclmaaDoor

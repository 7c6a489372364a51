/-
  Contracts of the developers' isQuoted, cutContent and cutString. No conditions but Go's own bounds of a string's length.
-/
import Derived.Test.YtgifienjfaclmaaGreatDoorNf
namespace Go.Proofs.YtgifienjfaclmaaGreatDoor
open Go.RowKit
/-- Does a backslash quote what stands there? -/
def isq (l : List UInt8) (a : Nat) : Bool := l[a]?.any (fun d => d == 34 || d == 92)
set_option maxRecDepth 100000 in
set_option maxHeartbeats 2000000 in
theorem isQuoted_any (l : List UInt8) (a : Nat) (w : World) : Calls Tryz.prog 52 #[.string (bs l), .int .i64 (a : Int)] w (Is (.bool (isq l a)) w) := by
  have hsz : (bs l).size = l.length := rfl
  unfold isq
  by_cases h : a < l.length
  · have h2 : a < (bs l).size := h
    rw [List.getElem?_eq_getElem h, Option.any_some, beq_nat, beq_nat]
    have hb : ((bs l)[a]'h2).toNat = (l[a]'h).toNat := rfl
    have hn := UInt8.toNat_lt (l[a]'h)
    generalize (l[a]'h).toNat = n at *
    have e34 : (34 : UInt8).toNat = 34 := rfl
    have e92 : (92 : UInt8).toNat = 92 := rfl
    rw [e34, e92]
    by_cases h34 : n = 34
    · subst h34
      go_enter Tryz.func52, Tryz.ntmps52
      go_wp2_with fail
      go_ret
      exact ret_bool rfl
    · have d1 : ((n : Int) == 34) = false := by simp; omega
      go_enter Tryz.func52, Tryz.ntmps52
      go_wp2_with fail
      go_ret
      refine ret_bool ?_
      show ((n : Int) == 92) = (((n : Int) == 34) || ((n : Int) == 92))
      rw [d1, Bool.false_or]
  · rw [List.getElem?_eq_none (by omega)]
    go_enter Tryz.func52, Tryz.ntmps52
    go_wp2_with fail
    go_ret
    exact ret_bool rfl
theorem Ow.str2 {B : Nat} {w : World} {v : Value} {l : List UInt8} (h : Ow B w v l) :
    (convert 22 9 v).run Tryz.prog w = .ok (.string (bs l)) w := by
  by_cases h0 : l = []
  · subst h0
    rcases h.2 with ⟨rfl, _⟩ | ⟨g, cap, cur, hv, -⟩
    · refine (run_convert_bytes_string w 22 9 5 none 0 0 Tryz.underlying22 Tryz.underlying5 Tryz.underlying9).trans ?_
      rfl
    · subst hv
      exact run_convert_bytes_back w 22 9 5 ⟨g, 0, none⟩ cap [] Tryz.underlying22 Tryz.underlying5 Tryz.underlying9 fun j hj => absurd hj (by simp)
  · exact h.str h0
/-- What cutContent returns: a: the place behind the opening quotation mark, less one. -/
def conV (a : Nat) : Except Nat (List UInt8 × Nat) → Value
  | .error i => .tuple #[.string ⟨#[]⟩, .int .i64 2, .int .i64 ((a + i : Nat) : Int)]
  | .ok (t, k) => .tuple #[.string (bs t), .int .i64 0, .int .i64 ((a + k : Nat) : Int)]
theorem conV_err (a i j : Nat) (h : a + i = j) : conV a (.error i) = .tuple #[.string ⟨#[]⟩, .int .i64 2, .int .i64 (j : Int)] := by subst h; rfl
theorem conV_ok (a : Nat) (t : List UInt8) (k j : Nat) (h : a + k = j) : conV a (.ok (t, k)) = .tuple #[.string (bs t), .int .i64 0, .int .i64 (j : Int)] := by subst h; rfl
set_option maxRecDepth 100000 in
set_option maxHeartbeats 2000000 in
theorem content_any (l : List UInt8) (a : Nat) (w : World) (hl : l.length ≤ 140737488355328) (ha : a < l.length) :
    Calls Tryz.prog 44 #[.string (bs l), .int .i64 ((a + 1 : Nat) : Int)] w (Ib (conV a (qs (l.drop (a + 1)) 1 [])) w) := by
  have hsz : (bs l).size = l.length := rfl
  obtain ⟨R, hR⟩ : ∃ R, qs (l.drop (a + 1)) 1 [] = R := ⟨_, rfl⟩
  rw [hR]
  have HI := Lib.hid hR
  obtain ⟨s, hs⟩ : ∃ s, a + 1 = s := ⟨_, rfl⟩
  rw [hs] at HI ⊢
  clear hR
  go_enter Tryz.func44, Tryz.ntmps44
  go_wp2_with fail
  go_loopw [1, 7] (fun i v wr => ∃ (j : Nat) (o : List UInt8), j ≤ l.length ∧ a < j ∧ o.length ≤ j ∧ i = .int .i64 (j : Int) ∧ Ow w.heap.size wr v o ∧ Below w.heap.size w wr ∧ Hid (qs (l.drop j) (j - a) o = R)) (fun i _ _ => l.length - (intOf i).toNat)
  case atStart => exact ⟨s, [], by omega, by omega, by simp, rfl, Ow.nil _ _, Below.refl _ _, by rw [show s - a = 1 by omega]; exact HI⟩
  case round =>
    obtain ⟨j, o, hj, haj, hol, rfl, ho, hb, hI⟩ := hrel
    have hst := ho.str2
    have hB2 : ∀ o : Obj, w.heap.size ≤ (wr.alloc o).heap.size := fun o => Nat.le_trans hb.size (one _ _).size
    by_cases hlt : j < l.length
    · have hlt2 : j < (bs l).size := hlt
      obtain ⟨c, hc⟩ : ∃ c, l[j]'hlt = c := ⟨_, rfl⟩
      have hI2 := hI.out
      rw [List.drop_eq_getElem_cons hlt, qs_cons, hc] at hI2
      have hcb : ((bs l)[j]'hlt2).toNat = c.toNat := by rw [← hc]; rfl
      obtain ⟨n, hn⟩ : ∃ n, c.toNat = n := ⟨_, rfl⟩
      have hn256 : n < 256 := by rw [← hn]; exact UInt8.toNat_lt c
      rw [hn] at hcb hI2
      have hw : wrap32 (n : Int) = (n : Int) := by unfold wrap32; omega
      have g : ∀ d : UInt8, c ≠ d → ((n : Int) == (d.toNat : Int)) = false := fun d h => by rw [← hn, ← beq_nat]; simpa using h
      obtain ⟨f, hf⟩ : ∃ f, j + 1 = f := ⟨_, rfl⟩
      have l11 : (j : Int) + 1 = (f : Int) := by omega
      have hfl : f ≤ l.length := by omega
      rw [hf] at hI2
      clear hI HI
      by_cases h34 : c = 34
      · rw [if_pos h34] at hI2
        have hn2 : n = 34 := by rw [← hn, h34]; rfl
        subst hn2
        subst hI2
        have e1 : a + (j - a + 1) = f := by omega
        clear g hn hc h34
        go_wp2_with fail
        go_ret3
        exact ⟨congrArg Ending.returned (conV_ok _ _ _ _ e1).symm, hb⟩
      · rw [if_neg h34] at hI2
        have g34 : ((n : Int) == 34) = false := g 34 h34
        by_cases hr : n < 32 ∨ 126 < n
        · rw [if_pos hr] at hI2
          subst hI2
          have e1 : a + (j - a) = j := by omega
          have hr2 : decide ((n : Int) < 32) = true ∨ (decide ((n : Int) < 32) = false ∧ decide ((126 : Int) < (n : Int)) = true) := by
            by_cases h : n < 32
            · left; simp; omega
            · right; exact ⟨by simp; omega, by simp; omega⟩
          clear g hn hc h34 hr
          rcases hr2 with d1 | ⟨d1, d2⟩
          all_goals
            go_wp2_with fail
            go_ret3
            exact ⟨congrArg Ending.returned (conV_err _ _ _ e1).symm, hb⟩
        · rw [if_neg hr] at hI2
          have d1 : decide ((n : Int) < 32) = false := by simp; omega
          have d2 : decide ((126 : Int) < (n : Int)) = false := by simp; omega
          by_cases h92 : c = 92
          · rw [if_pos h92] at hI2
            have hn2 : n = 92 := by rw [← hn, h92]; rfl
            subst hn2
            have cQ := fun W => isQuoted_any l f W
            clear d1 d2 g34 hr g hn hc h34 h92
            have X : (isq l f = false ∧ R = .error (j - a)) ∨ ∃ (h : f < l.length), isq l f = true ∧ qs (l.drop (f + 1)) (j - a + 2) (o ++ [l[f]'h]) = R := by
              by_cases hf2 : f < l.length
              · rw [List.drop_eq_getElem_cons hf2] at hI2
                simp only at hI2
                unfold isq
                rw [List.getElem?_eq_getElem hf2, Option.any_some]
                by_cases hd : (l[f]'hf2) = 34 ∨ (l[f]'hf2) = 92
                · rw [if_pos hd] at hI2
                  exact .inr ⟨hf2, by simpa using hd, hI2⟩
                · rw [if_neg hd] at hI2
                  exact .inl ⟨by simpa using hd, hI2.symm⟩
              · have e : f = l.length := by omega
                subst e
                rw [List.drop_length] at hI2
                simp only at hI2
                unfold isq
                rw [List.getElem?_eq_none (Nat.le_refl _)]
                exact .inl ⟨rfl, hI2.symm⟩
            rcases X with ⟨X1, rfl⟩ | ⟨hf2, X1, X2⟩
            · rw [X1] at cQ
              have e1 : a + (j - a) = j := by omega
              clear hI2 X1
              go_wp2_with fail
              refine (cQ _).mono ?_
              rintro e w' ⟨rfl, rfl⟩
              go_wp2_with fail
              go_ret3
              exact ⟨congrArg Ending.returned (conV_err _ _ _ e1).symm, hb⟩
            · rw [X1] at cQ
              have hf3 : f < (bs l).size := hf2
              obtain ⟨d, hd⟩ : ∃ d, l[f]'hf2 = d := ⟨_, rfl⟩
              rw [hd] at X2
              have hb2 : ((bs l)[f]'hf3).toNat = d.toNat := by rw [← hd]; rfl
              obtain ⟨e, he⟩ : ∃ e, f + 1 = e := ⟨_, rfl⟩
              have l12 : (f : Int) + 1 = (e : Int) := by omega
              have hel : e ≤ l.length := by omega
              rw [he] at X2
              have E := Lib.hid (show qs (l.drop e) (e - a) (o ++ [d]) = R by rw [← X2, show j - a + 2 = e - a by omega])
              have hol2 : o.length + 1 ≤ 140737488355328 := by omega
              clear hI2 X1 X2 hd he hst
              go_wp2_with fail
              refine (cQ _).mono ?_
              rintro e1 w' ⟨rfl, rfl⟩
              go_wp2_with (at_builtin; refine wpList_push rfl (.tmp 46) (.tmp 50) rfl w.heap.size u7 o d _ 1 rfl rfl (ho.other (one _ _)) (by simp) hol2 (hB2 _) ?_; intro v' w3 ho' hg')
              go_roundw
              case rel => exact ⟨e, o ++ [d], hel, by omega, by simp; omega, rfl, ho', (Below.next hb (one _ _)).grown hg' (hB2 _) (fun q hq => (ho.lt q hq).1), E⟩
              case measure => simp [intOf]; omega
          · rw [if_neg h92] at hI2
            have g92 : ((n : Int) == 92) = false := g 92 h92
            have E := Lib.hid (show qs (l.drop f) (f - a) (o ++ [c]) = R by rw [← hI2, show j - a + 1 = f - a by omega])
            have hol2 : o.length + 1 ≤ 140737488355328 := by omega
            clear hI2 g hc h34 hr h92 hst
            go_wp2_with (at_builtin; refine wpList_push rfl (.tmp 46) (.tmp 50) rfl w.heap.size u7 o c _ 1 rfl rfl (ho.other (one _ _)) (by simp [hn]) hol2 (hB2 _) ?_; intro v' w3 ho' hg')
            go_roundw
            case rel => exact ⟨f, o ++ [c], hfl, by omega, by simp; omega, rfl, ho', (Below.next hb (one _ _)).grown hg' (hB2 _) (fun q hq => (ho.lt q hq).1), E⟩
            case measure => simp [intOf]; omega
    · obtain rfl : j = l.length := by omega
      have hI2 := hI.out
      rw [List.drop_length, qs_nil] at hI2
      subst hI2
      have e1 : a + (l.length - a) = l.length := by omega
      clear hI HI
      go_wp2_with fail
      go_ret3
      exact ⟨congrArg Ending.returned (conV_err _ _ _ e1).symm, hb⟩
end Go.Proofs.YtgifienjfaclmaaGreatDoor

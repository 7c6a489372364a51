/-
  What the reads give, as functions of the string that is left; the contracts of the program's functions that cut. No conditions but Go's own bounds.
-/
import Derived.Test.YtcjaaijohapeaaaDoorWe
namespace Go.Proofs.YtcjaaijohapeaaaDoor
open Go.RowKit
/-- A varint's number, what follows it, and the error. -/
def nU (l : List UInt8) : Nat := (dv 0 0 l).1
def eU (l : List UInt8) : Nat := (dv 0 0 l).2.2
def rU (l : List UInt8) : List UInt8 := if eU l = 0 then l.drop (dv 0 0 l).2.1 else []
/-- The same for a number of at most M. -/
def eS (M : Int) (a : Nat) (l : List UInt8) : Nat := if eU l ≠ 0 then eU l else if M < 0 ∨ M < (nU l : Int) then a else 0
def nS (M : Int) (l : List UInt8) : Nat := if eS M 1 l = 0 then nU l else 0
def rS (M : Int) (l : List UInt8) : List UInt8 := if eS M 1 l = 0 then rU l else []
/-- The same for a string of at most M bytes. -/
def eT (M : Int) (l : List UInt8) : Nat := if eS M 3 l ≠ 0 then eS M 3 l else if (rU l).length < nU l then 1 else 0
def tT (M : Int) (l : List UInt8) : List UInt8 := if eT M l = 0 then (rU l).take (nU l) else []
def rT (M : Int) (l : List UInt8) : List UInt8 := if eT M l = 0 then (rU l).drop (nU l) else []
theorem dv_err : ∀ (l : List UInt8) (i n x k e : Nat), dv i n l = (x, k, e) → e ≠ 0 → x = 0 ∧ k = 0 := by
  intro l
  induction l with
  | nil => intro i n x k e h he; rw [dv] at h; cases h; exact ⟨rfl, rfl⟩
  | cons b r ih =>
    intro i n x k e h he
    rw [dv] at h
    split at h
    · cases h; exact ⟨rfl, rfl⟩
    · split at h
      · exact ih _ _ _ _ _ h he
      · split at h
        · cases h; exact ⟨rfl, rfl⟩
        · cases h; exact absurd rfl he
theorem dv_le : ∀ (l : List UInt8) (i n x k e : Nat), dv i n l = (x, k, e) → n < 128 ^ i → i ≤ 9 → x < 18446744073709551616 ∧ (e = 0 → i < k ∧ k ≤ i + l.length) ∧ e ≤ 2 := by
  intro l
  induction l with
  | nil => intro i n x k e h _ _; rw [dv] at h; cases h; exact ⟨by decide, (fun h => by cases h), by decide⟩
  | cons b r ih =>
    intro i n x k e h hn hi
    have hb := UInt8.toNat_lt b
    rw [dv] at h
    split at h
    · cases h; exact ⟨by decide, (fun h => by cases h), by decide⟩
    · rename_i h9
      split at h
      · have := ih _ _ _ _ _ h (or_lt2 n _ i hn (by omega)) (by omega)
        refine ⟨this.1, fun he => ?_, this.2.2⟩
        have := this.2.1 he
        simp only [List.length_cons]; omega
      · split at h
        · cases h; exact ⟨by decide, (fun h => by cases h), by decide⟩
        · cases h
          refine ⟨or_lt n _ i hn (by omega) hi (fun h => by omega), fun _ => by simp only [List.length_cons]; omega, by decide⟩
theorem dv_all (l : List UInt8) : dv 0 0 l = (nU l, (dv 0 0 l).2.1, eU l) := rfl
theorem nU_le (l : List UInt8) : nU l ≤ 18446744073709551615 := by have := (dv_le l 0 0 _ _ _ (dv_all l) (by decide) (by decide)).1; omega
theorem nU_err {l : List UInt8} (h : eU l ≠ 0) : nU l = 0 := (dv_err l 0 0 _ _ _ (dv_all l) h).1
theorem eU_le (l : List UInt8) : eU l ≤ 2 := (dv_le l 0 0 _ _ _ (dv_all l) (by decide) (by decide)).2.2
theorem rU_len (l : List UInt8) : (rU l).length ≤ l.length := by unfold rU; split <;> simp
theorem cutW_any (l : List UInt8) (w : World) (hl : l.length ≤ 9223372036854775000) :
    Calls Tryd.prog 90 #[.string (bs l)] w (Iq (.tuple #[.int .u64 (nU l : Int), .string (bs (rU l)), .int .i64 (eU l : Int)]) w) :=
  cutVarint_any l w _ _ _ _ (by omega) (dv_all l) rfl
theorem nS_eq (M : Int) (a : Nat) (l : List UInt8) (ha : a ≠ 0) : (eS M a l = 0 ↔ eS M 1 l = 0) := by
  unfold eS
  split
  · exact Iff.rfl
  · split
    · exact ⟨fun h => absurd h ha, fun h => absurd h (by decide)⟩
    · exact Iff.rfl
set_option maxRecDepth 100000 in
set_option maxHeartbeats 1000000 in
theorem cutSmall_any (l : List UInt8) (M : Int) (a : Nat) (w : World) (hl : l.length ≤ 9223372036854775000) (h1 : -9223372036854775808 ≤ M) (h2 : M ≤ 9223372036854775807) :
    Calls Tryd.prog 68 #[.string (bs l), .int .i64 M, .int .i64 (a : Int)] w (Iq (.tuple #[.int .i64 (nS M l : Int), .string (bs (rS M l)), .int .i64 (eS M a l : Int)]) w) := by
  have c1 := fun w => cutW_any l w hl
  have hn := nU_le l
  have key : ∀ (v : Value), v = .tuple #[.int .i64 (nS M l : Int), .string (bs (rS M l)), .int .i64 (eS M a l : Int)] → ∀ n w w', w' = w.drewN n → Iq (.tuple #[.int .i64 (nS M l : Int), .string (bs (rS M l)), .int .i64 (eS M a l : Int)]) w (.returned v) w' := fun v hv n w w' hw => ⟨n, by rw [hv], hw⟩
  by_cases h : eU l = 0
  · by_cases hM : M < 0
    · have e1 : eS M a l = a := by unfold eS; rw [if_neg (by omega), if_pos (.inl hM)]
      have e2 : eS M 1 l = 1 := by unfold eS; rw [if_neg (by omega), if_pos (.inl hM)]
      have e3 : nS M l = 0 := by unfold nS; rw [e2]; rfl
      have e4 : bs (rS M l) = ⟨#[]⟩ := by unfold rS; rw [e2]; rfl
      rw [e1, e3, e4]
      rw [h] at c1
      clear e1 e2 e3 e4 h key
      generalize bs (rU l) = R at *
      generalize nU l = x at *
      go_enter Tryd.func68, Tryd.ntmps68
      go_wp2_with fail
      refine (c1 _).mono ?_
      rintro e w' ⟨n1, rfl, rfl⟩
      go_wp2_with fail
      go_ret3
      exact ⟨n1, rfl, rfl⟩
    · obtain ⟨m, rfl⟩ : ∃ m : Nat, M = (m : Int) := ⟨M.toNat, by omega⟩
      by_cases hm : m < nU l
      · have e1 : eS (m : Int) a l = a := by unfold eS; rw [if_neg (by omega), if_pos (.inr (by omega))]
        have e2 : eS (m : Int) 1 l = 1 := by unfold eS; rw [if_neg (by omega), if_pos (.inr (by omega))]
        have e3 : nS (m : Int) l = 0 := by unfold nS; rw [e2]; rfl
        have e4 : bs (rS (m : Int) l) = ⟨#[]⟩ := by unfold rS; rw [e2]; rfl
        rw [e1, e3, e4]
        rw [h] at c1
        clear e1 e2 e3 e4 h key hM
        generalize bs (rU l) = R at *
        generalize nU l = x at *
        have d1 : decide (m < x) = true := by simpa using hm
        have d0 : decide ((m : Int) < 0) = false := by simp
        have k1 : IntKind.u64.wrap (m : Int) = (m : Int) := by rw [IntKind.wrap_u64]; omega
        go_enter Tryd.func68, Tryd.ntmps68
        go_wp2_with fail
        refine (c1 _).mono ?_
        rintro e w' ⟨n1, rfl, rfl⟩
        go_wp2_with fail
        go_ret3
        exact ⟨n1, rfl, rfl⟩
      · have e1 : eS (m : Int) a l = 0 := by unfold eS; rw [if_neg (by omega), if_neg (by omega)]
        have e2 : eS (m : Int) 1 l = 0 := by unfold eS; rw [if_neg (by omega), if_neg (by omega)]
        have e3 : nS (m : Int) l = nU l := by unfold nS; rw [e2]; rfl
        have e4 : bs (rS (m : Int) l) = bs (rU l) := by unfold rS; rw [e2]; rfl
        rw [e1, e3, e4]
        rw [h] at c1
        clear e1 e2 e3 e4 h key hM
        generalize bs (rU l) = R at *
        generalize nU l = x at *
        have d1 : decide (m < x) = false := by simpa using hm
        have d0 : decide ((m : Int) < 0) = false := by simp
        have k1 : IntKind.u64.wrap (m : Int) = (m : Int) := by rw [IntKind.wrap_u64]; omega
        have hx : x ≤ 9223372036854775807 := by omega
        have k2 : IntKind.i64.wrap (x : Int) = (x : Int) := IntWalk.i64_in _ (by omega)
        go_enter Tryd.func68, Tryd.ntmps68
        go_wp2_with fail
        refine (c1 _).mono ?_
        rintro e w' ⟨n1, rfl, rfl⟩
        go_wp2_with fail
        go_ret3
        exact ⟨n1, rfl, rfl⟩
  · have e1 : ∀ a, eS M a l = eU l := fun a => by unfold eS; rw [if_pos h]
    have e3 : nS M l = 0 := by unfold nS; rw [e1, if_neg h]
    have e4 : bs (rS M l) = ⟨#[]⟩ := by unfold rS; rw [e1, if_neg h]; rfl
    rw [e1, e3, e4]
    clear e1 e3 e4 key
    generalize bs (rU l) = R at *
    generalize nU l = x at *
    generalize eU l = e2 at *
    have he : ((e2 : Int) != 0) = true := by simpa using h
    go_enter Tryd.func68, Tryd.ntmps68
    go_wp2_with fail
    refine (c1 _).mono ?_
    rintro e w' ⟨n1, rfl, rfl⟩
    go_wp2_with fail
    go_ret3
    exact ⟨n1, rfl, rfl⟩
end Go.Proofs.YtcjaaijohapeaaaDoor

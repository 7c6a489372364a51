/-
  What the reads give, as functions of the string that is left; the contracts of the program's functions that cut. No conditions but Go's own bounds.
-/
import Derived.Test.YtcjaaijohapeaaaDoorK06
namespace Go.Proofs.YtcjaaijohapeaaaDoor
open Go.RowKit
/-- A varint's number, what follows it, and the error. -/
def nU (l : List UInt8) : Nat := (dv 0 0 l).1
def eU (l : List UInt8) : Nat := (dv 0 0 l).2.2
def rU (l : List UInt8) : List UInt8 := if eU l = 0 then l.drop (dv 0 0 l).2.1 else []
/-- The same for a number of at most M. -/
def eS (M : Int) (a : Nat) (l : List UInt8) : Nat := if eU l ≠ 0 then eU l else if M < 0 ∨ M < (nU l : Int) then a else 0
def nS (M : Int) (l : List UInt8) : Nat := if eS M 1 l = 0 then nU l else 0
def rS (M : Int) (l : List UInt8) : List UInt8 := if eS M 1 l = 0 then rU l else []
/-- The same for a string of at most M bytes. -/
def eT (M : Int) (l : List UInt8) : Nat := if eS M 3 l ≠ 0 then eS M 3 l else if (rU l).length < nU l then 1 else 0
def tT (M : Int) (l : List UInt8) : List UInt8 := if eT M l = 0 then (rU l).take (nU l) else []
def rT (M : Int) (l : List UInt8) : List UInt8 := if eT M l = 0 then (rU l).drop (nU l) else []
theorem dv_err : ∀ (l : List UInt8) (i n x k e : Nat), dv i n l = (x, k, e) → e ≠ 0 → x = 0 ∧ k = 0 := by
  intro l
  induction l with
  | nil => intro i n x k e h he; rw [dv] at h; cases h; exact ⟨rfl, rfl⟩
  | cons b r ih =>
    intro i n x k e h he
    rw [dv] at h
    split at h
    · cases h; exact ⟨rfl, rfl⟩
    · split at h
      · exact ih _ _ _ _ _ h he
      · split at h
        · cases h; exact ⟨rfl, rfl⟩
        · cases h; exact absurd rfl he
theorem dv_le : ∀ (l : List UInt8) (i n x k e : Nat), dv i n l = (x, k, e) → n < 128 ^ i → i ≤ 9 → x < 18446744073709551616 ∧ (e = 0 → i < k ∧ k ≤ i + l.length) ∧ e ≤ 2 := by
  intro l
  induction l with
  | nil => intro i n x k e h _ _; rw [dv] at h; cases h; exact ⟨by decide, (fun h => by cases h), by decide⟩
  | cons b r ih =>
    intro i n x k e h hn hi
    have hb := UInt8.toNat_lt b
    rw [dv] at h
    split at h
    · cases h; exact ⟨by decide, (fun h => by cases h), by decide⟩
    · rename_i h9
      split at h
      · have := ih _ _ _ _ _ h (or_lt2 n _ i hn (by omega)) (by omega)
        refine ⟨this.1, fun he => ?_, this.2.2⟩
        have := this.2.1 he
        simp only [List.length_cons]; omega
      · split at h
        · cases h; exact ⟨by decide, (fun h => by cases h), by decide⟩
        · cases h
          refine ⟨or_lt n _ i hn (by omega) hi (fun h => by omega), fun _ => by simp only [List.length_cons]; omega, by decide⟩
theorem dv_all (l : List UInt8) : dv 0 0 l = (nU l, (dv 0 0 l).2.1, eU l) := rfl
theorem nU_le (l : List UInt8) : nU l ≤ 18446744073709551615 := by have := (dv_le l 0 0 _ _ _ (dv_all l) (by decide) (by decide)).1; omega
theorem nU_err {l : List UInt8} (h : eU l ≠ 0) : nU l = 0 := (dv_err l 0 0 _ _ _ (dv_all l) h).1
theorem eU_le (l : List UInt8) : eU l ≤ 2 := (dv_le l 0 0 _ _ _ (dv_all l) (by decide) (by decide)).2.2
theorem rU_len (l : List UInt8) : (rU l).length ≤ l.length := by unfold rU; split <;> simp
theorem cutW_any (l : List UInt8) (w : World) (hl : l.length ≤ 9223372036854775000) :
    Calls Tryd.prog 90 #[.string (bs l)] w (Iq (.tuple #[.int .u64 (nU l : Int), .string (bs (rU l)), .int .i64 (eU l : Int)]) w) :=
  cutVarint_any l w _ _ _ _ (by omega) (dv_all l) rfl
theorem nS_eq (M : Int) (a : Nat) (l : List UInt8) (ha : a ≠ 0) : (eS M a l = 0 ↔ eS M 1 l = 0) := by
  unfold eS
  split
  · exact Iff.rfl
  · split
    · exact ⟨fun h => absurd h ha, fun h => absurd h (by decide)⟩
    · exact Iff.rfl
set_option maxRecDepth 100000 in
set_option maxHeartbeats 1000000 in
theorem cutSmall_any (l : List UInt8) (M : Int) (a : Nat) (w : World) (hl : l.length ≤ 9223372036854775000) (h1 : -9223372036854775808 ≤ M) (h2 : M ≤ 9223372036854775807) :
    Calls Tryd.prog 68 #[.string (bs l), .int .i64 M, .int .i64 (a : Int)] w (Iq (.tuple #[.int .i64 (nS M l : Int), .string (bs (rS M l)), .int .i64 (eS M a l : Int)]) w) := by
  have c1 := fun w => cutW_any l w hl
  have hn := nU_le l
  have key : ∀ (v : Value), v = .tuple #[.int .i64 (nS M l : Int), .string (bs (rS M l)), .int .i64 (eS M a l : Int)] → ∀ n w w', w' = w.drewN n → Iq (.tuple #[.int .i64 (nS M l : Int), .string (bs (rS M l)), .int .i64 (eS M a l : Int)]) w (.returned v) w' := fun v hv n w w' hw => ⟨n, by rw [hv], hw⟩
  by_cases h : eU l = 0
  · by_cases hM : M < 0
    · have e1 : eS M a l = a := by unfold eS; rw [if_neg (by omega), if_pos (.inl hM)]
      have e2 : eS M 1 l = 1 := by unfold eS; rw [if_neg (by omega), if_pos (.inl hM)]
      have e3 : nS M l = 0 := by unfold nS; rw [e2]; rfl
      have e4 : bs (rS M l) = ⟨#[]⟩ := by unfold rS; rw [e2]; rfl
      rw [e1, e3, e4]
      rw [h] at c1
      clear e1 e2 e3 e4 h key
      generalize bs (rU l) = R at *
      generalize nU l = x at *
      go_enter Tryd.func68, Tryd.ntmps68
      go_wp2_with fail
      refine (c1 _).mono ?_
      rintro e w' ⟨n1, rfl, rfl⟩
      go_wp2_with fail
      go_ret3
      exact ⟨n1, rfl, rfl⟩
    · obtain ⟨m, rfl⟩ : ∃ m : Nat, M = (m : Int) := ⟨M.toNat, by omega⟩
      by_cases hm : m < nU l
      · have e1 : eS (m : Int) a l = a := by unfold eS; rw [if_neg (by omega), if_pos (.inr (by omega))]
        have e2 : eS (m : Int) 1 l = 1 := by unfold eS; rw [if_neg (by omega), if_pos (.inr (by omega))]
        have e3 : nS (m : Int) l = 0 := by unfold nS; rw [e2]; rfl
        have e4 : bs (rS (m : Int) l) = ⟨#[]⟩ := by unfold rS; rw [e2]; rfl
        rw [e1, e3, e4]
        rw [h] at c1
        clear e1 e2 e3 e4 h key hM
        generalize bs (rU l) = R at *
        generalize nU l = x at *
        have d1 : decide (m < x) = true := by simpa using hm
        have d0 : decide ((m : Int) < 0) = false := by simp
        have k1 : IntKind.u64.wrap (m : Int) = (m : Int) := by rw [IntKind.wrap_u64]; omega
        go_enter Tryd.func68, Tryd.ntmps68
        go_wp2_with fail
        refine (c1 _).mono ?_
        rintro e w' ⟨n1, rfl, rfl⟩
        go_wp2_with fail
        go_ret3
        exact ⟨n1, rfl, rfl⟩
      · have e1 : eS (m : Int) a l = 0 := by unfold eS; rw [if_neg (by omega), if_neg (by omega)]
        have e2 : eS (m : Int) 1 l = 0 := by unfold eS; rw [if_neg (by omega), if_neg (by omega)]
        have e3 : nS (m : Int) l = nU l := by unfold nS; rw [e2]; rfl
        have e4 : bs (rS (m : Int) l) = bs (rU l) := by unfold rS; rw [e2]; rfl
        rw [e1, e3, e4]
        rw [h] at c1
        clear e1 e2 e3 e4 h key hM
        generalize bs (rU l) = R at *
        generalize nU l = x at *
        have d1 : decide (m < x) = false := by simpa using hm
        have d0 : decide ((m : Int) < 0) = false := by simp
        have k1 : IntKind.u64.wrap (m : Int) = (m : Int) := by rw [IntKind.wrap_u64]; omega
        have hx : x ≤ 9223372036854775807 := by omega
        have k2 : IntKind.i64.wrap (x : Int) = (x : Int) := IntWalk.i64_in _ (by omega)
        go_enter Tryd.func68, Tryd.ntmps68
        go_wp2_with fail
        refine (c1 _).mono ?_
        rintro e w' ⟨n1, rfl, rfl⟩
        go_wp2_with fail
        go_ret3
        exact ⟨n1, rfl, rfl⟩
  · have e1 : ∀ a, eS M a l = eU l := fun a => by unfold eS; rw [if_pos h]
    have e3 : nS M l = 0 := by unfold nS; rw [e1, if_neg h]
    have e4 : bs (rS M l) = ⟨#[]⟩ := by unfold rS; rw [e1, if_neg h]; rfl
    rw [e1, e3, e4]
    clear e1 e3 e4 key
    generalize bs (rU l) = R at *
    generalize nU l = x at *
    generalize eU l = e2 at *
    have he : ((e2 : Int) != 0) = true := by simpa using h
    go_enter Tryd.func68, Tryd.ntmps68
    go_wp2_with fail
    refine (c1 _).mono ?_
    rintro e w' ⟨n1, rfl, rfl⟩
    go_wp2_with fail
    go_ret3
    exact ⟨n1, rfl, rfl⟩
end Go.Proofs.YtcjaaijohapeaaaDoor
/-
  Contracts of the program's reader: its methods, told by what is left and by the first error. No conditions but Go's own bounds.
-/
namespace Go.Proofs.YtcjaaijohapeaaaDoor
open Go.RowKit
set_option maxRecDepth 100000 in
theorem clSmall_any (l : List UInt8) (M : Int) (b : Nat) (w : World) (hl : l.length ≤ 9223372036854775000) (h1 : -9223372036854775808 ≤ M) (h2 : M ≤ 9223372036854775807) (hc : w.cell? ⟨b, 0, none⟩ = some (.int .i64 M)) :
    Calls Tryd.prog 67 #[.string (bs l), .pointer (some ⟨b, 0, none⟩)] w (Iq (.tuple #[.int .i64 (nS M l : Int), .string (bs (rS M l)), .int .i64 (eS M 4 l : Int)]) w) := by
  have c1 : ∀ w, Calls Tryd.prog 68 #[.string (bs l), .int .i64 M, .int .i64 4] w (Iq (.tuple #[.int .i64 (nS M l : Int), .string (bs (rS M l)), .int .i64 (eS M 4 l : Int)]) w) := fun w => cutSmall_any l M 4 w hl h1 h2
  clear h1 h2
  generalize nS M l = n at *
  generalize bs (rS M l) = R at *
  generalize eS M 4 l = e2 at *
  go_enter Tryd.func67, Tryd.ntmps67
  go_wp2_with fail
  refine (c1 _).mono ?_
  rintro e w' ⟨n1, rfl, rfl⟩
  go_wp2_with fail
  go_ret3
  exact ⟨n1, rfl, rfl⟩
set_option maxRecDepth 100000 in
set_option maxHeartbeats 1000000 in
theorem clText_any (l : List UInt8) (M : Int) (b : Nat) (w : World) (hl : l.length ≤ 9223372036854775000) (h1 : -9223372036854775808 ≤ M) (h2 : M ≤ 9223372036854775807) (hc : w.cell? ⟨b, 0, none⟩ = some (.int .i64 M)) :
    Calls Tryd.prog 70 #[.string (bs l), .pointer (some ⟨b, 0, none⟩)] w (Iq (.tuple #[.string (bs (tT M l)), .string (bs (rT M l)), .int .i64 (eT M l : Int)]) w) := by
  have c1 : ∀ w, Calls Tryd.prog 68 #[.string (bs l), .int .i64 M, .int .i64 3] w (Iq (.tuple #[.int .i64 (nS M l : Int), .string (bs (rS M l)), .int .i64 (eS M 3 l : Int)]) w) := fun w => cutSmall_any l M 3 w hl h1 h2
  clear h1 h2
  by_cases h : eS M 3 l = 0
  · have h1 := (nS_eq M 3 l (by decide)).1 h
    have e1 : nS M l = nU l := by unfold nS; rw [if_pos h1]
    have e2 : rS M l = rU l := by unfold rS; rw [if_pos h1]
    rw [h, e1, e2] at c1
    have hrl := rU_len l
    by_cases h3 : (rU l).length < nU l
    · have e3 : eT M l = 1 := by unfold eT; rw [if_neg (by omega), if_pos h3]
      have e4 : bs (tT M l) = ⟨#[]⟩ := by unfold tT; rw [e3]; rfl
      have e5 : bs (rT M l) = ⟨#[]⟩ := by unfold rT; rw [e3]; rfl
      rw [e3, e4, e5]
      clear e1 e2 e3 e4 e5 h h1 hrl
      generalize nU l = n at *
      have hsz : (bs (rU l)).size = (rU l).length := rfl
      generalize (rU l).length = k at *
      generalize bs (rU l) = R at *
      have d1 : decide (k < n) = true := by simpa using h3
      have d2 : decide ((k : Int) < (n : Int)) = true := by simpa using h3
      go_enter Tryd.func70, Tryd.ntmps70
      go_wp2_with fail
      refine (c1 _).mono ?_
      rintro e w' ⟨n1, rfl, rfl⟩
      go_wp2_with fail
      go_ret3
      exact ⟨n1, rfl, rfl⟩
    · have e3 : eT M l = 0 := by unfold eT; rw [if_neg (by omega), if_neg h3]
      have e4 : tT M l = (rU l).take (nU l) := by unfold tT; rw [if_pos e3]
      have e5 : rT M l = (rU l).drop (nU l) := by unfold rT; rw [if_pos e3]
      rw [e3, e4, e5]
      clear e1 e2 e3 e4 e5 h h1
      generalize nU l = n at *
      generalize rU l = r at *
      have hsz : (bs r).size = r.length := rfl
      have k1 : (bs r).extract 0 n = bs (r.take n) := bs_take r n
      have k2 : (bs r).extract n r.length = bs (r.drop n) := bs_drop r n _ (Nat.le_refl _)
      have hn : n ≤ r.length := by omega
      have d1 : decide (r.length < n) = false := by simpa using h3
      clear h3
      go_enter Tryd.func70, Tryd.ntmps70
      go_wp2_with fail
      refine (c1 _).mono ?_
      rintro e w' ⟨n1, rfl, rfl⟩
      go_wp2_with fail
      go_quiet (fail)
      go_wp2_with fail
      go_ret3
      exact ⟨_, rfl, by rw [drewN_add]⟩
  · have e3 : eT M l = eS M 3 l := by unfold eT; rw [if_pos h]
    have e4 : bs (tT M l) = ⟨#[]⟩ := by unfold tT; rw [e3, if_neg h]; rfl
    have e5 : bs (rT M l) = ⟨#[]⟩ := by unfold rT; rw [e3, if_neg h]; rfl
    rw [e3, e4, e5]
    clear e3 e4 e5
    generalize eS M 3 l = e2 at *
    generalize nS M l = n at *
    generalize bs (rS M l) = R at *
    have he : ((e2 : Int) != 0) = true := by simpa using h
    go_enter Tryd.func70, Tryd.ntmps70
    go_wp2_with fail
    refine (c1 _).mono ?_
    rintro e w' ⟨n1, rfl, rfl⟩
    go_wp2_with fail
    go_ret3
    exact ⟨n1, rfl, rfl⟩
/-- A reader at block g: the string that is left, and the first error. -/
structure Rdr (w : World) (g : Nat) (l : List UInt8) (e : Nat) : Prop where
  lt : g < w.heap.size
  c0 : w.cell? ⟨g, 0, none⟩ = some (.string (bs l))
  c1 : w.cell? ⟨g, 1, none⟩ = some (.int .i64 (e : Int))
  f0 : w.frozen? ⟨g, 0, none⟩ = false
  f1 : w.frozen? ⟨g, 1, none⟩ = false
theorem Rdr.next {w w' : World} {g : Nat} {l : List UInt8} {e : Nat} (h : Rdr w g l e) (hb : Below w.heap.size w w') : Rdr w' g l e :=
  ⟨Nat.lt_of_lt_of_le h.lt hb.size, (hb.cell h.lt).trans h.c0, (hb.cell h.lt).trans h.c1, (hb.frozen h.lt).trans h.f0, (hb.frozen h.lt).trans h.f1⟩
theorem Rdr.drewN {w : World} {g : Nat} {l : List UInt8} {e : Nat} (h : Rdr w g l e) (n : Nat) : Rdr (w.drewN n) g l e := ⟨h.lt, h.c0, h.c1, h.f0, h.f1⟩
theorem Rdr.setL {w : World} {g : Nat} {l : List UInt8} {e : Nat} (h : Rdr w g l e) (r : List UInt8) : Rdr (w.setCell ⟨g, 0, none⟩ (.string (bs r))) g r e := by
  obtain ⟨lt, c0, c1, f0, f1⟩ := h
  exact ⟨by simpa [World.setCell] using lt, World.cell?_setCell_same _ _ _ c0, (World.cell?_setCell_other _ _ _ _ (by intro h; cases h)).trans c1, by simp [f0], by simp [f1]⟩
theorem Rdr.setE {w : World} {g : Nat} {l : List UInt8} {e : Nat} (h : Rdr w g l e) (e2 : Nat) : Rdr (w.setCell ⟨g, 1, none⟩ (.int .i64 (e2 : Int))) g l e2 := by
  obtain ⟨lt, c0, c1, f0, f1⟩ := h
  exact ⟨by simpa [World.setCell] using lt, (World.cell?_setCell_other _ _ _ _ (by intro h; cases h)).trans c0, World.cell?_setCell_same _ _ _ c1, by simp [f0], by simp [f1]⟩
/-- The call returns v; of old memory it wrote to the reader alone, which then has l left and the first error e. -/
def Ir (v : Value) (g : Nat) (l : List UInt8) (e : Nat) (w : World) (en : Ending) (w' : World) : Prop := en = .returned v ∧ w.grownBy w' (some g) ∧ Rdr w' g l e
theorem gb_below {w w' : World} {g : Nat} (h : Below w.heap.size w w') : w.grownBy w' (some g) := ⟨h.os, h.tape, h.output, h.size, fun k hk _ => h.block k hk⟩
theorem gb_set {w w' : World} {g : Nat} (h : w.grownBy w' (some g)) (o : Nat) (v : Value) : w.grownBy (w'.setCell ⟨g, o, none⟩ v) (some g) :=
  ⟨h.os, h.tape, h.output, by simpa [World.setCell] using h.size, fun k hk hne => (Below.heap_setCell _ _ _ _ (fun e => hne (by rw [e]))).trans (h.block k hk hne)⟩
/-- What is left, and the first error, behind a read. -/
def aL (e e2 : Nat) (l r : List UInt8) : List UInt8 := if e = 0 ∧ e2 = 0 then r else l
def aE (e e2 : Nat) : Nat := if e = 0 then e2 else e
theorem aL0 (e2 : Nat) (l r : List UInt8) (h : e2 ≠ 0) : aL 0 e2 l r = l := by unfold aL; rw [if_neg (fun k => h k.2)]
theorem aL1 {e : Nat} (e2 : Nat) (l r : List UInt8) (h : e ≠ 0) : aL e e2 l r = l := by unfold aL; rw [if_neg (fun k => h k.1)]
theorem aE1 {e : Nat} (e2 : Nat) (h : e ≠ 0) : aE e e2 = e := by unfold aE; rw [if_neg h]
theorem err_any (g : Nat) (l : List UInt8) (e : Nat) (w : World) (h : Rdr w g l e) :
    Calls Tryd.prog 62 #[.pointer (some ⟨g, 0, none⟩)] w (Is (.int .i64 (e : Int)) w) := by
  obtain ⟨lt, c0, c1, f0, f1⟩ := h
  go_enter Tryd.func62, Tryd.ntmps62
  go_wp2_with fail
  go_ret
  exact ⟨rfl, rfl⟩
/-- What End gives. -/
def eN (l : List UInt8) (e : Nat) : Nat := if e ≠ 0 then e else if l.isEmpty then 0 else 3
set_option maxRecDepth 100000 in
theorem end_any (g : Nat) (l : List UInt8) (e : Nat) (w : World) (h : Rdr w g l e) :
    Calls Tryd.prog 36 #[.pointer (some ⟨g, 0, none⟩)] w (Is (.int .i64 (eN l e : Nat)) w) := by
  have cE := fun w h => err_any g l e w h
  have h0 := h
  obtain ⟨lt, c0, c1, f0, f1⟩ := h
  have hsz : (bs l).toList = l := toList_bs l
  by_cases he : e = 0
  · subst he
    cases l with
    | nil =>
      rw [show eN [] 0 = 0 by rfl]
      have hz : (bs ([] : List UInt8)) = ⟨#[]⟩ := rfl
      go_enter Tryd.func36, Tryd.ntmps36
      go_wp2_with fail
      refine (cE _ h0).mono ?_
      rintro e w' ⟨rfl, rfl⟩
      go_wp2_with fail
      go_ret
      exact ⟨rfl, rfl⟩
    | cons a l =>
      rw [show eN (a :: l) 0 = 3 by rfl]
      go_enter Tryd.func36, Tryd.ntmps36
      go_wp2_with fail
      refine (cE _ h0).mono ?_
      rintro e w' ⟨rfl, rfl⟩
      go_wp2_with fail
      go_ret
      exact ⟨rfl, rfl⟩
  · rw [show eN l e = e by unfold eN; rw [if_pos he]]
    have hd : ((e : Int) != 0) = true := by simpa using he
    clear he
    go_enter Tryd.func36, Tryd.ntmps36
    go_wp2_with fail
    refine (cE _ h0).mono ?_
    rintro e w' ⟨rfl, rfl⟩
    go_wp2_with fail
    go_ret
    exact ⟨rfl, rfl⟩
set_option maxRecDepth 100000 in
set_option maxHeartbeats 1000000 in
theorem rSmall_any (g : Nat) (l : List UInt8) (e : Nat) (M : Int) (w : World) (hl : l.length ≤ 9223372036854775000) (h1 : -9223372036854775808 ≤ M) (h2 : M ≤ 9223372036854775807) (h : Rdr w g l e) :
    Calls Tryd.prog 34 #[.pointer (some ⟨g, 0, none⟩), .int .i64 M] w (Ir (if e = 0 then .int .i64 (nS M l : Int) else .int .i64 0) g (aL e (eS M 4 l) l (rS M l)) (aE e (eS M 4 l)) w) := by
  have cE := fun w h => err_any g l e w h
  have cc := fun w2 h => clSmall_any l M w.heap.size w2 hl h1 h2 h
  have h3 : Rdr (w.alloc (Obj.cells #[.int .i64 M] 3)) g l e := h.next (one w _)
  have hgb : w.grownBy (w.alloc (Obj.cells #[.int .i64 M] 3)) (some g) := gb_below (one w _)
  have hnew : (w.alloc (Obj.cells #[.int .i64 M] 3)).cell? ⟨w.heap.size, 0, none⟩ = some (.int .i64 M) := by simp
  have hz : eS M 4 l ≠ 0 → (.int .i64 (nS M l : Int) : Value) = .int .i64 0 := fun h => by unfold nS; rw [if_neg (fun k => h ((nS_eq M 4 l (by decide)).2 k))]; rfl
  obtain ⟨lt, c0, c1, f0, f1⟩ := h
  by_cases he : e = 0
  · subst he
    have c10 : w.cell? ⟨g, 1, none⟩ = some (.int .i64 0) := c1
    clear c1 h1 h2
    rw [if_pos rfl]
    by_cases he2 : eS M 4 l = 0
    · rw [he2, show aL 0 0 l (rS M l) = rS M l by rfl, show aE 0 0 = 0 by rfl]
      have HS : ∀ n, Rdr (((w.alloc (Obj.cells #[.int .i64 M] 3)).drewN n).setCell ⟨g, 0, none⟩ (.string (bs (rS M l)))) g (rS M l) 0 := fun n => (h3.drewN n).setL _
      have HG : ∀ n, w.grownBy (((w.alloc (Obj.cells #[.int .i64 M] 3)).drewN n).setCell ⟨g, 0, none⟩ (.string (bs (rS M l)))) (some g) := fun n => gb_set (gb_below (below_drewN (one w _) n)) _ _
      rw [he2] at cc
      clear he2 hz
      generalize rS M l = r at *
      generalize (.int .i64 (nS M l : Int) : Value) = v at *
      go_enter Tryd.func34, Tryd.ntmps34
      go_wp2_with fail
      go_enter Tryd.func66, Tryd.ntmps66
      go_wp2_with fail
      refine (cE _ h3).mono ?_
      rintro e w' ⟨rfl, rfl⟩
      go_wp2_with fail
      refine (cc _ hnew).mono ?_
      rintro e w' ⟨n1, rfl, rfl⟩
      go_wp2_with fail
      go_ret
      exact ⟨rfl, HG n1, HS n1⟩
    · rw [aL0 _ _ _ he2, show aE 0 (eS M 4 l) = eS M 4 l by rfl, hz he2]
      rw [hz he2] at cc
      have HS : ∀ n, Rdr (((w.alloc (Obj.cells #[.int .i64 M] 3)).drewN n).setCell ⟨g, 1, none⟩ (.int .i64 ((eS M 4 l : Nat) : Int))) g l (eS M 4 l) := fun n => (h3.drewN n).setE _
      have HG : ∀ n, w.grownBy (((w.alloc (Obj.cells #[.int .i64 M] 3)).drewN n).setCell ⟨g, 1, none⟩ (.int .i64 ((eS M 4 l : Nat) : Int))) (some g) := fun n => gb_set (gb_below (below_drewN (one w _) n)) _ _
      clear hz
      generalize eS M 4 l = e2 at *
      generalize rS M l = r at *
      have hd : ((e2 : Int) != 0) = true := by simpa using he2
      clear he2
      go_enter Tryd.func34, Tryd.ntmps34
      go_wp2_with fail
      go_enter Tryd.func66, Tryd.ntmps66
      go_wp2_with fail
      refine (cE _ h3).mono ?_
      rintro e w' ⟨rfl, rfl⟩
      go_wp2_with fail
      refine (cc _ hnew).mono ?_
      rintro e w' ⟨n1, rfl, rfl⟩
      go_wp2_with fail
      go_ret
      exact ⟨rfl, HG n1, HS n1⟩
  · rw [if_neg he, aL1 _ _ _ he, aE1 _ he]
    have hd : ((e : Int) != 0) = true := by simpa using he
    clear he cc hz
    go_enter Tryd.func34, Tryd.ntmps34
    go_wp2_with fail
    go_enter Tryd.func66, Tryd.ntmps66
    go_wp2_with fail
    refine (cE _ h3).mono ?_
    rintro e w' ⟨rfl, rfl⟩
    go_wp2_with fail
    go_ret
    exact ⟨rfl, hgb, h3⟩
set_option maxRecDepth 100000 in
set_option maxHeartbeats 1000000 in
theorem rText_any (g : Nat) (l : List UInt8) (e : Nat) (M : Int) (w : World) (hl : l.length ≤ 9223372036854775000) (h1 : -9223372036854775808 ≤ M) (h2 : M ≤ 9223372036854775807) (h : Rdr w g l e) :
    Calls Tryd.prog 35 #[.pointer (some ⟨g, 0, none⟩), .int .i64 M] w (Ir (if e = 0 then .string (bs (tT M l)) else .string ⟨#[]⟩) g (aL e (eT M l) l (rT M l)) (aE e (eT M l)) w) := by
  have cE := fun w h => err_any g l e w h
  have cc := fun w2 h => clText_any l M w.heap.size w2 hl h1 h2 h
  have h3 : Rdr (w.alloc (Obj.cells #[.int .i64 M] 3)) g l e := h.next (one w _)
  have hgb : w.grownBy (w.alloc (Obj.cells #[.int .i64 M] 3)) (some g) := gb_below (one w _)
  have hnew : (w.alloc (Obj.cells #[.int .i64 M] 3)).cell? ⟨w.heap.size, 0, none⟩ = some (.int .i64 M) := by simp
  have hz : eT M l ≠ 0 → (.string (bs (tT M l)) : Value) = .string ⟨#[]⟩ := fun h => by unfold tT; rw [if_neg h]; rfl
  obtain ⟨lt, c0, c1, f0, f1⟩ := h
  by_cases he : e = 0
  · subst he
    have c10 : w.cell? ⟨g, 1, none⟩ = some (.int .i64 0) := c1
    clear c1 h1 h2
    rw [if_pos rfl]
    by_cases he2 : eT M l = 0
    · rw [he2, show aL 0 0 l (rT M l) = rT M l by rfl, show aE 0 0 = 0 by rfl]
      have HS : ∀ n, Rdr (((w.alloc (Obj.cells #[.int .i64 M] 3)).drewN n).setCell ⟨g, 0, none⟩ (.string (bs (rT M l)))) g (rT M l) 0 := fun n => (h3.drewN n).setL _
      have HG : ∀ n, w.grownBy (((w.alloc (Obj.cells #[.int .i64 M] 3)).drewN n).setCell ⟨g, 0, none⟩ (.string (bs (rT M l)))) (some g) := fun n => gb_set (gb_below (below_drewN (one w _) n)) _ _
      rw [he2] at cc
      clear he2 hz
      generalize rT M l = r at *
      generalize (.string (bs (tT M l)) : Value) = v at *
      go_enter Tryd.func35, Tryd.ntmps35
      go_wp2_with fail
      go_enter Tryd.func69, Tryd.ntmps69
      go_wp2_with fail
      refine (cE _ h3).mono ?_
      rintro e w' ⟨rfl, rfl⟩
      go_wp2_with fail
      refine (cc _ hnew).mono ?_
      rintro e w' ⟨n1, rfl, rfl⟩
      go_wp2_with fail
      go_ret
      exact ⟨rfl, HG n1, HS n1⟩
    · rw [aL0 _ _ _ he2, show aE 0 (eT M l) = eT M l by rfl, hz he2]
      rw [hz he2] at cc
      have HS : ∀ n, Rdr (((w.alloc (Obj.cells #[.int .i64 M] 3)).drewN n).setCell ⟨g, 1, none⟩ (.int .i64 ((eT M l : Nat) : Int))) g l (eT M l) := fun n => (h3.drewN n).setE _
      have HG : ∀ n, w.grownBy (((w.alloc (Obj.cells #[.int .i64 M] 3)).drewN n).setCell ⟨g, 1, none⟩ (.int .i64 ((eT M l : Nat) : Int))) (some g) := fun n => gb_set (gb_below (below_drewN (one w _) n)) _ _
      clear hz
      generalize eT M l = e2 at *
      generalize rT M l = r at *
      have hd : ((e2 : Int) != 0) = true := by simpa using he2
      clear he2
      go_enter Tryd.func35, Tryd.ntmps35
      go_wp2_with fail
      go_enter Tryd.func69, Tryd.ntmps69
      go_wp2_with fail
      refine (cE _ h3).mono ?_
      rintro e w' ⟨rfl, rfl⟩
      go_wp2_with fail
      refine (cc _ hnew).mono ?_
      rintro e w' ⟨n1, rfl, rfl⟩
      go_wp2_with fail
      go_ret
      exact ⟨rfl, HG n1, HS n1⟩
  · rw [if_neg he, aL1 _ _ _ he, aE1 _ he]
    have hd : ((e : Int) != 0) = true := by simpa using he
    clear he cc hz
    go_enter Tryd.func35, Tryd.ntmps35
    go_wp2_with fail
    go_enter Tryd.func69, Tryd.ntmps69
    go_wp2_with fail
    refine (cE _ h3).mono ?_
    rintro e w' ⟨rfl, rfl⟩
    go_wp2_with fail
    go_ret
    exact ⟨rfl, hgb, h3⟩
end Go.Proofs.YtcjaaijohapeaaaDoor

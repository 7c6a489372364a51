/-
  A new reader; the check of the chapter's examples returns true. No conditions.
-/
import Derived.Test.YtcjaaijohapeaaaDoorK08
import Derived.Test.YtcjaaijohapeaaaDoorK02
import Derived.Lib.Overlaps
import Derived.Lib.AppendZerosOnto
import Derived.Laws.CopyRow
import Derived.Laws.CopyOwn
import Derived.Laws.OwnMore
import Derived.Laws.Externs
import Derived.Shelf.Spec.SlicesInsert
import Derived.Shelf.Spec.SlicesInsertGrow
import Derived.Maps.OwnSet
import Derived.Maps.AppendAt
import Derived.OwnWalk
import Derived.Sort.KeysCollected
namespace Go.Proofs.YtcjaaijohapeaaaDoor
open Go.RowKit
/-- The call returns a new reader of l. -/
def Inew (l : List UInt8) (w : World) (e : Ending) (w' : World) : Prop := ∃ g, e = .returned (.pointer (some ⟨g, 0, none⟩)) ∧ w.heap.size ≤ g ∧ Below w.heap.size w w' ∧ Rdr w' g l 0
theorem new_any (l : List UInt8) (w : World) : Calls Tryd.prog 24 #[.string (bs l)] w (Inew l w) := by
  go_enter Tryd.func24, Tryd.ntmps24
  go_wp2_with fail
  go_ret
  exact ⟨w.heap.size, rfl, Nat.le_refl _, one _ _, by simp, by simp, by simp, by simp, by simp⟩
theorem Rdr.off {w w' : World} {g g' : Nat} {l : List UInt8} {e : Nat} (h : Rdr w g l e) (hg : w.grownBy w' (some g')) (hne : g ≠ g') : Rdr w' g l e := by
  have hb := hg.block g h.lt (fun k => hne (Option.some.inj k))
  exact ⟨Nat.lt_of_lt_of_le h.lt hg.size, (World.cell?_of_block (a := ⟨g, 0, none⟩) hb).trans h.c0, (World.cell?_of_block (a := ⟨g, 1, none⟩) hb).trans h.c1, (World.frozen?_of_block (a := ⟨g, 0, none⟩) hb).trans h.f0, (World.frozen?_of_block (a := ⟨g, 1, none⟩) hb).trans h.f1⟩
theorem Below.read {w w1 w' : World} {g : Nat} (h : Below w.heap.size w w1) (hg : w1.grownBy w' (some g)) (hw : w.heap.size ≤ g) : Below w.heap.size w w' :=
  h.grown hg h.size fun k hk => by cases hk; exact hw
theorem ir_cast {v v' : Value} {g : Nat} {l l' : List UInt8} {e e' : Nat} {w : World} {P : Program} {f : FuncId} {args : Array Value} (h : Calls P f args w (Ir v g l e w)) (h1 : v = v') (h2 : l = l') (h3 : e = e') : Calls P f args w (Ir v' g l' e' w) := by
  subst h1; subst h2; subst h3; exact h
end Go.Proofs.YtcjaaijohapeaaaDoor
/-
  What is read of what was written, and what was written of what is read. No conditions.
-/
namespace Go.Proofs.YtcjaaijohapeaaaDoor
open Go.RowKit
theorem dv_uv : ∀ (l : List UInt8) (i n x k : Nat), dv i n l = (x, k, 0) → n < 128 ^ i → i ≤ 9 → ∃ y, x = n + y * 128 ^ i ∧ l.take (k - i) = uv y ∧ (0 < i → y ≠ 0) := by
  intro l
  induction l with
  | nil => intro i n x k h _ _; rw [dv] at h; cases h
  | cons b r ih =>
    intro i n x k h hn hi
    have hb := UInt8.toNat_lt b
    have hkk := (dv_le _ _ _ _ _ _ h hn hi).2.1 rfl
    rw [dv] at h
    split at h
    · cases h
    · split at h
      · rename_i h9 hb2
        obtain ⟨y, e1, e2, e3⟩ := ih _ _ _ _ h (or_lt2 n _ i hn (by omega)) (by omega)
        have hy := e3 (by omega)
        have hk2 := ((dv_le _ _ _ _ _ _ h (or_lt2 n _ i hn (by omega)) (by omega)).2.1 rfl).1
        refine ⟨b.toNat % 128 + 128 * y, ?_, ?_, fun _ => by omega⟩
        · rw [e1, Nat.pow_succ, Nat.add_mul, ← Nat.add_assoc, Nat.mul_comm 128 y, Nat.mul_assoc, Nat.mul_comm 128]
        · rw [uv_big (by omega), show (b.toNat % 128 + 128 * y) / 128 = y by omega, show 128 + (b.toNat % 128 + 128 * y) % 128 = b.toNat by omega, UInt8.ofNat_toNat, ← e2, show k - i = (k - (i + 1)) + 1 by omega, List.take_succ_cons]
      · split at h
        · cases h
        · rename_i h9 hb2 hc
          cases h
          refine ⟨b.toNat, ?_, ?_, fun h1 h2 => hc ⟨h2, h1⟩⟩
          · rw [Nat.mod_eq_of_lt (show b.toNat < 128 by omega)]
          · rw [uv_small (by omega), show i + 1 - i = 1 by omega, UInt8.ofNat_toNat]; rfl
theorem front_uv {l : List UInt8} (h : eU l = 0) : l.take (kU l) = uv (nU l) := by
  have hd := dv_all l
  rw [h] at hd
  obtain ⟨y, e1, e2, -⟩ := dv_uv l 0 0 _ _ hd (by decide) (by decide)
  rw [e1, Nat.pow_zero, Nat.mul_one, Nat.zero_add, ← e2]
  rfl
theorem front_tv {l : List UInt8} {M : Int} (h : eT M l = 0) : l.take (kT l) = tv (tT M l) ∧ kT l ≤ l.length ∧ (rT M l).length = l.length - kT l := by
  have h3 : eS M 3 l = 0 := by
    by_cases h3 : eS M 3 l = 0
    · exact h3
    · unfold eT at h; rw [if_pos h3] at h; exact absurd h h3
  have hlen : ¬ (rU l).length < nU l := by
    intro h4; unfold eT at h; rw [if_neg (by omega), if_pos h4] at h; cases h
  have hU : eU l = 0 := by
    by_cases hU : eU l = 0
    · exact hU
    · unfold eS at h3; rw [if_pos hU] at h3; exact absurd h3 hU
  have hk := kU_len hU
  have hr := rU_eq hU
  have e1 : tT M l = (rU l).take (nU l) := by unfold tT; rw [if_pos h]
  have e2 : rT M l = (rU l).drop (nU l) := by unfold rT; rw [if_pos h]
  have hrl : (rU l).length = l.length - kU l := by rw [hr, List.length_drop]
  refine ⟨?_, by unfold kT; omega, by rw [e2, List.length_drop, hrl]; unfold kT; omega⟩
  unfold tv kT
  rw [e1, List.length_take, Nat.min_eq_left (by omega), ← front_uv hU, hr]
  rw [List.take_add]
theorem dv_app (r : List UInt8) : ∀ (n i m : Nat), n * 128 ^ i + m < 18446744073709551616 → m < 128 ^ i → i ≤ 9 → (0 < i → n ≠ 0) → dv i m (uv n ++ r) = (m + n * 128 ^ i, i + (uv n).length, 0) := by
  intro n
  induction n using Nat.strongRecOn with
  | _ n ih =>
    intro i m h1 h2 h3 h4
    by_cases hn : n < 128
    · rw [uv_small hn, List.singleton_append, dv, of_toNat (by omega)]
      have h9 : ¬ (i = 9 ∧ 1 < n) := by
        rintro ⟨rfl, h⟩
        have := Nat.mul_le_mul_right (128 ^ 9) (show 2 ≤ n by omega)
        omega
      rw [if_neg h9, if_neg (by omega), if_neg (fun h => h4 h.2 h.1), Nat.mod_eq_of_lt hn]
      rfl
    · have h8 : i ≤ 8 := by
        rcases Nat.lt_or_ge i 9 with h | h
        · omega
        · obtain rfl : i = 9 := by omega
          have := Nat.mul_le_mul_right (128 ^ 9) (show 128 ≤ n by omega)
          omega
      rw [uv_big hn, List.cons_append, dv, of_toNat (by omega), if_neg (by omega), if_pos (by omega), show (128 + n % 128) % 128 = n % 128 by omega]
      have e : n / 128 * 128 ^ (i + 1) + (m + n % 128 * 128 ^ i) = m + n * 128 ^ i := by
        rw [Nat.pow_succ, Nat.mul_comm (128 ^ i) 128, ← Nat.mul_assoc]
        have : n * 128 ^ i = n / 128 * 128 * 128 ^ i + n % 128 * 128 ^ i := by rw [← Nat.add_mul]; congr 1; omega
        omega
      rw [ih (n / 128) (by omega) (i + 1) _ (by rw [e]; omega) (or_lt2 m _ i h2 (by omega)) (by omega) (fun _ => by omega), List.length_cons]
      congr 1
      · omega
      · congr 1; omega
theorem dv_front (n : Nat) (r : List UInt8) (h : n ≤ 18446744073709551615) : dv 0 0 (uv n ++ r) = (n, (uv n).length, 0) := by
  have := dv_app r n 0 0 (by omega) (by decide) (by decide) (fun h => absurd h (by decide))
  rw [this]
  simp
theorem front_U {n : Nat} {r : List UInt8} (h : n ≤ 18446744073709551615) : nU (uv n ++ r) = n ∧ eU (uv n ++ r) = 0 ∧ rU (uv n ++ r) = r := by
  have d := dv_front n r h
  have e : eU (uv n ++ r) = 0 := by unfold eU; rw [d]
  refine ⟨by unfold nU; rw [d], e, ?_⟩
  unfold rU
  rw [if_pos e, d]
  simp
theorem front_S {M : Int} {n : Nat} {r : List UInt8} (h : n ≤ 18446744073709551615) (hM : (n : Int) ≤ M) (c : Nat) : nS M (uv n ++ r) = n ∧ eS M c (uv n ++ r) = 0 ∧ rS M (uv n ++ r) = r := by
  obtain ⟨h1, h2, h3⟩ := front_U (r := r) h
  have e : ∀ c, eS M c (uv n ++ r) = 0 := fun c => by unfold eS; rw [if_neg (by omega), if_neg (by omega)]
  exact ⟨by unfold nS; rw [if_pos (e 1), h1], e c, by unfold rS; rw [if_pos (e 1), h3]⟩
theorem front_T {M : Int} {s r : List UInt8} (h : s.length ≤ 100000) (hM : (s.length : Int) ≤ M) : tT M (tv s ++ r) = s ∧ eT M (tv s ++ r) = 0 ∧ rT M (tv s ++ r) = r := by
  have ht : tv s ++ r = uv s.length ++ (s ++ r) := by unfold tv; rw [List.append_assoc]
  rw [ht]
  obtain ⟨h1, h2, h3⟩ := front_U (n := s.length) (r := s ++ r) (by omega)
  obtain ⟨_, h4, _⟩ := front_S (M := M) (n := s.length) (r := s ++ r) (by omega) hM 3
  have e : eT M (uv s.length ++ (s ++ r)) = 0 := by unfold eT; rw [if_neg (by omega), if_neg (by rw [h3, h1, List.length_append]; omega)]
  refine ⟨?_, e, ?_⟩
  · unfold tT; rw [if_pos e, h3, h1]; simp
  · unfold rT; rw [if_pos e, h3, h1]; simp
end Go.Proofs.YtcjaaijohapeaaaDoor
/-
  A reader's steps as data; the reference's reader beside the program's. No conditions beyond those that each names.
-/
namespace Go.Proofs.YtcjaaijohapeaaaDoor
open Go.RowKit
/-- A reader: what is left, and its first error. -/
structure Rs where
  l : List UInt8
  e : Nat
def Rs.small (r : Rs) (M : Int) : Rs := ⟨aL r.e (eS M 4 r.l) r.l (rS M r.l), aE r.e (eS M 4 r.l)⟩
def Rs.sval (r : Rs) (M : Int) : Nat := if r.e = 0 then nS M r.l else 0
def Rs.text (r : Rs) (M : Int) : Rs := ⟨aL r.e (eT M r.l) r.l (rT M r.l), aE r.e (eT M r.l)⟩
def Rs.tval (r : Rs) (M : Int) : List UInt8 := if r.e = 0 then tT M r.l else []
theorem rS_len (M : Int) (l : List UInt8) : (rS M l).length ≤ l.length := by unfold rS; split; exact rU_len l; simp
theorem rT_len (M : Int) (l : List UInt8) : (rT M l).length ≤ l.length := by unfold rT; split; rw [List.length_drop]; have := rU_len l; omega; simp
theorem Rs.small_len (r : Rs) (M : Int) : (r.small M).l.length ≤ r.l.length := by unfold Rs.small aL; simp only; split; exact rS_len M r.l; exact Nat.le_refl _
theorem Rs.text_len (r : Rs) (M : Int) : (r.text M).l.length ≤ r.l.length := by unfold Rs.text aL; simp only; split; exact rT_len M r.l; exact Nat.le_refl _
theorem rsSmall_any (g : Nat) (r : Rs) (M : Int) (w : World) (hl : r.l.length ≤ 9223372036854775000) (h1 : -9223372036854775808 ≤ M) (h2 : M ≤ 9223372036854775807) (h : Rdr w g r.l r.e) :
    Calls Tryd.prog 34 #[.pointer (some ⟨g, 0, none⟩), .int .i64 M] w (Ir (.int .i64 (r.sval M : Int)) g (r.small M).l (r.small M).e w) := by
  have k := rSmall_any g r.l r.e M w hl h1 h2 h
  have hv : (if r.e = 0 then Value.int .i64 (nS M r.l : Int) else .int .i64 0) = .int .i64 (r.sval M : Int) := by unfold Rs.sval; split <;> rfl
  rw [hv] at k
  exact k
theorem rsText_any (g : Nat) (r : Rs) (M : Int) (w : World) (hl : r.l.length ≤ 9223372036854775000) (h1 : -9223372036854775808 ≤ M) (h2 : M ≤ 9223372036854775807) (h : Rdr w g r.l r.e) :
    Calls Tryd.prog 35 #[.pointer (some ⟨g, 0, none⟩), .int .i64 M] w (Ir (.string (bs (r.tval M))) g (r.text M).l (r.text M).e w) := by
  have k := rText_any g r.l r.e M w hl h1 h2 h
  have hv : (if r.e = 0 then Value.string (bs (tT M r.l)) else .string ⟨#[]⟩) = .string (bs (r.tval M)) := by unfold Rs.tval; split <;> rfl
  rw [hv] at k
  exact k
/-- The reference's reader stands where the program's does. -/
structure Rq (S : List UInt8) (r : Rs) (a : Nat) : Prop where
  ha : a ≤ S.length
  hl : r.e = 0 → r.l = S.drop a
theorem Rq.start (S : List UInt8) : Rq S ⟨S, 0⟩ 0 := ⟨Nat.zero_le _, fun _ => rfl⟩
def qS (S : List UInt8) (r : Rs) (a : Nat) (M : Int) : Nat := aP r.e (eS M 4 (S.drop a)) a (kU (S.drop a))
def qT (S : List UInt8) (r : Rs) (a : Nat) (M : Int) : Nat := aP r.e (eT M (S.drop a)) a (kT (S.drop a))
theorem eS_eU {M : Int} {n : Nat} {l : List UInt8} (h : eS M n l = 0) : eU l = 0 := by
  by_cases hU : eU l = 0
  · exact hU
  · unfold eS at h; rw [if_pos hU] at h; exact absurd h hU
theorem eT_eS {M : Int} {l : List UInt8} (h : eT M l = 0) : eS M 3 l = 0 := by
  by_cases hU : eS M 3 l = 0
  · exact hU
  · unfold eT at h; rw [if_pos hU] at h; exact absurd h hU
theorem Rq.small {S : List UInt8} {r : Rs} {a : Nat} (h : Rq S r a) (M : Int) : Rq S (r.small M) (qS S r a M) := by
  unfold qS Rs.small
  by_cases h0 : r.e = 0
  · have hl := h.hl h0
    rw [h0, ← hl]
    by_cases h1 : eS M 4 r.l = 0
    · have hU := eS_eU h1
      have hk := kU_len hU
      have e1 : aP 0 (eS M 4 r.l) a (kU r.l) = a + kU r.l := by unfold aP; rw [if_pos ⟨rfl, h1⟩]
      have hlen : r.l.length = S.length - a := by rw [hl, List.length_drop]
      have := h.ha
      refine ⟨by rw [e1]; omega, fun _ => ?_⟩
      have e2 : rS M r.l = rU r.l := by unfold rS; rw [if_pos ((nS_eq M 4 r.l (by decide)).1 h1)]
      show aL 0 (eS M 4 r.l) r.l (rS M r.l) = S.drop (aP 0 (eS M 4 r.l) a (kU r.l))
      rw [e1, show aL 0 (eS M 4 r.l) r.l (rS M r.l) = rS M r.l by unfold aL; rw [if_pos ⟨rfl, h1⟩], e2, rU_eq hU, hl, List.drop_drop]
    · rw [aP0 _ _ _ h1]
      exact ⟨h.ha, fun e => absurd (show aE 0 (eS M 4 r.l) = 0 from e) (by unfold aE; rw [if_pos rfl]; exact h1)⟩
  · rw [aP1 _ _ _ h0]
    exact ⟨h.ha, fun e => absurd (show aE r.e (eS M 4 r.l) = 0 from e) (by rw [aE1 _ h0]; exact h0)⟩
theorem Rq.text {S : List UInt8} {r : Rs} {a : Nat} (h : Rq S r a) (M : Int) : Rq S (r.text M) (qT S r a M) := by
  unfold qT Rs.text
  by_cases h0 : r.e = 0
  · have hl := h.hl h0
    rw [h0, ← hl]
    by_cases h1 : eT M r.l = 0
    · have hU := eS_eU (eT_eS h1)
      have hk := kU_len hU
      have hlt : ¬ (rU r.l).length < nU r.l := by
        intro h4; unfold eT at h1; rw [if_neg (by have := eT_eS (M := M) (l := r.l) (by unfold eT; exact h1); omega), if_pos h4] at h1; cases h1
      have e1 : aP 0 (eT M r.l) a (kT r.l) = a + kT r.l := by unfold aP; rw [if_pos ⟨rfl, h1⟩]
      have hlen : r.l.length = S.length - a := by rw [hl, List.length_drop]
      have hr : (rU r.l).length = r.l.length - kU r.l := by rw [rU_eq hU, List.length_drop]
      have := h.ha
      refine ⟨by rw [e1]; unfold kT; omega, fun _ => ?_⟩
      have e2 : rT M r.l = (rU r.l).drop (nU r.l) := by unfold rT; rw [if_pos h1]
      show aL 0 (eT M r.l) r.l (rT M r.l) = S.drop (aP 0 (eT M r.l) a (kT r.l))
      rw [e1, show aL 0 (eT M r.l) r.l (rT M r.l) = rT M r.l by unfold aL; rw [if_pos ⟨rfl, h1⟩], e2, rU_eq hU, List.drop_drop]
      unfold kT
      rw [hl, List.drop_drop]
    · rw [aP0 _ _ _ h1]
      exact ⟨h.ha, fun e => absurd (show aE 0 (eT M r.l) = 0 from e) (by unfold aE; rw [if_pos rfl]; exact h1)⟩
  · rw [aP1 _ _ _ h0]
    exact ⟨h.ha, fun e => absurd (show aE r.e (eT M r.l) = 0 from e) (by rw [aE1 _ h0]; exact h0)⟩
theorem Rq.rd {S : List UInt8} {r : Rs} {a : Nat} (h : Rq S r a) (M : Int) (w : World) (hS : S.length ≤ 9223372036854775000) (h1 : -9223372036854775808 ≤ M) (h2 : M ≤ 9223372036854775807) :
    Calls Tryd.prog 44 #[.agg #[.string (bs S), .int .i64 (a : Int), .int .i64 (r.e : Int)], .int .i64 M] w (Ib (.tuple #[.agg #[.string (bs S), .int .i64 (qS S r a M : Int), .int .i64 ((r.small M).e : Int)], .int .i64 (r.sval M : Int)]) w) := by
  have k := refS_any S a r.e M w hS h.ha h1 h2
  unfold rs at k
  by_cases h0 : r.e = 0
  · have hl := h.hl h0
    have e1 : (r.small M).e = aE r.e (eS M 4 (S.drop a)) := by unfold Rs.small; rw [hl]
    have e2 : r.sval M = if r.e = 0 then nS M (S.drop a) else 0 := by unfold Rs.sval; rw [hl]
    rw [e1, e2]
    exact k
  · have e1 : (r.small M).e = aE r.e (eS M 4 (S.drop a)) := by unfold Rs.small; rw [aE1 _ h0, aE1 _ h0]
    have e2 : r.sval M = if r.e = 0 then nS M (S.drop a) else 0 := by unfold Rs.sval; rw [if_neg h0, if_neg h0]
    rw [e1, e2]
    exact k
theorem Rq.rdT {S : List UInt8} {r : Rs} {a : Nat} (h : Rq S r a) (M : Int) (w : World) (hS : S.length ≤ 9223372036854775000) (h1 : -9223372036854775808 ≤ M) (h2 : M ≤ 9223372036854775807) :
    Calls Tryd.prog 45 #[.agg #[.string (bs S), .int .i64 (a : Int), .int .i64 (r.e : Int)], .int .i64 M] w (Ib (.tuple #[.agg #[.string (bs S), .int .i64 (qT S r a M : Int), .int .i64 ((r.text M).e : Int)], .string (bs (r.tval M))]) w) := by
  have k := refT_any S a r.e M w hS h.ha h1 h2
  unfold rs at k
  by_cases h0 : r.e = 0
  · have hl := h.hl h0
    have e1 : (r.text M).e = aE r.e (eT M (S.drop a)) := by unfold Rs.text; rw [hl]
    have e2 : r.tval M = if r.e = 0 then tT M (S.drop a) else [] := by unfold Rs.tval; rw [hl]
    rw [e1, e2]
    exact k
  · have e1 : (r.text M).e = aE r.e (eT M (S.drop a)) := by unfold Rs.text; rw [aE1 _ h0, aE1 _ h0]
    have e2 : r.tval M = if r.e = 0 then tT M (S.drop a) else [] := by unfold Rs.tval; rw [if_neg h0, if_neg h0]
    rw [e1, e2]
    exact k
theorem Rq.rdE {S : List UInt8} {r : Rs} {a : Nat} (h : Rq S r a) (w : World) :
    Calls Tryd.prog 46 #[.agg #[.string (bs S), .int .i64 (a : Int), .int .i64 (r.e : Int)]] w (Ib (.int .i64 (eN r.l r.e : Nat)) w) := by
  have k := refEnd_any S a r.e w h.ha
  unfold rs at k
  have e1 : eN r.l r.e = eN (S.drop a) r.e := by
    by_cases h0 : r.e = 0
    · rw [h.hl h0]
    · unfold eN; rw [if_pos h0, if_pos h0]
  rw [e1]
  exact k
theorem Rs.small_front {n : Nat} {M : Int} (r : List UInt8) (h : n ≤ 18446744073709551615) (hM : (n : Int) ≤ M) : (Rs.mk (uv n ++ r) 0).small M = ⟨r, 0⟩ ∧ (Rs.mk (uv n ++ r) 0).sval M = n := by
  obtain ⟨h1, h2, h3⟩ := front_S (r := r) h hM 4
  constructor
  · show Rs.mk (aL 0 (eS M 4 (uv n ++ r)) (uv n ++ r) (rS M (uv n ++ r))) (aE 0 (eS M 4 (uv n ++ r))) = _
    rw [h2, h3]; rfl
  · show (if (0 : Nat) = 0 then nS M (uv n ++ r) else 0) = n
    rw [if_pos rfl, h1]
theorem Rs.text_front {s : List UInt8} {M : Int} (r : List UInt8) (h : s.length ≤ 100000) (hM : (s.length : Int) ≤ M) : (Rs.mk (tv s ++ r) 0).text M = ⟨r, 0⟩ ∧ (Rs.mk (tv s ++ r) 0).tval M = s := by
  obtain ⟨h1, h2, h3⟩ := front_T (r := r) h hM
  constructor
  · show Rs.mk (aL 0 (eT M (tv s ++ r)) (tv s ++ r) (rT M (tv s ++ r))) (aE 0 (eT M (tv s ++ r))) = _
    rw [h2, h3]; rfl
  · show (if (0 : Nat) = 0 then tT M (tv s ++ r) else []) = s
    rw [if_pos rfl, h1]
theorem Rs.small_back {r : Rs} {M : Int} (h : (r.small M).e = 0) : r.e = 0 ∧ r.l = uv (r.sval M) ++ (r.small M).l := by
  have h0 : r.e = 0 := by
    by_cases h0 : r.e = 0
    · exact h0
    · exact absurd (show aE r.e (eS M 4 r.l) = 0 from h) (by rw [aE1 _ h0]; exact h0)
  have h1 : eS M 4 r.l = 0 := by
    have : aE r.e (eS M 4 r.l) = 0 := h
    unfold aE at this
    rw [if_pos h0] at this
    exact this
  have hU := eS_eU h1
  have h2 := (nS_eq M 4 r.l (by decide)).1 h1
  have e1 : (r.small M).l = rU r.l := by
    show aL r.e (eS M 4 r.l) r.l (rS M r.l) = _
    unfold aL rS
    rw [if_pos ⟨h0, h1⟩, if_pos h2]
  have e2 : r.sval M = nU r.l := by
    unfold Rs.sval nS
    rw [if_pos h0, if_pos h2]
  refine ⟨h0, ?_⟩
  rw [e1, e2, rU_eq hU, ← front_uv hU, List.take_append_drop]
theorem Rs.text_back {r : Rs} {M : Int} (h : (r.text M).e = 0) : r.e = 0 ∧ r.l = tv (r.tval M) ++ (r.text M).l := by
  have h0 : r.e = 0 := by
    by_cases h0 : r.e = 0
    · exact h0
    · exact absurd (show aE r.e (eT M r.l) = 0 from h) (by rw [aE1 _ h0]; exact h0)
  have h1 : eT M r.l = 0 := by
    have : aE r.e (eT M r.l) = 0 := h
    unfold aE at this
    rw [if_pos h0] at this
    exact this
  have hU := eS_eU (eT_eS h1)
  have e1 : (r.text M).l = r.l.drop (kT r.l) := by
    show aL r.e (eT M r.l) r.l (rT M r.l) = _
    unfold aL rT
    rw [if_pos ⟨h0, h1⟩, if_pos h1, rU_eq hU, List.drop_drop]; rfl
  have e2 : r.tval M = tT M r.l := by
    unfold Rs.tval
    rw [if_pos h0]
  refine ⟨h0, ?_⟩
  rw [e1, e2, ← (front_tv h1).1, List.take_append_drop]
end Go.Proofs.YtcjaaijohapeaaaDoor
/-
  Variables of several cells; rows that a call owns; copies between rows of elements of several cells. No conditions beyond those that each names.
-/
namespace Go.Proofs.YtcjaaijohapeaaaDoor
open Go.RowKit Go.Shelf
theorem blk_add (a : Addr) (i : Nat) : (a.add i).block = a.block := by unfold Addr.add; split <;> rfl
theorem blk_lt {w : World} {p : Addr} {v : Value} (h : w.cell? p = some v) : p.block < w.heap.size := World.block_lt_of_cell? w p h
theorem cell_next {w w' : World} (hb : Below w.heap.size w w') {p : Addr} {v : Value} (h : w.cell? p = some v) : w'.cell? p = some v := (hb.cell (blk_lt h)).trans h
/-- A variable of several cells at block b. -/
structure Bx (w : World) (b : Nat) (vs : List Value) : Prop where
  lt : b < w.heap.size
  at_ : ∀ j v, vs[j]? = some v → w.cell? ⟨b, j, none⟩ = some v ∧ w.frozen? ⟨b, j, none⟩ = false
theorem Bx.next {w w' : World} {b : Nat} {vs : List Value} (h : Bx w b vs) (hb : Below w.heap.size w w') : Bx w' b vs :=
  ⟨Nat.lt_of_lt_of_le h.lt hb.size, fun j v e => ⟨(hb.cell h.lt).trans (h.at_ j v e).1, (hb.frozen h.lt).trans (h.at_ j v e).2⟩⟩
theorem Bx.c {w : World} {b : Nat} {vs : List Value} (h : Bx w b vs) (j : Nat) {v : Value} (e : vs[j]? = some v) : w.cell? ⟨b, j, none⟩ = some v := (h.at_ j v e).1
theorem Bx.f {w : World} {b : Nat} {vs : List Value} (h : Bx w b vs) (j : Nat) {v : Value} (e : vs[j]? = some v) : w.frozen? ⟨b, j, none⟩ = false := (h.at_ j v e).2
theorem Bx.new1 (w : World) (t : TypeId) (x : Value) : Bx (w.alloc (Obj.cells #[x] t)) w.heap.size [x] :=
  ⟨by simp, fun j v e => by
    match j, e with
    | 0, e => cases e; exact ⟨by simp, by simp⟩⟩
theorem Bx.new2 (w : World) (t : TypeId) (x y : Value) : Bx (w.alloc (Obj.cells #[x, y] t)) w.heap.size [x, y] :=
  ⟨by simp, fun j v e => by
    match j, e with
    | 0, e => cases e; exact ⟨by simp, by simp⟩
    | 1, e => cases e; exact ⟨by simp, by simp⟩⟩
theorem Bx.new3 (w : World) (t : TypeId) (x y z : Value) : Bx (w.alloc (Obj.cells #[x, y, z] t)) w.heap.size [x, y, z] :=
  ⟨by simp, fun j v e => by
    match j, e with
    | 0, e => cases e; exact ⟨by simp, by simp⟩
    | 1, e => cases e; exact ⟨by simp, by simp⟩
    | 2, e => cases e; exact ⟨by simp, by simp⟩⟩
theorem ab1 (w : World) (o : Obj) : Below w.heap.size w (w.alloc o) := (Below.refl _ _).alloc (Nat.le_refl _) o
theorem ab2 (w : World) (o p : Obj) : Below w.heap.size w ((w.alloc o).alloc p) := (ab1 w o).alloc (by simp) p
theorem ab3 (w : World) (o p q : Obj) : Below w.heap.size w (((w.alloc o).alloc p).alloc q) := (ab2 w o p).alloc (by simp; omega) q
theorem Bx.put1 {w : World} {b : Nat} {vs : List Value} (h : Bx w b vs) (j : Nat) (v : Value) : Bx (w.setCell ⟨b, j, none⟩ v) b (vs.set j v) := by
  refine ⟨by simp; exact h.lt, fun i u e => ?_⟩
  have fr : (w.setCell ⟨b, j, none⟩ v).frozen? ⟨b, i, none⟩ = w.frozen? ⟨b, i, none⟩ := by simp
  rw [fr]
  by_cases hij : j = i
  · subst hij
    have hl : j < vs.length := by
      have := (List.getElem?_eq_some_iff.1 e).1
      simpa using this
    rw [List.getElem?_set_self hl] at e
    cases e
    have h1 := h.at_ j _ (List.getElem?_eq_getElem hl)
    exact ⟨World.cell?_setCell_same (h := h1.1) .., h1.2⟩
  · rw [List.getElem?_set_ne hij] at e
    have nn : (⟨b, j, none⟩ : Addr) ≠ ⟨b, i, none⟩ := fun e => hij (by injection e)
    exact ⟨(World.cell?_setCell_other (h := nn) ..).trans (h.at_ i u e).1, (h.at_ i u e).2⟩
theorem Bx.put2 {w : World} {b : Nat} {x y : Value} (h : Bx w b [x, y]) (x' y' : Value) : Bx ((w.setCell ⟨b, 0, none⟩ x').setCell ⟨b, 1, none⟩ y') b [x', y'] := (h.put1 0 x').put1 1 y'
theorem Bx.put3 {w : World} {b : Nat} {x y z : Value} (h : Bx w b [x, y, z]) (x' y' z' : Value) : Bx (((w.setCell ⟨b, 0, none⟩ x').setCell ⟨b, 1, none⟩ y').setCell ⟨b, 2, none⟩ z') b [x', y', z'] := ((h.put1 0 x').put1 1 y').put1 2 z'
theorem gb_set1 (w : World) (p : Addr) (u : Value) : w.grownBy (w.setCell p u) (some p.block) :=
  have b := Below.setCell (Below.refl 0 w) (Nat.zero_le p.block) u
  ⟨b.os, b.tape, b.output, b.size, fun i _ hne => Below.heap_setCell w p u i (fun e => hne (by rw [e]))⟩
theorem gb_set2 (w : World) (b : Nat) (x y : Value) : w.grownBy ((w.setCell ⟨b, 0, none⟩ x).setCell ⟨b, 1, none⟩ y) (some b) := (gb_set1 w ⟨b, 0, none⟩ x).trans (gb_set1 _ ⟨b, 1, none⟩ y)
theorem gb_set3 (w : World) (b : Nat) (x y z : Value) : w.grownBy (((w.setCell ⟨b, 0, none⟩ x).setCell ⟨b, 1, none⟩ y).setCell ⟨b, 2, none⟩ z) (some b) := (gb_set2 w b x y).trans (gb_set1 _ ⟨b, 2, none⟩ z)
theorem gbq_of {w w' : World} (hb : Below w.heap.size w w') (row : Option Nat) : w.grownBy w' row := ⟨hb.os, hb.tape, hb.output, hb.size, fun i hi _ => hb.block i hi⟩
theorem own_next {w w' : World} {base : Nat} {e : TypeId} {z n : Nat} {v : Value} {xs : List Value} (h : w.ownsRow base e z v n xs) (hb : Below w.heap.size w w') : w'.ownsRow base e z v n xs := by
  cases hv : v.ownBlock with
  | none => exact h.kept (gbq_of hb none) (.inl hv)
  | some g => exact h.kept (gbq_of hb none) (.inr (by rw [hv]; simp))
theorem own_mono {w : World} {base base' : Nat} {e : TypeId} {z n : Nat} {v : Value} {xs : List Value} (h : w.ownsRow base e z v n xs) (hb : base' ≤ base) : w.ownsRow base' e z v n xs := by
  refine ⟨h.1, ?_⟩
  rcases h.2 with h1 | ⟨g, cap, cur, h1, h2, h3⟩
  · exact .inl h1
  · exact .inr ⟨g, cap, cur, h1, Nat.le_trans hb h2, h3⟩
theorem spot_none0 {w : World} {a : Addr} {v : Value} (h : w.cell? a = some v) : a.spot = none := by
  unfold World.cell? at h
  split at h
  · split at h
    · cases h
    · rename_i h1; simpa using h1
  · cases h
theorem own_some {w : World} {base : Nat} {e : TypeId} {z n d : Nat} {B : Option Addr} {xs : List Value} (h : w.ownsRow base e z (.slice B n d) n xs) (hn : n ≠ 0) : ∃ g, B = some ⟨g, 0, none⟩ := by
  rcases h.2 with ⟨-, h⟩ | ⟨g, cap, cur, h, -⟩
  · exact absurd h hn
  · injection h with h; exact ⟨g, h⟩
theorem run_copy_rowN {P : Program} (w : World) (dT sT ty elem : TypeId) (z : Nat) (g o dLen dCap : Nat) (a : Addr) (sLen sCap : Nat) (cur : Array Value) (t : TypeId) (cs : List Value)
    (hu : P.underlying dT = some (.slice elem)) (hs : (P.info? elem).map (·.size) = some z) (hg : w.heap[g]? = some (.cells cur t (0, 0))) (hn : cs.length = Nat.min sLen dLen * z)
    (hsrc : ∀ j v, cs[j]? = some v → w.cell? (a.add j) = some v) (hfit : o + cs.length ≤ cur.size) (h1 : ∀ v ∈ cs, v.oneCell' = true) :
    (Builtin.copy_ #[dT, sT] ty #[.slice (some ⟨g, o, none⟩) dLen dCap, .slice (some a) sLen sCap]).run P w =
      .ok (goInt (Nat.min sLen dLen)) (w.setRow g (cur.toList.take o ++ cs ++ cur.toList.drop (o + cs.length)).toArray) := by
  have hl := run_loadCells_list (P := P) w a cs hsrc
  have hst := run_storeCells_at P g o t cs 0 cur w hg (by simpa using hfit) h1
  cases hq : P.info? elem with
  | none => simp [hq] at hs
  | some i =>
    have hi : i.size = z := by simpa [hq] using hs
    simp [Builtin.copy_, run_underlying hu, Builtin.lenOf, Builtin.firstCells, sizeOf, typeInfo, hq, hi, ← hn, hl, hst]
theorem cell_lit {w : World} {g j : Nat} {cur : Array Value} {t : TypeId} {fr : Nat × Nat} (hg : w.heap[g]? = some (.cells cur t fr)) : w.cell? ⟨g, j, none⟩ = cur[j]? := by
  simp [World.cell?, hg]
theorem shape_lit {w : World} {g : Nat} {cur : Array Value} {t : TypeId} {fr : Nat × Nat} (hg : w.heap[g]? = some (.cells cur t fr)) : w.shape? g = some (t, cur.size) := by
  simp [World.shape?, hg]
theorem frozen_lit {w : World} {g j : Nat} {cur : Array Value} {t : TypeId} (hg : w.heap[g]? = some (.cells cur t (0, 0))) : w.frozen? ⟨g, j, none⟩ = false := by
  simp [World.frozen?, hg]
theorem gb_setRow (w : World) (b : Nat) (cs : Array Value) : w.grownBy (w.setRow b cs) (some b) := ⟨rfl, rfl, rfl, by simp [World.setRow], fun i _ h => setRow_other w b i cs (fun e => h (by rw [e]))⟩
/-- One element of z cells put ahead of another: the row as two copies leave it. -/
theorem splice2 {L xs X : List Value} {z n d i : Nat} (hL : L.length = d * z) (hx : L.take (n * z) = xs) (hi : i < n) (hd : n + 1 ≤ d) (hX : X.length = z) :
    ∃ R, ((L.take ((i + 1) * z) ++ xs.drop (i * z) ++ L.drop ((i + 1) * z + (xs.drop (i * z)).length)).take (i * z) ++ X ++ (L.take ((i + 1) * z) ++ xs.drop (i * z) ++ L.drop ((i + 1) * z + (xs.drop (i * z)).length)).drop (i * z + X.length)) = xs.take (i * z) ++ X ++ xs.drop (i * z) ++ R ∧ (xs.take (i * z) ++ X ++ xs.drop (i * z)).length = (n + 1) * z ∧ R.length = d * z - (n + 1) * z := by
  have hm : (i + 1) * z = i * z + z := by rw [Nat.add_mul, Nat.one_mul]
  have hm2 : (n + 1) * z = n * z + z := by rw [Nat.add_mul, Nat.one_mul]
  have h1 : (i + 1) * z ≤ n * z := Nat.mul_le_mul_right z hi
  have h2 : (n + 1) * z ≤ d * z := Nat.mul_le_mul_right z hd
  have hxl : xs.length = n * z := by rw [← hx, List.length_take, hL]; omega
  have h3 : (L.take ((i + 1) * z)).length = i * z + z := by rw [List.length_take, hL]; omega
  refine ⟨L.drop ((i + 1) * z + (xs.drop (i * z)).length), ?_, ?_, ?_⟩
  · have e1 : (L.take ((i + 1) * z) ++ xs.drop (i * z) ++ L.drop ((i + 1) * z + (xs.drop (i * z)).length)).take (i * z) = xs.take (i * z) := by
      rw [List.append_assoc, List.take_append_of_le_length (by rw [h3]; omega), List.take_take, Nat.min_eq_left (by omega), ← hx, List.take_take, Nat.min_eq_left (by omega)]
    have e2 : (L.take ((i + 1) * z) ++ xs.drop (i * z) ++ L.drop ((i + 1) * z + (xs.drop (i * z)).length)).drop (i * z + X.length) = xs.drop (i * z) ++ L.drop ((i + 1) * z + (xs.drop (i * z)).length) := by
      rw [List.append_assoc, List.drop_append, List.drop_eq_nil_of_le (by rw [h3, hX]; omega), h3, hX, Nat.sub_self, List.drop_zero, List.nil_append]
    rw [e1, e2, ← List.append_assoc]
  · rw [List.length_append, List.length_append, List.length_take, List.length_drop, hxl, hX]; omega
  · rw [List.length_drop, List.length_drop, hL, hxl]; omega
theorem take_get {α : Type} {l : List α} {m k : Nat} {v : α} (h : (l.take m)[k]? = some v) : l[k]? = some v := by
  rw [List.getElem?_take] at h
  split at h
  · exact h
  · cases h
theorem heap_newI (w : World) (o : Obj) : (w.alloc o).heap[w.heap.size]? = some o := by
  rw [show (w.alloc o).heap = w.heap.push o from rfl]
  exact Array.getElem?_push_size
theorem zc_size (z : Array Value) (n : Nat) : (Builtin.zeroCells z n).size = n * z.size := by simp [Builtin.zeroCells]
/-- One element put ahead of another in a new row. -/
theorem splice3 {L xs X : List Value} {z n d i : Nat} (hL : L.length = d * z) (hx : L.take (i * z) = xs.take (i * z)) (hxl : xs.length = n * z) (hi : i < n) (hd : n + 1 ≤ d) (hX : X.length = z) :
    ∃ R, ((L.take (i * z) ++ X ++ L.drop (i * z + X.length)).take ((i + 1) * z) ++ xs.drop (i * z) ++ (L.take (i * z) ++ X ++ L.drop (i * z + X.length)).drop ((i + 1) * z + (xs.drop (i * z)).length)) = xs.take (i * z) ++ X ++ xs.drop (i * z) ++ R ∧ (xs.take (i * z) ++ X ++ xs.drop (i * z)).length = (n + 1) * z ∧ R.length = d * z - (n + 1) * z ∧ (L.take (i * z) ++ X ++ L.drop (i * z + X.length)).length = d * z := by
  have hm : (i + 1) * z = i * z + z := by rw [Nat.add_mul, Nat.one_mul]
  have hm2 : (n + 1) * z = n * z + z := by rw [Nat.add_mul, Nat.one_mul]
  have h1 : (i + 1) * z ≤ n * z := Nat.mul_le_mul_right z hi
  have h2 : (n + 1) * z ≤ d * z := Nat.mul_le_mul_right z hd
  have h3 : (xs.take (i * z) ++ X).length = i * z + z := by rw [List.length_append, List.length_take, hxl, hX]; omega
  have h4 : (L.take (i * z) ++ X ++ L.drop (i * z + X.length)).length = d * z := by rw [List.length_append, List.length_append, List.length_take, List.length_drop, hL, hX]; omega
  refine ⟨(L.take (i * z) ++ X ++ L.drop (i * z + X.length)).drop ((i + 1) * z + (xs.drop (i * z)).length), ?_, ?_, ?_, h4⟩
  · have e : (L.take (i * z) ++ X ++ L.drop (i * z + X.length)).take ((i + 1) * z) = xs.take (i * z) ++ X := by
      rw [hx, hm, List.take_append_of_le_length (by rw [h3]; exact Nat.le_refl _), List.take_of_length_le (by rw [h3]; exact Nat.le_refl _)]
    rw [e]
  · rw [List.length_append, h3, List.length_drop, hxl]; omega
  · rw [List.length_drop, h4, List.length_drop, hxl]; omega
theorem run_clear_rowN {P : Program} (w : World) (t ty e : TypeId) (i : TypeInfo) (z : Value) (b o k c : Nat) (cur : Array Value) (e' : TypeId) (hu : P.underlying t = some (.slice e)) (hi : P.info? e = some i) (hz : i.zero = some z) (hg : w.heap[b]? = some (.cells cur e' (0, 0))) (hk : 0 < k)
    (hfit : o + k * z.cells.size ≤ cur.size) (h1 : ∀ u ∈ (Builtin.zeroCells z.cells k).toList, u.oneCell' = true) :
    (Builtin.clear_ #[t] ty #[.slice (some ⟨b, o, none⟩) k c]).run P w = .ok (.tuple #[]) (w.setRow b (cur.toList.take o ++ (Builtin.zeroCells z.cells k).toList ++ cur.toList.drop (o + (Builtin.zeroCells z.cells k).toList.length)).toArray) := by
  have hst := run_storeCells_at P b o e' (Builtin.zeroCells z.cells k).toList 0 cur w hg (by rw [Nat.add_zero, Array.length_toList, zc_size]; exact hfit) h1
  obtain ⟨k', rfl⟩ : ∃ k', k = k' + 1 := ⟨k - 1, by omega⟩
  rw [Nat.add_zero] at hst
  simp [Builtin.clear_, run_underlying hu, zeroValue, typeInfo, hi, hz, hst]
end Go.Proofs.YtcjaaijohapeaaaDoor

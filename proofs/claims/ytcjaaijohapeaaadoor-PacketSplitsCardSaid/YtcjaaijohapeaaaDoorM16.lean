/-
  A new reader; the check of the chapter's examples returns true. No conditions.
-/
import Derived.Test.YtcjaaijohapeaaaDoorM15
import Derived.Test.YtcjaaijohapeaaaDoorM13
namespace Go.Proofs.YtcjaaijohapeaaaDoor
open Go.RowKit
/-- The call returns a new reader of l. -/
def Inew (l : List UInt8) (w : World) (e : Ending) (w' : World) : Prop := ∃ g, e = .returned (.pointer (some ⟨g, 0, none⟩)) ∧ w.heap.size ≤ g ∧ Below w.heap.size w w' ∧ Rdr w' g l 0
theorem new_any (l : List UInt8) (w : World) : Calls Tryd.prog 24 #[.string (bs l)] w (Inew l w) := by
  go_enter Tryd.func24, Tryd.ntmps24
  go_wp2_with fail
  go_ret
  exact ⟨w.heap.size, rfl, Nat.le_refl _, one _ _, by simp, by simp, by simp, by simp, by simp⟩
theorem Rdr.off {w w' : World} {g g' : Nat} {l : List UInt8} {e : Nat} (h : Rdr w g l e) (hg : w.grownBy w' (some g')) (hne : g ≠ g') : Rdr w' g l e := by
  have hb := hg.block g h.lt (fun k => hne (Option.some.inj k))
  exact ⟨Nat.lt_of_lt_of_le h.lt hg.size, (World.cell?_of_block (a := ⟨g, 0, none⟩) hb).trans h.c0, (World.cell?_of_block (a := ⟨g, 1, none⟩) hb).trans h.c1, (World.frozen?_of_block (a := ⟨g, 0, none⟩) hb).trans h.f0, (World.frozen?_of_block (a := ⟨g, 1, none⟩) hb).trans h.f1⟩
theorem Below.read {w w1 w' : World} {g : Nat} (h : Below w.heap.size w w1) (hg : w1.grownBy w' (some g)) (hw : w.heap.size ≤ g) : Below w.heap.size w w' :=
  h.grown hg h.size fun k hk => by cases hk; exact hw
theorem ir_cast {v v' : Value} {g : Nat} {l l' : List UInt8} {e e' : Nat} {w : World} {P : Program} {f : FuncId} {args : Array Value} (h : Calls P f args w (Ir v g l e w)) (h1 : v = v') (h2 : l = l') (h3 : e = e') : Calls P f args w (Ir v' g l' e' w) := by
  subst h1; subst h2; subst h3; exact h
end Go.Proofs.YtcjaaijohapeaaaDoor
/-
  What is read of what was written, and what was written of what is read. No conditions.
-/
namespace Go.Proofs.YtcjaaijohapeaaaDoor
open Go.RowKit
theorem dv_uv : ∀ (l : List UInt8) (i n x k : Nat), dv i n l = (x, k, 0) → n < 128 ^ i → i ≤ 9 → ∃ y, x = n + y * 128 ^ i ∧ l.take (k - i) = uv y ∧ (0 < i → y ≠ 0) := by
  intro l
  induction l with
  | nil => intro i n x k h _ _; rw [dv] at h; cases h
  | cons b r ih =>
    intro i n x k h hn hi
    have hb := UInt8.toNat_lt b
    have hkk := (dv_le _ _ _ _ _ _ h hn hi).2.1 rfl
    rw [dv] at h
    split at h
    · cases h
    · split at h
      · rename_i h9 hb2
        obtain ⟨y, e1, e2, e3⟩ := ih _ _ _ _ h (or_lt2 n _ i hn (by omega)) (by omega)
        have hy := e3 (by omega)
        have hk2 := ((dv_le _ _ _ _ _ _ h (or_lt2 n _ i hn (by omega)) (by omega)).2.1 rfl).1
        refine ⟨b.toNat % 128 + 128 * y, ?_, ?_, fun _ => by omega⟩
        · rw [e1, Nat.pow_succ, Nat.add_mul, ← Nat.add_assoc, Nat.mul_comm 128 y, Nat.mul_assoc, Nat.mul_comm 128]
        · rw [uv_big (by omega), show (b.toNat % 128 + 128 * y) / 128 = y by omega, show 128 + (b.toNat % 128 + 128 * y) % 128 = b.toNat by omega, UInt8.ofNat_toNat, ← e2, show k - i = (k - (i + 1)) + 1 by omega, List.take_succ_cons]
      · split at h
        · cases h
        · rename_i h9 hb2 hc
          cases h
          refine ⟨b.toNat, ?_, ?_, fun h1 h2 => hc ⟨h2, h1⟩⟩
          · rw [Nat.mod_eq_of_lt (show b.toNat < 128 by omega)]
          · rw [uv_small (by omega), show i + 1 - i = 1 by omega, UInt8.ofNat_toNat]; rfl
theorem front_uv {l : List UInt8} (h : eU l = 0) : l.take (kU l) = uv (nU l) := by
  have hd := dv_all l
  rw [h] at hd
  obtain ⟨y, e1, e2, -⟩ := dv_uv l 0 0 _ _ hd (by decide) (by decide)
  rw [e1, Nat.pow_zero, Nat.mul_one, Nat.zero_add, ← e2]
  rfl
theorem front_tv {l : List UInt8} {M : Int} (h : eT M l = 0) : l.take (kT l) = tv (tT M l) ∧ kT l ≤ l.length ∧ (rT M l).length = l.length - kT l := by
  have h3 : eS M 3 l = 0 := by
    by_cases h3 : eS M 3 l = 0
    · exact h3
    · unfold eT at h; rw [if_pos h3] at h; exact absurd h h3
  have hlen : ¬ (rU l).length < nU l := by
    intro h4; unfold eT at h; rw [if_neg (by omega), if_pos h4] at h; cases h
  have hU : eU l = 0 := by
    by_cases hU : eU l = 0
    · exact hU
    · unfold eS at h3; rw [if_pos hU] at h3; exact absurd h3 hU
  have hk := kU_len hU
  have hr := rU_eq hU
  have e1 : tT M l = (rU l).take (nU l) := by unfold tT; rw [if_pos h]
  have e2 : rT M l = (rU l).drop (nU l) := by unfold rT; rw [if_pos h]
  have hrl : (rU l).length = l.length - kU l := by rw [hr, List.length_drop]
  refine ⟨?_, by unfold kT; omega, by rw [e2, List.length_drop, hrl]; unfold kT; omega⟩
  unfold tv kT
  rw [e1, List.length_take, Nat.min_eq_left (by omega), ← front_uv hU, hr]
  rw [List.take_add]
theorem dv_app (r : List UInt8) : ∀ (n i m : Nat), n * 128 ^ i + m < 18446744073709551616 → m < 128 ^ i → i ≤ 9 → (0 < i → n ≠ 0) → dv i m (uv n ++ r) = (m + n * 128 ^ i, i + (uv n).length, 0) := by
  intro n
  induction n using Nat.strongRecOn with
  | _ n ih =>
    intro i m h1 h2 h3 h4
    by_cases hn : n < 128
    · rw [uv_small hn, List.singleton_append, dv, of_toNat (by omega)]
      have h9 : ¬ (i = 9 ∧ 1 < n) := by
        rintro ⟨rfl, h⟩
        have := Nat.mul_le_mul_right (128 ^ 9) (show 2 ≤ n by omega)
        omega
      rw [if_neg h9, if_neg (by omega), if_neg (fun h => h4 h.2 h.1), Nat.mod_eq_of_lt hn]
      rfl
    · have h8 : i ≤ 8 := by
        rcases Nat.lt_or_ge i 9 with h | h
        · omega
        · obtain rfl : i = 9 := by omega
          have := Nat.mul_le_mul_right (128 ^ 9) (show 128 ≤ n by omega)
          omega
      rw [uv_big hn, List.cons_append, dv, of_toNat (by omega), if_neg (by omega), if_pos (by omega), show (128 + n % 128) % 128 = n % 128 by omega]
      have e : n / 128 * 128 ^ (i + 1) + (m + n % 128 * 128 ^ i) = m + n * 128 ^ i := by
        rw [Nat.pow_succ, Nat.mul_comm (128 ^ i) 128, ← Nat.mul_assoc]
        have : n * 128 ^ i = n / 128 * 128 * 128 ^ i + n % 128 * 128 ^ i := by rw [← Nat.add_mul]; congr 1; omega
        omega
      rw [ih (n / 128) (by omega) (i + 1) _ (by rw [e]; omega) (or_lt2 m _ i h2 (by omega)) (by omega) (fun _ => by omega), List.length_cons]
      congr 1
      · omega
      · congr 1; omega
theorem dv_front (n : Nat) (r : List UInt8) (h : n ≤ 18446744073709551615) : dv 0 0 (uv n ++ r) = (n, (uv n).length, 0) := by
  have := dv_app r n 0 0 (by omega) (by decide) (by decide) (fun h => absurd h (by decide))
  rw [this]
  simp
theorem front_U {n : Nat} {r : List UInt8} (h : n ≤ 18446744073709551615) : nU (uv n ++ r) = n ∧ eU (uv n ++ r) = 0 ∧ rU (uv n ++ r) = r := by
  have d := dv_front n r h
  have e : eU (uv n ++ r) = 0 := by unfold eU; rw [d]
  refine ⟨by unfold nU; rw [d], e, ?_⟩
  unfold rU
  rw [if_pos e, d]
  simp
theorem front_S {M : Int} {n : Nat} {r : List UInt8} (h : n ≤ 18446744073709551615) (hM : (n : Int) ≤ M) (c : Nat) : nS M (uv n ++ r) = n ∧ eS M c (uv n ++ r) = 0 ∧ rS M (uv n ++ r) = r := by
  obtain ⟨h1, h2, h3⟩ := front_U (r := r) h
  have e : ∀ c, eS M c (uv n ++ r) = 0 := fun c => by unfold eS; rw [if_neg (by omega), if_neg (by omega)]
  exact ⟨by unfold nS; rw [if_pos (e 1), h1], e c, by unfold rS; rw [if_pos (e 1), h3]⟩
theorem front_T {M : Int} {s r : List UInt8} (h : s.length ≤ 100000) (hM : (s.length : Int) ≤ M) : tT M (tv s ++ r) = s ∧ eT M (tv s ++ r) = 0 ∧ rT M (tv s ++ r) = r := by
  have ht : tv s ++ r = uv s.length ++ (s ++ r) := by unfold tv; rw [List.append_assoc]
  rw [ht]
  obtain ⟨h1, h2, h3⟩ := front_U (n := s.length) (r := s ++ r) (by omega)
  obtain ⟨_, h4, _⟩ := front_S (M := M) (n := s.length) (r := s ++ r) (by omega) hM 3
  have e : eT M (uv s.length ++ (s ++ r)) = 0 := by unfold eT; rw [if_neg (by omega), if_neg (by rw [h3, h1, List.length_append]; omega)]
  refine ⟨?_, e, ?_⟩
  · unfold tT; rw [if_pos e, h3, h1]; simp
  · unfold rT; rw [if_pos e, h3, h1]; simp
end Go.Proofs.YtcjaaijohapeaaaDoor
/-
  A reader's steps as data; the reference's reader beside the program's. No conditions beyond those that each names.
-/
namespace Go.Proofs.YtcjaaijohapeaaaDoor
open Go.RowKit
/-- A reader: what is left, and its first error. -/
structure Rs where
  l : List UInt8
  e : Nat
def Rs.small (r : Rs) (M : Int) : Rs := ⟨aL r.e (eS M 4 r.l) r.l (rS M r.l), aE r.e (eS M 4 r.l)⟩
def Rs.sval (r : Rs) (M : Int) : Nat := if r.e = 0 then nS M r.l else 0
def Rs.text (r : Rs) (M : Int) : Rs := ⟨aL r.e (eT M r.l) r.l (rT M r.l), aE r.e (eT M r.l)⟩
def Rs.tval (r : Rs) (M : Int) : List UInt8 := if r.e = 0 then tT M r.l else []
theorem rS_len (M : Int) (l : List UInt8) : (rS M l).length ≤ l.length := by unfold rS; split; exact rU_len l; simp
theorem rT_len (M : Int) (l : List UInt8) : (rT M l).length ≤ l.length := by unfold rT; split; rw [List.length_drop]; have := rU_len l; omega; simp
theorem Rs.small_len (r : Rs) (M : Int) : (r.small M).l.length ≤ r.l.length := by unfold Rs.small aL; simp only; split; exact rS_len M r.l; exact Nat.le_refl _
theorem Rs.text_len (r : Rs) (M : Int) : (r.text M).l.length ≤ r.l.length := by unfold Rs.text aL; simp only; split; exact rT_len M r.l; exact Nat.le_refl _
theorem rsSmall_any (g : Nat) (r : Rs) (M : Int) (w : World) (hl : r.l.length ≤ 9223372036854775000) (h1 : -9223372036854775808 ≤ M) (h2 : M ≤ 9223372036854775807) (h : Rdr w g r.l r.e) :
    Calls Tryd.prog 34 #[.pointer (some ⟨g, 0, none⟩), .int .i64 M] w (Ir (.int .i64 (r.sval M : Int)) g (r.small M).l (r.small M).e w) := by
  have k := rSmall_any g r.l r.e M w hl h1 h2 h
  have hv : (if r.e = 0 then Value.int .i64 (nS M r.l : Int) else .int .i64 0) = .int .i64 (r.sval M : Int) := by unfold Rs.sval; split <;> rfl
  rw [hv] at k
  exact k
theorem rsText_any (g : Nat) (r : Rs) (M : Int) (w : World) (hl : r.l.length ≤ 9223372036854775000) (h1 : -9223372036854775808 ≤ M) (h2 : M ≤ 9223372036854775807) (h : Rdr w g r.l r.e) :
    Calls Tryd.prog 35 #[.pointer (some ⟨g, 0, none⟩), .int .i64 M] w (Ir (.string (bs (r.tval M))) g (r.text M).l (r.text M).e w) := by
  have k := rText_any g r.l r.e M w hl h1 h2 h
  have hv : (if r.e = 0 then Value.string (bs (tT M r.l)) else .string ⟨#[]⟩) = .string (bs (r.tval M)) := by unfold Rs.tval; split <;> rfl
  rw [hv] at k
  exact k
/-- The reference's reader stands where the program's does. -/
structure Rq (S : List UInt8) (r : Rs) (a : Nat) : Prop where
  ha : a ≤ S.length
  hl : r.e = 0 → r.l = S.drop a
theorem Rq.start (S : List UInt8) : Rq S ⟨S, 0⟩ 0 := ⟨Nat.zero_le _, fun _ => rfl⟩
def qS (S : List UInt8) (r : Rs) (a : Nat) (M : Int) : Nat := aP r.e (eS M 4 (S.drop a)) a (kU (S.drop a))
def qT (S : List UInt8) (r : Rs) (a : Nat) (M : Int) : Nat := aP r.e (eT M (S.drop a)) a (kT (S.drop a))
theorem eS_eU {M : Int} {n : Nat} {l : List UInt8} (h : eS M n l = 0) : eU l = 0 := by
  by_cases hU : eU l = 0
  · exact hU
  · unfold eS at h; rw [if_pos hU] at h; exact absurd h hU
theorem eT_eS {M : Int} {l : List UInt8} (h : eT M l = 0) : eS M 3 l = 0 := by
  by_cases hU : eS M 3 l = 0
  · exact hU
  · unfold eT at h; rw [if_pos hU] at h; exact absurd h hU
theorem Rq.small {S : List UInt8} {r : Rs} {a : Nat} (h : Rq S r a) (M : Int) : Rq S (r.small M) (qS S r a M) := by
  unfold qS Rs.small
  by_cases h0 : r.e = 0
  · have hl := h.hl h0
    rw [h0, ← hl]
    by_cases h1 : eS M 4 r.l = 0
    · have hU := eS_eU h1
      have hk := kU_len hU
      have e1 : aP 0 (eS M 4 r.l) a (kU r.l) = a + kU r.l := by unfold aP; rw [if_pos ⟨rfl, h1⟩]
      have hlen : r.l.length = S.length - a := by rw [hl, List.length_drop]
      have := h.ha
      refine ⟨by rw [e1]; omega, fun _ => ?_⟩
      have e2 : rS M r.l = rU r.l := by unfold rS; rw [if_pos ((nS_eq M 4 r.l (by decide)).1 h1)]
      show aL 0 (eS M 4 r.l) r.l (rS M r.l) = S.drop (aP 0 (eS M 4 r.l) a (kU r.l))
      rw [e1, show aL 0 (eS M 4 r.l) r.l (rS M r.l) = rS M r.l by unfold aL; rw [if_pos ⟨rfl, h1⟩], e2, rU_eq hU, hl, List.drop_drop]
    · rw [aP0 _ _ _ h1]
      exact ⟨h.ha, fun e => absurd (show aE 0 (eS M 4 r.l) = 0 from e) (by unfold aE; rw [if_pos rfl]; exact h1)⟩
  · rw [aP1 _ _ _ h0]
    exact ⟨h.ha, fun e => absurd (show aE r.e (eS M 4 r.l) = 0 from e) (by rw [aE1 _ h0]; exact h0)⟩
theorem Rq.text {S : List UInt8} {r : Rs} {a : Nat} (h : Rq S r a) (M : Int) : Rq S (r.text M) (qT S r a M) := by
  unfold qT Rs.text
  by_cases h0 : r.e = 0
  · have hl := h.hl h0
    rw [h0, ← hl]
    by_cases h1 : eT M r.l = 0
    · have hU := eS_eU (eT_eS h1)
      have hk := kU_len hU
      have hlt : ¬ (rU r.l).length < nU r.l := by
        intro h4; unfold eT at h1; rw [if_neg (by have := eT_eS (M := M) (l := r.l) (by unfold eT; exact h1); omega), if_pos h4] at h1; cases h1
      have e1 : aP 0 (eT M r.l) a (kT r.l) = a + kT r.l := by unfold aP; rw [if_pos ⟨rfl, h1⟩]
      have hlen : r.l.length = S.length - a := by rw [hl, List.length_drop]
      have hr : (rU r.l).length = r.l.length - kU r.l := by rw [rU_eq hU, List.length_drop]
      have := h.ha
      refine ⟨by rw [e1]; unfold kT; omega, fun _ => ?_⟩
      have e2 : rT M r.l = (rU r.l).drop (nU r.l) := by unfold rT; rw [if_pos h1]
      show aL 0 (eT M r.l) r.l (rT M r.l) = S.drop (aP 0 (eT M r.l) a (kT r.l))
      rw [e1, show aL 0 (eT M r.l) r.l (rT M r.l) = rT M r.l by unfold aL; rw [if_pos ⟨rfl, h1⟩], e2, rU_eq hU, List.drop_drop]
      unfold kT
      rw [hl, List.drop_drop]
    · rw [aP0 _ _ _ h1]
      exact ⟨h.ha, fun e => absurd (show aE 0 (eT M r.l) = 0 from e) (by unfold aE; rw [if_pos rfl]; exact h1)⟩
  · rw [aP1 _ _ _ h0]
    exact ⟨h.ha, fun e => absurd (show aE r.e (eT M r.l) = 0 from e) (by rw [aE1 _ h0]; exact h0)⟩
theorem Rq.rd {S : List UInt8} {r : Rs} {a : Nat} (h : Rq S r a) (M : Int) (w : World) (hS : S.length ≤ 9223372036854775000) (h1 : -9223372036854775808 ≤ M) (h2 : M ≤ 9223372036854775807) :
    Calls Tryd.prog 44 #[.agg #[.string (bs S), .int .i64 (a : Int), .int .i64 (r.e : Int)], .int .i64 M] w (Ib (.tuple #[.agg #[.string (bs S), .int .i64 (qS S r a M : Int), .int .i64 ((r.small M).e : Int)], .int .i64 (r.sval M : Int)]) w) := by
  have k := refS_any S a r.e M w hS h.ha h1 h2
  unfold rs at k
  by_cases h0 : r.e = 0
  · have hl := h.hl h0
    have e1 : (r.small M).e = aE r.e (eS M 4 (S.drop a)) := by unfold Rs.small; rw [hl]
    have e2 : r.sval M = if r.e = 0 then nS M (S.drop a) else 0 := by unfold Rs.sval; rw [hl]
    rw [e1, e2]
    exact k
  · have e1 : (r.small M).e = aE r.e (eS M 4 (S.drop a)) := by unfold Rs.small; rw [aE1 _ h0, aE1 _ h0]
    have e2 : r.sval M = if r.e = 0 then nS M (S.drop a) else 0 := by unfold Rs.sval; rw [if_neg h0, if_neg h0]
    rw [e1, e2]
    exact k
theorem Rq.rdT {S : List UInt8} {r : Rs} {a : Nat} (h : Rq S r a) (M : Int) (w : World) (hS : S.length ≤ 9223372036854775000) (h1 : -9223372036854775808 ≤ M) (h2 : M ≤ 9223372036854775807) :
    Calls Tryd.prog 45 #[.agg #[.string (bs S), .int .i64 (a : Int), .int .i64 (r.e : Int)], .int .i64 M] w (Ib (.tuple #[.agg #[.string (bs S), .int .i64 (qT S r a M : Int), .int .i64 ((r.text M).e : Int)], .string (bs (r.tval M))]) w) := by
  have k := refT_any S a r.e M w hS h.ha h1 h2
  unfold rs at k
  by_cases h0 : r.e = 0
  · have hl := h.hl h0
    have e1 : (r.text M).e = aE r.e (eT M (S.drop a)) := by unfold Rs.text; rw [hl]
    have e2 : r.tval M = if r.e = 0 then tT M (S.drop a) else [] := by unfold Rs.tval; rw [hl]
    rw [e1, e2]
    exact k
  · have e1 : (r.text M).e = aE r.e (eT M (S.drop a)) := by unfold Rs.text; rw [aE1 _ h0, aE1 _ h0]
    have e2 : r.tval M = if r.e = 0 then tT M (S.drop a) else [] := by unfold Rs.tval; rw [if_neg h0, if_neg h0]
    rw [e1, e2]
    exact k
theorem Rq.rdE {S : List UInt8} {r : Rs} {a : Nat} (h : Rq S r a) (w : World) :
    Calls Tryd.prog 46 #[.agg #[.string (bs S), .int .i64 (a : Int), .int .i64 (r.e : Int)]] w (Ib (.int .i64 (eN r.l r.e : Nat)) w) := by
  have k := refEnd_any S a r.e w h.ha
  unfold rs at k
  have e1 : eN r.l r.e = eN (S.drop a) r.e := by
    by_cases h0 : r.e = 0
    · rw [h.hl h0]
    · unfold eN; rw [if_pos h0, if_pos h0]
  rw [e1]
  exact k
theorem Rs.small_front {n : Nat} {M : Int} (r : List UInt8) (h : n ≤ 18446744073709551615) (hM : (n : Int) ≤ M) : (Rs.mk (uv n ++ r) 0).small M = ⟨r, 0⟩ ∧ (Rs.mk (uv n ++ r) 0).sval M = n := by
  obtain ⟨h1, h2, h3⟩ := front_S (r := r) h hM 4
  constructor
  · show Rs.mk (aL 0 (eS M 4 (uv n ++ r)) (uv n ++ r) (rS M (uv n ++ r))) (aE 0 (eS M 4 (uv n ++ r))) = _
    rw [h2, h3]; rfl
  · show (if (0 : Nat) = 0 then nS M (uv n ++ r) else 0) = n
    rw [if_pos rfl, h1]
theorem Rs.text_front {s : List UInt8} {M : Int} (r : List UInt8) (h : s.length ≤ 100000) (hM : (s.length : Int) ≤ M) : (Rs.mk (tv s ++ r) 0).text M = ⟨r, 0⟩ ∧ (Rs.mk (tv s ++ r) 0).tval M = s := by
  obtain ⟨h1, h2, h3⟩ := front_T (r := r) h hM
  constructor
  · show Rs.mk (aL 0 (eT M (tv s ++ r)) (tv s ++ r) (rT M (tv s ++ r))) (aE 0 (eT M (tv s ++ r))) = _
    rw [h2, h3]; rfl
  · show (if (0 : Nat) = 0 then tT M (tv s ++ r) else []) = s
    rw [if_pos rfl, h1]
theorem Rs.small_back {r : Rs} {M : Int} (h : (r.small M).e = 0) : r.e = 0 ∧ r.l = uv (r.sval M) ++ (r.small M).l := by
  have h0 : r.e = 0 := by
    by_cases h0 : r.e = 0
    · exact h0
    · exact absurd (show aE r.e (eS M 4 r.l) = 0 from h) (by rw [aE1 _ h0]; exact h0)
  have h1 : eS M 4 r.l = 0 := by
    have : aE r.e (eS M 4 r.l) = 0 := h
    unfold aE at this
    rw [if_pos h0] at this
    exact this
  have hU := eS_eU h1
  have h2 := (nS_eq M 4 r.l (by decide)).1 h1
  have e1 : (r.small M).l = rU r.l := by
    show aL r.e (eS M 4 r.l) r.l (rS M r.l) = _
    unfold aL rS
    rw [if_pos ⟨h0, h1⟩, if_pos h2]
  have e2 : r.sval M = nU r.l := by
    unfold Rs.sval nS
    rw [if_pos h0, if_pos h2]
  refine ⟨h0, ?_⟩
  rw [e1, e2, rU_eq hU, ← front_uv hU, List.take_append_drop]
theorem Rs.text_back {r : Rs} {M : Int} (h : (r.text M).e = 0) : r.e = 0 ∧ r.l = tv (r.tval M) ++ (r.text M).l := by
  have h0 : r.e = 0 := by
    by_cases h0 : r.e = 0
    · exact h0
    · exact absurd (show aE r.e (eT M r.l) = 0 from h) (by rw [aE1 _ h0]; exact h0)
  have h1 : eT M r.l = 0 := by
    have : aE r.e (eT M r.l) = 0 := h
    unfold aE at this
    rw [if_pos h0] at this
    exact this
  have hU := eS_eU (eT_eS h1)
  have e1 : (r.text M).l = r.l.drop (kT r.l) := by
    show aL r.e (eT M r.l) r.l (rT M r.l) = _
    unfold aL rT
    rw [if_pos ⟨h0, h1⟩, if_pos h1, rU_eq hU, List.drop_drop]; rfl
  have e2 : r.tval M = tT M r.l := by
    unfold Rs.tval
    rw [if_pos h0]
  refine ⟨h0, ?_⟩
  rw [e1, e2, ← (front_tv h1).1, List.take_append_drop]
end Go.Proofs.YtcjaaijohapeaaaDoor
/-
  A reader's steps as data; Unframe. No conditions beyond those that each names.
-/
namespace Go.Proofs.YtcjaaijohapeaaaDoor
open Go.RowKit Go.Sort Go.Lib Go.Shelf
def Fg0 : Fg := ⟨0, 0, 0, []⟩
/-- The readers of a fragment. -/
def ur1 (b : List UInt8) : Rs := (Rs.mk b 0).small 1099511627776
def ur2 (b : List UInt8) : Rs := (ur1 b).small 64
def ur3 (b : List UInt8) : Rs := (ur2 b).small 64
def ur4 (b : List UInt8) : Rs := (ur3 b).text 4000
def ufF (b : List UInt8) : Fg := ⟨((Rs.mk b 0).sval 1099511627776 : Nat), ((ur1 b).sval 64 : Nat), ((ur2 b).sval 64 : Nat), (ur3 b).tval 4000⟩
def ufE (b : List UInt8) : Nat := eN (ur4 b).l (ur4 b).e
/-- What Unframe returns. -/
def unf (s : List UInt8) : Fg × Nat := if (opn s).2 = 0 then (if ufE (opn s).1 = 0 then (if fvB (ufF (opn s).1) = true then (ufF (opn s).1, 0) else (Fg0, 4)) else (Fg0, ufE (opn s).1)) else (Fg0, (opn s).2)
theorem opn_len (s : List UInt8) : (opn s).1.length ≤ s.length := by unfold opn; split; simp; split; simp; simp
theorem uf_len (b : List UInt8) : (ufF b).dat.length ≤ b.length := by
  have h1 := Rs.small_len (Rs.mk b 0) 1099511627776
  have h2 := Rs.small_len (ur1 b) 64
  have h3 := Rs.small_len (ur2 b) 64
  have h4 : ((ur3 b).tval 4000).length ≤ (ur3 b).l.length := by
    unfold Rs.tval
    split
    · unfold tT; split
      · rw [List.length_take]; have := rU_len (ur3 b).l; omega
      · simp
    · simp
  show ((ur3 b).tval 4000).length ≤ b.length
  unfold ur3 at h4 ⊢
  unfold ur2 at *
  unfold ur1 at *
  simp only at h1
  omega
theorem Bx.off {w w' : World} {b g : Nat} {vs : List Value} (h : Bx w b vs) (hg : w.grownBy w' (some g)) (hne : b ≠ g) : Bx w' b vs := h.blk hg.size (hg.block b h.lt (fun e => hne (Option.some.inj e)))
theorem bp_gen {P : Program} {f : Func} {Q : Ending → World → Prop} {ex : Exit} {a : Act} {R : World → Prop} {W : World} (hW : R W) (h : ∀ W, R W → bodyPost P f Q ex a W) : bodyPost P f Q ex a W := h W hW
theorem F4set {w w0 : World} {b : Nat} {y : Fg} (h : Bx w0 b (eF y)) (hb : Below b w w0) (x : Fg) : Bx ((((w0.setCell ⟨b, 0, none⟩ (.int .i64 x.id)).setCell ⟨b, 1, none⟩ (.int .i64 x.ix)).setCell ⟨b, 2, none⟩ (.int .i64 x.ct)).setCell ⟨b, 3, none⟩ (.string (bs x.dat))) b (eF x) ∧
    Below b w ((((w0.setCell ⟨b, 0, none⟩ (.int .i64 x.id)).setCell ⟨b, 1, none⟩ (.int .i64 x.ix)).setCell ⟨b, 2, none⟩ (.int .i64 x.ct)).setCell ⟨b, 3, none⟩ (.string (bs x.dat))) :=
  ⟨(((h.put1 0 (.int .i64 x.id)).put1 1 (.int .i64 x.ix)).put1 2 (.int .i64 x.ct)).put1 3 (.string (bs x.dat)), (((hb.setCell (p := ⟨b, 0, none⟩) (Nat.le_refl _) _).setCell (p := ⟨b, 1, none⟩) (Nat.le_refl _) _).setCell (p := ⟨b, 2, none⟩) (Nat.le_refl _) _).setCell (p := ⟨b, 3, none⟩) (Nat.le_refl _) _⟩
theorem F4alloc {w w0 : World} {b : Nat} {y : Fg} (h : Bx w0 b (eF y)) (hb : Below b w w0) (x : Fg) (o : Obj) : Bx (((((w0.setCell ⟨b, 0, none⟩ (.int .i64 x.id)).setCell ⟨b, 1, none⟩ (.int .i64 x.ix)).setCell ⟨b, 2, none⟩ (.int .i64 x.ct)).setCell ⟨b, 3, none⟩ (.string (bs x.dat))).alloc o) b (eF x) ∧
    Below b w (((((w0.setCell ⟨b, 0, none⟩ (.int .i64 x.id)).setCell ⟨b, 1, none⟩ (.int .i64 x.ix)).setCell ⟨b, 2, none⟩ (.int .i64 x.ct)).setCell ⟨b, 3, none⟩ (.string (bs x.dat))).alloc o) :=
  ⟨(F4set h hb x).1.next (ab1 _ _), (F4set h hb x).2.alloc (Nat.le_of_lt (F4set h hb x).1.lt) o⟩
set_option maxRecDepth 100000 in
set_option maxHeartbeats 4000000 in
theorem unframe_any (s : List UInt8) (w : World) (hs : s.length ≤ 1000000000000000) (hT : Tabs w) :
    Calls Tryd.prog 10 #[.string (bs s)] w (Ib (.tuple #[(unf s).1.val, .int .i64 ((unf s).2 : Nat)]) w) := by
  have hb0 := ab1 w (Obj.cells #[.int .i64 0, .int .i64 0, .int .i64 0, .string ⟨#[]⟩] 32)
  have F0 : Bx (w.alloc (Obj.cells #[.int .i64 0, .int .i64 0, .int .i64 0, .string ⟨#[]⟩] 32)) w.heap.size (eF Fg0) := Bx.newF w 32 Fg0
  have cO := open_any s (w.alloc (Obj.cells #[.int .i64 0, .int .i64 0, .int .i64 0, .string ⟨#[]⟩] 32)) hs (hT.below hb0)
  have hol := opn_len s
  by_cases ho : (opn s).2 = 0
  · have hE : ((opn s).2 : Int) = 0 := by omega
    have HU : Hid (unf s = (if ufE (opn s).1 = 0 then (if fvB (ufF (opn s).1) = true then (ufF (opn s).1, 0) else (Fg0, 4)) else (Fg0, ufE (opn s).1))) := Lib.hid (if_pos ho)
    rw [HU.out]
    rw [hE] at cO
    have HCO := Lib.hid cO
    clear HU cO hE ho
    generalize (opn s).1 = b at *
    have hbl : b.length ≤ 9223372036854775000 := by omega
    have l1 : (ur1 b).l.length ≤ 9223372036854775000 := Nat.le_trans (Rs.small_len _ _) hbl
    have l2 : (ur2 b).l.length ≤ 9223372036854775000 := Nat.le_trans (Rs.small_len _ _) l1
    have l3 : (ur3 b).l.length ≤ 9223372036854775000 := Nat.le_trans (Rs.small_len _ _) l2
    have L0 := Lib.hid hbl
    have L1 := Lib.hid l1
    have L2 := Lib.hid l2
    have L3 := Lib.hid l3
    have cV := fun W => isValid_any (ufF b) W (by have := uf_len b; omega)
    have HCV := Lib.hid cV
    have HEV : Hid (ufE b = eN (ur4 b).l (ur4 b).e) := Lib.hid rfl
    clear hbl l1 l2 l3 cV hol
    by_cases he : ufE b = 0
    · have hne : (((ufE b : Nat) : Int) != 0) = false := by rw [he]; rfl
      cases hv : fvB (ufF b)
      · rw [hv] at HCV
        have HCV2 : Hid (∀ W, Calls Tryd.prog 37 #[.agg #[.int .i64 (ufF b).id, .int .i64 (ufF b).ix, .int .i64 (ufF b).ct, .string (bs (ufF b).dat)]] W (Ib (.bool false) W)) := HCV
        rw [if_pos he, if_neg (by decide)]
        have HE0 := Lib.hid he
        clear he hv
        go_enter Tryd.func10, Tryd.ntmps10
        go_wp2_with (first
          | (go_at_call 33; refine HCO.out.mono ?_; rintro e w1 ⟨rfl, hb1⟩)
          | (go_at_call 24; refine (new_any b _).mono ?_; rintro e w2 ⟨g, rfl, hg, hb2, R0⟩; have hb2 := Below.next hb1 hb2; have B2 := Lib.hid (Below.next hb0 hb2); have F2 := Lib.hid (F0.next hb2); have hwg : w.heap.size < g := (by have := hb1.size; simp at this; omega))
          | (go_at_call 35; refine (rsText_any g (ur3 b) 4000 _ L3.out (by decide) (by decide) R3).mono ?_; rintro e w6 ⟨rfl, hg6, R4⟩; have B6 := Lib.hid (Below.read B5.out hg6 (Nat.le_of_lt hwg)); have F6 := Lib.hid (F5.out.off hg6 (Nat.ne_of_lt hwg)))
          | (go_at_call 34; refine (rsSmall_any g (ur2 b) 64 _ L2.out (by decide) (by decide) R2).mono ?_; rintro e w5 ⟨rfl, hg5, R3⟩; have B5 := Lib.hid (Below.read B4.out hg5 (Nat.le_of_lt hwg)); have F5 := Lib.hid (F4.out.off hg5 (Nat.ne_of_lt hwg)))
          | (go_at_call 34; refine (rsSmall_any g (ur1 b) 64 _ L1.out (by decide) (by decide) R1).mono ?_; rintro e w4 ⟨rfl, hg4, R2⟩; have B4 := Lib.hid (Below.read B3.out hg4 (Nat.le_of_lt hwg)); have F4 := Lib.hid (F3.out.off hg4 (Nat.ne_of_lt hwg)))
          | (go_at_call 34; refine (rsSmall_any g (Rs.mk b 0) 1099511627776 _ L0.out (by decide) (by decide) R0).mono ?_; rintro e w3 ⟨rfl, hg3, R1⟩; have B3 := Lib.hid (Below.read B2.out hg3 (Nat.le_of_lt hwg)); have F3 := Lib.hid (F2.out.off hg3 (Nat.ne_of_lt hwg)))
          | (go_at_call 36; refine (show Calls _ _ _ _ (Is (.int .i64 (ufE b : Nat)) _) from end_any g _ _ _ (R4.next (ab1 _ _))).mono ?_; rintro e w7 ⟨rfl, rfl⟩; have T7 := (show Bx _ _ (eF (ufF b)) from Bx.newF w6 32 (ufF b)); have F7 := F6.out.next (ab1 w6 (Obj.cells #[.int .i64 (ufF b).id, .int .i64 (ufF b).ix, .int .i64 (ufF b).ct, .string (bs (ufF b).dat)] 32)))
          | (go_at_call 37; refine (HCV2.out _).mono ?_; rintro e w8 ⟨rfl, hb8⟩; have T8 := T7.next hb8; have F7 := F7.next hb8; have p0 := F7.c 0 rfl; have p1 := F7.c 1 rfl; have p2 := F7.c 2 rfl; have p3 := F7.c 3 rfl; have g0 := F7.f 0 rfl; have g1 := F7.f 1 rfl; have g2 := F7.f 2 rfl; have g3 := F7.f 3 rfl; have pl := F7.lt; have t0 := T8.c 0 rfl; have t1 := T8.c 1 rfl; have t2 := T8.c 2 rfl; have t3 := T8.c 3 rfl; have tl := T8.lt; have hnt : w.heap.size ≠ w6.heap.size := (Nat.ne_of_lt F6.out.lt)))
        refine bp_gen (R := fun W => Bx W w.heap.size (eF (Fg0)) ∧ Below w.heap.size w W) (F4set F7 (Below.next (B6.out.alloc B6.out.size _) hb8) (Fg0)) ?_
        rintro wz ⟨QB, QW⟩
        have c0 := QB.c 0 rfl
        have c1 := QB.c 1 rfl
        have c2 := QB.c 2 rfl
        have c3 := QB.c 3 rfl
        refine bodyPost_ret (v := .tuple #[.agg #[.int .i64 (Fg0).id, .int .i64 (Fg0).ix, .int .i64 (Fg0).ct, .string (bs (Fg0).dat)], .int .i64 (4 : Nat)]) (by simp [results, Tryd.results10, go_sem, c0, c1, c2, c3]) rfl ⟨rfl, QW⟩
      · rw [hv] at HCV
        have HCV2 : Hid (∀ W, Calls Tryd.prog 37 #[.agg #[.int .i64 (ufF b).id, .int .i64 (ufF b).ix, .int .i64 (ufF b).ct, .string (bs (ufF b).dat)]] W (Ib (.bool true) W)) := HCV
        rw [if_pos he, if_pos rfl]
        have HE0 := Lib.hid he
        clear he hv
        go_enter Tryd.func10, Tryd.ntmps10
        go_wp2_with (first
          | (go_at_call 33; refine HCO.out.mono ?_; rintro e w1 ⟨rfl, hb1⟩)
          | (go_at_call 24; refine (new_any b _).mono ?_; rintro e w2 ⟨g, rfl, hg, hb2, R0⟩; have hb2 := Below.next hb1 hb2; have B2 := Lib.hid (Below.next hb0 hb2); have F2 := Lib.hid (F0.next hb2); have hwg : w.heap.size < g := (by have := hb1.size; simp at this; omega))
          | (go_at_call 35; refine (rsText_any g (ur3 b) 4000 _ L3.out (by decide) (by decide) R3).mono ?_; rintro e w6 ⟨rfl, hg6, R4⟩; have B6 := Lib.hid (Below.read B5.out hg6 (Nat.le_of_lt hwg)); have F6 := Lib.hid (F5.out.off hg6 (Nat.ne_of_lt hwg)))
          | (go_at_call 34; refine (rsSmall_any g (ur2 b) 64 _ L2.out (by decide) (by decide) R2).mono ?_; rintro e w5 ⟨rfl, hg5, R3⟩; have B5 := Lib.hid (Below.read B4.out hg5 (Nat.le_of_lt hwg)); have F5 := Lib.hid (F4.out.off hg5 (Nat.ne_of_lt hwg)))
          | (go_at_call 34; refine (rsSmall_any g (ur1 b) 64 _ L1.out (by decide) (by decide) R1).mono ?_; rintro e w4 ⟨rfl, hg4, R2⟩; have B4 := Lib.hid (Below.read B3.out hg4 (Nat.le_of_lt hwg)); have F4 := Lib.hid (F3.out.off hg4 (Nat.ne_of_lt hwg)))
          | (go_at_call 34; refine (rsSmall_any g (Rs.mk b 0) 1099511627776 _ L0.out (by decide) (by decide) R0).mono ?_; rintro e w3 ⟨rfl, hg3, R1⟩; have B3 := Lib.hid (Below.read B2.out hg3 (Nat.le_of_lt hwg)); have F3 := Lib.hid (F2.out.off hg3 (Nat.ne_of_lt hwg)))
          | (go_at_call 36; refine (show Calls _ _ _ _ (Is (.int .i64 (ufE b : Nat)) _) from end_any g _ _ _ (R4.next (ab1 _ _))).mono ?_; rintro e w7 ⟨rfl, rfl⟩; have T7 := (show Bx _ _ (eF (ufF b)) from Bx.newF w6 32 (ufF b)); have F7 := F6.out.next (ab1 w6 (Obj.cells #[.int .i64 (ufF b).id, .int .i64 (ufF b).ix, .int .i64 (ufF b).ct, .string (bs (ufF b).dat)] 32)))
          | (go_at_call 37; refine (HCV2.out _).mono ?_; rintro e w8 ⟨rfl, hb8⟩; have T8 := T7.next hb8; have F7 := F7.next hb8; have p0 := F7.c 0 rfl; have p1 := F7.c 1 rfl; have p2 := F7.c 2 rfl; have p3 := F7.c 3 rfl; have g0 := F7.f 0 rfl; have g1 := F7.f 1 rfl; have g2 := F7.f 2 rfl; have g3 := F7.f 3 rfl; have pl := F7.lt; have t0 := T8.c 0 rfl; have t1 := T8.c 1 rfl; have t2 := T8.c 2 rfl; have t3 := T8.c 3 rfl; have tl := T8.lt; have hnt : w.heap.size ≠ w6.heap.size := (Nat.ne_of_lt F6.out.lt)))
        refine bp_gen (R := fun W => Bx W w.heap.size (eF (ufF b)) ∧ Below w.heap.size w W) (F4set F7 (Below.next (B6.out.alloc B6.out.size _) hb8) (ufF b)) ?_
        rintro wz ⟨QB, QW⟩
        have c0 := QB.c 0 rfl
        have c1 := QB.c 1 rfl
        have c2 := QB.c 2 rfl
        have c3 := QB.c 3 rfl
        refine bodyPost_ret (v := .tuple #[.agg #[.int .i64 (ufF b).id, .int .i64 (ufF b).ix, .int .i64 (ufF b).ct, .string (bs (ufF b).dat)], .int .i64 (0 : Nat)]) (by simp [results, Tryd.results10, go_sem, c0, c1, c2, c3]) rfl ⟨rfl, QW⟩
    · have hne : (((ufE b : Nat) : Int) != 0) = true := bne_iff_ne.2 (by omega)
      rw [if_neg he]
      have HE0 := Lib.hid he
      clear he
      go_enter Tryd.func10, Tryd.ntmps10
      go_wp2_with (first
        | (go_at_call 33; refine HCO.out.mono ?_; rintro e w1 ⟨rfl, hb1⟩)
        | (go_at_call 24; refine (new_any b _).mono ?_; rintro e w2 ⟨g, rfl, hg, hb2, R0⟩; have hb2 := Below.next hb1 hb2; have B2 := Lib.hid (Below.next hb0 hb2); have F2 := Lib.hid (F0.next hb2); have hwg : w.heap.size < g := (by have := hb1.size; simp at this; omega))
        | (go_at_call 35; refine (rsText_any g (ur3 b) 4000 _ L3.out (by decide) (by decide) R3).mono ?_; rintro e w6 ⟨rfl, hg6, R4⟩; have B6 := Lib.hid (Below.read B5.out hg6 (Nat.le_of_lt hwg)); have F6 := Lib.hid (F5.out.off hg6 (Nat.ne_of_lt hwg)))
        | (go_at_call 34; refine (rsSmall_any g (ur2 b) 64 _ L2.out (by decide) (by decide) R2).mono ?_; rintro e w5 ⟨rfl, hg5, R3⟩; have B5 := Lib.hid (Below.read B4.out hg5 (Nat.le_of_lt hwg)); have F5 := Lib.hid (F4.out.off hg5 (Nat.ne_of_lt hwg)))
        | (go_at_call 34; refine (rsSmall_any g (ur1 b) 64 _ L1.out (by decide) (by decide) R1).mono ?_; rintro e w4 ⟨rfl, hg4, R2⟩; have B4 := Lib.hid (Below.read B3.out hg4 (Nat.le_of_lt hwg)); have F4 := Lib.hid (F3.out.off hg4 (Nat.ne_of_lt hwg)))
        | (go_at_call 34; refine (rsSmall_any g (Rs.mk b 0) 1099511627776 _ L0.out (by decide) (by decide) R0).mono ?_; rintro e w3 ⟨rfl, hg3, R1⟩; have B3 := Lib.hid (Below.read B2.out hg3 (Nat.le_of_lt hwg)); have F3 := Lib.hid (F2.out.off hg3 (Nat.ne_of_lt hwg)))
        | (go_at_call 36; refine (show Calls _ _ _ _ (Is (.int .i64 (ufE b : Nat)) _) from end_any g _ _ _ (R4.next (ab1 _ _))).mono ?_; rintro e w7 ⟨rfl, rfl⟩; have T7 := (show Bx _ _ (eF (ufF b)) from Bx.newF w6 32 (ufF b)); have F7 := F6.out.next (ab1 w6 (Obj.cells #[.int .i64 (ufF b).id, .int .i64 (ufF b).ix, .int .i64 (ufF b).ct, .string (bs (ufF b).dat)] 32)); have p0 := F6.out.c 0 rfl; have p1 := F6.out.c 1 rfl; have p2 := F6.out.c 2 rfl; have p3 := F6.out.c 3 rfl; have g0 := F6.out.f 0 rfl; have g1 := F6.out.f 1 rfl; have g2 := F6.out.f 2 rfl; have g3 := F6.out.f 3 rfl; have pl := F6.out.lt))
      refine bp_gen (R := fun W => Bx W w.heap.size (eF (Fg0)) ∧ Below w.heap.size w W) (F4alloc F6.out B6.out (Fg0) _) ?_
      rintro wz ⟨QB, QW⟩
      have c0 := QB.c 0 rfl
      have c1 := QB.c 1 rfl
      have c2 := QB.c 2 rfl
      have c3 := QB.c 3 rfl
      refine bodyPost_ret (v := .tuple #[.agg #[.int .i64 (Fg0).id, .int .i64 (Fg0).ix, .int .i64 (Fg0).ct, .string (bs (Fg0).dat)], .int .i64 (ufE b : Nat)]) (by simp [results, Tryd.results10, go_sem, c0, c1, c2, c3]) rfl ⟨rfl, QW⟩
  · have HU : Hid (unf s = (Fg0, (opn s).2)) := Lib.hid (if_neg ho)
    have hne : (((opn s).2 : Int) != 0) = true := bne_iff_ne.2 (by omega)
    rw [HU.out]
    generalize (opn s).2 = e0 at *
    generalize (opn s).1 = b at *
    clear ho hol HU
    have HCO := Lib.hid cO
    clear cO
    go_enter Tryd.func10, Tryd.ntmps10
    go_wp2_with (go_at_call 33; refine HCO.out.mono ?_; rintro e w1 ⟨rfl, hb1⟩; have F1 := F0.next hb1; have q0 := F1.c 0 rfl; have q1 := F1.c 1 rfl; have q2 := F1.c 2 rfl; have q3 := F1.c 3 rfl; have f0 := F1.f 0 rfl; have f1 := F1.f 1 rfl; have f2 := F1.f 2 rfl; have f3 := F1.f 3 rfl; have fl := F1.lt)
    refine bp_gen (R := fun W => Bx W w.heap.size (eF (Fg0)) ∧ Below w.heap.size w W) (F4set F1 (Below.next hb0 hb1) (Fg0)) ?_
    rintro wz ⟨QB, QW⟩
    have c0 := QB.c 0 rfl
    have c1 := QB.c 1 rfl
    have c2 := QB.c 2 rfl
    have c3 := QB.c 3 rfl
    refine bodyPost_ret (v := .tuple #[.agg #[.int .i64 (Fg0).id, .int .i64 (Fg0).ix, .int .i64 (Fg0).ct, .string (bs (Fg0).dat)], .int .i64 (e0 : Nat)]) (by simp [results, Tryd.results10, go_sem, c0, c1, c2, c3]) rfl ⟨rfl, QW⟩
end Go.Proofs.YtcjaaijohapeaaaDoor

/-
  Contract of the reference's ReadText. No conditions but Go's own bounds.
-/
import Derived.Test.YthfodpbecddheaaGreatDoorQM11
import Derived.Test.YthfodpbecddheaaGreatDoorQM03
import Derived.Test.YthfodpbecddheaaGreatDoorQM09
import Derived.Test.YthfodpbecddheaaGreatDoorQM10
namespace Go.Proofs.YthfodpbecddheaaGreatDoor
open Go.RowKit
theorem wr_i {k : Nat} (h : k ≤ 9223372036854775807) : IntKind.i64.wrap (k : Int) = (k : Int) := IntWalk.i64_in _ (by omega)
theorem wr_u {k : Nat} (h : k ≤ 9223372036854775807) : IntKind.u64.wrap (k : Int) = (k : Int) := by rw [IntKind.wrap_u64]; omega
theorem kU_len {l : List UInt8} (h : eU l = 0) : kU l ≤ l.length := by
  have := ((dv_le l 0 0 _ _ _ (dv_all l) (by decide) (by decide)).2.1 h).2
  unfold kU; omega
theorem rU_eq {l : List UInt8} (h : eU l = 0) : rU l = l.drop (kU l) := by unfold rU; rw [if_pos h]; rfl
end Go.Proofs.YthfodpbecddheaaGreatDoor
/-
  A new reader; the check of the chapter's examples returns true. No conditions.
-/
namespace Go.Proofs.YthfodpbecddheaaGreatDoor
open Go.RowKit
/-- The call returns a new reader of l. -/
def Inew (l : List UInt8) (w : World) (e : Ending) (w' : World) : Prop := ∃ g, e = .returned (.pointer (some ⟨g, 0, none⟩)) ∧ w.heap.size ≤ g ∧ Below w.heap.size w w' ∧ Rdr w' g l 0
theorem new_any (l : List UInt8) (w : World) : Calls Tryz.prog 109 #[.string (bs l)] w (Inew l w) := by
  go_enter Tryz.func109, Tryz.ntmps109
  go_wp2_with fail
  go_ret
  exact ⟨w.heap.size, rfl, Nat.le_refl _, one _ _, by simp, by simp, by simp, by simp, by simp⟩
theorem Rdr.off {w w' : World} {g g' : Nat} {l : List UInt8} {e : Nat} (h : Rdr w g l e) (hg : w.grownBy w' (some g')) (hne : g ≠ g') : Rdr w' g l e := by
  have hb := hg.block g h.lt (fun k => hne (Option.some.inj k))
  exact ⟨Nat.lt_of_lt_of_le h.lt hg.size, (World.cell?_of_block (a := ⟨g, 0, none⟩) hb).trans h.c0, (World.cell?_of_block (a := ⟨g, 1, none⟩) hb).trans h.c1, (World.frozen?_of_block (a := ⟨g, 0, none⟩) hb).trans h.f0, (World.frozen?_of_block (a := ⟨g, 1, none⟩) hb).trans h.f1⟩
theorem Below.read {w w1 w' : World} {g : Nat} (h : Below w.heap.size w w1) (hg : w1.grownBy w' (some g)) (hw : w.heap.size ≤ g) : Below w.heap.size w w' :=
  h.grown hg h.size fun k hk => by cases hk; exact hw
theorem ir_cast {v v' : Value} {g : Nat} {l l' : List UInt8} {e e' : Nat} {w : World} {P : Program} {f : FuncId} {args : Array Value} (h : Calls P f args w (Ir v g l e w)) (h1 : v = v') (h2 : l = l') (h3 : e = e') : Calls P f args w (Ir v' g l' e' w) := by
  subst h1; subst h2; subst h3; exact h
end Go.Proofs.YthfodpbecddheaaGreatDoor
/-
  Sequences of fields: what a walk over them meets, as mathematics. No conditions beyond those that each names.
-/
namespace Go.Proofs.YthfodpbecddheaaGreatDoor
open Go.RowKit
/-- A field's number, and what stands behind it. -/
def nF (l : List UInt8) : Nat := nS 2147483647 l
def rF (l : List UInt8) : List UInt8 := rS 2147483647 l
/-- The error of a length and of a content, the content, what stands behind it. -/
def eC (r : List UInt8) : Nat := if eU r ≠ 0 then eU r else if (rU r).length < nU r then 1 else 0
def cC (r : List UInt8) : List UInt8 := if eC r = 0 then (rU r).take (nU r) else []
def tC (r : List UInt8) : List UInt8 := if eC r = 0 then (rU r).drop (nU r) else []
/-- The error of a field, its content, what stands behind it. -/
def eN4 (l : List UInt8) : Nat := eS 2147483647 4 l
def eF (last : Nat) (l : List UInt8) : Nat := if eN4 l ≠ 0 then eN4 l else if nF l ≤ last then 2 else eC (rF l)
def cF (l : List UInt8) : List UInt8 := cC (rF l)
def tF (l : List UInt8) : List UInt8 := tC (rF l)
/-- A walk that hands each field to a visitor, which may stop it by an error. -/
def pv {σ : Type} (V : σ → Nat → List UInt8 → σ × Nat) : Nat → Nat → List UInt8 → σ → σ × Nat
  | 0, _, _, s => (s, 0)
  | N + 1, last, l, s => if l = [] then (s, 0) else if eF last l ≠ 0 then (s, eF last l) else if (V s (nF l) (cF l)).2 ≠ 0 then V s (nF l) (cF l) else pv V N (nF l) (tF l) (V s (nF l) (cF l)).1
theorem pv_nil {σ : Type} (V : σ → Nat → List UInt8 → σ × Nat) (N last : Nat) (s : σ) : pv V N last [] s = (s, 0) := by
  cases N with
  | zero => rw [pv]
  | succ N => rw [pv, if_pos rfl]
theorem pv_err {σ : Type} {V : σ → Nat → List UInt8 → σ × Nat} {N last e : Nat} {l : List UInt8} {s : σ} (hl : l ≠ []) (he : eF last l = e) (h0 : e ≠ 0) : pv V (N + 1) last l s = (s, e) := by
  rw [pv, if_neg hl, he, if_pos h0]
theorem pv_stop {σ : Type} {V : σ → Nat → List UInt8 → σ × Nat} {N last e : Nat} {l : List UInt8} {s : σ} (hl : l ≠ []) (he : eF last l = 0) (hv : (V s (nF l) (cF l)).2 = e) (h0 : e ≠ 0) : pv V (N + 1) last l s = V s (nF l) (cF l) := by
  rw [pv, if_neg hl, he, if_neg (fun h => h rfl), hv, if_pos h0]
theorem pv_go {σ : Type} {V : σ → Nat → List UInt8 → σ × Nat} {N last : Nat} {l : List UInt8} {s : σ} (hl : l ≠ []) (he : eF last l = 0) (hv : (V s (nF l) (cF l)).2 = 0) : pv V (N + 1) last l s = pv V N (nF l) (tF l) (V s (nF l) (cF l)).1 := by
  rw [pv, if_neg hl, he, if_neg (fun h => h rfl), hv, if_neg (fun h => h rfl)]
theorem eC_le (r : List UInt8) : eC r ≤ 2 := by
  unfold eC
  have := eU_le r
  split
  · exact this
  · split <;> omega
theorem eN4_cases (l : List UInt8) : (eN4 l = 0 ↔ eS 2147483647 1 l = 0) := nS_eq 2147483647 4 l (by decide)
theorem rF_ok {l : List UInt8} (h : eN4 l = 0) : rF l = rU l ∧ nF l = nU l ∧ eU l = 0 ∧ nU l ≤ 2147483647 := by
  have h1 := (eN4_cases l).1 h
  have h2 : eU l = 0 := by
    unfold eN4 eS at h
    by_cases h2 : eU l = 0
    · exact h2
    · rw [if_pos h2] at h; exact absurd h h2
  refine ⟨by unfold rF rS; rw [if_pos h1], by unfold nF nS; rw [if_pos h1], h2, ?_⟩
  unfold eN4 eS at h
  rw [if_neg (fun k => k h2)] at h
  by_cases h3 : (2147483647 : Int) < 0 ∨ (2147483647 : Int) < (nU l : Int)
  · rw [if_pos h3] at h; cases h
  · omega
theorem rU_lt {l : List UInt8} (h : eU l = 0) (hl : l ≠ []) : (rU l).length < l.length := by
  have h1 := dv_le l 0 0 (nU l) (dv 0 0 l).2.1 (eU l) (dv_all l) (by decide) (by omega)
  have h2 := h1.2.1 h
  unfold rU
  rw [if_pos h, List.length_drop]
  have : 0 < l.length := List.length_pos_iff.2 hl
  omega
theorem tC_le (r : List UInt8) : (tC r).length ≤ r.length := by
  unfold tC
  split
  · rw [List.length_drop]; have := rU_len r; omega
  · simp
theorem cC_le (r : List UInt8) : (cC r).length ≤ r.length := by
  unfold cC
  split
  · rw [List.length_take]; have := rU_len r; omega
  · simp
theorem tF_lt {l : List UInt8} (h : eN4 l = 0) (hl : l ≠ []) : (tF l).length < l.length := by
  obtain ⟨h1, h2, h3, h4⟩ := rF_ok h
  have := rU_lt h3 hl
  have := tC_le (rU l)
  unfold tF
  rw [h1]
  omega
theorem cF_le {l : List UInt8} (h : eN4 l = 0) : (cF l).length ≤ l.length := by
  obtain ⟨h1, h2, h3, h4⟩ := rF_ok h
  have := rU_len l
  have := cC_le (rU l)
  unfold cF
  rw [h1]
  omega
/-- What a read of a text without a bound answers, against a length and a content. -/
theorem eT_C {r : List UInt8} (hr : r.length ≤ 9223372036854775000) : (eT 9223372036854775807 r = 3 ∧ eC r = 1) ∨ (eT 9223372036854775807 r ≠ 3 ∧ eT 9223372036854775807 r = eC r ∧ tT 9223372036854775807 r = cC r ∧ (eC r = 0 → rT 9223372036854775807 r = tC r)) := by
  have hl := rU_len r
  have h2 := eU_le r
  by_cases h : eU r = 0
  · by_cases hn : (9223372036854775807 : Int) < (nU r : Int)
    · left
      have e1 : eS 9223372036854775807 3 r = 3 := by unfold eS; rw [if_neg (fun k => k h), if_pos (.inr hn)]
      refine ⟨by unfold eT; rw [e1, if_pos (by decide)], ?_⟩
      unfold eC
      rw [if_neg (fun k => k h), if_pos (by omega)]
    · right
      have e1 : eS 9223372036854775807 3 r = 0 := by unfold eS; rw [if_neg (fun k => k h), if_neg (by omega)]
      have e2 : eT 9223372036854775807 r = eC r := by unfold eT eC; rw [e1]; simp [h]
      have e3 := eC_le r
      exact ⟨by omega, e2, by unfold tT cC; rw [e2], fun h0 => by unfold rT tC; rw [e2]⟩
  · right
    have e1 : eS 9223372036854775807 3 r = eU r := by unfold eS; rw [if_pos h]
    have e2 : eT 9223372036854775807 r = eC r := by unfold eT eC; rw [e1]
    have e3 := eC_le r
    exact ⟨by omega, e2, by unfold tT cC; rw [e2], fun h0 => by unfold rT tC; rw [e2]⟩
end Go.Proofs.YthfodpbecddheaaGreatDoor
/-
  The developers' readContent and walk. No conditions beyond those that each names.
-/
namespace Go.Proofs.YthfodpbecddheaaGreatDoor
open Go.RowKit
set_option maxRecDepth 100000 in
theorem readContent_any (g : Nat) (r : List UInt8) (w : World) (hl : r.length ≤ 1000000) (h : Rdr w g r 0) :
    Calls Tryz.prog 113 #[.pointer (some ⟨g, 0, none⟩)] w (fun e w' => e = .returned (.tuple #[.string (bs (cC r)), .int .i64 (eC r : Int)]) ∧ w.grownBy w' (some g) ∧ (eC r = 0 → Rdr w' g (tC r) 0)) := by
  have cT := rText_any g r 0 9223372036854775807 w (by omega) (by decide) (by decide) h
  rcases eT_C (r := r) (by omega) with ⟨h1, h2⟩ | ⟨h1, h2, h3, h4⟩
  · have cT2 := ir_cast cT (v' := .string (bs (tT 9223372036854775807 r))) (l' := r) (e' := 3) (if_pos rfl) (by rw [h1]; exact aL0 _ _ _ (by decide)) (by rw [h1]; rfl)
    have hc : cC r = [] := by unfold cC; rw [h2]; rfl
    rw [h2, hc]
    clear cT h1 h2 hc
    go_enter Tryz.func113, Tryz.ntmps113
    go_wp2_with fail
    refine cT2.mono ?_
    rintro e w2 ⟨rfl, hg, hr⟩
    go_wp2_with fail
    refine (err_any g r 3 w2 hr).mono ?_
    rintro e w3 ⟨rfl, rfl⟩
    go_wp2_with fail
    exact bodyPost_ret (v := .tuple #[.string ⟨#[]⟩, .int .i64 1]) (by simp [results, Tryz.results113, go_sem]) rfl ⟨rfl, hg, fun h => by cases h⟩
  · obtain ⟨x, hx⟩ : ∃ x, eC r = x := ⟨_, rfl⟩
    rw [h2] at h1 cT
    rw [hx] at h1 h4 cT ⊢
    have q1 : ((x : Int) == 3) = false := by rw [beq_eq_false_iff_ne]; omega
    have H4 := Lib.hid h4
    obtain ⟨l', hl'⟩ : ∃ l', aL 0 x r (rT 9223372036854775807 r) = l' := ⟨_, rfl⟩
    have HL := Lib.hid (fun (h0 : x = 0) => show l' = tC r by rw [← hl', h0]; unfold aL; rw [if_pos ⟨rfl, rfl⟩]; exact h4 h0)
    have cT2 := ir_cast cT (v' := .string (bs (cC r))) (l' := l') (e' := x) (by rw [if_pos rfl, h3]) hl' (by unfold aE; rw [if_pos rfl])
    clear cT h1 h2 h3 h4 hx hl' H4
    generalize cC r = c at *
    generalize tC r = t at *
    go_enter Tryz.func113, Tryz.ntmps113
    go_wp2_with fail
    refine cT2.mono ?_
    rintro e w2 ⟨rfl, hg, hr⟩
    go_wp2_with fail
    refine (err_any g l' x w2 hr).mono ?_
    rintro e w3 ⟨rfl, rfl⟩
    go_wp2_with fail
    refine (err_any g l' x w2 hr).mono ?_
    rintro e w3 ⟨rfl, rfl⟩
    go_wp2_with fail
    exact bodyPost_ret (v := .tuple #[.string (bs c), .int .i64 (x : Int)]) (by simp [results, Tryz.results113, go_sem]) rfl ⟨rfl, hg, fun h0 => by rw [← HL.out h0]; subst h0; exact hr⟩
set_option maxRecDepth 100000 in
set_option maxHeartbeats 4000000 in
theorem walk1_any {σ : Type} (V : σ → Nat → List UInt8 → σ × Nat) (F : Nat) (p : Value) (b : List UInt8) (s0 : σ) (w : World) (J : Nat → Nat → σ → World → Prop) (hF : fnOk F = true) (hb : b.length ≤ 1000000)
    (hJ0 : ∀ g w1, w.heap.size ≤ g → Below w.heap.size w w1 → g < w1.heap.size → J g 0 s0 w1) (hJr : ∀ g k s W W', J g k s W → W.grownBy W' (some g) → J g k s W')
    (hV : ∀ g k s n c W l e, w.heap.size ≤ g → k < b.length → J g k s W → Rdr W g l e → n ≤ 2147483647 → c.length ≤ 1000000 → Calls Tryz.prog F #[.int .i64 ((n : Nat) : Int), .string (bs c), p] W (fun en W' => en = .returned (.int .i64 (((V s n c).2 : Nat) : Int)) ∧ J g (k + 1) (V s n c).1 W' ∧ Rdr W' g l e)) :
    Calls Tryz.prog 55 #[.string (bs b), .func (.func F) #[] #[p]] w (fun en W' => en = .returned (.int .i64 (((pv V b.length 0 b s0).2 : Nat) : Int)) ∧ ∃ g k, J g k (pv V b.length 0 b s0).1 W') := by
  obtain ⟨R, hR⟩ : ∃ R, pv V b.length 0 b s0 = R := ⟨_, rfl⟩
  rw [hR]
  have HR := Lib.hid hR
  clear hR
  go_enter Tryz.func55, Tryz.ntmps55
  go_wp2_with fail
  refine (new_any b w).mono ?_
  rintro en w1 ⟨g, rfl, hg, hb1, hRd⟩
  have hJ1 := Lib.hid (hJ0 g w1 hg hb1 hRd.lt)
  have HB := Lib.hid hb
  clear hJ0 hb1 hb
  go_wp2_with fail
  go_loopw [6] (fun v wr => ∃ (last N k : Nat) (l : List UInt8) (s : σ), v = .int .i64 (last : Int) ∧ last ≤ 2147483647 ∧ Hid (l.length ≤ N ∧ l.length ≤ 1000000 ∧ k + l.length ≤ b.length) ∧ Hid (pv V N last l s = R) ∧ Rdr wr g l 0 ∧ Hid (J g k s wr)) (fun v _ => (2147483647 - intOf v).toNat)
  case atStart => exact ⟨0, b.length, 0, b, s0, rfl, by decide, Lib.hid ⟨Nat.le_refl _, HB.out, by omega⟩, HR, hRd, hJ1⟩
  case round =>
    obtain ⟨last, N, k, l, s, rfl, hla, HN, HP, hr, HJ⟩ := hrel
    clear HR hRd hJ1
    have HL1 := HN.out.2.1
    have cL := left_any g l 0 wr hr
    by_cases hl : l = []
    · subst hl
      have HE := Lib.hid (show (s, 0) = R by rw [← HP.out, pv_nil])
      clear HP HL1
      go_wp2_with fail
      refine cL.mono ?_
      rintro en w2 ⟨rfl, rfl⟩
      go_wp2_with fail
      refine bodyPost_ret (v := .int .i64 0) (by simp [results, Tryz.results55, go_sem]) rfl ?_
      rw [← HE.out]
      exact ⟨rfl, g, k, HJ.out⟩
    · have hlen : 0 < l.length := List.length_pos_iff.2 hl
      obtain ⟨N', rfl⟩ : ∃ N', N = N' + 1 := ⟨N - 1, by have := HN.out.1; omega⟩
      have d0 : decide (0 < l.length) = true := decide_eq_true hlen
      have cS := rSmall_any g l 0 2147483647 wr (by omega) (by decide) (by decide) hr
      have HHl := Lib.hid hl
      obtain ⟨e1, he1⟩ : ∃ e1, eN4 l = e1 := ⟨_, rfl⟩
      rw [show eS 2147483647 4 l = e1 from he1] at cS
      have HE1 := Lib.hid he1
      clear he1 hl hlen
      by_cases h1 : e1 = 0
      case neg =>
        have HE := Lib.hid (show (s, e1) = R by rw [← HP.out]; exact (pv_err HHl.out (by unfold eF; rw [HE1.out, if_pos h1]) h1).symm)
        have q1 : ((e1 : Int) != 0) = true := by simpa using h1
        have cS2 := ir_cast cS (v' := .int .i64 (nS 2147483647 l : Int)) (l' := l) (e' := e1) (if_pos rfl) (aL0 _ _ _ h1) (by unfold aE; rw [if_pos rfl])
        clear cS HP HL1 h1
        go_wp2_with fail
        refine cL.mono ?_
        rintro en w2 ⟨rfl, rfl⟩
        go_wp2_with fail
        refine cS2.mono ?_
        rintro en w2 ⟨rfl, hg2, hr2⟩
        have HJ2 := Lib.hid (hJr g k s _ _ HJ.out hg2)
        go_wp2_with fail
        refine (err_any g l e1 w2 hr2).mono ?_
        rintro en w3 ⟨rfl, rfl⟩
        go_wp2_with fail
        refine bodyPost_ret (v := .int .i64 (e1 : Int)) (by simp [results, Tryz.results55, go_sem]) rfl ?_
        rw [← HE.out]
        exact ⟨rfl, g, k, HJ2.out⟩
      case pos =>
      subst h1
      obtain ⟨k1, k2, k3, k4⟩ := rF_ok HE1.out
      have cS2 := ir_cast cS (v' := .int .i64 (nF l : Int)) (l' := rF l) (e' := 0) (if_pos rfl) (by unfold aL; rw [if_pos ⟨rfl, rfl⟩]; rfl) (by unfold aE; rw [if_pos rfl])
      have hrl : (rF l).length ≤ 1000000 := by rw [k1]; have := rU_len l; omega
      have hnl : nF l ≤ 2147483647 := by rw [k2]; exact k4
      have HF := Lib.hid (show ∀ last, eF last l = if nF l ≤ last then 2 else eC (rF l) from fun last => by unfold eF; rw [HE1.out, if_neg (fun k => k rfl)])
      have HT := Lib.hid (tF_lt HE1.out HHl.out)
      have HC := Lib.hid (cF_le HE1.out)
      clear cS k1 k2 k3 k4
      by_cases hle : nF l ≤ last
      case pos =>
        have HE := Lib.hid (show (s, 2) = R by rw [← HP.out]; exact (pv_err HHl.out (by rw [HF.out, if_pos hle]) (by decide)).symm)
        have d1 : decide (nF l ≤ last) = true := decide_eq_true hle
        clear HP HL1 hle HF HT HC
        generalize nF l = n at *
        go_wp2_with fail
        refine cL.mono ?_
        rintro en w2 ⟨rfl, rfl⟩
        go_wp2_with fail
        refine cS2.mono ?_
        rintro en w2 ⟨rfl, hg2, hr2⟩
        have HJ2 := Lib.hid (hJr g k s _ _ HJ.out hg2)
        go_wp2_with fail
        refine (err_any g _ 0 w2 hr2).mono ?_
        rintro en w3 ⟨rfl, rfl⟩
        go_wp2_with fail
        refine bodyPost_ret (v := .int .i64 2) (by simp [results, Tryz.results55, go_sem]) rfl ?_
        rw [← HE.out]
        exact ⟨rfl, g, k, HJ2.out⟩
      case neg =>
      have d1 : decide (nF l ≤ last) = false := decide_eq_false hle
      have HLe := Lib.hid hle
      clear hle
      have cR := fun W h => readContent_any g (rF l) W hrl h
      obtain ⟨e2, he2⟩ : ∃ e2, eC (rF l) = e2 := ⟨_, rfl⟩
      have hcc : cC (rF l) = cF l := rfl
      have htt : tC (rF l) = tF l := rfl
      rw [he2, hcc, htt] at cR
      have HE2 := Lib.hid (show eF last l = e2 by rw [HF.out, if_neg HLe.out, he2])
      have HFin := Lib.hid (fun (h0 : e2 = 0) => show tF l = tF l from rfl)
      clear he2 hcc htt HF
      have hcl : (cF l).length ≤ 1000000 := by have := HC.out; omega
      have HVV := Lib.hid (fun (h0 : eF last l = 0) => And.intro (fun e (hv : (V s (nF l) (cF l)).2 = e) (hn : e ≠ 0) => show V s (nF l) (cF l) = R by rw [← HP.out, pv_stop HHl.out h0 hv hn]) (fun (hv : (V s (nF l) (cF l)).2 = 0) => show pv V N' (nF l) (tF l) (V s (nF l) (cF l)).1 = R by rw [← HP.out, pv_go HHl.out h0 hv]))
      have HEE := Lib.hid (fun (h0 : e2 ≠ 0) => show (s, e2) = R by rw [← HP.out, pv_err HHl.out HE2.out h0])
      have HN2 := Lib.hid (show (tF l).length ≤ N' ∧ (tF l).length ≤ 1000000 ∧ k + 1 + (tF l).length ≤ b.length by have := HT.out; have := HN.out; omega)
      have hkb : k < b.length := by have := HT.out; have := HN.out; omega
      have HlN := Lib.hid (show last < nF l by have := HLe.out; omega)
      clear HP HT HC HN HE1 HHl HL1 HFin
      generalize nF l = n at *
      generalize cF l = c at *
      generalize tF l = t at *
      generalize rF l = r at *
      by_cases h2 : e2 = 0
      case neg =>
        have HE := Lib.hid (HEE.out h2)
        have q2 : ((e2 : Int) != 0) = true := by simpa using h2
        clear HVV HEE h2 HE2
        go_wp2_with fail
        refine cL.mono ?_
        rintro en w2 ⟨rfl, rfl⟩
        go_wp2_with fail
        refine cS2.mono ?_
        rintro en w2 ⟨rfl, hg2, hr2⟩
        have HJ2 := Lib.hid (hJr g k s _ _ HJ.out hg2)
        go_wp2_with fail
        refine (err_any g _ 0 w2 hr2).mono ?_
        rintro en w3 ⟨rfl, rfl⟩
        go_wp2_with fail
        refine (cR w2 hr2).mono ?_
        rintro en w3 ⟨rfl, hg3, -⟩
        have HJ3 := Lib.hid (hJr g k s _ _ HJ2.out hg3)
        go_wp2_with fail
        refine bodyPost_ret (v := .int .i64 (e2 : Int)) (by simp [results, Tryz.results55, go_sem]) rfl ?_
        rw [← HE.out]
        exact ⟨rfl, g, k, HJ3.out⟩
      case pos =>
      subst h2
      have HV2 := Lib.hid (HVV.out HE2.out)
      clear HVV HEE HE2
      have cV := fun W l e (h : J g k s W) h2 => hV g k s n c W l e hg hkb h h2 hnl hcl
      obtain ⟨s2, hs2⟩ : ∃ s2, (V s n c).1 = s2 := ⟨_, rfl⟩
      obtain ⟨e3, he3⟩ : ∃ e3, (V s n c).2 = e3 := ⟨_, rfl⟩
      have hVe : V s n c = (s2, e3) := by rw [← hs2, ← he3]
      rw [hs2] at cV HV2
      rw [he3] at cV HV2
      rw [hVe] at HV2
      clear hs2 he3 hVe
      by_cases h3 : e3 = 0
      case neg =>
        have HE := Lib.hid (HV2.out.1 e3 rfl h3)
        have q3 : ((e3 : Int) != 0) = true := by simpa using h3
        clear HV2 h3
        go_wp2_with fail
        refine cL.mono ?_
        rintro en w2 ⟨rfl, rfl⟩
        go_wp2_with fail
        refine cS2.mono ?_
        rintro en w2 ⟨rfl, hg2, hr2⟩
        have HJ2 := Lib.hid (hJr g k s _ _ HJ.out hg2)
        go_wp2_with fail
        refine (err_any g _ 0 w2 hr2).mono ?_
        rintro en w3 ⟨rfl, rfl⟩
        go_wp2_with fail
        refine (cR w2 hr2).mono ?_
        rintro en w3 ⟨rfl, hg3, hr3⟩
        have HJ3 := Lib.hid (hJr g k s _ _ HJ2.out hg3)
        go_wp2_with fail
        rw [run_callFunc hF]
        refine (cV w3 t 0 HJ3.out (hr3 trivial)).mono ?_
        rintro en w4 ⟨rfl, hJ4, hr4⟩
        go_wp2_with fail
        refine bodyPost_ret (v := .int .i64 (e3 : Int)) (by simp [results, Tryz.results55, go_sem]) rfl ?_
        rw [← HE.out]
        exact ⟨rfl, g, k + 1, hJ4⟩
      case pos =>
      subst h3
      have HE := Lib.hid (HV2.out.2 rfl)
      clear HV2
      go_wp2_with fail
      refine cL.mono ?_
      rintro en w2 ⟨rfl, rfl⟩
      go_wp2_with fail
      refine cS2.mono ?_
      rintro en w2 ⟨rfl, hg2, hr2⟩
      have HJ2 := Lib.hid (hJr g k s _ _ HJ.out hg2)
      go_wp2_with fail
      refine (err_any g _ 0 w2 hr2).mono ?_
      rintro en w3 ⟨rfl, rfl⟩
      go_wp2_with fail
      refine (cR w2 hr2).mono ?_
      rintro en w3 ⟨rfl, hg3, hr3⟩
      have HJ3 := Lib.hid (hJr g k s _ _ HJ2.out hg3)
      go_wp2_with fail
      rw [run_callFunc hF]
      refine (cV w3 t 0 HJ3.out (hr3 trivial)).mono ?_
      rintro en w4 ⟨rfl, hJ4, hr4⟩
      go_wp2_with fail
      go_roundw
      case rel => exact ⟨n, N', k + 1, t, s2, rfl, hnl, HN2, HE, hr4, Lib.hid hJ4⟩
      case measure => have := HlN.out; simp [intOf]; omega
set_option maxRecDepth 100000 in
set_option maxHeartbeats 4000000 in
theorem walk2_any {σ : Type} (V : σ → Nat → List UInt8 → σ × Nat) (F : Nat) (p q : Value) (b : List UInt8) (s0 : σ) (w : World) (J : Nat → Nat → σ → World → Prop) (hF : fnOk F = true) (hb : b.length ≤ 1000000)
    (hJ0 : ∀ g w1, w.heap.size ≤ g → Below w.heap.size w w1 → g < w1.heap.size → J g 0 s0 w1) (hJr : ∀ g k s W W', J g k s W → W.grownBy W' (some g) → J g k s W')
    (hV : ∀ g k s n c W l e, w.heap.size ≤ g → k < b.length → J g k s W → Rdr W g l e → n ≤ 2147483647 → c.length ≤ 1000000 → Calls Tryz.prog F #[.int .i64 ((n : Nat) : Int), .string (bs c), p, q] W (fun en W' => en = .returned (.int .i64 (((V s n c).2 : Nat) : Int)) ∧ J g (k + 1) (V s n c).1 W' ∧ Rdr W' g l e)) :
    Calls Tryz.prog 55 #[.string (bs b), .func (.func F) #[] #[p, q]] w (fun en W' => en = .returned (.int .i64 (((pv V b.length 0 b s0).2 : Nat) : Int)) ∧ ∃ g k, J g k (pv V b.length 0 b s0).1 W') := by
  obtain ⟨R, hR⟩ : ∃ R, pv V b.length 0 b s0 = R := ⟨_, rfl⟩
  rw [hR]
  have HR := Lib.hid hR
  clear hR
  go_enter Tryz.func55, Tryz.ntmps55
  go_wp2_with fail
  refine (new_any b w).mono ?_
  rintro en w1 ⟨g, rfl, hg, hb1, hRd⟩
  have hJ1 := Lib.hid (hJ0 g w1 hg hb1 hRd.lt)
  have HB := Lib.hid hb
  clear hJ0 hb1 hb
  go_wp2_with fail
  go_loopw [6] (fun v wr => ∃ (last N k : Nat) (l : List UInt8) (s : σ), v = .int .i64 (last : Int) ∧ last ≤ 2147483647 ∧ Hid (l.length ≤ N ∧ l.length ≤ 1000000 ∧ k + l.length ≤ b.length) ∧ Hid (pv V N last l s = R) ∧ Rdr wr g l 0 ∧ Hid (J g k s wr)) (fun v _ => (2147483647 - intOf v).toNat)
  case atStart => exact ⟨0, b.length, 0, b, s0, rfl, by decide, Lib.hid ⟨Nat.le_refl _, HB.out, by omega⟩, HR, hRd, hJ1⟩
  case round =>
    obtain ⟨last, N, k, l, s, rfl, hla, HN, HP, hr, HJ⟩ := hrel
    clear HR hRd hJ1
    have HL1 := HN.out.2.1
    have cL := left_any g l 0 wr hr
    by_cases hl : l = []
    · subst hl
      have HE := Lib.hid (show (s, 0) = R by rw [← HP.out, pv_nil])
      clear HP HL1
      go_wp2_with fail
      refine cL.mono ?_
      rintro en w2 ⟨rfl, rfl⟩
      go_wp2_with fail
      refine bodyPost_ret (v := .int .i64 0) (by simp [results, Tryz.results55, go_sem]) rfl ?_
      rw [← HE.out]
      exact ⟨rfl, g, k, HJ.out⟩
    · have hlen : 0 < l.length := List.length_pos_iff.2 hl
      obtain ⟨N', rfl⟩ : ∃ N', N = N' + 1 := ⟨N - 1, by have := HN.out.1; omega⟩
      have d0 : decide (0 < l.length) = true := decide_eq_true hlen
      have cS := rSmall_any g l 0 2147483647 wr (by omega) (by decide) (by decide) hr
      have HHl := Lib.hid hl
      obtain ⟨e1, he1⟩ : ∃ e1, eN4 l = e1 := ⟨_, rfl⟩
      rw [show eS 2147483647 4 l = e1 from he1] at cS
      have HE1 := Lib.hid he1
      clear he1 hl hlen
      by_cases h1 : e1 = 0
      case neg =>
        have HE := Lib.hid (show (s, e1) = R by rw [← HP.out]; exact (pv_err HHl.out (by unfold eF; rw [HE1.out, if_pos h1]) h1).symm)
        have q1 : ((e1 : Int) != 0) = true := by simpa using h1
        have cS2 := ir_cast cS (v' := .int .i64 (nS 2147483647 l : Int)) (l' := l) (e' := e1) (if_pos rfl) (aL0 _ _ _ h1) (by unfold aE; rw [if_pos rfl])
        clear cS HP HL1 h1
        go_wp2_with fail
        refine cL.mono ?_
        rintro en w2 ⟨rfl, rfl⟩
        go_wp2_with fail
        refine cS2.mono ?_
        rintro en w2 ⟨rfl, hg2, hr2⟩
        have HJ2 := Lib.hid (hJr g k s _ _ HJ.out hg2)
        go_wp2_with fail
        refine (err_any g l e1 w2 hr2).mono ?_
        rintro en w3 ⟨rfl, rfl⟩
        go_wp2_with fail
        refine bodyPost_ret (v := .int .i64 (e1 : Int)) (by simp [results, Tryz.results55, go_sem]) rfl ?_
        rw [← HE.out]
        exact ⟨rfl, g, k, HJ2.out⟩
      case pos =>
      subst h1
      obtain ⟨k1, k2, k3, k4⟩ := rF_ok HE1.out
      have cS2 := ir_cast cS (v' := .int .i64 (nF l : Int)) (l' := rF l) (e' := 0) (if_pos rfl) (by unfold aL; rw [if_pos ⟨rfl, rfl⟩]; rfl) (by unfold aE; rw [if_pos rfl])
      have hrl : (rF l).length ≤ 1000000 := by rw [k1]; have := rU_len l; omega
      have hnl : nF l ≤ 2147483647 := by rw [k2]; exact k4
      have HF := Lib.hid (show ∀ last, eF last l = if nF l ≤ last then 2 else eC (rF l) from fun last => by unfold eF; rw [HE1.out, if_neg (fun k => k rfl)])
      have HT := Lib.hid (tF_lt HE1.out HHl.out)
      have HC := Lib.hid (cF_le HE1.out)
      clear cS k1 k2 k3 k4
      by_cases hle : nF l ≤ last
      case pos =>
        have HE := Lib.hid (show (s, 2) = R by rw [← HP.out]; exact (pv_err HHl.out (by rw [HF.out, if_pos hle]) (by decide)).symm)
        have d1 : decide (nF l ≤ last) = true := decide_eq_true hle
        clear HP HL1 hle HF HT HC
        generalize nF l = n at *
        go_wp2_with fail
        refine cL.mono ?_
        rintro en w2 ⟨rfl, rfl⟩
        go_wp2_with fail
        refine cS2.mono ?_
        rintro en w2 ⟨rfl, hg2, hr2⟩
        have HJ2 := Lib.hid (hJr g k s _ _ HJ.out hg2)
        go_wp2_with fail
        refine (err_any g _ 0 w2 hr2).mono ?_
        rintro en w3 ⟨rfl, rfl⟩
        go_wp2_with fail
        refine bodyPost_ret (v := .int .i64 2) (by simp [results, Tryz.results55, go_sem]) rfl ?_
        rw [← HE.out]
        exact ⟨rfl, g, k, HJ2.out⟩
      case neg =>
      have d1 : decide (nF l ≤ last) = false := decide_eq_false hle
      have HLe := Lib.hid hle
      clear hle
      have cR := fun W h => readContent_any g (rF l) W hrl h
      obtain ⟨e2, he2⟩ : ∃ e2, eC (rF l) = e2 := ⟨_, rfl⟩
      have hcc : cC (rF l) = cF l := rfl
      have htt : tC (rF l) = tF l := rfl
      rw [he2, hcc, htt] at cR
      have HE2 := Lib.hid (show eF last l = e2 by rw [HF.out, if_neg HLe.out, he2])
      have HFin := Lib.hid (fun (h0 : e2 = 0) => show tF l = tF l from rfl)
      clear he2 hcc htt HF
      have hcl : (cF l).length ≤ 1000000 := by have := HC.out; omega
      have HVV := Lib.hid (fun (h0 : eF last l = 0) => And.intro (fun e (hv : (V s (nF l) (cF l)).2 = e) (hn : e ≠ 0) => show V s (nF l) (cF l) = R by rw [← HP.out, pv_stop HHl.out h0 hv hn]) (fun (hv : (V s (nF l) (cF l)).2 = 0) => show pv V N' (nF l) (tF l) (V s (nF l) (cF l)).1 = R by rw [← HP.out, pv_go HHl.out h0 hv]))
      have HEE := Lib.hid (fun (h0 : e2 ≠ 0) => show (s, e2) = R by rw [← HP.out, pv_err HHl.out HE2.out h0])
      have HN2 := Lib.hid (show (tF l).length ≤ N' ∧ (tF l).length ≤ 1000000 ∧ k + 1 + (tF l).length ≤ b.length by have := HT.out; have := HN.out; omega)
      have hkb : k < b.length := by have := HT.out; have := HN.out; omega
      have HlN := Lib.hid (show last < nF l by have := HLe.out; omega)
      clear HP HT HC HN HE1 HHl HL1 HFin
      generalize nF l = n at *
      generalize cF l = c at *
      generalize tF l = t at *
      generalize rF l = r at *
      by_cases h2 : e2 = 0
      case neg =>
        have HE := Lib.hid (HEE.out h2)
        have q2 : ((e2 : Int) != 0) = true := by simpa using h2
        clear HVV HEE h2 HE2
        go_wp2_with fail
        refine cL.mono ?_
        rintro en w2 ⟨rfl, rfl⟩
        go_wp2_with fail
        refine cS2.mono ?_
        rintro en w2 ⟨rfl, hg2, hr2⟩
        have HJ2 := Lib.hid (hJr g k s _ _ HJ.out hg2)
        go_wp2_with fail
        refine (err_any g _ 0 w2 hr2).mono ?_
        rintro en w3 ⟨rfl, rfl⟩
        go_wp2_with fail
        refine (cR w2 hr2).mono ?_
        rintro en w3 ⟨rfl, hg3, -⟩
        have HJ3 := Lib.hid (hJr g k s _ _ HJ2.out hg3)
        go_wp2_with fail
        refine bodyPost_ret (v := .int .i64 (e2 : Int)) (by simp [results, Tryz.results55, go_sem]) rfl ?_
        rw [← HE.out]
        exact ⟨rfl, g, k, HJ3.out⟩
      case pos =>
      subst h2
      have HV2 := Lib.hid (HVV.out HE2.out)
      clear HVV HEE HE2
      have cV := fun W l e (h : J g k s W) h2 => hV g k s n c W l e hg hkb h h2 hnl hcl
      obtain ⟨s2, hs2⟩ : ∃ s2, (V s n c).1 = s2 := ⟨_, rfl⟩
      obtain ⟨e3, he3⟩ : ∃ e3, (V s n c).2 = e3 := ⟨_, rfl⟩
      have hVe : V s n c = (s2, e3) := by rw [← hs2, ← he3]
      rw [hs2] at cV HV2
      rw [he3] at cV HV2
      rw [hVe] at HV2
      clear hs2 he3 hVe
      by_cases h3 : e3 = 0
      case neg =>
        have HE := Lib.hid (HV2.out.1 e3 rfl h3)
        have q3 : ((e3 : Int) != 0) = true := by simpa using h3
        clear HV2 h3
        go_wp2_with fail
        refine cL.mono ?_
        rintro en w2 ⟨rfl, rfl⟩
        go_wp2_with fail
        refine cS2.mono ?_
        rintro en w2 ⟨rfl, hg2, hr2⟩
        have HJ2 := Lib.hid (hJr g k s _ _ HJ.out hg2)
        go_wp2_with fail
        refine (err_any g _ 0 w2 hr2).mono ?_
        rintro en w3 ⟨rfl, rfl⟩
        go_wp2_with fail
        refine (cR w2 hr2).mono ?_
        rintro en w3 ⟨rfl, hg3, hr3⟩
        have HJ3 := Lib.hid (hJr g k s _ _ HJ2.out hg3)
        go_wp2_with fail
        rw [run_callFunc hF]
        refine (cV w3 t 0 HJ3.out (hr3 trivial)).mono ?_
        rintro en w4 ⟨rfl, hJ4, hr4⟩
        go_wp2_with fail
        refine bodyPost_ret (v := .int .i64 (e3 : Int)) (by simp [results, Tryz.results55, go_sem]) rfl ?_
        rw [← HE.out]
        exact ⟨rfl, g, k + 1, hJ4⟩
      case pos =>
      subst h3
      have HE := Lib.hid (HV2.out.2 rfl)
      clear HV2
      go_wp2_with fail
      refine cL.mono ?_
      rintro en w2 ⟨rfl, rfl⟩
      go_wp2_with fail
      refine cS2.mono ?_
      rintro en w2 ⟨rfl, hg2, hr2⟩
      have HJ2 := Lib.hid (hJr g k s _ _ HJ.out hg2)
      go_wp2_with fail
      refine (err_any g _ 0 w2 hr2).mono ?_
      rintro en w3 ⟨rfl, rfl⟩
      go_wp2_with fail
      refine (cR w2 hr2).mono ?_
      rintro en w3 ⟨rfl, hg3, hr3⟩
      have HJ3 := Lib.hid (hJr g k s _ _ HJ2.out hg3)
      go_wp2_with fail
      rw [run_callFunc hF]
      refine (cV w3 t 0 HJ3.out (hr3 trivial)).mono ?_
      rintro en w4 ⟨rfl, hJ4, hr4⟩
      go_wp2_with fail
      go_roundw
      case rel => exact ⟨n, N', k + 1, t, s2, rfl, hnl, HN2, HE, hr4, Lib.hid hJ4⟩
      case measure => have := HlN.out; simp [intOf]; omega
set_option maxRecDepth 100000 in
set_option maxHeartbeats 4000000 in
theorem walk3_any {σ : Type} (V : σ → Nat → List UInt8 → σ × Nat) (F : Nat) (p q r : Value) (b : List UInt8) (s0 : σ) (w : World) (J : Nat → Nat → σ → World → Prop) (hF : fnOk F = true) (hb : b.length ≤ 1000000)
    (hJ0 : ∀ g w1, w.heap.size ≤ g → Below w.heap.size w w1 → g < w1.heap.size → J g 0 s0 w1) (hJr : ∀ g k s W W', J g k s W → W.grownBy W' (some g) → J g k s W')
    (hV : ∀ g k s n c W l e, w.heap.size ≤ g → k < b.length → J g k s W → Rdr W g l e → n ≤ 2147483647 → c.length ≤ 1000000 → Calls Tryz.prog F #[.int .i64 ((n : Nat) : Int), .string (bs c), p, q, r] W (fun en W' => en = .returned (.int .i64 (((V s n c).2 : Nat) : Int)) ∧ J g (k + 1) (V s n c).1 W' ∧ Rdr W' g l e)) :
    Calls Tryz.prog 55 #[.string (bs b), .func (.func F) #[] #[p, q, r]] w (fun en W' => en = .returned (.int .i64 (((pv V b.length 0 b s0).2 : Nat) : Int)) ∧ ∃ g k, J g k (pv V b.length 0 b s0).1 W') := by
  obtain ⟨R, hR⟩ : ∃ R, pv V b.length 0 b s0 = R := ⟨_, rfl⟩
  rw [hR]
  have HR := Lib.hid hR
  clear hR
  go_enter Tryz.func55, Tryz.ntmps55
  go_wp2_with fail
  refine (new_any b w).mono ?_
  rintro en w1 ⟨g, rfl, hg, hb1, hRd⟩
  have hJ1 := Lib.hid (hJ0 g w1 hg hb1 hRd.lt)
  have HB := Lib.hid hb
  clear hJ0 hb1 hb
  go_wp2_with fail
  go_loopw [6] (fun v wr => ∃ (last N k : Nat) (l : List UInt8) (s : σ), v = .int .i64 (last : Int) ∧ last ≤ 2147483647 ∧ Hid (l.length ≤ N ∧ l.length ≤ 1000000 ∧ k + l.length ≤ b.length) ∧ Hid (pv V N last l s = R) ∧ Rdr wr g l 0 ∧ Hid (J g k s wr)) (fun v _ => (2147483647 - intOf v).toNat)
  case atStart => exact ⟨0, b.length, 0, b, s0, rfl, by decide, Lib.hid ⟨Nat.le_refl _, HB.out, by omega⟩, HR, hRd, hJ1⟩
  case round =>
    obtain ⟨last, N, k, l, s, rfl, hla, HN, HP, hr, HJ⟩ := hrel
    clear HR hRd hJ1
    have HL1 := HN.out.2.1
    have cL := left_any g l 0 wr hr
    by_cases hl : l = []
    · subst hl
      have HE := Lib.hid (show (s, 0) = R by rw [← HP.out, pv_nil])
      clear HP HL1
      go_wp2_with fail
      refine cL.mono ?_
      rintro en w2 ⟨rfl, rfl⟩
      go_wp2_with fail
      refine bodyPost_ret (v := .int .i64 0) (by simp [results, Tryz.results55, go_sem]) rfl ?_
      rw [← HE.out]
      exact ⟨rfl, g, k, HJ.out⟩
    · have hlen : 0 < l.length := List.length_pos_iff.2 hl
      obtain ⟨N', rfl⟩ : ∃ N', N = N' + 1 := ⟨N - 1, by have := HN.out.1; omega⟩
      have d0 : decide (0 < l.length) = true := decide_eq_true hlen
      have cS := rSmall_any g l 0 2147483647 wr (by omega) (by decide) (by decide) hr
      have HHl := Lib.hid hl
      obtain ⟨e1, he1⟩ : ∃ e1, eN4 l = e1 := ⟨_, rfl⟩
      rw [show eS 2147483647 4 l = e1 from he1] at cS
      have HE1 := Lib.hid he1
      clear he1 hl hlen
      by_cases h1 : e1 = 0
      case neg =>
        have HE := Lib.hid (show (s, e1) = R by rw [← HP.out]; exact (pv_err HHl.out (by unfold eF; rw [HE1.out, if_pos h1]) h1).symm)
        have q1 : ((e1 : Int) != 0) = true := by simpa using h1
        have cS2 := ir_cast cS (v' := .int .i64 (nS 2147483647 l : Int)) (l' := l) (e' := e1) (if_pos rfl) (aL0 _ _ _ h1) (by unfold aE; rw [if_pos rfl])
        clear cS HP HL1 h1
        go_wp2_with fail
        refine cL.mono ?_
        rintro en w2 ⟨rfl, rfl⟩
        go_wp2_with fail
        refine cS2.mono ?_
        rintro en w2 ⟨rfl, hg2, hr2⟩
        have HJ2 := Lib.hid (hJr g k s _ _ HJ.out hg2)
        go_wp2_with fail
        refine (err_any g l e1 w2 hr2).mono ?_
        rintro en w3 ⟨rfl, rfl⟩
        go_wp2_with fail
        refine bodyPost_ret (v := .int .i64 (e1 : Int)) (by simp [results, Tryz.results55, go_sem]) rfl ?_
        rw [← HE.out]
        exact ⟨rfl, g, k, HJ2.out⟩
      case pos =>
      subst h1
      obtain ⟨k1, k2, k3, k4⟩ := rF_ok HE1.out
      have cS2 := ir_cast cS (v' := .int .i64 (nF l : Int)) (l' := rF l) (e' := 0) (if_pos rfl) (by unfold aL; rw [if_pos ⟨rfl, rfl⟩]; rfl) (by unfold aE; rw [if_pos rfl])
      have hrl : (rF l).length ≤ 1000000 := by rw [k1]; have := rU_len l; omega
      have hnl : nF l ≤ 2147483647 := by rw [k2]; exact k4
      have HF := Lib.hid (show ∀ last, eF last l = if nF l ≤ last then 2 else eC (rF l) from fun last => by unfold eF; rw [HE1.out, if_neg (fun k => k rfl)])
      have HT := Lib.hid (tF_lt HE1.out HHl.out)
      have HC := Lib.hid (cF_le HE1.out)
      clear cS k1 k2 k3 k4
      by_cases hle : nF l ≤ last
      case pos =>
        have HE := Lib.hid (show (s, 2) = R by rw [← HP.out]; exact (pv_err HHl.out (by rw [HF.out, if_pos hle]) (by decide)).symm)
        have d1 : decide (nF l ≤ last) = true := decide_eq_true hle
        clear HP HL1 hle HF HT HC
        generalize nF l = n at *
        go_wp2_with fail
        refine cL.mono ?_
        rintro en w2 ⟨rfl, rfl⟩
        go_wp2_with fail
        refine cS2.mono ?_
        rintro en w2 ⟨rfl, hg2, hr2⟩
        have HJ2 := Lib.hid (hJr g k s _ _ HJ.out hg2)
        go_wp2_with fail
        refine (err_any g _ 0 w2 hr2).mono ?_
        rintro en w3 ⟨rfl, rfl⟩
        go_wp2_with fail
        refine bodyPost_ret (v := .int .i64 2) (by simp [results, Tryz.results55, go_sem]) rfl ?_
        rw [← HE.out]
        exact ⟨rfl, g, k, HJ2.out⟩
      case neg =>
      have d1 : decide (nF l ≤ last) = false := decide_eq_false hle
      have HLe := Lib.hid hle
      clear hle
      have cR := fun W h => readContent_any g (rF l) W hrl h
      obtain ⟨e2, he2⟩ : ∃ e2, eC (rF l) = e2 := ⟨_, rfl⟩
      have hcc : cC (rF l) = cF l := rfl
      have htt : tC (rF l) = tF l := rfl
      rw [he2, hcc, htt] at cR
      have HE2 := Lib.hid (show eF last l = e2 by rw [HF.out, if_neg HLe.out, he2])
      have HFin := Lib.hid (fun (h0 : e2 = 0) => show tF l = tF l from rfl)
      clear he2 hcc htt HF
      have hcl : (cF l).length ≤ 1000000 := by have := HC.out; omega
      have HVV := Lib.hid (fun (h0 : eF last l = 0) => And.intro (fun e (hv : (V s (nF l) (cF l)).2 = e) (hn : e ≠ 0) => show V s (nF l) (cF l) = R by rw [← HP.out, pv_stop HHl.out h0 hv hn]) (fun (hv : (V s (nF l) (cF l)).2 = 0) => show pv V N' (nF l) (tF l) (V s (nF l) (cF l)).1 = R by rw [← HP.out, pv_go HHl.out h0 hv]))
      have HEE := Lib.hid (fun (h0 : e2 ≠ 0) => show (s, e2) = R by rw [← HP.out, pv_err HHl.out HE2.out h0])
      have HN2 := Lib.hid (show (tF l).length ≤ N' ∧ (tF l).length ≤ 1000000 ∧ k + 1 + (tF l).length ≤ b.length by have := HT.out; have := HN.out; omega)
      have hkb : k < b.length := by have := HT.out; have := HN.out; omega
      have HlN := Lib.hid (show last < nF l by have := HLe.out; omega)
      clear HP HT HC HN HE1 HHl HL1 HFin
      generalize nF l = n at *
      generalize cF l = c at *
      generalize tF l = t at *
      generalize rF l = r at *
      by_cases h2 : e2 = 0
      case neg =>
        have HE := Lib.hid (HEE.out h2)
        have q2 : ((e2 : Int) != 0) = true := by simpa using h2
        clear HVV HEE h2 HE2
        go_wp2_with fail
        refine cL.mono ?_
        rintro en w2 ⟨rfl, rfl⟩
        go_wp2_with fail
        refine cS2.mono ?_
        rintro en w2 ⟨rfl, hg2, hr2⟩
        have HJ2 := Lib.hid (hJr g k s _ _ HJ.out hg2)
        go_wp2_with fail
        refine (err_any g _ 0 w2 hr2).mono ?_
        rintro en w3 ⟨rfl, rfl⟩
        go_wp2_with fail
        refine (cR w2 hr2).mono ?_
        rintro en w3 ⟨rfl, hg3, -⟩
        have HJ3 := Lib.hid (hJr g k s _ _ HJ2.out hg3)
        go_wp2_with fail
        refine bodyPost_ret (v := .int .i64 (e2 : Int)) (by simp [results, Tryz.results55, go_sem]) rfl ?_
        rw [← HE.out]
        exact ⟨rfl, g, k, HJ3.out⟩
      case pos =>
      subst h2
      have HV2 := Lib.hid (HVV.out HE2.out)
      clear HVV HEE HE2
      have cV := fun W l e (h : J g k s W) h2 => hV g k s n c W l e hg hkb h h2 hnl hcl
      obtain ⟨s2, hs2⟩ : ∃ s2, (V s n c).1 = s2 := ⟨_, rfl⟩
      obtain ⟨e3, he3⟩ : ∃ e3, (V s n c).2 = e3 := ⟨_, rfl⟩
      have hVe : V s n c = (s2, e3) := by rw [← hs2, ← he3]
      rw [hs2] at cV HV2
      rw [he3] at cV HV2
      rw [hVe] at HV2
      clear hs2 he3 hVe
      by_cases h3 : e3 = 0
      case neg =>
        have HE := Lib.hid (HV2.out.1 e3 rfl h3)
        have q3 : ((e3 : Int) != 0) = true := by simpa using h3
        clear HV2 h3
        go_wp2_with fail
        refine cL.mono ?_
        rintro en w2 ⟨rfl, rfl⟩
        go_wp2_with fail
        refine cS2.mono ?_
        rintro en w2 ⟨rfl, hg2, hr2⟩
        have HJ2 := Lib.hid (hJr g k s _ _ HJ.out hg2)
        go_wp2_with fail
        refine (err_any g _ 0 w2 hr2).mono ?_
        rintro en w3 ⟨rfl, rfl⟩
        go_wp2_with fail
        refine (cR w2 hr2).mono ?_
        rintro en w3 ⟨rfl, hg3, hr3⟩
        have HJ3 := Lib.hid (hJr g k s _ _ HJ2.out hg3)
        go_wp2_with fail
        rw [run_callFunc hF]
        refine (cV w3 t 0 HJ3.out (hr3 trivial)).mono ?_
        rintro en w4 ⟨rfl, hJ4, hr4⟩
        go_wp2_with fail
        refine bodyPost_ret (v := .int .i64 (e3 : Int)) (by simp [results, Tryz.results55, go_sem]) rfl ?_
        rw [← HE.out]
        exact ⟨rfl, g, k + 1, hJ4⟩
      case pos =>
      subst h3
      have HE := Lib.hid (HV2.out.2 rfl)
      clear HV2
      go_wp2_with fail
      refine cL.mono ?_
      rintro en w2 ⟨rfl, rfl⟩
      go_wp2_with fail
      refine cS2.mono ?_
      rintro en w2 ⟨rfl, hg2, hr2⟩
      have HJ2 := Lib.hid (hJr g k s _ _ HJ.out hg2)
      go_wp2_with fail
      refine (err_any g _ 0 w2 hr2).mono ?_
      rintro en w3 ⟨rfl, rfl⟩
      go_wp2_with fail
      refine (cR w2 hr2).mono ?_
      rintro en w3 ⟨rfl, hg3, hr3⟩
      have HJ3 := Lib.hid (hJr g k s _ _ HJ2.out hg3)
      go_wp2_with fail
      rw [run_callFunc hF]
      refine (cV w3 t 0 HJ3.out (hr3 trivial)).mono ?_
      rintro en w4 ⟨rfl, hJ4, hr4⟩
      go_wp2_with fail
      go_roundw
      case rel => exact ⟨n, N', k + 1, t, s2, rfl, hnl, HN2, HE, hr4, Lib.hid hJ4⟩
      case measure => have := HlN.out; simp [intOf]; omega
end Go.Proofs.YthfodpbecddheaaGreatDoor
/-
  How deep a value is: the developers' exceeds, the reference's Levels. No conditions beyond those that each names.
-/
namespace Go.Proofs.YthfodpbecddheaaGreatDoor
open Go.RowKit Go.Sort
theorem any_ix {α : Type} (p : α → Bool) (l : List α) : decide ((0 : Int) ≤ ixI (l.findIdx? p)) = l.any p := by
  cases h : l.findIdx? p with
  | none =>
    rw [List.findIdx?_eq_none_iff] at h
    rw [List.any_eq_false.2 fun x hx => by simp [h x hx]]
    rfl
  | some i =>
    rw [List.findIdx?_eq_some_iff_getElem] at h
    obtain ⟨h1, h2, -⟩ := h
    rw [List.any_eq_true.2 ⟨_, List.getElem_mem h1, h2⟩, decide_eq_true_eq]
    exact Int.natCast_nonneg _
theorem lvl_any (n : Nat) : ∀ l : List Vl, l.any (fun x => decide (n < lv x)) = decide (n < lv.lvl l)
  | [] => by rw [lv.lvl]; simp
  | t :: ts => by
    rw [List.any_cons, lvl_any n ts, lv.lvl, Bool.eq_iff_iff]
    simp only [Bool.or_eq_true, decide_eq_true_eq]
    omega
theorem lvf_any (n : Nat) : ∀ l : List (Int × Vl), l.any (fun x => decide (n < lv x.2)) = decide (n < lv.lvf l)
  | [] => by rw [lv.lvf]; simp
  | (k, t) :: ts => by
    rw [List.any_cons, lvf_any n ts, lv.lvf, Bool.eq_iff_iff]
    simp only [Bool.or_eq_true, decide_eq_true_eq]
    omega
theorem lv_flat {t : Vl} (h5 : t.kind ≠ 5) (h6 : t.kind ≠ 6) (hl : t.l.length = 0) (hf : t.f.length = 0) : lv t = 0 := by
  obtain ⟨k, n, s, l, f⟩ := t
  rw [lv, if_pos ⟨h5, h6, List.eq_nil_of_length_eq_zero hl, List.eq_nil_of_length_eq_zero hf⟩]
theorem lv_deep {t : Vl} (h : ¬ (t.kind ≠ 5 ∧ t.kind ≠ 6 ∧ t.l.length = 0 ∧ t.f.length = 0)) : lv t = 1 + max (lv.lvl t.l) (lv.lvf t.f) := by
  obtain ⟨k, n, s, l, f⟩ := t
  rw [lv, if_neg]
  · rfl
  · rintro ⟨h1, h2, rfl, rfl⟩
    exact h ⟨h1, h2, rfl, rfl⟩
theorem lv_succ {t : Vl} {n : Nat} (h : ¬ (t.kind ≠ 5 ∧ t.kind ≠ 6 ∧ t.l.length = 0 ∧ t.f.length = 0)) : decide (n + 1 < lv t) = (t.l.any (fun x => decide (n < lv x)) || t.f.any (fun x => decide (n < lv x.2))) := by
  rw [lv_deep h, lvl_any, lvf_any, Bool.eq_iff_iff]
  simp only [Bool.or_eq_true, decide_eq_true_eq]
  omega
set_option maxRecDepth 100000 in
set_option maxHeartbeats 4000000 in
theorem ixV_any (p : Vl → Bool) (l : List Vl) (A : Option Addr) (c : Nat) (z : Int) (g : Nat) (w : World) (hl : l.length ≤ 9223372036854775807) (hR : Rw VlA 5 w l A) (hg : w.cell? ⟨g, 0, none⟩ = some (.int .i64 z))
    (hc : ∀ i (h : i < l.length) v w', VlV w' (l[i]'h) v → w'.cell? ⟨g, 0, none⟩ = some (.int .i64 z) → Calls Tryz.prog 71 #[v, .pointer (some ⟨g, 0, none⟩)] w' (Ib (.bool (p (l[i]'h))) w')) :
    Calls Tryz.prog 125 #[.slice A l.length c, .func (.func 71) #[] #[.pointer (some ⟨g, 0, none⟩)]] w (Ib (.int .i64 (ixI (l.findIdx? p))) w) := by
  obtain ⟨n, hn⟩ : ∃ n, l.length = n := ⟨_, rfl⟩
  obtain ⟨r, hr⟩ : ∃ r, ixI (l.findIdx? p) = r := ⟨_, rfl⟩
  have HN := Lib.hid hn
  have HR := Lib.hid hr
  rw [hn] at hl
  rw [hn, hr]
  clear hn hr
  have H0 : Hid (∀ j (hj : j < l.length), j < 0 → p (l[j]'hj) = false) := Lib.hid fun j _ h => by omega
  go_enter Tryz.func125, Tryz.ntmps125
  go_wp2_with fail
  go_loopw [8] (fun i wr => ∃ k : Nat, k ≤ n ∧ i = .int .i64 (k : Int) ∧ Hid (∀ j (hj : j < l.length), j < k → p (l[j]'hj) = false) ∧ Below w.heap.size w wr) (fun i _ => n - (intOf i).toNat)
  case atStart => exact ⟨0, by omega, rfl, H0, Below.refl _ _⟩
  case round =>
    obtain ⟨k, hk, rfl, HK, hb⟩ := hrel
    clear H0
    by_cases hlt : k < n
    · have h1 : k < l.length := by rw [HN.out]; exact hlt
      have hk1 := Lib.hid hlt
      obtain ⟨a, rfl, hA⟩ := hR.get h1
      obtain ⟨B, q, B2, q2, x0, x1, x2, x3, x4, hV⟩ := (VlA.next hb _ _ hA).val
      have hblk : (a.add (k * 5)).block < wr.heap.size := blk_lt x0
      have cC := hc k h1 _ wr hV (cell_next hb hg)
      have HF := Lib.hid (fun (h : p (l[k]'h1) = false) => show ∀ j (hj : j < l.length), j < k + 1 → p (l[j]'hj) = false from fun j hj h2 => by
        by_cases e : j = k
        · subst e; exact h
        · exact HK.out j hj (by omega))
      have HT := Lib.hid (fun (h : p (l[k]'h1) = true) => show r = (k : Int) by rw [← HR.out, findIdx_at h1 h HK.out]; rfl)
      obtain ⟨b, hbb⟩ : ∃ b, p (l[k]'h1) = b := ⟨_, rfl⟩
      rw [hbb] at cC HF HT
      generalize l[k]'h1 = u at *
      clear hA hV hR HK hbb hg hc
      cases b
      · have HF2 := Lib.hid (show ∀ j (hj : j < l.length), j < k + 1 → p (l[j]'hj) = false from HF.out rfl)
        clear HF HT
        go_wp2_with fail
        refine cC.mono ?_
        rintro e w2 ⟨rfl, hb2⟩
        go_wp2_with fail
        go_roundw
        case rel => exact ⟨k + 1, hk1.out, by go_num, HF2, Below.next hb hb2⟩
        case measure => have := hk1.out; simp [intOf]; omega
      · have HT2 := HT.out rfl
        clear HF HT
        subst HT2
        go_wp2_with fail
        refine cC.mono ?_
        rintro e w2 ⟨rfl, hb2⟩
        go_wp2_with fail
        go_ret
        exact ⟨rfl, Below.next hb hb2⟩
    · obtain rfl : k = n := by omega
      have HE : r = -1 := by rw [← HR.out, findIdx_none fun j hj => HK.out j hj (by rw [← HN.out]; exact hj)]; rfl
      subst HE
      clear HK hR hc
      go_wp2_with fail
      go_ret
      exact ⟨rfl, hb⟩
set_option maxRecDepth 100000 in
set_option maxHeartbeats 4000000 in
theorem ixE_any (p : (Int × Vl) → Bool) (l : List (Int × Vl)) (A : Option Addr) (c : Nat) (z : Int) (g : Nat) (w : World) (hl : l.length ≤ 9223372036854775807) (hR : Rw EtA 6 w l A) (hg : w.cell? ⟨g, 0, none⟩ = some (.int .i64 z))
    (hc : ∀ i (h : i < l.length) v w', EtV w' (l[i]'h) v → w'.cell? ⟨g, 0, none⟩ = some (.int .i64 z) → Calls Tryz.prog 73 #[v, .pointer (some ⟨g, 0, none⟩)] w' (Ib (.bool (p (l[i]'h))) w')) :
    Calls Tryz.prog 84 #[.slice A l.length c, .func (.func 73) #[] #[.pointer (some ⟨g, 0, none⟩)]] w (Ib (.int .i64 (ixI (l.findIdx? p))) w) := by
  obtain ⟨n, hn⟩ : ∃ n, l.length = n := ⟨_, rfl⟩
  obtain ⟨r, hr⟩ : ∃ r, ixI (l.findIdx? p) = r := ⟨_, rfl⟩
  have HN := Lib.hid hn
  have HR := Lib.hid hr
  rw [hn] at hl
  rw [hn, hr]
  clear hn hr
  have H0 : Hid (∀ j (hj : j < l.length), j < 0 → p (l[j]'hj) = false) := Lib.hid fun j _ h => by omega
  go_enter Tryz.func84, Tryz.ntmps84
  go_wp2_with fail
  go_loopw [8] (fun i wr => ∃ k : Nat, k ≤ n ∧ i = .int .i64 (k : Int) ∧ Hid (∀ j (hj : j < l.length), j < k → p (l[j]'hj) = false) ∧ Below w.heap.size w wr) (fun i _ => n - (intOf i).toNat)
  case atStart => exact ⟨0, by omega, rfl, H0, Below.refl _ _⟩
  case round =>
    obtain ⟨k, hk, rfl, HK, hb⟩ := hrel
    clear H0
    by_cases hlt : k < n
    · have h1 : k < l.length := by rw [HN.out]; exact hlt
      have hk1 := Lib.hid hlt
      obtain ⟨a, rfl, hA⟩ := hR.get h1
      obtain ⟨B, q, B2, q2, x0, x1, x2, x3, x4, x5, hV⟩ := (EtA.next hb _ _ hA).val2
      have hblk : (a.add (k * 6)).block < wr.heap.size := blk_lt x0
      have cC := hc k h1 _ wr hV (cell_next hb hg)
      have HF := Lib.hid (fun (h : p (l[k]'h1) = false) => show ∀ j (hj : j < l.length), j < k + 1 → p (l[j]'hj) = false from fun j hj h2 => by
        by_cases e : j = k
        · subst e; exact h
        · exact HK.out j hj (by omega))
      have HT := Lib.hid (fun (h : p (l[k]'h1) = true) => show r = (k : Int) by rw [← HR.out, findIdx_at h1 h HK.out]; rfl)
      obtain ⟨b, hbb⟩ : ∃ b, p (l[k]'h1) = b := ⟨_, rfl⟩
      rw [hbb] at cC HF HT
      generalize l[k]'h1 = u at *
      clear hA hV hR HK hbb hg hc
      cases b
      · have HF2 := Lib.hid (show ∀ j (hj : j < l.length), j < k + 1 → p (l[j]'hj) = false from HF.out rfl)
        clear HF HT
        go_wp2_with fail
        refine cC.mono ?_
        rintro e w2 ⟨rfl, hb2⟩
        go_wp2_with fail
        go_roundw
        case rel => exact ⟨k + 1, hk1.out, by go_num, HF2, Below.next hb hb2⟩
        case measure => have := hk1.out; simp [intOf]; omega
      · have HT2 := HT.out rfl
        clear HF HT
        subst HT2
        go_wp2_with fail
        refine cC.mono ?_
        rintro e w2 ⟨rfl, hb2⟩
        go_wp2_with fail
        go_ret
        exact ⟨rfl, Below.next hb hb2⟩
    · obtain rfl : k = n := by omega
      have HE : r = -1 := by rw [← HR.out, findIdx_none fun j hj => HK.out j hj (by rw [← HN.out]; exact hj)]; rfl
      subst HE
      clear HK hR hc
      go_wp2_with fail
      go_ret
      exact ⟨rfl, hb⟩
set_option maxRecDepth 100000 in
theorem cfV_any (p : Vl → Bool) (l : List Vl) (A : Option Addr) (c : Nat) (z : Int) (g : Nat) (w : World) (hl : l.length ≤ 9223372036854775807) (hR : Rw VlA 5 w l A) (hg : w.cell? ⟨g, 0, none⟩ = some (.int .i64 z))
    (hc : ∀ i (h : i < l.length) v w', VlV w' (l[i]'h) v → w'.cell? ⟨g, 0, none⟩ = some (.int .i64 z) → Calls Tryz.prog 71 #[v, .pointer (some ⟨g, 0, none⟩)] w' (Ib (.bool (p (l[i]'h))) w')) :
    Calls Tryz.prog 70 #[.slice A l.length c, .func (.func 71) #[] #[.pointer (some ⟨g, 0, none⟩)]] w (Ib (.bool (l.any p)) w) := by
  have c1 := ixV_any p l A c z g w hl hR hg hc
  have ha := any_ix p l
  clear hc hR hg hl
  generalize ixI (l.findIdx? p) = i at *
  generalize l.any p = b at *
  generalize l.length = n at *
  subst ha
  go_enter Tryz.func70, Tryz.ntmps70
  go_wp2_with fail
  refine c1.mono ?_
  rintro e w2 ⟨rfl, hb⟩
  go_wp2_with fail
  go_ret
  exact ⟨rfl, hb⟩
set_option maxRecDepth 100000 in
theorem cfE_any (p : (Int × Vl) → Bool) (l : List (Int × Vl)) (A : Option Addr) (c : Nat) (z : Int) (g : Nat) (w : World) (hl : l.length ≤ 9223372036854775807) (hR : Rw EtA 6 w l A) (hg : w.cell? ⟨g, 0, none⟩ = some (.int .i64 z))
    (hc : ∀ i (h : i < l.length) v w', EtV w' (l[i]'h) v → w'.cell? ⟨g, 0, none⟩ = some (.int .i64 z) → Calls Tryz.prog 73 #[v, .pointer (some ⟨g, 0, none⟩)] w' (Ib (.bool (p (l[i]'h))) w')) :
    Calls Tryz.prog 72 #[.slice A l.length c, .func (.func 73) #[] #[.pointer (some ⟨g, 0, none⟩)]] w (Ib (.bool (l.any p)) w) := by
  have c1 := ixE_any p l A c z g w hl hR hg hc
  have ha := any_ix p l
  clear hc hR hg hl
  generalize ixI (l.findIdx? p) = i at *
  generalize l.any p = b at *
  generalize l.length = n at *
  subst ha
  go_enter Tryz.func72, Tryz.ntmps72
  go_wp2_with fail
  refine c1.mono ?_
  rintro e w2 ⟨rfl, hb⟩
  go_wp2_with fail
  go_ret
  exact ⟨rfl, hb⟩
set_option maxRecDepth 100000 in
theorem exC1_any (t : Vl) (n : Nat) (g : Nat) (v : Value) (w : World) (hv : VlV w t v) (hn : n ≤ 1000) (hg : w.cell? ⟨g, 0, none⟩ = some (.int .i64 ((n + 1 : Nat) : Int))) (hc : ∀ v w', VlV w' t v → Calls Tryz.prog 37 #[v, .int .i64 (n : Int)] w' (Ib (.bool (decide (n < lv t))) w')) :
    Calls Tryz.prog 71 #[v, .pointer (some ⟨g, 0, none⟩)] w (Ib (.bool (decide (n < lv t))) w) := by
  obtain ⟨s, rfl, hr⟩ := rdV_iff.1 hv
  have hl := blk_lt hg
  have c1 := hc _ _ (hv.next (ab1 w (Obj.cells (encV t s).toArray 34)))
  obtain ⟨r, hr2⟩ : ∃ r, decide (n < lv t) = r := ⟨_, rfl⟩
  have hx : ((n + 1 : Nat) : Int) - 1 = (n : Int) := by omega
  rw [hr2] at c1 ⊢
  obtain ⟨m, hm⟩ : ∃ m : Int, ((n + 1 : Nat) : Int) = m := ⟨_, rfl⟩
  rw [hm] at hx hg
  clear hc hr2 hr hv
  have hmr : m ≤ 2000 := by omega
  have hmr0 : 0 ≤ m := by omega
  clear hm
  show Calls Tryz.prog _ #[.agg #[.int .i64 t.kind, .int .i64 t.n, .string (bs t.s), .slice s.A t.l.length s.c, .slice s.B t.f.length s.d], _] w _
  have c2 : Calls Tryz.prog 37 #[.agg #[.int .i64 t.kind, .int .i64 t.n, .string (bs t.s), .slice s.A t.l.length s.c, .slice s.B t.f.length s.d], .int .i64 (n : Int)] (w.alloc (Obj.cells #[.int .i64 t.kind, .int .i64 t.n, .string (bs t.s), .slice s.A t.l.length s.c, .slice s.B t.f.length s.d] 34)) (Ib (.bool r) (w.alloc (Obj.cells #[.int .i64 t.kind, .int .i64 t.n, .string (bs t.s), .slice s.A t.l.length s.c, .slice s.B t.f.length s.d] 34))) := c1
  clear c1
  go_enter Tryz.func71, Tryz.ntmps71
  go_wp2_with fail
  refine c2.mono ?_
  rintro e w2 ⟨rfl, hb⟩
  go_wp2_with fail
  go_ret
  exact ⟨rfl, Below.next (ab1 _ _) hb⟩
set_option maxRecDepth 100000 in
theorem exC2_any (x : Int × Vl) (n : Nat) (g : Nat) (v : Value) (w : World) (hv : EtV w x v) (hn : n ≤ 1000) (hg : w.cell? ⟨g, 0, none⟩ = some (.int .i64 ((n + 1 : Nat) : Int))) (hc : ∀ v w', VlV w' x.2 v → Calls Tryz.prog 37 #[v, .int .i64 (n : Int)] w' (Ib (.bool (decide (n < lv x.2))) w')) :
    Calls Tryz.prog 73 #[v, .pointer (some ⟨g, 0, none⟩)] w (Ib (.bool (decide (n < lv x.2))) w) := by
  obtain ⟨A, c, B, d, rfl, h1, h2⟩ := hv
  obtain ⟨num, t⟩ := x
  have hl := blk_lt hg
  have hab := ab1 w (Obj.cells #[.int .i64 num, .int .i64 t.kind, .int .i64 t.n, .string (bs t.s), .slice A t.l.length c, .slice B t.f.length d] 94)
  have c2 := hc _ _ (VlV.next hab ⟨A, c, B, d, rfl, h1, h2⟩)
  obtain ⟨r, hr2⟩ : ∃ r, decide (n < lv t) = r := ⟨_, rfl⟩
  have hx : ((n + 1 : Nat) : Int) - 1 = (n : Int) := by omega
  have hr3 : decide (n < lv (num, t).2) = r := hr2
  rw [hr3] at c2 ⊢
  obtain ⟨m, hm⟩ : ∃ m : Int, ((n + 1 : Nat) : Int) = m := ⟨_, rfl⟩
  rw [hm] at hx hg
  have hmr : m ≤ 2000 := by omega
  have hmr0 : 0 ≤ m := by omega
  clear hc hr2 hr3 h1 h2 hm
  go_enter Tryz.func73, Tryz.ntmps73
  go_wp2_with fail
  refine c2.mono ?_
  rintro e w2 ⟨rfl, hb⟩
  go_wp2_with fail
  go_ret
  exact ⟨rfl, Below.next (ab1 _ _) hb⟩
set_option maxRecDepth 100000 in
set_option maxHeartbeats 8000000 in
theorem exceeds_any (N : Nat) : ∀ (t : Vl) (k : Nat) (v : Value) (w : World), SizeOf.sizeOf t < N → vok t → k ≤ 1000 → VlV w t v →
    Calls Tryz.prog 37 #[v, .int .i64 (k : Int)] w (Ib (.bool (decide (k < lv t))) w) := by
  induction N with
  | zero => intro t k v w h; omega
  | succ N ih =>
    intro t k v w hN hok hk hv
    obtain ⟨-, ⟨hl, hlo⟩, hf, hfo⟩ := vok_iff.1 hok
    have HD := Lib.hid (@lv_flat t)
    have HS := Lib.hid (fun (n : Nat) h => @lv_succ t n h)
    have HP := Lib.hid (@lv_deep t)
    have cL0 := fun (q : Nat) (hq : q ≤ 1000) (g : Nat) (W : World) (i : Nat) (h : i < t.l.length) v w' (hv' : VlV w' (t.l[i]'h) v) (hg : w'.cell? ⟨g, 0, none⟩ = some (.int .i64 ((q + 1 : Nat) : Int))) => exC1_any (t.l[i]'h) q g v w' hv' hq hg fun v w' => ih _ q v w' (by have := size_l h; omega) (hlo _ (List.getElem_mem h)) hq
    have cF0 := fun (q : Nat) (hq : q ≤ 1000) (g : Nat) (W : World) (i : Nat) (h : i < t.f.length) v w' (hv' : EtV w' (t.f[i]'h) v) (hg : w'.cell? ⟨g, 0, none⟩ = some (.int .i64 ((q + 1 : Nat) : Int))) => exC2_any (t.f[i]'h) q g v w' hv' hq hg fun v w' => ih _ q v w' (by have := size_f h; omega) (hfo _ (List.getElem_mem h)) hq
    obtain ⟨A, c, B, d, rfl, hR, hR2⟩ := hv
    have cL := fun (q : Nat) (hq : q ≤ 1000) (g : Nat) (W : World) (hb : Below w.heap.size w W) (hg : W.cell? ⟨g, 0, none⟩ = some (.int .i64 ((q + 1 : Nat) : Int))) => cfV_any (fun x => decide (q < lv x)) t.l A c ((q + 1 : Nat) : Int) g W hl (hR.next fun x p => VlA.next hb x p) hg (cL0 q hq g W)
    have cF := fun (q : Nat) (hq : q ≤ 1000) (g : Nat) (W : World) (hb : Below w.heap.size w W) (hg : W.cell? ⟨g, 0, none⟩ = some (.int .i64 ((q + 1 : Nat) : Int))) => cfE_any (fun x => decide (q < lv x.2)) t.f B d ((q + 1 : Nat) : Int) g W hf (hR2.next fun x p => EtA.next hb x p) hg (cF0 q hq g W)
    obtain ⟨m, hm⟩ : ∃ m, t.l.length = m := ⟨_, rfl⟩
    obtain ⟨n, hn⟩ : ∃ n, t.f.length = n := ⟨_, rfl⟩
    rw [hm] at hl
    rw [hn] at hf
    simp only [hm] at cL
    simp only [hn] at cF
    rw [hm, hn] at HD HS HP ⊢
    have D1 := (Bx.new5 w 34 (.int .i64 t.kind) (.int .i64 t.n) (.string (bs t.s)) (.slice A m c) (.slice B n d)).next (ab1 _ (Obj.cells #[.int .i64 (k : Int)] 3))
    have D2 := Bx.new1 (w.alloc (Obj.cells #[.int .i64 t.kind, .int .i64 t.n, .string (bs t.s), .slice A m c, .slice B n d] 34)) 3 (.int .i64 (k : Int))
    have hab := ab2 w (Obj.cells #[.int .i64 t.kind, .int .i64 t.n, .string (bs t.s), .slice A m c, .slice B n d] 34) (Obj.cells #[.int .i64 (k : Int)] 3)
    rw [show (w.alloc (Obj.cells #[.int .i64 t.kind, .int .i64 t.n, .string (bs t.s), .slice A m c, .slice B n d] 34)).heap.size = w.heap.size + 1 by simp] at D2
    clear cL0 cF0 ih hR hR2 hlo hfo hok hN hm hn
    by_cases hfl : t.kind ≠ 5 ∧ t.kind ≠ 6 ∧ m = 0 ∧ n = 0
    · obtain ⟨h5, h6, rfl, rfl⟩ := hfl
      have hz := HD.out h5 h6 rfl rfl
      have d5 : (t.kind != 5) = true := by simpa using h5
      have d6 : (t.kind != 6) = true := by simpa using h6
      rw [hz, show decide (k < 0) = false by simp]
      clear hz h5 h6 HD HS HP cL cF
      go_enter Tryz.func37, Tryz.ntmps37
      go_wp2_with fail
      go_ret
      exact ⟨rfl, hab⟩
    have HS := HS.out (k - 1) hfl
    have HP := HP.out hfl
    cases k with
    | zero =>
      rw [show decide (0 < lv t) = true by rw [decide_eq_true_eq, HP]; omega]
      clear HP HS HD cL cF
      by_cases h5 : t.kind = 5
      · have d5 : (t.kind != 5) = false := by simpa using h5
        clear h5 hfl
        go_enter Tryz.func37, Tryz.ntmps37
        go_wp2_with fail
        go_ret
        exact ⟨rfl, hab⟩
      have d5 : (t.kind != 5) = true := by simpa using h5
      by_cases h6 : t.kind = 6
      · have d6 : (t.kind != 6) = false := by simpa using h6
        clear h5 h6 hfl
        go_enter Tryz.func37, Tryz.ntmps37
        go_wp2_with fail
        go_ret
        exact ⟨rfl, hab⟩
      have d6 : (t.kind != 6) = true := by simpa using h6
      by_cases hm0 : m = 0
      · subst hm0
        have dn : ((n : Int) == 0) = false := by have : n ≠ 0 := fun e => hfl ⟨h5, h6, rfl, e⟩; simp; omega
        clear h5 h6 hfl
        go_enter Tryz.func37, Tryz.ntmps37
        go_wp2_with fail
        go_ret
        exact ⟨rfl, hab⟩
      · have dm : ((m : Int) == 0) = false := by simp; omega
        clear h5 h6 hfl hm0
        go_enter Tryz.func37, Tryz.ntmps37
        go_wp2_with fail
        go_ret
        exact ⟨rfl, hab⟩
    | succ q =>
      rw [Nat.add_sub_cancel] at HS
      rw [HS]
      have cL1 := cL q (by omega) (w.heap.size + 1) _ hab (D2.c 0 rfl)
      have cF1 := fun W h => cF q (by omega) (w.heap.size + 1) W (Below.next hab h) ((D2.next h).c 0 rfl)
      have kq : ((((q + 1 : Nat) : Int)) == 0) = false := by simp; omega
      obtain ⟨b1, hb1⟩ : ∃ b1, t.l.any (fun x => decide (q < lv x)) = b1 := ⟨_, rfl⟩
      obtain ⟨b2, hb2⟩ : ∃ b2, t.f.any (fun x => decide (q < lv x.2)) = b2 := ⟨_, rfl⟩
      rw [hb1] at cL1 ⊢
      rw [hb2] at cF1 ⊢
      obtain ⟨K, hK⟩ : ∃ K : Int, ((q + 1 : Nat) : Int) = K := ⟨_, rfl⟩
      rw [hK] at kq cL1 cF1 D1 D2 hab ⊢
      clear cL cF HS HP HD hb1 hb2 hK
      by_cases h5 : t.kind = 5
      · have d5 : (t.kind != 5) = false := by simpa using h5
        clear h5 hfl
        go_enter Tryz.func37, Tryz.ntmps37
        go_wp2_with fail
        refine cL1.mono ?_
        rintro e w2 ⟨rfl, hb2⟩
        have E1 := D1.next hb2
        have c4 := E1.c 4 rfl
        have cF2 := cF1 _ hb2
        cases b1
        · go_wp2_with fail
          refine cF2.mono ?_
          rintro e w3 ⟨rfl, hb3⟩
          go_wp2_with fail
          go_ret
          exact ⟨rfl, Below.next (Below.next hab hb2) hb3⟩
        · go_wp2_with fail
          go_ret
          exact ⟨rfl, Below.next hab hb2⟩
      have d5 : (t.kind != 5) = true := by simpa using h5
      by_cases h6 : t.kind = 6
      · have d6 : (t.kind != 6) = false := by simpa using h6
        clear h5 h6 hfl
        go_enter Tryz.func37, Tryz.ntmps37
        go_wp2_with fail
        refine cL1.mono ?_
        rintro e w2 ⟨rfl, hb2⟩
        have E1 := D1.next hb2
        have c4 := E1.c 4 rfl
        have cF2 := cF1 _ hb2
        cases b1
        · go_wp2_with fail
          refine cF2.mono ?_
          rintro e w3 ⟨rfl, hb3⟩
          go_wp2_with fail
          go_ret
          exact ⟨rfl, Below.next (Below.next hab hb2) hb3⟩
        · go_wp2_with fail
          go_ret
          exact ⟨rfl, Below.next hab hb2⟩
      have d6 : (t.kind != 6) = true := by simpa using h6
      by_cases hm0 : m = 0
      · subst hm0
        have dn : ((n : Int) == 0) = false := by have : n ≠ 0 := fun e => hfl ⟨h5, h6, rfl, e⟩; simp; omega
        clear h5 h6 hfl
        go_enter Tryz.func37, Tryz.ntmps37
        go_wp2_with fail
        refine cL1.mono ?_
        rintro e w2 ⟨rfl, hb2⟩
        have E1 := D1.next hb2
        have c4 := E1.c 4 rfl
        have cF2 := cF1 _ hb2
        cases b1
        · go_wp2_with fail
          refine cF2.mono ?_
          rintro e w3 ⟨rfl, hb3⟩
          go_wp2_with fail
          go_ret
          exact ⟨rfl, Below.next (Below.next hab hb2) hb3⟩
        · go_wp2_with fail
          go_ret
          exact ⟨rfl, Below.next hab hb2⟩
      · have dm : ((m : Int) == 0) = false := by simp; omega
        clear h5 h6 hfl hm0
        go_enter Tryz.func37, Tryz.ntmps37
        go_wp2_with fail
        refine cL1.mono ?_
        rintro e w2 ⟨rfl, hb2⟩
        have E1 := D1.next hb2
        have c4 := E1.c 4 rfl
        have cF2 := cF1 _ hb2
        cases b1
        · go_wp2_with fail
          refine cF2.mono ?_
          rintro e w3 ⟨rfl, hb3⟩
          go_wp2_with fail
          go_ret
          exact ⟨rfl, Below.next (Below.next hab hb2) hb3⟩
        · go_wp2_with fail
          go_ret
          exact ⟨rfl, Below.next hab hb2⟩
end Go.Proofs.YthfodpbecddheaaGreatDoor
/-
  Whole numbers in a list. No conditions beyond those that each names.
-/
namespace Go.Proofs.YthfodpbecddheaaGreatDoor
open Go.RowKit Go.Shelf
set_option maxRecDepth 100000 in
set_option maxHeartbeats 4000000 in
theorem indexInts_any (l : List Int) (x : Int) (A : Option Addr) (c : Nat) (w : World) (hl : l.length ≤ 9223372036854775807) (hR : Rw TyI 1 w l A) :
    Calls Tryz.prog 108 #[.slice A l.length c, .int .i64 x] w (Is (.int .i64 (ixI (l.findIdx? fun y => decide (x = y)))) w) := by
  obtain ⟨n, hn⟩ : ∃ n, l.length = n := ⟨_, rfl⟩
  obtain ⟨r, hr⟩ : ∃ r, ixI (l.findIdx? fun y => decide (x = y)) = r := ⟨_, rfl⟩
  have HN := Lib.hid hn
  have HR := Lib.hid hr
  rw [hn] at hl
  rw [hn, hr]
  clear hn hr
  have H0 : Hid (∀ j (hj : j < l.length), j < 0 → decide (x = l[j]'hj) = false) := Lib.hid fun j _ h => by omega
  go_enter Tryz.func108, Tryz.ntmps108
  go_wp2_with fail
  go_loopw [8] (fun i wr => ∃ k : Nat, k ≤ n ∧ i = .int .i64 (k : Int) ∧ Hid (∀ j (hj : j < l.length), j < k → decide (x = l[j]'hj) = false) ∧ w = wr) (fun i _ => n - (intOf i).toNat)
  case atStart => exact ⟨0, by omega, rfl, H0, rfl⟩
  case round =>
    obtain ⟨k, hk, rfl, HK, rfl⟩ := hrel
    clear H0
    by_cases hlt : k < n
    · have h1 : k < l.length := by rw [HN.out]; exact hlt
      have hk1 := Lib.hid hlt
      obtain ⟨a, rfl, hA⟩ := hR.get h1
      rw [Nat.mul_one] at hA
      have hA : w.cell? (a.add k) = some (.int .i64 (l[k]'h1)) := hA
      have HF := Lib.hid (fun (h : ¬ x = l[k]'h1) => show ∀ j (hj : j < l.length), j < k + 1 → decide (x = l[j]'hj) = false from fun j hj h2 => by
        by_cases e : j = k
        · subst e; exact decide_eq_false h
        · exact HK.out j hj (by omega))
      have HT := Lib.hid (fun (h : x = l[k]'h1) => show r = (k : Int) by rw [← HR.out, findIdx_at h1 (decide_eq_true h) HK.out]; rfl)
      generalize l[k]'h1 = u at *
      clear hR HK
      by_cases hxu : x = u
      · have d1 : (x == u) = true := by simpa using hxu
        have HT2 := HT.out hxu
        clear HF HT hxu
        subst HT2
        go_wp2_with fail
        go_ret
        exact ⟨rfl, rfl⟩
      · have d1 : (x == u) = false := by simpa using hxu
        have HF2 := Lib.hid (HF.out hxu)
        clear HF HT hxu
        go_wp2_with fail
        go_roundw
        case rel => exact ⟨k + 1, hk1.out, by go_num, HF2, by first | trivial | rfl⟩
        case measure => have := hk1.out; simp [intOf]; omega
    · obtain rfl : k = n := by omega
      have HE : r = -1 := by rw [← HR.out, findIdx_none fun j hj => HK.out j hj (by rw [← HN.out]; exact hj)]; rfl
      subst HE
      clear HK hR
      go_wp2_with fail
      go_ret
      exact ⟨rfl, rfl⟩
set_option maxRecDepth 100000 in
set_option maxHeartbeats 4000000 in
theorem containsInts_any (l : List Int) (x : Int) (A : Option Addr) (c : Nat) (w : World) (hl : l.length ≤ 9223372036854775807) (hR : Rw TyI 1 w l A) :
    Calls Tryz.prog 54 #[.slice A l.length c, .int .i64 x] w (Is (.bool (l.contains x)) w) := by
  have cI := indexInts_any l x A c w hl hR
  have e := any_ix (fun y => decide (x = y)) l
  have e2 : l.contains x = l.any fun y => decide (x = y) := by
    rw [List.contains_eq_any_beq]; rfl
  rw [e2, ← e]
  generalize ixI (l.findIdx? fun y => decide (x = y)) = r at cI ⊢
  clear e e2
  generalize l.length = n at *
  go_enter Tryz.func54, Tryz.ntmps54
  go_wp2_with fail
  refine cI.mono ?_
  rintro e w2 ⟨rfl, rfl⟩
  go_wp2_with fail
  go_ret
  exact ⟨rfl, rfl⟩
end Go.Proofs.YthfodpbecddheaaGreatDoor
/-
  The developers' Fields: the numbers of a sequence of fields. No conditions beyond those that each names.
-/
namespace Go.Proofs.YthfodpbecddheaaGreatDoor
open Go.RowKit
/-- The fields up to the first error, and that error. -/
def prt : Nat → Nat → List UInt8 → List (Nat × List UInt8) × Nat
  | 0, _, _ => ([], 0)
  | N + 1, last, l => if l = [] then ([], 0) else if eF last l ≠ 0 then ([], eF last l) else ((nF l, cF l) :: (prt N (nF l) (tF l)).1, (prt N (nF l) (tF l)).2)
theorem prt_nil (N last : Nat) : prt N last [] = ([], 0) := by
  cases N with
  | zero => rw [prt]
  | succ N => rw [prt, if_pos rfl]
theorem prt_err {N last : Nat} {l : List UInt8} (hl : l ≠ []) (he : eF last l ≠ 0) : prt (N + 1) last l = ([], eF last l) := by rw [prt, if_neg hl, if_pos he]
theorem prt_go {N last : Nat} {l : List UInt8} (hl : l ≠ []) (he : eF last l = 0) : prt (N + 1) last l = ((nF l, cF l) :: (prt N (nF l) (tF l)).1, (prt N (nF l) (tF l)).2) := by rw [prt, if_neg hl, if_neg (fun h => h he)]
theorem pv_fold {σ : Type} {V : σ → Nat → List UInt8 → σ × Nat} (hV : ∀ s n c, (V s n c).2 = 0) : ∀ (N last : Nat) (l : List UInt8) (s : σ), pv V N last l s = ((prt N last l).1.foldl (fun s p => (V s p.1 p.2).1) s, (prt N last l).2)
  | 0, last, l, s => by rw [pv, prt]; rfl
  | N + 1, last, l, s => by
    by_cases hl : l = []
    · subst hl; rw [pv_nil, prt_nil]; rfl
    · by_cases he : eF last l = 0
      · rw [pv_go hl he (hV _ _ _), prt_go hl he, pv_fold hV N]; rfl
      · rw [pv_err hl rfl he, prt_err hl he]; rfl
/-- The fields as they are given out: none where there is an error. -/
def pts (b : List UInt8) : List (Nat × List UInt8) × Nat := if 2000 < b.length then ([], 3) else if (prt b.length 0 b).2 = 0 then prt b.length 0 b else ([], (prt b.length 0 b).2)
def nums (b : List UInt8) : List Int := (pts b).1.map fun p => (p.1 : Int)
theorem prt_len : ∀ (N last : Nat) (l : List UInt8), (prt N last l).1.length ≤ N
  | 0, last, l => by rw [prt]; exact Nat.le_refl _
  | N + 1, last, l => by
    rw [prt]
    by_cases hl : l = []
    · rw [if_pos hl]; simp
    · rw [if_neg hl]
      by_cases he : eF last l = 0
      · rw [if_neg (fun h => h he)]; have := prt_len N (nF l) (tF l); simp; omega
      · rw [if_pos he]; simp
theorem pts_len (b : List UInt8) : (pts b).1.length ≤ 2000 := by
  unfold pts
  split
  · simp
  · split
    · have := prt_len b.length 0 b; omega
    · simp
theorem nums_len (b : List UInt8) : (nums b).length ≤ 2000 := by unfold nums; rw [List.length_map]; exact pts_len b
/-- Integers in memory of one's own. -/
def icells (l : List Int) : List Value := l.map fun n => .int .i64 n
def OwI (B : Nat) (w : World) (v : Value) (l : List Int) : Prop := w.ownsRow B 3 1 v l.length (icells l)
theorem OwI.nil (B : Nat) (w : World) : OwI B w (.slice none 0 0) [] := World.ownsRow_nil _ _ _ _
theorem infoI : (Tryz.prog.info? 3).map (fun i => (i.zero, i.size, i.bytes)) = some (some (.int .i64 0), 1, 8) := by kernel_rfl
theorem wpList_pushI {w : World} {ops : Array Oper} {rest : List Oper} {o : Oper} {a : Act} {Q : Exit → Act → World → Prop} (hgd : o.guard = none) (s x : Operand)
    (ho : o.op = .call { callee := .builtin .append, args := #[s, x], argTypes := #[69, 69] }) (B : Nat) (v : Value) (l : List Int) (b : Int) (ad : Addr) (d : Nat) (hs : a.eval s = v) (hx : a.eval x = .slice (some ad) 1 d)
    (hown : OwI B w v l) (hc : w.cell? ad = some (.int .i64 b)) (hm : l.length ≤ 100000) (hB : B ≤ w.heap.size)
    (h : ∀ v' w', OwI B w' v' (l ++ [b]) → w.grownBy w' v.ownBlock → wpList Tryz.prog ops Q rest (a.put o.dst v') w') : wpList Tryz.prog ops Q (o :: rest) a w := by
  obtain ⟨i, hi, hz, hs5, hby⟩ := info_parts infoI
  refine wpList_append_own_at w hgd s x 69 ho B 3 i _ 1 8 Tryz.underlying69 hi hz hs5 hby rfl (by omega) v l.length (icells l) hs hown ad 1 d [.int .i64 b] hx rfl
    (by intro j u hj
        cases j with
        | zero => simp at hj; subst hj; rw [Addr.add_zero']; exact hc
        | succ j => simp at hj) (by simp [Value.oneCell']) (by simp only [maxLen]; omega) (by omega) hB ?_
  intro v' w' h1 h2 _ _
  refine h v' w' ?_ h2
  unfold OwI icells
  rw [List.map_append, List.length_append]
  exact h1
theorem OwI.rw_ {B : Nat} {w : World} {v : Value} {l : List Int} (h : OwI B w v l) : ∃ A c, v = .slice A l.length c ∧ Rw TyI 1 w l A := by
  obtain ⟨A, c, rfl⟩ := own_form h
  refine ⟨A, c, rfl, ?_⟩
  by_cases h0 : l.length = 0
  · exact .inl (List.eq_nil_of_length_eq_zero h0)
  · obtain ⟨g, rfl⟩ := own_some h h0
    refine .inr ⟨_, rfl, fun i hi => ?_⟩
    rw [Nat.mul_one]
    exact h.cells rfl i _ (by unfold icells; rw [List.getElem?_map, List.getElem?_eq_getElem hi]; rfl)
set_option maxRecDepth 100000 in
theorem fields1_any (n : Nat) (c : List UInt8) (b4 : Nat) (v : Value) (s : List Int) (B : Nat) (w : World) (hC : Bx w b4 [v]) (ho : OwI B w v s) (hl : s.length ≤ 100000) (hb : b4 < B) (hB : B ≤ w.heap.size) :
    Calls Tryz.prog 57 #[.int .i64 (n : Int), .string (bs c), .pointer (some ⟨b4, 0, none⟩)] w (fun e w' => e = .returned (.int .i64 0) ∧ ∃ v' w6, Bx w' b4 [v'] ∧ OwI B w' v' (s ++ [(n : Int)]) ∧ w.grownBy w6 v.ownBlock ∧ w6.grownBy w' (some b4)) := by
  have hbx := ab1 w (Obj.cells #[.int .i64 (n : Int)] 3)
  have ho1 := own_next ho hbx
  have C1 := hC.next hbx
  have hc1 : (w.alloc (Obj.cells #[.int .i64 (n : Int)] 3)).cell? ⟨w.heap.size, 0, none⟩ = some (.int .i64 (n : Int)) := by simp
  have hB1 : B ≤ (w.alloc (Obj.cells #[.int .i64 (n : Int)] 3)).heap.size := Nat.le_trans hB hbx.size
  have hlow : ∀ g, v.ownBlock = some g → B ≤ g := fun g e => (ho.lt g e).1
  have hgb := gbq_of hbx v.ownBlock
  have c0 := hC.c 0 rfl
  have l0 := hC.lt
  obtain ⟨A, k, rfl⟩ := own_form ho
  go_enter Tryz.func57, Tryz.ntmps57
  go_wp2_with (at_builtin; refine wpList_pushI rfl (.tmp 6) (.tmp 8) rfl B _ s (n : Int) ⟨w.heap.size, 0, none⟩ 1 rfl rfl ho1 hc1 hl hB1 ?_; intro v' w6 ho6 hg6; obtain ⟨A6, k6, rfl⟩ := own_form ho6; have T5 := C1.gbo hg6 (fun g hg e => by have := hlow g hg; omega); have y4 := T5.c 0 rfl; have y5 := T5.f 0 rfl; have y6 := T5.lt)
  have gs := gb_set1 w6 ⟨b4, 0, none⟩ (.slice A6 (s.length + 1) k6)
  have e : (s ++ [(n : Int)]).length = s.length + 1 := by simp
  rw [e] at ho6
  go_ret
  refine ⟨rfl, _, w6, T5.put1 0 _, World.ownsRow.kept ho6 gs (.inr fun h => ?_), hgb.trans hg6, gs⟩
  have h2 : B ≤ b4 := (World.ownsRow.lt ho6 b4 h).1
  omega
theorem Rdr.offo {w w' : World} {g : Nat} {l : List UInt8} {e : Nat} {q : Option Nat} (h : Rdr w g l e) (hg : w.grownBy w' q) (hne : ∀ b, q = some b → g ≠ b) : Rdr w' g l e := by
  have hb := hg.block g h.lt (fun k => hne g k.symm rfl)
  exact ⟨Nat.lt_of_lt_of_le h.lt hg.size, (World.cell?_of_block (a := ⟨g, 0, none⟩) hb).trans h.c0, (World.cell?_of_block (a := ⟨g, 1, none⟩) hb).trans h.c1, (World.frozen?_of_block (a := ⟨g, 0, none⟩) hb).trans h.f0, (World.frozen?_of_block (a := ⟨g, 1, none⟩) hb).trans h.f1⟩
/-- What a walk keeps that gathers numbers: k of them, in memory made behind g. -/
def JN (w : World) (b4 g k : Nat) (s : List Int) (W : World) : Prop := k = s.length ∧ w.heap.size ≤ b4 ∧ b4 < g ∧ g < W.heap.size ∧ ∃ v, Bx W b4 [v] ∧ OwI (g + 1) W v s ∧ Below w.heap.size w W
theorem JN.read {w : World} {b4 g k : Nat} {s : List Int} {W W' : World} (h : JN w b4 g k s W) (hg : W.grownBy W' (some g)) : JN w b4 g k s W' := by
  obtain ⟨h1, h2, h3, h4, v, h5, h6, h7⟩ := h
  refine ⟨h1, h2, h3, Nat.lt_of_lt_of_le h4 hg.size, v, h5.gb hg (by omega), World.ownsRow.kept h6 hg (.inr fun e => ?_), h7.grown hg h7.size fun b e => by cases e; omega⟩
  have := (World.ownsRow.lt h6 _ e).1
  omega
def FnP (b : List UInt8) (w : World) (e : Ending) (w' : World) : Prop := ∃ A c, e = .returned (.tuple #[.slice A (nums b).length c, .int .i64 ((pts b).2 : Int)]) ∧ Rw TyI 1 w' (nums b) A ∧ Below w.heap.size w w'
theorem pts_long {b : List UInt8} (h : 2000 < b.length) : pts b = ([], 3) := by unfold pts; rw [if_pos h]
theorem pts_err {b : List UInt8} (h : ¬ 2000 < b.length) {e : Nat} (he : (prt b.length 0 b).2 = e) (h0 : e ≠ 0) : pts b = ([], e) := by unfold pts; rw [if_neg h, he, if_neg h0]
theorem pts_ok {b : List UInt8} (h : ¬ 2000 < b.length) (he : (prt b.length 0 b).2 = 0) : pts b = prt b.length 0 b := by unfold pts; rw [if_neg h, if_pos he]
def Vn (s : List Int) (n : Nat) (_ : List UInt8) : List Int × Nat := (s ++ [(n : Int)], 0)
theorem fold_nums : ∀ (l : List (Nat × List UInt8)) (s : List Int), l.foldl (fun s p => (Vn s p.1 p.2).1) s = s ++ l.map fun p => (p.1 : Int)
  | [], s => by simp
  | p :: l, s => by rw [List.foldl_cons, fold_nums l]; simp [Vn]
set_option maxRecDepth 100000 in
set_option maxHeartbeats 4000000 in
theorem cFields_any (b : List UInt8) (w : World) (hb : b.length ≤ 9223372036854775807) : Calls Tryz.prog 30 #[.string (bs b)] w (FnP b w) := by
  by_cases h : 2000 < b.length
  · have d0 : decide ((2000 : Int) < ((bs b).size : Int)) = true := decide_eq_true (by rw [bs_size]; omega)
    have h0 := pts_long h
    clear h
    go_enter Tryz.func30, Tryz.ntmps30
    go_wp2_with fail
    refine bodyPost_ret (v := .tuple #[.slice none 0 0, .int .i64 3]) (by simp [results, Tryz.results30, go_sem]) rfl ?_
    unfold FnP nums
    rw [h0]
    exact ⟨none, 0, rfl, .inl rfl, Below.refl _ _⟩
  · have d0 : decide ((2000 : Int) < ((bs b).size : Int)) = false := decide_eq_false (by rw [bs_size]; omega)
    have hab := ab1 w (Obj.cells #[.slice none 0 0] 69)
    have B4 := Bx.new1 w 69 (.slice none 0 0)
    have hz : w.heap.size < (w.alloc (Obj.cells #[.slice none 0 0] 69)).heap.size := by simp
    have cW := walk1_any Vn 57 (.pointer (some ⟨w.heap.size, 0, none⟩)) b [] (w.alloc (Obj.cells #[.slice none 0 0] 69)) (JN w w.heap.size) (by kernel_rfl) (by omega)
      (fun g w1 hg hb1 hl => ⟨rfl, Nat.le_refl _, by omega, hl, _, B4.next hb1, OwI.nil _ _, Below.next hab hb1⟩) (fun g k s W W' hJ hg => hJ.read hg)
      (fun g k s n c W l e hg hk ⟨j1, j2, j3, j4, v, j5, j6, j7⟩ hr hn hc => (fields1_any n c w.heap.size v s (g + 1) W j5 j6 (by omega) (by omega) (by omega)).mono fun en W' ⟨e1, v', w6, e2, e3, e4, e5⟩ => by
        have hlo : ∀ b, v.ownBlock = some b → g + 1 ≤ b := fun b e => (World.ownsRow.lt j6 b e).1
        refine ⟨e1, ⟨by show k + 1 = (s ++ [(n : Int)]).length; rw [List.length_append, j1]; rfl, j2, j3, Nat.lt_of_lt_of_le j4 (Nat.le_trans e4.size e5.size), v', e2, e3, (j7.grown e4 j7.size fun b e => by have := hlo b e; omega).grown e5 (Nat.le_trans j7.size e4.size) fun b e => by cases e; omega⟩, (hr.offo e4 (fun q hq => by have := hlo q hq; omega)).off e5 (by omega)⟩)
    rw [pv_fold (fun _ _ _ => rfl), fold_nums] at cW
    obtain ⟨x, hx⟩ : ∃ x, (prt b.length 0 b).2 = x := ⟨_, rfl⟩
    have HX := Lib.hid hx
    rw [hx, List.nil_append] at cW
    have H := Lib.hid h
    clear hx h hz B4 hab
    by_cases h0 : x = 0
    · subst h0
      have hn : (prt b.length 0 b).1.map (fun p => (p.1 : Int)) = nums b := by unfold nums; rw [pts_ok H.out HX.out]
      have he : (pts b).2 = 0 := by rw [pts_ok H.out HX.out]; exact HX.out
      rw [hn] at cW
      have HE := Lib.hid he
      clear hn he
      go_enter Tryz.func30, Tryz.ntmps30
      go_wp2_with fail
      refine cW.mono ?_
      rintro en w2 ⟨rfl, g, k, -, -, -, -, v, C4, ho, hb2⟩
      obtain ⟨A, c, rfl, hR⟩ := ho.rw_
      have c0 := C4.c 0 rfl
      have l0 := C4.lt
      go_wp2_with fail
      refine bodyPost_ret (v := .tuple #[.slice A (nums b).length c, .int .i64 0]) (by simp [results, Tryz.results30, go_sem]) rfl ?_
      refine ⟨A, c, ?_, hR, hb2⟩
      rw [HE.out]
      rfl
    · have q0 : ((x : Int) != 0) = true := by simpa using h0
      have HE := Lib.hid (pts_err H.out HX.out h0)
      clear h0
      go_enter Tryz.func30, Tryz.ntmps30
      go_wp2_with fail
      refine cW.mono ?_
      rintro en w2 ⟨rfl, g, k, -, -, -, -, v, -, -, hb2⟩
      go_wp2_with fail
      refine bodyPost_ret (v := .tuple #[.slice none 0 0, .int .i64 (x : Int)]) (by simp [results, Tryz.results30, go_sem]) rfl ?_
      unfold FnP nums
      rw [HE.out]
      exact ⟨none, 0, rfl, .inl rfl, hb2⟩
end Go.Proofs.YthfodpbecddheaaGreatDoor


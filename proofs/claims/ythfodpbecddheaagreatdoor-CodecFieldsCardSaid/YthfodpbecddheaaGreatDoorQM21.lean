/-
  The developers' check of a value, whatever its kind. No conditions beyond those that each names.
-/
import Derived.Test.YthfodpbecddheaaGreatDoorQM20
import Derived.Test.YthfodpbecddheaaGreatDoorQM19
import Derived.Test.YthfodpbecddheaaGreatDoorQM12
import Derived.Test.YthfodpbecddheaaGreatDoorQM10
import Derived.Lib.AppendStr
import Derived.Laws.IdiomCopy
import Derived.Test.YthfodpbecddheaaGreatDoorQM18
namespace Go.Proofs.YthfodpbecddheaaGreatDoor
open Go.RowKit
/-- The first error behind the tests of the kind. -/
def inr_ (S : Sch) (t : Ty) (k n : Int) (s : List UInt8) (l : List Vl) (f : List (Int × Vl)) : Int :=
  if (decide (k ≠ 6) || shp (fds S t) f) = false then 13 else
    if rgd S t n = false then 4 else
    if fits t s.length l.length = false then 3 else
    fex (vck.vckl S (t.elem.headD (.mk 0 0 [] [])) l) (vck.vckf S (fds S t) f)
theorem vck_gate {S : Sch} {t : Ty} {k n : Int} {s : List UInt8} {l : List Vl} {f : List (Int × Vl)} {r : Int} (h : right S t = true → k = t.kind → pur k n s l.length f.length = true → r = inr_ S t k n s l f) :
    (if right S t = true ∧ k = t.kind ∧ pur k n s l.length f.length = true then r else 13) = vck S t (.mk k n s l f) := by
  rw [vck]
  by_cases h1 : right S t = true
  · by_cases h2 : k = t.kind
    · by_cases h3 : pur k n s l.length f.length = true
      · rw [if_pos ⟨h1, h2, h3⟩, h h1 h2 h3, h1, h3, decide_eq_true h2, inr_]
        simp only [Bool.true_and, Bool.and_true]
      · rw [if_neg (fun x => h3 x.2.2)]
        have h3 : pur k n s l.length f.length = false := by simpa using h3
        rw [h3]
        simp
    · rw [if_neg (fun x => h2 x.2.1), decide_eq_false h2]
      simp
  · rw [if_neg (fun x => h1 x.1)]
    have h1 : right S t = false := by simpa using h1
    rw [h1]
    simp
theorem fex_r (a : Int) : fex a 0 = a := by unfold fex; split <;> simp [*]
theorem fex_l (a : Int) : fex 0 a = a := fex_zero rfl
theorem pur_l {k n : Int} {s : List UInt8} {l : List Vl} {b : Nat} (h : pur k n s l.length b = true) (hk : k ≠ 5) : l = [] := by
  unfold pur at h
  simp only [Bool.and_eq_true, Bool.or_eq_true, decide_eq_true_eq] at h
  rcases h.2.1 with h | h
  · exact absurd h hk
  · exact List.eq_nil_of_length_eq_zero h
theorem pur_f {k n : Int} {s : List UInt8} {a : Nat} {f : List (Int × Vl)} (h : pur k n s a f.length = true) (hk : k ≠ 6) : f = [] := by
  unfold pur at h
  simp only [Bool.and_eq_true, Bool.or_eq_true, decide_eq_true_eq] at h
  rcases h.2.2.1 with h | h
  · exact absurd h hk
  · exact List.eq_nil_of_length_eq_zero h
theorem inr_plain {S : Sch} {t : Ty} {k n : Int} {s : List UInt8} {l : List Vl} {f : List (Int × Vl)} (hp : pur k n s l.length f.length = true) (h5 : k ≠ 5) (h6 : k ≠ 6) :
    inr_ S t k n s l f = if rgd S t n = false then 4 else if fits t s.length 0 = false then 3 else 0 := by
  obtain rfl := pur_l hp h5
  obtain rfl := pur_f hp h6
  unfold inr_
  rw [decide_eq_true h6, vck.vckl, vck.vckf]
  simp [fex]
theorem fits_no {t : Ty} {a b : Nat} (h4 : t.kind ≠ 4) (h5 : t.kind ≠ 5) : fits t a b = true := by
  unfold fits
  exact decide_eq_true ⟨fun h => absurd h h4, fun h => absurd h h5⟩
theorem rgd_no {S : Sch} {t : Ty} {n : Int} (h1 : t.kind ≠ 1) (h2 : t.kind ≠ 2) (h3 : t.kind ≠ 3) (h7 : t.kind ≠ 7) : rgd S t n = true := by
  unfold rgd
  rw [if_neg h1, if_neg h2, if_neg h3, if_neg h7]
theorem ite_dec (p : Prop) [Decidable p] (q : Bool) (h : q = decide p) (a b : Int) : (if p then a else b) = if q = false then b else a := by
  subst h
  by_cases hp : p <;> simp [hp]
theorem right_two {S : Sch} {s : Int} {nm : List UInt8} {e : List Ty} (h : right S (.mk 2 s nm e) = true) : s = 8 ∨ s = 16 ∨ s = 32 ∨ s = 64 := by
  rw [right_eq] at h
  simp [szOk] at h
  omega
theorem right_three {S : Sch} {s : Int} {nm : List UInt8} {e : List Ty} (h : right S (.mk 3 s nm e) = true) : s = 8 ∨ s = 16 ∨ s = 32 := by
  rw [right_eq] at h
  simp [szOk] at h
  omega
theorem right_none {S : Sch} {k s : Int} {nm : List UInt8} {e : List Ty} (k1 : k ≠ 1) (k2 : k ≠ 2) (k3 : k ≠ 3) (k4 : k ≠ 4) (k5 : k ≠ 5) (k6 : k ≠ 6) (k7 : k ≠ 7) : right S (.mk k s nm e) = false := by
  rw [right_eq]
  simp [szOk, k1, k2, k3, k4, k5, k6, k7]
set_option maxRecDepth 100000 in
set_option maxHeartbeats 8000000 in
theorem check_rec (S : Sch) (hf : Few9 S) (hlk : lok9 S) (hasc : ∀ t ∈ S.structs, AscD t.fields) : ∀ N, CkI S N := by
  intro N
  induction N with
  | zero => intro t v A c A2 c2 G g u w hN; omega
  | succ N ih =>
    intro t v A c A2 c2 G g u w hN hlo hvo hS hG hV
    have cP := fun W (h : Below w.heap.size w W) => permits9_any _ S t (.agg #[.int .i64 S.ver, .slice A S.enums.length c, .slice A2 S.structs.length c2]) (.agg #[.int .i64 t.kind, .int .i64 t.size, .string (bs t.name), .slice G t.elem.length g]) W (Nat.lt_succ_self _) hf hlo ⟨A, c, A2, c2, rfl, Sc.next h hS⟩ ⟨G, g, rfl, hG.next fun x p => TyA.next h x p⟩
    obtain ⟨B, b, B2, b2, rfl, hL, hF⟩ := hV
    have hvo2 := vok_iff.1 hvo
    have hlL : ∀ i (h : i < v.l.length), SizeOf.sizeOf (v.l[i]'h) < N ∧ vok (v.l[i]'h) := fun i h => ⟨by have := size_l (t := v) h; omega, hvo2.2.1.2 _ (List.getElem_mem h)⟩
    have hfF : ∀ i (h : i < v.f.length), SizeOf.sizeOf (v.f[i]'h).2 < N ∧ vok (v.f[i]'h).2 := fun i h => ⟨by have := size_f (t := v) h; omega, hvo2.2.2.2 _ (List.getElem_mem h)⟩
    obtain ⟨k, s, nm, e⟩ := t
    obtain ⟨q, n, st, l, f⟩ := v
    have hll : l.length ≤ 9223372036854775807 := hvo2.2.1.1
    have hfl : f.length ≤ 9223372036854775807 := hvo2.2.2.1
    simp only [Ty.kind, Ty.size, Ty.name, Ty.elem] at cP hG
    simp only [Vl.l, Vl.f] at hL hF hlL hfF
    by_cases k1 : k = 1
    · subst k1
      have hA := fun W h => admit_boolean S.ver A S.enums.length c A2 S.structs.length c2 1 s (bs nm) G e.length g q n st B l.length b B2 f.length b2 (right S (.mk 1 s nm e)) (if rgd S (.mk 1 s nm e) n = false then 4 else 0) W (fun W' h' => cP W' (Below.next h h')) (fun _ _ _ W' _ => by
        have h := boolean_any S.ver A S.enums.length c A2 S.structs.length c2 1 s (bs nm) G e.length g q n (bs st) B l.length b B2 f.length b2 W'
        rwa [ite_dec _ (rgd S (.mk 1 s nm e) n) (by unfold rgd; rw [if_pos (by rfl)]; exact decide_eq_decide.2 (by omega)) 0 4] at h)
      have hE := vck_gate (S := S) (t := (.mk 1 s nm e)) (k := q) (n := n) (s := st) (l := l) (f := f) (r := if rgd S (.mk 1 s nm e) n = false then 4 else 0) (fun h1 h2 h3 => by
        have h2 : q = 1 := h2
        rw [inr_plain h3 (by omega) (by omega), fits_no (t := .mk 1 s nm e) (show (1 : Int) ≠ 4 by decide) (show (1 : Int) ≠ 5 by decide)]
        simp)
      show Calls _ _ _ _ (Ib (.int .i64 (vck S (.mk 1 s nm e) (.mk q n st l f))) w)
      rw [← hE]
      exact check1_any S.ver A S.enums.length c A2 S.structs.length c2 s (bs nm) G e.length g q n st B l.length b B2 f.length b2 _ w hA
    by_cases k2 : k = 2
    · subst k2
      have hA := fun W h => admit_signed S.ver A S.enums.length c A2 S.structs.length c2 2 s (bs nm) G e.length g q n st B l.length b B2 f.length b2 (right S (.mk 2 s nm e)) (if rgd S (.mk 2 s nm e) n = false then 4 else 0) W (fun W' h' => cP W' (Below.next h h')) (fun hp _ _ W' _ => by
        rcases right_two hp with rfl | rfl | rfl | rfl
        · exact (by have h := signed8_any S.ver A S.enums.length c A2 S.structs.length c2 2 (bs nm) G e.length g q n (bs st) B l.length b B2 f.length b2 W'; rwa [ite_dec _ (rgd S (.mk 2 8 nm e) n) (by unfold rgd; rw [if_neg (by show ¬ (2 : Int) = 1; decide), if_pos (by rfl)]; exact decide_eq_decide.2 (by rw [show (2 : Int) ^ ((Ty.mk 2 8 nm e).size.toNat - 1) = 128 from rfl]; omega)) 0 4] at h)
        · exact (by have h := signed16_any S.ver A S.enums.length c A2 S.structs.length c2 2 (bs nm) G e.length g q n (bs st) B l.length b B2 f.length b2 W'; rwa [ite_dec _ (rgd S (.mk 2 16 nm e) n) (by unfold rgd; rw [if_neg (by show ¬ (2 : Int) = 1; decide), if_pos (by rfl)]; exact decide_eq_decide.2 (by rw [show (2 : Int) ^ ((Ty.mk 2 16 nm e).size.toNat - 1) = 32768 from rfl]; omega)) 0 4] at h)
        · exact (by have h := signed32_any S.ver A S.enums.length c A2 S.structs.length c2 2 (bs nm) G e.length g q n (bs st) B l.length b B2 f.length b2 W'; rwa [ite_dec _ (rgd S (.mk 2 32 nm e) n) (by unfold rgd; rw [if_neg (by show ¬ (2 : Int) = 1; decide), if_pos (by rfl)]; exact decide_eq_decide.2 (by rw [show (2 : Int) ^ ((Ty.mk 2 32 nm e).size.toNat - 1) = 2147483648 from rfl]; omega)) 0 4] at h)
        · exact (by have h := signed64_any S.ver A S.enums.length c A2 S.structs.length c2 2 (bs nm) G e.length g q n (bs st) B l.length b B2 f.length b2 W'; rwa [ite_dec _ (rgd S (.mk 2 64 nm e) n) (by unfold rgd; rw [if_neg (by show ¬ (2 : Int) = 1; decide), if_pos (by rfl)]; exact decide_eq_decide.2 (by rw [show (2 : Int) ^ ((Ty.mk 2 64 nm e).size.toNat - 1) = 9223372036854775808 from rfl]; omega)) 0 4] at h))
      have hE := vck_gate (S := S) (t := (.mk 2 s nm e)) (k := q) (n := n) (s := st) (l := l) (f := f) (r := if rgd S (.mk 2 s nm e) n = false then 4 else 0) (fun h1 h2 h3 => by
        have h2 : q = 2 := h2
        rw [inr_plain h3 (by omega) (by omega), fits_no (t := .mk 2 s nm e) (show (2 : Int) ≠ 4 by decide) (show (2 : Int) ≠ 5 by decide)]
        simp)
      show Calls _ _ _ _ (Ib (.int .i64 (vck S (.mk 2 s nm e) (.mk q n st l f))) w)
      rw [← hE]
      exact check2_any S.ver A S.enums.length c A2 S.structs.length c2 s (bs nm) G e.length g q n st B l.length b B2 f.length b2 _ w hA
    by_cases k3 : k = 3
    · subst k3
      have hA := fun W h => admit_unsigned S.ver A S.enums.length c A2 S.structs.length c2 3 s (bs nm) G e.length g q n st B l.length b B2 f.length b2 (right S (.mk 3 s nm e)) (if rgd S (.mk 3 s nm e) n = false then 4 else 0) W (fun W' h' => cP W' (Below.next h h')) (fun hp _ _ W' _ => by
        rcases right_three hp with rfl | rfl | rfl
        · exact (by have h := unsigned8_any S.ver A S.enums.length c A2 S.structs.length c2 3 (bs nm) G e.length g q n (bs st) B l.length b B2 f.length b2 W'; rwa [ite_dec _ (rgd S (.mk 3 8 nm e) n) (by unfold rgd; rw [if_neg (by show ¬ (3 : Int) = 1; decide), if_neg (by show ¬ (3 : Int) = 2; decide), if_pos (by rfl)]; exact decide_eq_decide.2 (by rw [show (2 : Int) ^ ((Ty.mk 3 8 nm e).size.toNat) = 256 from rfl]; omega)) 0 4] at h)
        · exact (by have h := unsigned16_any S.ver A S.enums.length c A2 S.structs.length c2 3 (bs nm) G e.length g q n (bs st) B l.length b B2 f.length b2 W'; rwa [ite_dec _ (rgd S (.mk 3 16 nm e) n) (by unfold rgd; rw [if_neg (by show ¬ (3 : Int) = 1; decide), if_neg (by show ¬ (3 : Int) = 2; decide), if_pos (by rfl)]; exact decide_eq_decide.2 (by rw [show (2 : Int) ^ ((Ty.mk 3 16 nm e).size.toNat) = 65536 from rfl]; omega)) 0 4] at h)
        · exact (by have h := unsigned32_any S.ver A S.enums.length c A2 S.structs.length c2 3 (bs nm) G e.length g q n (bs st) B l.length b B2 f.length b2 W'; rwa [ite_dec _ (rgd S (.mk 3 32 nm e) n) (by unfold rgd; rw [if_neg (by show ¬ (3 : Int) = 1; decide), if_neg (by show ¬ (3 : Int) = 2; decide), if_pos (by rfl)]; exact decide_eq_decide.2 (by rw [show (2 : Int) ^ ((Ty.mk 3 32 nm e).size.toNat) = 4294967296 from rfl]; omega)) 0 4] at h))
      have hE := vck_gate (S := S) (t := (.mk 3 s nm e)) (k := q) (n := n) (s := st) (l := l) (f := f) (r := if rgd S (.mk 3 s nm e) n = false then 4 else 0) (fun h1 h2 h3 => by
        have h2 : q = 3 := h2
        rw [inr_plain h3 (by omega) (by omega), fits_no (t := .mk 3 s nm e) (show (3 : Int) ≠ 4 by decide) (show (3 : Int) ≠ 5 by decide)]
        simp)
      show Calls _ _ _ _ (Ib (.int .i64 (vck S (.mk 3 s nm e) (.mk q n st l f))) w)
      rw [← hE]
      exact check3_any S.ver A S.enums.length c A2 S.structs.length c2 s (bs nm) G e.length g q n st B l.length b B2 f.length b2 _ w hA
    by_cases k4 : k = 4
    · subst k4
      have hA := fun W h => admit_text S.ver A S.enums.length c A2 S.structs.length c2 4 s (bs nm) G e.length g q n st B l.length b B2 f.length b2 (right S (.mk 4 s nm e)) (if fits (.mk 4 s nm e) st.length 0 = false then 3 else 0) W (fun W' h' => cP W' (Below.next h h')) (fun _ _ _ W' _ => by
        have h := text_any S.ver A S.enums.length c A2 S.structs.length c2 4 s (bs nm) G e.length g q n st B l.length b B2 f.length b2 W'
        rwa [ite_dec _ (fits (.mk 4 s nm e) st.length 0) (by unfold fits; exact decide_eq_decide.2 ⟨fun h => h.1 rfl, fun h => ⟨fun _ => h, fun h => absurd h (by show ¬ (4 : Int) = 5; decide)⟩⟩) 0 3] at h)
      have hE := vck_gate (S := S) (t := (.mk 4 s nm e)) (k := q) (n := n) (s := st) (l := l) (f := f) (r := if fits (.mk 4 s nm e) st.length 0 = false then 3 else 0) (fun h1 h2 h3 => by
        have h2 : q = 4 := h2
        rw [inr_plain h3 (by omega) (by omega), rgd_no (t := .mk 4 s nm e) (show (4 : Int) ≠ 1 by decide) (show (4 : Int) ≠ 2 by decide) (show (4 : Int) ≠ 3 by decide) (show (4 : Int) ≠ 7 by decide)]
        simp)
      show Calls _ _ _ _ (Ib (.int .i64 (vck S (.mk 4 s nm e) (.mk q n st l f))) w)
      rw [← hE]
      exact check4_any S.ver A S.enums.length c A2 S.structs.length c2 s (bs nm) G e.length g q n st B l.length b B2 f.length b2 _ w hA
    by_cases k5 : k = 5
    · subst k5
      have hA := fun W h => admit_list S.ver A S.enums.length c A2 S.structs.length c2 5 s (bs nm) G e.length g q n st B l.length b B2 f.length b2 (right S (.mk 5 s nm e)) (if fits (.mk 5 s nm e) st.length l.length = false then 3 else vck.vckl S (e.headD (.mk 0 0 [] [])) l) W (fun W' h' => cP W' (Below.next h h')) (fun hp _ _ W' hW => by
        obtain ⟨-, x, rfl, -⟩ := right_list hp
        have h := list_any S N ih A c A2 c2 5 s (bs nm) x G g q n (bs st) l B b B2 f.length b2 W' hlL hll (lok_get (t := .mk 5 s nm [x]) hlo (i := 0) (by show 0 < 1; omega)) (Sc.next (Below.next h hW) hS) (hG.next fun x p => TyA.next (Below.next h hW) x p) (hL.next fun x p => VlA.next (Below.next h hW) x p)
        rwa [ite_dec _ (fits (.mk 5 s nm [x]) st.length l.length) (by unfold fits; exact decide_eq_decide.2 ⟨fun h => h.2 rfl, fun h => ⟨fun h => absurd h (by show ¬ (5 : Int) = 4; decide), fun _ => h⟩⟩) (vck.vckl S x l) 3] at h)
      have hE := vck_gate (S := S) (t := (.mk 5 s nm e)) (k := q) (n := n) (s := st) (l := l) (f := f) (r := if fits (.mk 5 s nm e) st.length l.length = false then 3 else vck.vckl S (e.headD (.mk 0 0 [] [])) l) (fun h1 h2 h3 => by
        have h2 : q = 5 := h2
        obtain rfl := pur_f h3 (by omega)
        subst h2
        unfold inr_
        rw [rgd_no (t := .mk 5 s nm e) (show (5 : Int) ≠ 1 by decide) (show (5 : Int) ≠ 2 by decide) (show (5 : Int) ≠ 3 by decide) (show (5 : Int) ≠ 7 by decide), vck.vckf, fex_r]
        rfl)
      show Calls _ _ _ _ (Ib (.int .i64 (vck S (.mk 5 s nm e) (.mk q n st l f))) w)
      rw [← hE]
      exact check5_any S.ver A S.enums.length c A2 S.structs.length c2 s (bs nm) G e.length g q n st B l.length b B2 f.length b2 _ w hA
    by_cases k6 : k = 6
    · subst k6
      have hA := fun W h => admit_structure S.ver A S.enums.length c A2 S.structs.length c2 6 s (bs nm) G e.length g q n st B l.length b B2 f.length b2 (right S (.mk 6 s nm e)) (if shp (fds S (.mk 6 s nm e)) f = true then vck.vckf S (fds S (.mk 6 s nm e)) f else 13) W (fun W' h' => cP W' (Below.next h h')) (fun _ _ _ W' hW => structure_any S N ih A c A2 c2 6 s nm G e.length g q n (bs st) B l.length b f B2 b2 W' hf hlk hasc hfF hfl (Sc.next (Below.next h hW) hS) (hF.next fun x p => EtA.next (Below.next h hW) x p))
      have hE := vck_gate (S := S) (t := (.mk 6 s nm e)) (k := q) (n := n) (s := st) (l := l) (f := f) (r := if shp (fds S (.mk 6 s nm e)) f = true then vck.vckf S (fds S (.mk 6 s nm e)) f else 13) (fun h1 h2 h3 => by
        have h2 : q = 6 := h2
        obtain rfl := pur_l h3 (by omega)
        subst h2
        unfold inr_
        rw [rgd_no (t := .mk 6 s nm e) (show (6 : Int) ≠ 1 by decide) (show (6 : Int) ≠ 2 by decide) (show (6 : Int) ≠ 3 by decide) (show (6 : Int) ≠ 7 by decide), fits_no (t := .mk 6 s nm e) (show (6 : Int) ≠ 4 by decide) (show (6 : Int) ≠ 5 by decide), vck.vckl, fex_l]
        cases shp (fds S (.mk 6 s nm e)) f <;> simp)
      show Calls _ _ _ _ (Ib (.int .i64 (vck S (.mk 6 s nm e) (.mk q n st l f))) w)
      rw [← hE]
      exact check6_any S.ver A S.enums.length c A2 S.structs.length c2 s (bs nm) G e.length g q n st B l.length b B2 f.length b2 _ w hA
    by_cases k7 : k = 7
    · subst k7
      have hA := fun W h => admit_enum S.ver A S.enums.length c A2 S.structs.length c2 7 s (bs nm) G e.length g q n st B l.length b B2 f.length b2 (right S (.mk 7 s nm e)) (if rgd S (.mk 7 s nm e) n = false then 4 else 0) W (fun W' h' => cP W' (Below.next h h')) (fun _ _ _ W' hW => by
        have h := enum_any S A A2 c c2 7 s nm G e.length g q n (bs st) B l.length b B2 f.length b2 W' hf (Sc.next (Below.next h hW) hS)
        rwa [ite_dec _ (rgd S (.mk 7 s nm e) n) (by unfold rgd; rw [if_neg (by show ¬ (7 : Int) = 1; decide), if_neg (by show ¬ (7 : Int) = 2; decide), if_neg (by show ¬ (7 : Int) = 3; decide), if_pos (by rfl)]; simp [Ty.name]) 0 4] at h)
      have hE := vck_gate (S := S) (t := (.mk 7 s nm e)) (k := q) (n := n) (s := st) (l := l) (f := f) (r := if rgd S (.mk 7 s nm e) n = false then 4 else 0) (fun h1 h2 h3 => by
        have h2 : q = 7 := h2
        rw [inr_plain h3 (by omega) (by omega), fits_no (t := .mk 7 s nm e) (show (7 : Int) ≠ 4 by decide) (show (7 : Int) ≠ 5 by decide)]
        simp)
      show Calls _ _ _ _ (Ib (.int .i64 (vck S (.mk 7 s nm e) (.mk q n st l f))) w)
      rw [← hE]
      exact check7_any S.ver A S.enums.length c A2 S.structs.length c2 s (bs nm) G e.length g q n st B l.length b B2 f.length b2 _ w hA
    have hE : vck S (.mk k s nm e) (.mk q n st l f) = 13 := by
      rw [vck, right_none k1 k2 k3 k4 k5 k6 k7]
      simp
    rw [hE]
    exact checko_any S.ver A S.enums.length c A2 S.structs.length c2 k s (bs nm) G e.length g q n st B l.length b B2 f.length b2 w k1 k2 k3 k4 k5 k6 k7
end Go.Proofs.YthfodpbecddheaaGreatDoor
/-
  The contents of plain values, and which fields are omitted. No conditions beyond those that each names.
-/
namespace Go.Proofs.YthfodpbecddheaaGreatDoor
open Go.RowKit
/-- The content of the zero value of a kind. -/
def zc (k : Int) : List UInt8 := if k = 4 ∨ k = 6 then [] else [0]
set_option maxRecDepth 100000 in
theorem zeroContent_any (k s : Int) (nm : List UInt8) (G : Option Addr) (e g : Nat) (w : World) : Calls Tryz.prog 178 #[.agg #[.int .i64 k, .int .i64 s, .string (bs nm), .slice G e g]] w (Ib (.string (bs (zc k))) w) := by
  by_cases h4 : k = 4
  · subst h4
    go_enter Tryz.func178, Tryz.ntmps178
    go_wp2_with fail
    go_ret
    exact ⟨rfl, ab1 _ _⟩
  · have d4 : (k == 4) = false := by simpa using h4
    by_cases h6 : k = 6
    · subst h6
      go_enter Tryz.func178, Tryz.ntmps178
      go_wp2_with fail
      go_ret
      exact ⟨rfl, ab1 _ _⟩
    · have d6 : (k == 6) = false := by simpa using h6
      rw [show zc k = [0] from if_neg (by rintro (h | h); exact h4 h; exact h6 h)]
      clear h4 h6
      go_enter Tryz.func178, Tryz.ntmps178
      go_wp2_with fail
      go_ret
      exact ⟨rfl, ab1 _ _⟩
set_option maxRecDepth 100000 in
theorem isOmitted_any (fn : Int) (fm : List UInt8) (k s : Int) (nm : List UInt8) (G : Option Addr) (e g : Nat) (o : Bool) (x : List UInt8) (w : World) : Calls Tryz.prog 142 #[.agg #[.int .i64 fn, .string (bs fm), .int .i64 k, .int .i64 s, .string (bs nm), .slice G e g, .bool o], .string (bs x)] w (Ib (.bool (!o && decide (x = zc k))) w) := by
  have hab := ab1 w (Obj.cells #[.int .i64 fn, .string (bs fm), .int .i64 k, .int .i64 s, .string (bs nm), .slice G e g, .bool o] 57)
  cases o
  · have cZ := zeroContent_any k s nm G e g (w.alloc (Obj.cells #[.int .i64 fn, .string (bs fm), .int .i64 k, .int .i64 s, .string (bs nm), .slice G e g, .bool false] 57))
    have hq : ((bs x).toList == (bs (zc k)).toList) = decide (x = zc k) := by rw [toList_bs, toList_bs]; by_cases h : x = zc k <;> simp [h]
    generalize decide (x = zc k) = p at *
    generalize zc k = z at *
    go_enter Tryz.func142, Tryz.ntmps142
    go_wp2_with fail
    refine cZ.mono ?_
    rintro en w2 ⟨rfl, hb2⟩
    go_wp2_with fail
    go_ret
    exact ⟨rfl, Below.next hab hb2⟩
  · go_enter Tryz.func142, Tryz.ntmps142
    go_wp2_with fail
    go_ret
    exact ⟨rfl, hab⟩
set_option maxRecDepth 100000 in
set_option maxHeartbeats 4000000 in
theorem content_int (S : Sch) (A : Option Addr) (c : Nat) (A2 : Option Addr) (c2 : Nat) (s : Int) (nm : List UInt8) (G : Option Addr) (e g : Nat) (q n : Int) (st : List UInt8) (B : Option Addr) (l b : Nat) (D : Option Addr) (m d : Nat) (w : World) (h1 : -9223372036854775808 ≤ n) (h2 : n ≤ 9223372036854775807) :
    Calls Tryz.prog 43 #[.agg #[.int .i64 S.ver, .slice A S.enums.length c, .slice A2 S.structs.length c2], .agg #[.int .i64 2, .int .i64 s, .string (bs nm), .slice G e g], .agg #[.int .i64 q, .int .i64 n, .string (bs st), .slice B l b, .slice D m d]] w (Ib (.string (bs (uv (zz n)))) w) := by
  have hab := ab3 w (Obj.cells #[.int .i64 S.ver, .slice A S.enums.length c, .slice A2 S.structs.length c2] 90) (Obj.cells #[.int .i64 2, .int .i64 s, .string (bs nm), .slice G e g] 29) (Obj.cells #[.int .i64 q, .int .i64 n, .string (bs st), .slice B l b, .slice D m d] 34)
  have cI := fun W => int_any n W h1 h2
  clear h1 h2
  go_enter Tryz.func43, Tryz.ntmps43
  go_wp2_with fail
  refine (cI _).mono ?_
  rintro en w2 ⟨rfl, hb2⟩
  go_wp2_with fail
  go_ret
  exact ⟨rfl, Below.next hab hb2⟩
set_option maxRecDepth 100000 in
set_option maxHeartbeats 4000000 in
theorem content_uint (S : Sch) (A : Option Addr) (c : Nat) (A2 : Option Addr) (c2 : Nat) (k s : Int) (nm : List UInt8) (G : Option Addr) (e g : Nat) (q : Int) (n : Nat) (st : List UInt8) (B : Option Addr) (l b : Nat) (D : Option Addr) (m d : Nat) (w : World) (hk : k = 1 ∨ k = 3 ∨ k = 7) (h2 : n ≤ 9223372036854775807) :
    Calls Tryz.prog 43 #[.agg #[.int .i64 S.ver, .slice A S.enums.length c, .slice A2 S.structs.length c2], .agg #[.int .i64 k, .int .i64 s, .string (bs nm), .slice G e g], .agg #[.int .i64 q, .int .i64 (n : Int), .string (bs st), .slice B l b, .slice D m d]] w (Ib (.string (bs (uv n))) w) := by
  have hab := ab3 w (Obj.cells #[.int .i64 S.ver, .slice A S.enums.length c, .slice A2 S.structs.length c2] 90) (Obj.cells #[.int .i64 k, .int .i64 s, .string (bs nm), .slice G e g] 29) (Obj.cells #[.int .i64 q, .int .i64 (n : Int), .string (bs st), .slice B l b, .slice D m d] 34)
  have cI := fun W => uint_any n W (by omega)
  have wu := wr_u h2
  have d2 : (k == 2) = false := by rcases hk with rfl | rfl | rfl <;> rfl
  have d4 : (k == 4) = false := by rcases hk with rfl | rfl | rfl <;> rfl
  have d5 : (k == 5) = false := by rcases hk with rfl | rfl | rfl <;> rfl
  have d6 : (k == 6) = false := by rcases hk with rfl | rfl | rfl <;> rfl
  clear h2 hk
  go_enter Tryz.func43, Tryz.ntmps43
  go_wp2_with fail
  refine (cI _).mono ?_
  rintro en w2 ⟨rfl, hb2⟩
  go_wp2_with fail
  go_ret
  exact ⟨rfl, Below.next hab hb2⟩
end Go.Proofs.YthfodpbecddheaaGreatDoor
/-
  Bytes in a slice of one's own, whatever mark stands behind its last cell: a text appended, the whole as a string. No conditions beyond those that each names.
-/
namespace Go.Proofs.YthfodpbecddheaaGreatDoor
open Go.RowKit
theorem strCells_bs (l : List UInt8) : Lib.strCells (bs l) = bcells l := rfl
def OwG (B : Nat) (w : World) (v : Value) (l : List UInt8) : Prop := ∃ g cap, v = .slice (some ⟨g, 0, none⟩) l.length cap ∧ B ≤ g ∧ g < w.heap.size ∧ l.length ≤ cap ∧ cap ≤ maxLen ∧ (∀ j, j < cap → (w.cell? ⟨g, j, none⟩).isSome = true ∧ w.frozen? ⟨g, j, none⟩ = false) ∧ ∀ j (h : j < l.length), w.cell? ⟨g, j, none⟩ = some (.int .u8 ((l[j]'h).toNat : Int))
theorem OwG.kept {B : Nat} {w w' : World} {v : Value} {l : List UInt8} {q : Option Nat} (h : OwG B w v l) (hg : w.grownBy w' q) (hne : v.ownBlock ≠ q) : OwG B w' v l := by
  obtain ⟨g, cap, rfl, h1, h2, h3, h3', h4, h5⟩ := h
  have hb := hg.block g h2 hne
  refine ⟨g, cap, rfl, h1, Nat.lt_of_lt_of_le h2 hg.size, h3, h3', fun j hj => ?_, fun j hj => ?_⟩
  · rw [World.cell?_of_block (a := ⟨g, j, none⟩) hb, World.frozen?_of_block (a := ⟨g, j, none⟩) hb]
    exact h4 j hj
  · rw [World.cell?_of_block (a := ⟨g, j, none⟩) hb]
    exact h5 j hj
theorem OwG.next {B : Nat} {w w' : World} {v : Value} {l : List UInt8} (h : OwG B w v l) (hb : Below w.heap.size w w') : OwG B w' v l := by
  refine h.kept (q := none) (gbq_of hb _) ?_
  obtain ⟨g, cap, rfl, -⟩ := h
  simp [Value.ownBlock]
theorem OwG.lt {B : Nat} {w : World} {v : Value} {l : List UInt8} (h : OwG B w v l) (g : Nat) (e : v.ownBlock = some g) : B ≤ g ∧ g < w.heap.size := by
  obtain ⟨g', cap, rfl, h1, h2, -⟩ := h
  simp [Value.ownBlock] at e
  subst e
  exact ⟨h1, h2⟩
theorem OwG.str {B : Nat} {w : World} {v : Value} {l : List UInt8} (h : OwG B w v l) : (convert 143 9 v).run Tryz.prog w = .ok (.string (bs l)) w := by
  obtain ⟨g, cap, rfl, h1, h2, h3, h3', h4, h5⟩ := h
  exact run_convert_bytes_back w 143 9 5 ⟨g, 0, none⟩ cap l Tryz.underlying143 Tryz.underlying5 Tryz.underlying9 (fun j hj => by
    rw [Addr.add_lit, Nat.zero_add]
    exact h5 j hj)
theorem gb_setCells (g : Nat) : ∀ (vs : List Value) (o : Nat) (w : World), w.grownBy (w.setCells g o vs) (some g)
  | [], _, _ => World.grownBy.refl _ _
  | v :: r, o, w => by
    rw [World.setCells]
    exact (gb_set1 w ⟨g, o, none⟩ v).trans (gb_setCells g r (o + 1) _)
theorem bc_get {m : List UInt8} {j : Nat} (h : j < (Lib.strCells (bs m)).length) : (Lib.strCells (bs m))[j] = .int .u8 ((m[j]'(by simpa [strCells_bs, bcells] using h)).toNat : Int) := by
  simp [strCells_bs, bcells]
theorem bc_len (m : List UInt8) : (Lib.strCells (bs m)).length = m.length := by simp [strCells_bs, bcells]
set_option maxRecDepth 100000 in
theorem run_append_G {B : Nat} {w : World} {v : Value} {l : List UInt8} (h : OwG B w v l) (m : List UInt8) (ty : TypeId) (hm : l.length + m.length ≤ 1000000) (hB : B ≤ w.heap.size) :
    ∃ v' w', (Builtin.append_ #[143, 9] ty #[v, .string (bs m)]).run Tryz.prog w = .ok v' w' ∧ OwG B w' v' (l ++ m) ∧ w.grownBy w' v.ownBlock := by
  obtain ⟨g, cap, rfl, h1, h2, h3, h3', h4, h5⟩ := h
  obtain ⟨i, hi, hz, hs5, hby⟩ := info_parts infoB
  have hsz := bs_size m
  by_cases hroom : l.length + m.length ≤ cap
  · have hst := run_storeCells_cells (P := Tryz.prog) g l.length (Lib.strCells (bs m)) 0 w (fun j hj => by rw [bc_len] at hj; rw [Nat.add_zero]; exact (h4 _ (by omega)).1) (fun j hj => by rw [bc_len] at hj; rw [Nat.add_zero]; exact (h4 _ (by omega)).2) (by simp [strCells_bs, bcells, Value.oneCell'])
    rw [Nat.add_zero] at hst
    have hf := Lib.run_firstCells_string (P := Tryz.prog) w 1 (bs m)
    have hr2 : l.length + (bs m).size ≤ cap := by rw [hsz]; exact hroom
    have hin : ∀ j (hj : j < m.length), (w.setCells g l.length (Lib.strCells (bs m))).cell? ⟨g, l.length + j, none⟩ = some (.int .u8 ((m[j]'hj).toNat : Int)) := fun j hj => by
      rw [World.cell?_setCells_in g (Lib.strCells (bs m)) l.length w (fun j hj => by rw [bc_len] at hj; exact (h4 _ (by omega)).1) j (by rw [bc_len]; exact hj), bc_get]
    have hout : ∀ j, (j < l.length ∨ l.length + m.length ≤ j) → (w.setCells g l.length (Lib.strCells (bs m))).cell? ⟨g, j, none⟩ = w.cell? ⟨g, j, none⟩ := fun j hj => World.cell?_setCells_out g _ _ w _ (fun _ _ => by rw [bc_len]; exact hj)
    have hgs := gb_setCells g (Lib.strCells (bs m)) l.length w
    refine ⟨.slice (some ⟨g, 0, none⟩) (l ++ m).length cap, w.setCells g l.length (Lib.strCells (bs m)), ?_, ⟨g, cap, rfl, h1, Nat.lt_of_lt_of_le h2 hgs.size, by rw [List.length_append]; exact hroom, h3', fun j hj => ⟨?_, by rw [World.frozen?_setCells]; exact (h4 j hj).2⟩, fun j hj => ?_⟩, hgs⟩
    · rw [List.length_append, ← hsz]
      simp [Builtin.append_, run_underlying Tryz.underlying143, run_underlying Tryz.underlying9, sizeOf, typeInfo, hi, hs5, Builtin.lenOf, hr2, hf, Addr.add_lit, hst]
    · by_cases hjl : l.length ≤ j ∧ j < l.length + m.length
      · have := hin (j - l.length) (by omega)
        rw [show l.length + (j - l.length) = j by omega] at this
        rw [this]; rfl
      · rw [hout j (by omega)]; exact (h4 j hj).1
    · by_cases hjl : j < l.length
      · rw [hout j (.inl hjl), List.getElem_append_left hjl]; exact h5 j hjl
      · rw [List.length_append] at hj
        have := hin (j - l.length) (by omega)
        rw [show l.length + (j - l.length) = j by omega] at this
        rw [this, List.getElem_append_right (by omega)]
  · have hg := Lib.run_append_grow_string (P := Tryz.prog) w 143 9 ty 5 i (.int .u8 0) Tryz.underlying143 Tryz.underlying9 hi hz ⟨g, 0, none⟩ l.length cap (bcells l) (by rw [hs5]; simp [bcells]) (fun j u hu => by
      rw [Addr.add_lit, Nat.zero_add]
      have hj : j < l.length := by
        have := (List.getElem?_eq_some_iff.1 hu).1
        simpa [bcells] using this
      rw [h5 j hj]
      simp [bcells, List.getElem?_eq_getElem hj] at hu
      rw [← hu]) (bs m) (by rw [hsz]; omega) (by rw [hsz]; omega) (by rw [hby, hsz]; exact growslice_fits (by omega) (by omega))
    have hcap := grownCap_ge w (l.length + (bs m).size) cap 5
    have hmax := grownCap_le_maxLen w (l.length + (bs m).size) cap 5 (by rw [hsz]; simp only [maxLen]; omega)
    obtain ⟨k, hk⟩ : ∃ k, grownCap w (l.length + (bs m).size) cap 5 = k := ⟨_, rfl⟩
    rw [hk] at hg hcap hmax
    obtain ⟨C, hC⟩ : ∃ C, (bcells l).toArray ++ (Lib.strCells (bs m)).toArray ++ Builtin.zeroCells (Value.int .u8 0).cells (k - (l.length + (bs m).size)) = C := ⟨_, rfl⟩
    rw [hC] at hg
    have hCl : C.toList = bcells (l ++ m) ++ (Builtin.zeroCells (Value.int .u8 0).cells (k - (l.length + (bs m).size))).toList := by
      rw [← hC]; simp [bcells, strCells_bs]
    have hzl : (Builtin.zeroCells (Value.int .u8 0).cells (k - (l.length + (bs m).size))).size = k - (l.length + (bs m).size) := by
      simp [Builtin.zeroCells, Value.cells]
    have hCs : C.size = k := by
      have := congrArg List.length hCl
      have e1 : C.toList.length = C.size := Array.length_toList
      have e2 : (Builtin.zeroCells (Value.int .u8 0).cells (k - (l.length + (bs m).size))).toList.length = _ := Array.length_toList
      rw [e1, List.length_append, e2, hzl] at this
      have h9 : (bcells (l ++ m)).length = l.length + m.length := by simp [bcells]
      omega
    have hcell : ∀ j, (w.drew.alloc (.cells C 5)).cell? ⟨w.heap.size, j, none⟩ = C[j]? := fun j => World.cell?_alloc_mark w.drew C 5 (0, 0) j
    have hat : (w.drew.alloc (.cells C 5)).heap[w.heap.size]? = some (.cells C 5) := alloc_at w.drew _
    have hbw : Below w.heap.size w (w.drew.alloc (.cells C 5)) := Below.next (below_drewN (Below.refl w.heap.size w) 1) (ab1 w.drew _)
    refine ⟨_, _, hg, ⟨w.heap.size, k, by rw [List.length_append, hsz], hB, by simp, by rw [List.length_append, ← hsz]; exact hcap, hmax, fun j hj => ⟨?_, ?_⟩, fun j hj => ?_⟩, gbq_of hbw _⟩
    · rw [hcell, Array.getElem?_eq_getElem (by omega)]; rfl
    · unfold World.frozen?
      simp only [hat]
      simp
    · rw [hcell, ← Array.getElem?_toList, hCl, List.getElem?_append_left (by simpa [bcells] using hj)]
      unfold bcells
      rw [List.getElem?_map, List.getElem?_eq_getElem hj]
      rfl
set_option maxRecDepth 100000 in
theorem wpList_pushG {w : World} {ops : Array Oper} {rest : List Oper} {o : Oper} {a : Act} {Q : Exit → Act → World → Prop} (hgd : o.guard = none) (sl x : Operand)
    (ho : o.op = .call { callee := .builtin .append, args := #[sl, x], argTypes := #[143, 9] }) (B : Nat) (v : Value) (l p q : List UInt8) (hs : a.eval sl = v) (hx : a.eval x = .string (bs p ++ bs q))
    (hown : OwG B w v l) (hm : l.length + (p.length + q.length) ≤ 1000000) (hB : B ≤ w.heap.size)
    (h : ∀ v' w', OwG B w' v' (l ++ (p ++ q)) → w.grownBy w' v.ownBlock → wpList Tryz.prog ops Q rest (a.put o.dst v') w') : wpList Tryz.prog ops Q (o :: rest) a w := by
  rw [bs_append] at hx
  refine wpList_plain hgd fun K hK => ?_
  obtain ⟨v', w', hr, h2, h3⟩ := run_append_G hown (p ++ q) o.type (by rw [List.length_append]; omega) hB
  unfold Oper.wp execOp
  simp only [ho, resolve, invoke, builtin, Sem.run_bind, Sem.run_pure, Result.andThen_ok, List.map_toArray, List.map_cons, List.map_nil, hs, hx, hr]
  exact hK _ _ (h v' w' h2 h3)
/-- An empty text as bytes. -/
theorem conv_nil (w : World) : ∃ cap w', (convert 9 143 (.string ⟨#[]⟩)).run Tryz.prog w = .ok (.slice (some ⟨w.heap.size, 0, none⟩) 0 cap) w' ∧ OwG w.heap.size w' (.slice (some ⟨w.heap.size, 0, none⟩) 0 cap) [] ∧ Below w.heap.size w w' := by
  have hr := run_bytes_of_string (P := Tryz.prog) w 9 143 5 ⟨#[]⟩ Tryz.underlying9 Tryz.underlying143 Tryz.underlying5
  have hmax := grownCap_le_maxLen w (ByteArray.size ⟨#[]⟩) 0 5 (by decide)
  obtain ⟨k, hk⟩ : ∃ k, grownCap w (ByteArray.size ⟨#[]⟩) 0 5 = k := ⟨_, rfl⟩
  rw [hk] at hr hmax
  obtain ⟨C, hC⟩ : ∃ C, bytesRow ⟨#[]⟩ k = C := ⟨_, rfl⟩
  rw [hC] at hr
  have hCs : C.size = k := by rw [← hC]; simp [bytesRow, ByteArray.size]
  have hat : (w.drew.alloc (.cells C 5 (C.size, C.size + 1))).heap[w.heap.size]? = some (.cells C 5 (C.size, C.size + 1)) := alloc_at w.drew _
  refine ⟨k, _, hr, ⟨w.heap.size, k, rfl, Nat.le_refl _, by simp, Nat.zero_le _, hmax, fun j hj => ⟨?_, ?_⟩, fun j hj => by simp at hj⟩, Below.next (below_drewN (Below.refl w.heap.size w) 1) (ab1 w.drew _)⟩
  · rw [show (w.drew.alloc (.cells C 5 (C.size, C.size + 1))).cell? ⟨w.heap.size, j, none⟩ = C[j]? from World.cell?_alloc_mark w.drew C _ _ j, Array.getElem?_eq_getElem (by omega)]; rfl
  · unfold World.frozen?
    simp only [hat]
    simp
    omega
end Go.Proofs.YthfodpbecddheaaGreatDoor
/-
  One field written behind the output. No conditions beyond those that each names.
-/
namespace Go.Proofs.YthfodpbecddheaaGreatDoor
open Go.RowKit Go.Sort
/-- A value that is a field, wherever its parts lie. -/
def PFx (f : Fd) (v : Value) : Prop := ∃ A8 c8, v = .agg #[.int .i64 f.num, .string (bs f.name), .int .i64 f.type.kind, .int .i64 f.type.size, .string (bs f.type.name), .slice A8 f.type.elem.length c8, .bool f.opt]
/-- What is written of a field. -/
def wpt (f : Fd) (nf : Nat) (ct : List UInt8) : List UInt8 := if (!f.opt && decide (ct = zc f.type.kind)) = true then [] else uv nf ++ tv ct
set_option maxRecDepth 100000 in
set_option maxHeartbeats 8000000 in
theorem wcl_any (S : Sch) (A : Option Addr) (c : Nat) (A2 : Option Addr) (c2 : Nat) (b3 b5 b7 : Nat) (sT : St) (A3 : Option Addr) (c3 : Nat) (q n0 : Int) (st : List UInt8) (B : Option Addr) (lm b m d : Nat) (aF : Addr) (kk : Nat) (y : Int) (x : Vl) (s' : Sb) (f : Fd) (nf : Nat) (ct o : List UInt8) (B9 : Nat) (vo : Value) (w : World)
    (h3 : Bx w b3 [.int .i64 S.ver, .slice A S.enums.length c, .slice A2 S.structs.length c2]) (h5 : Bx w b5 [.int .i64 q, .int .i64 n0, .string (bs st), .slice B lm b, .slice (some aF) m d]) (h7 : Bx w b7 [.string (bs sT.name), .slice A3 sT.fields.length c3]) (hD : Rw FdA 7 w sT.fields A3) (hn : sT.fields.length ≤ 1000) (hfw : ∀ f ∈ sT.fields, fewT f.type = true)
    (hk : kk < m) (hf : (fst_ Fd.num sT.fields y).getD fd0 = f) (hnf : f.num = (nf : Int)) (hnf2 : nf ≤ 1000000) (hct : ct.length ≤ 100000)
    (x0 : w.cell? (aF.add (kk * 6)) = some (.int .i64 y)) (x1 : w.cell? (nx1 (aF.add (kk * 6)) 1) = some (.int .i64 x.kind)) (x2 : w.cell? (nx1 (aF.add (kk * 6)) 2) = some (.int .i64 x.n)) (x3 : w.cell? (nx1 (aF.add (kk * 6)) 3) = some (.string (bs x.s))) (x4 : w.cell? (nx1 (aF.add (kk * 6)) 4) = some (.slice s'.A x.l.length s'.c)) (x5 : w.cell? (nx1 (aF.add (kk * 6)) 5) = some (.slice s'.B x.f.length s'.d))
    (cC : ∀ W A8 c8, Calls Tryz.prog 43 #[.agg #[.int .i64 S.ver, .slice A S.enums.length c, .slice A2 S.structs.length c2], .agg #[.int .i64 f.type.kind, .int .i64 f.type.size, .string (bs f.type.name), .slice A8 f.type.elem.length c8], (.agg #[.int .i64 x.kind, .int .i64 x.n, .string (bs x.s), .slice s'.A x.l.length s'.c, .slice s'.B x.f.length s'.d])] W (Ib (.string (bs ct)) W))
    (ho : OwG B9 w vo o) (hol : o.length ≤ 100000) (hB : B9 ≤ w.heap.size) :
    Calls Tryz.prog 140 #[vo, .int .i64 (kk : Int), .pointer (some ⟨b7, 0, none⟩), .pointer (some ⟨b5, 0, none⟩), .pointer (some ⟨b3, 0, none⟩)] w (fun e w' => ∃ vo', e = .returned vo' ∧ OwG B9 w' vo' (o ++ wpt f nf ct) ∧ w.grownBy w' vo.ownBlock) := by
  have hblk : (aF.add (kk * 6)).block < w.heap.size := blk_lt x0
  have cF := fun W (h : Below w.heap.size w W) => devFieldOf_any sT y (.agg #[.string (bs sT.name), .slice A3 sT.fields.length c3]) W ⟨A3, c3, rfl, hD.next fun x p => FdA.next h⟩ hn hfw
  unfold FdO at cF
  rw [hf] at cF
  obtain ⟨ok, hok⟩ : ∃ ok, (fst_ Fd.num sT.fields y).isSome = ok := ⟨_, rfl⟩
  rw [hok] at cF
  clear hok hf hn hfw hD
  obtain ⟨g9, cv, rfl, hO⟩ := ho
  have ho : OwG B9 w (.slice (some ⟨g9, 0, none⟩) o.length cv) o := ⟨g9, cv, rfl, hO⟩
  clear hO
  obtain ⟨Av, hAv⟩ : ∃ Av : Option Addr, (some ⟨g9, 0, none⟩ : Option Addr) = Av := ⟨_, rfl⟩
  rw [hAv] at ho ⊢
  clear hAv
  have HO := Lib.hid ho
  clear ho
  have d0 := h7.c 0 rfl
  have d1 := h7.c 1 rfl
  have v4 := h5.c 4 rfl
  have l5 := h5.lt
  have l7 := h7.lt
  have l3 := h3.lt
  go_enter Tryz.func140, Tryz.ntmps140
  go_upto_region 1 with (fail)
  refine wp_region_boxd (by kernel_rfl) (FF [(2, Fact.at_ w (.pointer (some ⟨b7, 0, none⟩))), (3, Fact.at_ w (.pointer (some ⟨b5, 0, none⟩))), (1, Fact.at_ w (.int .i64 (kk : Int))), (12, Fact.at_ w (.agg #[.string (bs sT.name), .slice A3 sT.fields.length c3])), (13, Fact.at_ w (.pointer (some ⟨b5, 4, none⟩))), (14, Fact.at_ w (.slice (some aF) m d)), (15, Fact.at_ w (.int .i64 (kk : Int))), (16, Fact.at_ w (.pointer (some (aF.add (kk * 6))))), (17, Fact.at_ w (.pointer (some (aF.add (kk * 6))))), (18, Fact.at_ w (.int .i64 y)), (19, FP (T2 (PFx f) ok) w), (11, FP (T2 (PFx f) ok) w), (20, FP (PFx f) w), (21, Fact.at_ w (.bool ok)), (9, Fact.at_ w (.bool ok))]) [2, 3, 1] 45 8 12 20 [.int .i64 0, .string ⟨#[]⟩, .int .i64 0, .int .i64 0, .string ⟨#[]⟩, .slice none 0 0, .bool false] (fun vs => ∃ A8 c8, vs = [.int .i64 f.num, .string (bs f.name), .int .i64 f.type.kind, .int .i64 f.type.size, .string (bs f.type.name), .slice A8 f.type.elem.length c8, .bool f.opt]) [12, 13, 14, 15, 16, 17, 18, 19, 11, 20, 21, 9, 8] rfl (by kernel_rfl) (by kernel_rfl) (by kernel_rfl) (by kernel_rfl) (FF_soft (fcs ⟨at_soft w (.pointer (some ⟨b7, 0, none⟩)), fcs ⟨at_soft w (.pointer (some ⟨b5, 0, none⟩)), fcs ⟨at_soft w (.int .i64 (kk : Int)), fcs ⟨at_soft w (.agg #[.string (bs sT.name), .slice A3 sT.fields.length c3]), fcs ⟨at_soft w (.pointer (some ⟨b5, 4, none⟩)), fcs ⟨at_soft w (.slice (some aF) m d), fcs ⟨at_soft w (.int .i64 (kk : Int)), fcs ⟨at_soft w (.pointer (some (aF.add (kk * 6)))), fcs ⟨at_soft w (.pointer (some (aF.add (kk * 6)))), fcs ⟨at_soft w (.int .i64 y), fcs ⟨fp_soft (T2 (PFx f) ok) w, fcs ⟨fp_soft (T2 (PFx f) ok) w, fcs ⟨fp_soft (PFx f) w, fcs ⟨at_soft w (.bool ok), fcs ⟨at_soft w (.bool ok), fnl⟩⟩⟩⟩⟩⟩⟩⟩⟩⟩⟩⟩⟩⟩⟩)) ?_ ?_ ?_
  · intro t9 ht9
    simp only [List.mem_cons, List.not_mem_nil, or_false] at ht9
    rcases ht9 with rfl | rfl | rfl
    · exact ⟨rfl, Below.refl _ _⟩
    · exact ⟨rfl, Below.refl _ _⟩
    · exact ⟨rfl, Below.refl _ _⟩
  · refine fcs ⟨.plain (at1 2 12 (.pointer (some ⟨b7, 0, none⟩)) (.agg #[.string (bs sT.name), .slice A3 sT.fields.length c3]) rfl (by first | exact .inl rfl | exact .inr ⟨_, _, _, rfl, rfl, by kernel_rfl, by decide, rfl⟩) (by kernel_rfl) rfl rfl (fun a9 W9 hb9 h9 => by have g0 := cell_next hb9 d0; have g1 := cell_next hb9 d1; simp [execOp, h9] <;> go_simp)) (by decide) (by decide), ?_⟩
    refine fcs ⟨.plain (at1 3 13 (.pointer (some ⟨b5, 0, none⟩)) (.pointer (some ⟨b5, 4, none⟩)) rfl (by first | exact .inl rfl | exact .inr ⟨_, _, _, rfl, rfl, by kernel_rfl, by decide, rfl⟩) (by kernel_rfl) rfl rfl (fun a9 W9 hb9 h9 => by simp [execOp, h9] <;> go_simp)) (by decide) (by decide), ?_⟩
    refine fcs ⟨.plain (at1 13 14 (.pointer (some ⟨b5, 4, none⟩)) (.slice (some aF) m d) rfl (by first | exact .inl rfl | exact .inr ⟨_, _, _, rfl, rfl, by kernel_rfl, by decide, rfl⟩) (by kernel_rfl) rfl rfl (fun a9 W9 hb9 h9 => by have g0 := cell_next hb9 v4; simp [execOp, h9] <;> go_simp)) (by decide) (by decide), ?_⟩
    refine fcs ⟨.plain (atcopy 1 15 (.int .i64 (kk : Int)) (.inl rfl) rfl (by first | exact .inl rfl | exact .inr ⟨_, _, _, rfl, rfl, by kernel_rfl, by decide, rfl⟩) (by kernel_rfl) rfl rfl) (by decide) (by decide), ?_⟩
    refine fcs ⟨.plain (at2 14 15 16 (.slice (some aF) m d) (.int .i64 (kk : Int)) (.pointer (some (aF.add (kk * 6)))) rfl (by first | exact .inl rfl | exact .inr ⟨_, _, _, rfl, rfl, by kernel_rfl, by decide, rfl⟩) (by kernel_rfl) (by kernel_rfl) rfl rfl rfl (fun a9 W9 hb9 h9 h8 => by simp [execOp, h9, h8] <;> go_simp)) (by decide) (by decide), ?_⟩
    refine fcs ⟨.plain (at1 16 17 (.pointer (some (aF.add (kk * 6)))) (.pointer (some (aF.add (kk * 6)))) rfl (by first | exact .inl rfl | exact .inr ⟨_, _, _, rfl, rfl, by kernel_rfl, by decide, rfl⟩) (by kernel_rfl) rfl rfl (fun a9 W9 hb9 h9 => by simp [execOp, h9] <;> go_simp)) (by decide) (by decide), ?_⟩
    refine fcs ⟨.plain (at1 17 18 (.pointer (some (aF.add (kk * 6)))) (.int .i64 y) rfl (by first | exact .inl rfl | exact .inr ⟨_, _, _, rfl, rfl, by kernel_rfl, by decide, rfl⟩) (by kernel_rfl) rfl rfl (fun a9 W9 hb9 h9 => by have g0 := cell_next hb9 x0; simp [execOp, h9] <;> go_simp)) (by decide) (by decide), ?_⟩
    refine fcs ⟨.plain (at_enter (W0 := w) (by first | exact .inl rfl | exact .inr ⟨_, _, _, rfl, rfl, by kernel_rfl, by decide, rfl⟩) (fun a9 W9 hf9 => by have p12 := hf9 12 (by kernel_rfl); have q12 : a9.tmps.getD 12 undef = (.agg #[.string (bs sT.name), .slice A3 sT.fields.length c3]) := p12.1; have p18 := hf9 18 (by kernel_rfl); have q18 : a9.tmps.getD 18 undef = (.int .i64 y) := p18.1; have hb9 := p12.2; exact ⟨141, #[(.agg #[.string (bs sT.name), .slice A3 sT.fields.length c3]), (.int .i64 y)], by rw [← q12, ← q18]; simpa [execOp, resolve, Act.eval] using run_invoke (by kernel_rfl) _ W9, (cF W9 p12.2).mono fun e w' ⟨v8, e1, ⟨A8, c8, e8, _⟩, e3⟩ => ⟨_, e1, e3, fun s hs => by injection hs with hs; subst hs; exact ⟨⟨_, ⟨A8, c8, e8⟩, rfl⟩, upG hb9 e3⟩⟩⟩)) (by decide) (by decide), ?_⟩
    refine fcs ⟨.plain (ob_copy 19 11 (.inl rfl) rfl (.inl rfl) (by kernel_rfl) rfl) (by decide) (by decide), ?_⟩
    refine fcs ⟨.plain (atP 11 20 (T2 (PFx f) ok) (PFx f) rfl (by first | exact .inl rfl | exact .inr ⟨_, _, _, rfl, rfl, by kernel_rfl, by decide, rfl⟩) (by kernel_rfl) rfl rfl (fun a9 W9 u9 h8 h9 => by obtain ⟨x8, hx8, rfl⟩ := h8; exact ⟨x8, by simp [execOp, h9] <;> go_simp, hx8⟩)) (by decide) (by decide), ?_⟩
    refine fcs ⟨.plain (atP 11 21 (T2 (PFx f) ok) (· = .bool ok) rfl (by first | exact .inl rfl | exact .inr ⟨_, _, _, rfl, rfl, by kernel_rfl, by decide, rfl⟩) (by kernel_rfl) rfl rfl (fun a9 W9 u9 h8 h9 => by obtain ⟨x8, hx8, rfl⟩ := h8; exact ⟨_, by simp [execOp, h9] <;> go_simp, rfl⟩)) (by decide) (by decide), ?_⟩
    refine fcs ⟨.alloc rfl rfl rfl (by decide) (fun a9 w9 => ⟨_, by simp [execOp, ptr0] <;> go_simp, ab1 _ (Obj.cells #[.int .i64 0, .string ⟨#[]⟩, .int .i64 0, .int .i64 0, .string ⟨#[]⟩, .slice none 0 0, .bool false] 57), Bx.new7 _ _ _ _ _ _ _ _ _⟩), ?_⟩
    refine fcs ⟨.store rfl rfl rfl (by kernel_rfl) (by kernel_rfl) (fun a9 w9 b9 h9 hx9 hf9 => (by have k1 : a9.eval (.tmp 8) = .pointer (some ⟨b9, 0, none⟩) := h9; obtain ⟨A8, c8, e8⟩ : PFx f (a9.tmps.getD 20 undef) := hf9.1; have k2 : a9.eval (.tmp 20) = _ := e8; have g0 := hx9.c 0 rfl; have f0 := hx9.f 0 rfl; have g1 := hx9.c 1 rfl; have f1 := hx9.f 1 rfl; have g2 := hx9.c 2 rfl; have f2 := hx9.f 2 rfl; have g3 := hx9.c 3 rfl; have f3 := hx9.f 3 rfl; have g4 := hx9.c 4 rfl; have f4 := hx9.f 4 rfl; have g5 := hx9.c 5 rfl; have f5 := hx9.f 5 rfl; have g6 := hx9.c 6 rfl; have f6 := hx9.f 6 rfl; have l9 := hx9.lt; exact ⟨_, by simp [execOp, k1, k2] <;> go_simp, gb_set7 _ _ (.int .i64 f.num) (.string (bs f.name)) (.int .i64 f.type.kind) (.int .i64 f.type.size) (.string (bs f.type.name)) (.slice A8 f.type.elem.length c8) (.bool f.opt), ⟨[.int .i64 f.num, .string (bs f.name), .int .i64 f.type.kind, .int .i64 f.type.size, .string (bs f.type.name), .slice A8 f.type.elem.length c8, .bool f.opt], ⟨A8, c8, rfl⟩, hx9.put7 (.int .i64 f.num) (.string (bs f.name)) (.int .i64 f.type.kind) (.int .i64 f.type.size) (.string (bs f.type.name)) (.slice A8 f.type.elem.length c8) (.bool f.opt)⟩⟩)), ?_⟩
    refine fcs ⟨.plain (atcopy 21 9 (.bool ok) (.inr rfl) rfl (by first | exact .inl rfl | exact .inr ⟨_, _, _, rfl, rfl, by kernel_rfl, by decide, rfl⟩) (by kernel_rfl) rfl rfl) (by decide) (by decide), ?_⟩
    exact fnl
  rintro vv wv hvv ⟨gx, hgx, hgl, hX⟩ hbv
  have hv9 : vv 9 = (.bool ok) := (hvv 9 (by decide)).1
  unfold ptr0 at hgx
  simp only [lay, List.foldl_cons, List.foldl_nil, List.setIfInBounds_toArray, List.set_cons_succ, List.set_cons_zero, hgx, hv9]
  obtain ⟨vs, ⟨A8, c8, rfl⟩, hX⟩ := hX
  replace h3 := h3.next hbv
  replace h5 := h5.next hbv
  have y0 := x0
  replace x1 := cell_next hbv x1
  replace x2 := cell_next hbv x2
  replace x3 := cell_next hbv x3
  replace x4 := cell_next hbv x4
  replace x5 := cell_next hbv x5
  have hblk2 : (aF.add (kk * 6)).block < wv.heap.size := blk_lt (cell_next hbv x0)
  clear cF hvv hgx x0 hblk d0 d1 v4 l5 l7 l3
  have a0 := h3.c 0 rfl
  have a1 := h3.c 1 rfl
  have a2 := h3.c 2 rfl
  have v4 := h5.c 4 rfl
  have f2 := hX.c 2 rfl
  have f3 := hX.c 3 rfl
  have f4 := hX.c 4 rfl
  have f5 := hX.c 5 rfl
  have l5 := h5.lt
  have l3 := h3.lt
  have lx := hX.lt
  go_upto_region 2 with (fail)
  refine wp_region_on (by kernel_rfl) (FF [(4, Fact.at_ wv (.pointer (some ⟨b3, 0, none⟩))), (8, Fact.at_ wv (.pointer (some ⟨gx, 0, none⟩))), (3, Fact.at_ wv (.pointer (some ⟨b5, 0, none⟩))), (1, Fact.at_ wv (.int .i64 (kk : Int))), (22, Fact.at_ wv (.agg #[.int .i64 S.ver, .slice A S.enums.length c, .slice A2 S.structs.length c2])), (23, Fact.at_ wv (.pointer (some ⟨gx, 2, none⟩))), (24, Fact.at_ wv (.agg #[.int .i64 f.type.kind, .int .i64 f.type.size, .string (bs f.type.name), .slice A8 f.type.elem.length c8])), (25, Fact.at_ wv (.pointer (some ⟨b5, 4, none⟩))), (26, Fact.at_ wv (.slice (some aF) m d)), (27, Fact.at_ wv (.int .i64 (kk : Int))), (28, Fact.at_ wv (.pointer (some (aF.add (kk * 6))))), (29, Fact.at_ wv (.pointer (some ⟨(aF.add (kk * 6)).block, (aF.add (kk * 6)).off + 1, none⟩))), (30, Fact.at_ wv (.agg #[.int .i64 x.kind, .int .i64 x.n, .string (bs x.s), .slice s'.A x.l.length s'.c, .slice s'.B x.f.length s'.d])), (31, Fact.at_ wv (.string (bs ct))), (10, Fact.at_ wv (.string (bs ct)))]) [4, 8, 3, 1] 45 [22, 23, 24, 25, 26, 27, 28, 29, 30, 31, 10] rfl (by kernel_rfl) (by kernel_rfl) ?_ ?_ ?_
  · intro t9 ht9
    simp only [List.mem_cons, List.not_mem_nil, or_false] at ht9
    rcases ht9 with rfl | rfl | rfl | rfl
    · exact ⟨rfl, Below.refl _ _⟩
    · exact ⟨rfl, Below.refl _ _⟩
    · exact ⟨rfl, Below.refl _ _⟩
    · exact ⟨rfl, Below.refl _ _⟩
  · refine fcs ⟨at1 4 22 (.pointer (some ⟨b3, 0, none⟩)) (.agg #[.int .i64 S.ver, .slice A S.enums.length c, .slice A2 S.structs.length c2]) rfl (by first | exact .inl rfl | exact .inr ⟨_, _, _, rfl, rfl, by kernel_rfl, by decide, rfl⟩) (by kernel_rfl) rfl rfl (fun a9 W9 hb9 h9 => by have g0 := cell_next hb9 a0; have g1 := cell_next hb9 a1; have g2 := cell_next hb9 a2; simp [execOp, h9] <;> go_simp), ?_⟩
    refine fcs ⟨at1 8 23 (.pointer (some ⟨gx, 0, none⟩)) (.pointer (some ⟨gx, 2, none⟩)) rfl (by first | exact .inl rfl | exact .inr ⟨_, _, _, rfl, rfl, by kernel_rfl, by decide, rfl⟩) (by kernel_rfl) rfl rfl (fun a9 W9 hb9 h9 => by simp [execOp, h9] <;> go_simp), ?_⟩
    refine fcs ⟨at1 23 24 (.pointer (some ⟨gx, 2, none⟩)) (.agg #[.int .i64 f.type.kind, .int .i64 f.type.size, .string (bs f.type.name), .slice A8 f.type.elem.length c8]) rfl (by first | exact .inl rfl | exact .inr ⟨_, _, _, rfl, rfl, by kernel_rfl, by decide, rfl⟩) (by kernel_rfl) rfl rfl (fun a9 W9 hb9 h9 => by have g0 := cell_next hb9 f2; have g1 := cell_next hb9 f3; have g2 := cell_next hb9 f4; have g3 := cell_next hb9 f5; simp [execOp, h9] <;> go_simp), ?_⟩
    refine fcs ⟨at1 3 25 (.pointer (some ⟨b5, 0, none⟩)) (.pointer (some ⟨b5, 4, none⟩)) rfl (by first | exact .inl rfl | exact .inr ⟨_, _, _, rfl, rfl, by kernel_rfl, by decide, rfl⟩) (by kernel_rfl) rfl rfl (fun a9 W9 hb9 h9 => by simp [execOp, h9] <;> go_simp), ?_⟩
    refine fcs ⟨at1 25 26 (.pointer (some ⟨b5, 4, none⟩)) (.slice (some aF) m d) rfl (by first | exact .inl rfl | exact .inr ⟨_, _, _, rfl, rfl, by kernel_rfl, by decide, rfl⟩) (by kernel_rfl) rfl rfl (fun a9 W9 hb9 h9 => by have g0 := cell_next hb9 v4; simp [execOp, h9] <;> go_simp), ?_⟩
    refine fcs ⟨atcopy 1 27 (.int .i64 (kk : Int)) (.inl rfl) rfl (by first | exact .inl rfl | exact .inr ⟨_, _, _, rfl, rfl, by kernel_rfl, by decide, rfl⟩) (by kernel_rfl) rfl rfl, ?_⟩
    refine fcs ⟨at2 26 27 28 (.slice (some aF) m d) (.int .i64 (kk : Int)) (.pointer (some (aF.add (kk * 6)))) rfl (by first | exact .inl rfl | exact .inr ⟨_, _, _, rfl, rfl, by kernel_rfl, by decide, rfl⟩) (by kernel_rfl) (by kernel_rfl) rfl rfl rfl (fun a9 W9 hb9 h9 h8 => by simp [execOp, h9, h8] <;> go_simp), ?_⟩
    refine fcs ⟨at1 28 29 (.pointer (some (aF.add (kk * 6)))) (.pointer (some ⟨(aF.add (kk * 6)).block, (aF.add (kk * 6)).off + 1, none⟩)) rfl (by first | exact .inl rfl | exact .inr ⟨_, _, _, rfl, rfl, by kernel_rfl, by decide, rfl⟩) (by kernel_rfl) rfl rfl (fun a9 W9 hb9 h9 => by simp [execOp, h9] <;> go_simp), ?_⟩
    refine fcs ⟨at1 29 30 (.pointer (some ⟨(aF.add (kk * 6)).block, (aF.add (kk * 6)).off + 1, none⟩)) (.agg #[.int .i64 x.kind, .int .i64 x.n, .string (bs x.s), .slice s'.A x.l.length s'.c, .slice s'.B x.f.length s'.d]) rfl (by first | exact .inl rfl | exact .inr ⟨_, _, _, rfl, rfl, by kernel_rfl, by decide, rfl⟩) (by kernel_rfl) rfl rfl (fun a9 W9 hb9 h9 => by have g0 := cell_next hb9 x1; have g1 := cell_next hb9 x2; have g2 := cell_next hb9 x3; have g3 := cell_next hb9 x4; have g4 := cell_next hb9 x5; simp [execOp, h9] <;> go_simp), ?_⟩
    refine fcs ⟨atc3 43 22 24 30 31 (.agg #[.int .i64 S.ver, .slice A S.enums.length c, .slice A2 S.structs.length c2]) (.agg #[.int .i64 f.type.kind, .int .i64 f.type.size, .string (bs f.type.name), .slice A8 f.type.elem.length c8]) (.agg #[.int .i64 x.kind, .int .i64 x.n, .string (bs x.s), .slice s'.A x.l.length s'.c, .slice s'.B x.f.length s'.d]) (.string (bs ct)) _ rfl rfl (by first | exact .inl rfl | exact .inr ⟨_, _, _, rfl, rfl, by kernel_rfl, by decide, rfl⟩) (by kernel_rfl) (by kernel_rfl) (by kernel_rfl) rfl rfl rfl (by kernel_rfl) rfl (fun W9 hb9 => cC W9 A8 c8), ?_⟩
    refine fcs ⟨atcopy 31 10 (.string (bs ct)) (.inr rfl) rfl (by first | exact .inl rfl | exact .inr ⟨_, _, _, rfl, rfl, by kernel_rfl, by decide, rfl⟩) (by kernel_rfl) rfl rfl, ?_⟩
    exact fnl
  intro vu wu hvu hbu
  have hv10 : vu 10 = (.string (bs ct)) := (hvu 10 (by decide)).1
  simp only [lay, List.foldl_cons, List.foldl_nil, List.setIfInBounds_toArray, List.set_cons_succ, List.set_cons_zero, hv10]
  replace hX := hX.next hbu
  have hbw := Below.next hbv hbu
  have hO2 := HO.out.next hbw
  have cI := fun W => isOmitted_any f.num f.name f.type.kind f.type.size f.type.name A8 f.type.elem.length c8 f.opt ct W
  have cU := fun W => uint_any nf W (by omega)
  have cT := fun W => textW_any ct W hct
  have hgb := gbq_of hbw (Value.slice Av o.length cv).ownBlock
  have HBw := Lib.hid (show B9 ≤ wu.heap.size from Nat.le_trans hB hbw.size)
  have HNF := Lib.hid hnf
  have HGB := Lib.hid hgb
  have HO2 := Lib.hid hO2
  clear hgb hO2 hB
  have wn := wr_u (k := nf) (by omega)
  obtain ⟨om, hom⟩ : ∃ om, (!f.opt && decide (ct = zc f.type.kind)) = om := ⟨_, rfl⟩
  have hsz : (bs (uv nf ++ tv ct)).size ≤ 200000 := by
    rw [bs_size, List.length_append]
    unfold tv
    rw [List.length_append]
    have := uv_len10 (n := nf) (by omega)
    have := uv_len10 (n := ct.length) (by omega)
    omega
  have HSZ := Lib.hid hsz
  clear hsz
  have HW := Lib.hid (show wpt f nf ct = if om = true then [] else uv nf ++ tv ct by unfold wpt; rw [hom])
  rw [hom] at cI
  clear hom hnf hvu h3 h5 a0 a1 a2 v4 f2 f3 f4 f5 l5 l3 lx x1 x2 x3 x4 x5 y0 hblk2 hgl cC
  have g0 := hX.c 0 rfl
  have g1 := hX.c 1 rfl
  have g2 := hX.c 2 rfl
  have g3 := hX.c 3 rfl
  have g4 := hX.c 4 rfl
  have g5 := hX.c 5 rfl
  have g6 := hX.c 6 rfl
  have lx := hX.lt
  cases om
  case true =>
    go_wp2_with fail
    refine (cI wu).mono ?_
    rintro en w3 ⟨rfl, hb3⟩
    go_wp2_with fail
    go_ret
    refine ⟨_, rfl, ?_, HGB.out.trans (gbq_of hb3 _)⟩
    have h0 : wpt f nf ct = [] := by rw [HW.out]; simp
    rw [h0, List.append_nil]
    exact HO2.out.next hb3
  case false =>
  rw [HNF.out] at g0 cI
  go_wp2_with fail
  refine (cI wu).mono ?_
  rintro en w3 ⟨rfl, hb3⟩
  replace hX := hX.next hb3
  clear g0 g1 g2 g3 g4 g5 g6 lx cI
  have g0 := hX.c 0 rfl
  rw [HNF.out] at g0
  have lx := hX.lt
  go_wp2_with fail
  refine (cU w3).mono ?_
  rintro en w4 ⟨rfl, hb4⟩
  go_wp2_with fail
  refine (cT w4).mono ?_
  rintro en w5 ⟨rfl, hb5⟩
  have hb35 := Below.next hb3 (Below.next hb4 hb5)
  have hO3 := HO2.out.next hb35
  have hB5 : B9 ≤ w5.heap.size := Nat.le_trans HBw.out hb35.size
  have HB5 := Lib.hid hB5
  have hw2 : wpt f nf ct = uv nf ++ tv ct := by rw [HW.out]; simp
  have HW2 := Lib.hid hw2
  have HGB2 := Lib.hid (HGB.out.trans (gbq_of hb35 _))
  have HO3 := Lib.hid hO3
  clear hB5 hw2 HW hO3 hX g0 lx cU cT HBw HO2 HGB hb35 hb3 hb4 hb5 hbw hbv hbu
  have hO4 := HO3.out
  have hcc : ¬ (9223372036854775807 < (bs (uv nf)).size + (bs (tv ct)).size) := by have := HSZ.out; rw [bs_size, List.length_append] at this; rw [bs_size, bs_size]; omega
  have hB6 := HB5.out
  have hs6 : o.length + ((uv nf).length + (tv ct).length) ≤ 1000000 := by have := HSZ.out; rw [bs_size, List.length_append] at this; omega
  go_wp2_with (at_builtin; refine wpList_pushG rfl (.tmp 36) (.tmp 43) rfl B9 _ o (uv nf) (tv ct) rfl rfl hO4 hs6 hB6 ?_; intro v' w6 ho6 hg6)
  go_ret
  refine ⟨_, rfl, ?_, HGB2.out.trans hg6⟩
  rw [HW2.out]
  exact ho6
end Go.Proofs.YthfodpbecddheaaGreatDoor
/-
  The developers' gather over three captured variables. No conditions beyond those that each names.
-/
namespace Go.Proofs.YthfodpbecddheaaGreatDoor
open Go.RowKit
/-- Parts behind one another, until they are too long. -/
def gat (pt : Nat → List UInt8) : Nat → Nat → List UInt8 → List UInt8
  | 0, _, o => o
  | N + 1, i, o => if 2000 < o.length then o else gat pt N (i + 1) (o ++ pt i)
theorem gat_long {pt : Nat → List UInt8} {N i : Nat} {o : List UInt8} (h : 2000 < o.length) : gat pt N i o = o := by
  cases N with
  | zero => rw [gat]
  | succ N => rw [gat, if_pos h]
theorem gat_go {pt : Nat → List UInt8} {N i : Nat} {o : List UInt8} (h : ¬ 2000 < o.length) : gat pt (N + 1) i o = gat pt N (i + 1) (o ++ pt i) := by rw [gat, if_neg h]
set_option maxRecDepth 100000 in
set_option maxHeartbeats 4000000 in
theorem gather_any (F : Nat) (p q r : Value) (n : Nat) (pt : Nat → List UInt8) (w : World) (J : World → Prop) (hF : fnOk F = true) (hn : n ≤ 1000000) (hpt : ∀ i, i < n → (pt i).length ≤ 200000)
    (hJ0 : J w) (hJ : ∀ W W' q', J W → W.grownBy W' q' → (∀ g, q' = some g → w.heap.size ≤ g) → J W')
    (hV : ∀ i o vo W, i < n → o.length ≤ 2000 → J W → w.heap.size ≤ W.heap.size → OwG w.heap.size W vo o → Calls Tryz.prog F #[vo, .int .i64 (i : Int), p, q, r] W (fun e W' => ∃ vo', e = .returned vo' ∧ OwG w.heap.size W' vo' (o ++ pt i) ∧ W.grownBy W' vo.ownBlock)) :
    Calls Tryz.prog 137 #[.string ⟨#[]⟩, .int .i64 (n : Int), .func (.func F) #[] #[p, q, r]] w (fun e w' => e = .returned (.string (bs (gat pt n 0 []))) ∧ J w' ∧ Below w.heap.size w w') := by
  obtain ⟨R, hR⟩ : ∃ R, gat pt n 0 [] = R := ⟨_, rfl⟩
  rw [hR]
  have HR := Lib.hid hR
  clear hR
  obtain ⟨cap, w1, hcv, hO, hb1⟩ := conv_nil w
  have HJ1 := Lib.hid (hJ w w1 none hJ0 (gbq_of hb1 _) (fun g e => by cases e))
  have HO1 := Lib.hid hO
  clear hO hJ0
  go_enter Tryz.func137, Tryz.ntmps137
  go_wp2_with fail
  clear hcv
  go_loopw [7, 12] (fun v i wr => ∃ (k N : Nat) (o : List UInt8), k ≤ n ∧ i = .int .i64 (k : Int) ∧ Hid (N + k = n ∧ gat pt N k o = R ∧ (0 < k → o.length ≤ 202000)) ∧ Hid (OwG w.heap.size wr v o) ∧ o.length ≤ 202000 ∧ Hid (J wr) ∧ Below w.heap.size w wr) (fun _ i _ => n - (intOf i).toNat)
  case atStart => exact ⟨0, n, [], Nat.zero_le _, rfl, Lib.hid ⟨rfl, HR.out, fun h => by omega⟩, HO1, by decide, HJ1, hb1⟩
  case round =>
    clear HR HO1 HJ1 hb1
    obtain ⟨k, N, o, hk, rfl, HN, HO, hol, HJ2, hb⟩ := hrel
    obtain ⟨g9, cv, rfl, -⟩ := HO.out
    obtain ⟨Av, hAv⟩ : ∃ Av : Option Addr, (some ⟨g9, 0, none⟩ : Option Addr) = Av := ⟨_, rfl⟩
    rw [hAv] at HO ⊢
    clear hAv
    by_cases hlt : k < n
    · have hk1 := Lib.hid hlt
      obtain ⟨N', rfl⟩ : ∃ N', N = N' + 1 := ⟨N - 1, by have := HN.out.1; omega⟩
      by_cases hlong : 2000 < o.length
      · have d1 : decide ((2000 : Int) < (o.length : Int)) = true := decide_eq_true (by omega)
        have HE := Lib.hid (show o = R by rw [← HN.out.2.1, gat_long hlong])
        have hstr := HO.out.str
        clear hlong HN
        go_wp2_with fail
        refine bodyPost_ret (v := .string (bs o)) (by simp [results, Tryz.results137, go_sem]) rfl ?_
        rw [HE.out]
        exact ⟨rfl, HJ2.out, hb⟩
      · have d1 : decide ((2000 : Int) < (o.length : Int)) = false := decide_eq_false (by omega)
        have HG := Lib.hid (show gat pt N' (k + 1) (o ++ pt k) = R by rw [← HN.out.2.1, gat_go hlong])
        have HN2 := Lib.hid (show N' + (k + 1) = n by have := HN.out.1; omega)
        have cV := hV k o (.slice Av o.length cv) wr hlt (by omega) HJ2.out hb.size HO.out
        have hp2 := hpt k hlt
        have hlo := fun g e => (HO.out.lt g e).1
        have HL2 := Lib.hid (show (o ++ pt k).length ≤ 202000 by rw [List.length_append]; omega)
        clear HN HO hol hp2 hlong
        go_wp2_with fail
        rw [run_callFunc hF]
        refine cV.mono ?_
        rintro en w2 ⟨vo', rfl, hO2, hg2⟩
        go_wp2_with fail
        go_roundw
        case rel => exact ⟨k + 1, N', o ++ pt k, hk1.out, by go_num, Lib.hid ⟨HN2.out, HG.out, fun _ => HL2.out⟩, Lib.hid hO2, HL2.out, Lib.hid (hJ _ _ _ HJ2.out hg2 hlo), hb.grown hg2 hb.size hlo⟩
        case measure => have := hk1.out; simp [intOf]; omega
    · obtain rfl : k = n := by omega
      have h0 : N = 0 := by have := HN.out.1; omega
      subst h0
      have HE := Lib.hid (show o = R by rw [← HN.out.2.1, gat])
      have hstr := HO.out.str
      clear HN
      go_wp2_with fail
      refine bodyPost_ret (v := .string (bs o)) (by simp [results, Tryz.results137, go_sem]) rfl ?_
      rw [HE.out]
      exact ⟨rfl, HJ2.out, hb⟩
end Go.Proofs.YthfodpbecddheaaGreatDoor
/-
  The encoding of a struct whose fields' contents are known. No conditions beyond those that each names.
-/
namespace Go.Proofs.YthfodpbecddheaaGreatDoor
open Go.RowKit Go.Sort
theorem Kpl.own2 {lo : Nat} {wL wr w6 : World} {q : Option Nat} (k : Kpl lo wL wr) (hg : wr.grownBy w6 q) (hq : ∀ g, q = some g → wL.heap.size ≤ g) : Kpl lo wL w6 :=
  ⟨Nat.le_trans k.size hg.size, fun i h1 h2 => (hg.block i (Nat.lt_of_lt_of_le h2 k.size) (fun e => by have := hq i e.symm; omega)).trans (k.blk i h1 h2)⟩
/-- What is written of the entries of a value, one by one. -/
def wpi (S : Sch) (nm : List UInt8) (v : Vl) (nf : Nat → Nat) (ct : Nat → List UInt8) (i : Nat) : List UInt8 :=
  if h : i < v.f.length then wpt ((fst_ Fd.num ((fst_ St.name S.structs nm).getD st0).fields (v.f[i]'h).1).getD fd0) (nf i) (ct i) else []
set_option maxRecDepth 100000 in
set_option maxHeartbeats 8000000 in
theorem wstruct_any (S : Sch) (A : Option Addr) (c : Nat) (A2 : Option Addr) (c2 : Nat) (s : Int) (nm : List UInt8) (G : Option Addr) (e g : Nat) (v : Vl) (B : Option Addr) (b : Nat) (D : Option Addr) (d : Nat) (w : World) (nf : Nat → Nat) (ct : Nat → List UInt8)
    (hf : Few9 S) (hS : Sc w S A A2) (hv : Rw EtA 6 w v.f D) (hfl : v.f.length ≤ 1000000)
    (hnf : ∀ i (h : i < v.f.length), ((fst_ Fd.num ((fst_ St.name S.structs nm).getD st0).fields (v.f[i]'h).1).getD fd0).num = (nf i : Int) ∧ nf i ≤ 1000000 ∧ (ct i).length ≤ 100000)
    (hC : ∀ i (h : i < v.f.length) W A8 c8 (s' : Sb), Calls Tryz.prog 43 #[.agg #[.int .i64 S.ver, .slice A S.enums.length c, .slice A2 S.structs.length c2], .agg #[.int .i64 ((fst_ Fd.num ((fst_ St.name S.structs nm).getD st0).fields (v.f[i]'h).1).getD fd0).type.kind, .int .i64 ((fst_ Fd.num ((fst_ St.name S.structs nm).getD st0).fields (v.f[i]'h).1).getD fd0).type.size, .string (bs ((fst_ Fd.num ((fst_ St.name S.structs nm).getD st0).fields (v.f[i]'h).1).getD fd0).type.name), .slice A8 ((fst_ Fd.num ((fst_ St.name S.structs nm).getD st0).fields (v.f[i]'h).1).getD fd0).type.elem.length c8], .agg #[.int .i64 (v.f[i]'h).2.kind, .int .i64 (v.f[i]'h).2.n, .string (bs (v.f[i]'h).2.s), .slice s'.A (v.f[i]'h).2.l.length s'.c, .slice s'.B (v.f[i]'h).2.f.length s'.d]] W (Ib (.string (bs (ct i))) W)) :
    Calls Tryz.prog 90 #[.agg #[.int .i64 S.ver, .slice A S.enums.length c, .slice A2 S.structs.length c2], .agg #[.int .i64 6, .int .i64 s, .string (bs nm), .slice G e g], .agg #[.int .i64 v.kind, .int .i64 v.n, .string (bs v.s), .slice B v.l.length b, .slice D v.f.length d]] w (Ib (.string (bs (gat (wpi S nm v nf ct) v.f.length 0 []))) w) := by
  have hW2 := few_st hf nm
  have hfw : ∀ f ∈ ((fst_ St.name S.structs nm).getD st0).fields, fewT f.type = true := fun f hff => by
    rcases fst_st0' (S := S) nm with h0 | h0
    · rw [h0] at hff; cases hff
    · exact (hf.st _ h0).2 f hff
  have cS := fun W (h : Sc W S A A2) => devStruct_k S nm (.agg #[.int .i64 S.ver, .slice A S.enums.length c, .slice A2 S.structs.length c2]) W ⟨A, c, A2, c2, rfl, h⟩ hf.sl hf.st
  unfold StK at cS
  have hP : ∀ i, i < v.f.length → (wpi S nm v nf ct i).length ≤ 200000 := fun i hi => by
    obtain ⟨-, h2, h3⟩ := hnf i hi
    unfold wpi wpt
    rw [dif_pos hi]
    split
    · simp
    · rw [List.length_append]
      unfold tv
      rw [List.length_append]
      have := uv_len10 (n := nf i) (by omega)
      have := uv_len10 (n := (ct i).length) (by omega)
      omega
  have hQ : ∀ i (hi : i < v.f.length), wpi S nm v nf ct i = wpt ((fst_ Fd.num ((fst_ St.name S.structs nm).getD st0).fields (v.f[i]'hi).1).getD fd0) (nf i) (ct i) := fun i hi => by unfold wpi; rw [dif_pos hi]
  generalize wpi S nm v nf ct = pt at *
  generalize (fst_ St.name S.structs nm).getD st0 = sT at *
  generalize (fst_ St.name S.structs nm).isSome = ok at *
  have D3 := (Bx.new3 w 90 (.int .i64 S.ver) (.slice A S.enums.length c) (.slice A2 S.structs.length c2)).next (ab2 _ (Obj.cells #[.int .i64 6, .int .i64 s, .string (bs nm), .slice G e g] 29) (Obj.cells #[.int .i64 v.kind, .int .i64 v.n, .string (bs v.s), .slice B v.l.length b, .slice D v.f.length d] 34))
  have D4 := (Bx.new4 (w.alloc (Obj.cells #[.int .i64 S.ver, .slice A S.enums.length c, .slice A2 S.structs.length c2] 90)) 29 (.int .i64 6) (.int .i64 s) (.string (bs nm)) (.slice G e g)).next (ab1 _ (Obj.cells #[.int .i64 v.kind, .int .i64 v.n, .string (bs v.s), .slice B v.l.length b, .slice D v.f.length d] 34))
  have D5 := Bx.new5 ((w.alloc (Obj.cells #[.int .i64 S.ver, .slice A S.enums.length c, .slice A2 S.structs.length c2] 90)).alloc (Obj.cells #[.int .i64 6, .int .i64 s, .string (bs nm), .slice G e g] 29)) 34 (.int .i64 v.kind) (.int .i64 v.n) (.string (bs v.s)) (.slice B v.l.length b) (.slice D v.f.length d)
  have z1 : (w.alloc (Obj.cells #[.int .i64 S.ver, .slice A S.enums.length c, .slice A2 S.structs.length c2] 90)).heap.size = w.heap.size + 1 := by simp
  have z2 : ((w.alloc (Obj.cells #[.int .i64 S.ver, .slice A S.enums.length c, .slice A2 S.structs.length c2] 90)).alloc (Obj.cells #[.int .i64 6, .int .i64 s, .string (bs nm), .slice G e g] 29)).heap.size = w.heap.size + 1 + 1 := by simp
  have z3 : (((w.alloc (Obj.cells #[.int .i64 S.ver, .slice A S.enums.length c, .slice A2 S.structs.length c2] 90)).alloc (Obj.cells #[.int .i64 6, .int .i64 s, .string (bs nm), .slice G e g] 29)).alloc (Obj.cells #[.int .i64 v.kind, .int .i64 v.n, .string (bs v.s), .slice B v.l.length b, .slice D v.f.length d] 34)).heap.size = w.heap.size + 1 + 1 + 1 := by simp
  rw [z1] at D4
  rw [z2] at D5
  have hab := ab3 w (Obj.cells #[.int .i64 S.ver, .slice A S.enums.length c, .slice A2 S.structs.length c2] 90) (Obj.cells #[.int .i64 6, .int .i64 s, .string (bs nm), .slice G e g] 29) (Obj.cells #[.int .i64 v.kind, .int .i64 v.n, .string (bs v.s), .slice B v.l.length b, .slice D v.f.length d] 34)
  have HH := Lib.hid (And.intro hnf (And.intro hC hQ))
  clear hnf hC hQ
  go_enter Tryz.func90, Tryz.ntmps90
  go_upto_region 1 with (fail)
  generalize (((w.alloc (Obj.cells #[.int .i64 S.ver, .slice A S.enums.length c, .slice A2 S.structs.length c2] 90)).alloc (Obj.cells #[.int .i64 6, .int .i64 s, .string (bs nm), .slice G e g] 29)).alloc (Obj.cells #[.int .i64 v.kind, .int .i64 v.n, .string (bs v.s), .slice B v.l.length b, .slice D v.f.length d] 34)) = w0 at *
  have hz3 : w.heap.size + 1 + 1 < w0.heap.size := by omega
  clear z1 z2 z3
  have a0 := D3.c 0 rfl
  have a1 := D3.c 1 rfl
  have a2 := D3.c 2 rfl
  have l3 := D3.lt
  have t2 := D4.c 2 rfl
  have l4 := D4.lt
  have c1 := cS w0 (Sc.next hab hS)
  clear cS
  go_wp2_with fail
  refine c1.mono ?_
  rintro en w2 ⟨v2, rfl, hV2, hb2⟩
  obtain ⟨A3, c3, hv2, -⟩ := hV2 w2 (Kpl.refl _ _)
  subst hv2
  have HV := Lib.hid (fun W (k : Kpl w0.heap.size w2 W) => show Rw FdA 7 W sT.fields A3 by
    obtain ⟨A9, c9, e9, h9⟩ := hV2 W k
    injection e9 with e9
    injection e9 with e9
    injection e9 with _ e9
    injection e9 with e9
    injection e9 with e9
    subst e9
    exact h9)
  have hbx := ab1 w2 (Obj.cells #[.string (bs sT.name), .slice A3 sT.fields.length c3] 53)
  have D7 := Bx.new2 w2 53 (.string (bs sT.name)) (.slice A3 sT.fields.length c3)
  replace D3 := (D3.next hb2).next hbx
  replace D5 := (D5.next hb2).next hbx
  replace hab := Below.next hab (Below.next hb2 hbx)
  have hz2 : w.heap.size + 1 + 1 < w2.heap.size := Nat.lt_of_lt_of_le hz3 hb2.size
  have K2 : Kpl w0.heap.size w2 (w2.alloc (Obj.cells #[.string (bs sT.name), .slice A3 sT.fields.length c3] 53)) := Kpl.of hbx
  have hz7 : w2.heap.size < (w2.alloc (Obj.cells #[.string (bs sT.name), .slice A3 sT.fields.length c3] 53)).heap.size := by simp
  clear a0 a1 a2 l3 t2 l4 c1 hV2 hb2 hbx D4
  go_upto_region 2 with (fail)
  generalize w2.alloc (Obj.cells #[.string (bs sT.name), .slice A3 sT.fields.length c3] 53) = wg at *
  have cG := gather_any 140 (.pointer (some ⟨w2.heap.size, 0, none⟩)) (.pointer (some ⟨w.heap.size + 1 + 1, 0, none⟩)) (.pointer (some ⟨w.heap.size, 0, none⟩)) v.f.length pt wg
    (fun W => Bx W w.heap.size [.int .i64 S.ver, .slice A S.enums.length c, .slice A2 S.structs.length c2] ∧ Bx W (w.heap.size + 1 + 1) [.int .i64 v.kind, .int .i64 v.n, .string (bs v.s), .slice B v.l.length b, .slice D v.f.length d] ∧ Bx W w2.heap.size [.string (bs sT.name), .slice A3 sT.fields.length c3] ∧ Kpl w0.heap.size w2 W ∧ Below w.heap.size w W) (by kernel_rfl) hfl hP ⟨D3, D5, D7, K2, hab⟩
    (fun W W' q' ⟨h1, h2, h3, h4, h5⟩ hg hq => ⟨h1.gbo hg (fun g e => by have := hq g e; omega), h2.gbo hg (fun g e => by have := hq g e; omega), h3.gbo hg (fun g e => by have := hq g e; omega), h4.own2 hg (fun g e => by have := hq g e; omega), h5.grown hg h5.size (fun g e => by have := hq g e; omega)⟩)
    (fun i o vo W hi ho ⟨h1, h2, h3, h4, h5⟩ hsz hO => by
      obtain ⟨hnf, hC, hQ⟩ := HH.out
      obtain ⟨aF, hDF, hA⟩ := (hv.next fun x p => EtA.next h5 x p).get hi
      obtain ⟨s', x0, x1, x2, x3, x4, x5, -⟩ := hA.sb
      obtain ⟨n1, n2, n3⟩ := hnf i hi
      rw [hQ i hi]
      rw [hDF] at h2
      exact wcl_any S A c A2 c2 w.heap.size (w.heap.size + 1 + 1) w2.heap.size sT A3 c3 v.kind v.n v.s B v.l.length b v.f.length d aF i (v.f[i]'hi).1 (v.f[i]'hi).2 s' _ (nf i) (ct i) o wg.heap.size vo W h1 h2 h3 (HV.out W h4) hW2 hfw hi rfl n1 n2 n3 x0 x1 x2 x3 x4 x5 (fun W A8 c8 => hC i hi W A8 c8 s') hO (by omega) hsz)
  have v4 := D5.c 4 rfl
  have l5 := D5.lt
  generalize gat pt v.f.length 0 [] = R at *
  go_wp2_with fail
  refine cG.mono ?_
  rintro en w9 ⟨rfl, ⟨-, -, -, -, h5⟩, -⟩
  go_wp2_with fail
  go_ret
  exact ⟨rfl, h5⟩
end Go.Proofs.YthfodpbecddheaaGreatDoor


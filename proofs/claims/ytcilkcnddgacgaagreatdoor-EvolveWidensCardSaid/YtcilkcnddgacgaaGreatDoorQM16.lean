/-
  Which values a type accepts, and with which error others are not: one function on data. No conditions beyond those that each names.
-/
import Derived.Test.YtcilkcnddgacgaaGreatDoorQM15
import Derived.Test.YtcilkcnddgacgaaGreatDoorQM09
import Derived.Test.YtcilkcnddgacgaaGreatDoorQM02
import Derived.Test.YtcilkcnddgacgaaGreatDoorQM11
import Derived.Test.YtcilkcnddgacgaaGreatDoorQM14
import Derived.Deep.QuietTactic
import Derived.BigQuiet
import Derived.Test.YtcilkcnddgacgaaGreatDoorQM10
namespace Go.Proofs.YtcilkcnddgacgaaGreatDoor
end Go.Proofs.YtcilkcnddgacgaaGreatDoor
/-
  The reference's Struct, Enum and field of layer 9, and Permitted. No conditions beyond those that each names.
-/
namespace Go.Proofs.YtcilkcnddgacgaaGreatDoor
open Go.RowKit
end Go.Proofs.YtcilkcnddgacgaaGreatDoor
/-
  Entries met with fields one after the other: what it gives is what the specification says, where the fields' numbers ascend; rows of types that a call owns. No conditions beyond those that each names.
-/
namespace Go.Proofs.YtcilkcnddgacgaaGreatDoor
open Go.RowKit Go.Maps
/-- The types of entries that are met with fields in their order. -/
def mt : List Fd → List (Int × Vl) → Option (List Ty)
  | [], [] => some []
  | [], _ :: _ => none
  | x :: d, [] => if x.opt then mt d [] else none
  | x :: d, e :: f => if e.1 = x.num then (mt d f).map (x.type :: ·) else if x.opt then mt d (e :: f) else none
def AscD (d : List Fd) : Prop := d.Pairwise fun a b => a.num < b.num
def Shp (d : List Fd) (f : List (Int × Vl)) : Prop := (f.Pairwise fun a b => a.1 < b.1) ∧ (∀ e ∈ f, ∃ y ∈ d, y.num = e.1) ∧ ∀ y ∈ d, y.opt = true ∨ ∃ e ∈ f, e.1 = y.num
theorem Shp.nil (x : Fd) (d : List Fd) : Shp (x :: d) [] ↔ x.opt = true ∧ Shp d [] := by
  unfold Shp
  simp
theorem Shp.hit {x : Fd} {d : List Fd} {e : Int × Vl} {f : List (Int × Vl)} (h : AscD (x :: d)) (he : e.1 = x.num) : Shp (x :: d) (e :: f) ↔ Shp d f := by
  obtain ⟨hx, -⟩ := List.pairwise_cons.1 h
  unfold Shp
  rw [List.pairwise_cons]
  constructor
  · rintro ⟨⟨h1, h2⟩, h3, h4⟩
    refine ⟨h2, fun e' he' => ?_, fun y hy => ?_⟩
    · obtain ⟨y, hy, k⟩ := h3 e' (by simp [he'])
      rcases List.mem_cons.1 hy with rfl | hy
      · have := h1 e' he'; omega
      · exact ⟨y, hy, k⟩
    · rcases h4 y (by simp [hy]) with k | ⟨e', he', k⟩
      · exact .inl k
      · rcases List.mem_cons.1 he' with rfl | he'
        · have := hx y hy; omega
        · exact .inr ⟨e', he', k⟩
  · rintro ⟨h2, h3, h4⟩
    refine ⟨⟨fun e' he' => ?_, h2⟩, fun e' he' => ?_, fun y hy => ?_⟩
    · obtain ⟨y, hy, k⟩ := h3 e' he'
      have := hx y hy; omega
    · rcases List.mem_cons.1 he' with rfl | he'
      · exact ⟨x, by simp, he.symm⟩
      · obtain ⟨y, hy, k⟩ := h3 e' he'
        exact ⟨y, by simp [hy], k⟩
    · rcases List.mem_cons.1 hy with rfl | hy
      · exact .inr ⟨e, by simp, he⟩
      · rcases h4 y hy with k | ⟨e', he', k⟩
        · exact .inl k
        · exact .inr ⟨e', by simp [he'], k⟩
def tyC (l : List (Ty × Option Addr × Nat)) : List Value := l.flatMap fun p => [.int .i64 p.1.kind, .int .i64 p.1.size, .string (bs p.1.name), .slice p.2.1 p.1.elem.length p.2.2]
theorem tyC_at : ∀ {l : List (Ty × Option Addr × Nat)} {i : Nat} (hi : i < l.length), (tyC l)[i * 4]? = some (.int .i64 (l[i]'hi).1.kind) ∧ (tyC l)[i * 4 + 1]? = some (.int .i64 (l[i]'hi).1.size) ∧ (tyC l)[i * 4 + 2]? = some (.string (bs (l[i]'hi).1.name)) ∧ (tyC l)[i * 4 + 3]? = some (.slice (l[i]'hi).2.1 (l[i]'hi).1.elem.length (l[i]'hi).2.2)
  | p :: l, 0, _ => ⟨rfl, rfl, rfl, rfl⟩
  | p :: l, i + 1, hi => by
    have := tyC_at (l := l) (i := i) (by simpa using hi)
    have e : (i + 1) * 4 = i * 4 + 1 + 1 + 1 + 1 := by omega
    rw [e]
    exact this
/-- The slice v owns the types l. -/
def TyR (B : Nat) (W0 w : World) (v : Value) (l : List (Ty × Option Addr × Nat)) : Prop := w.ownsRow B 53 4 v l.length (tyC l) ∧ ∀ p ∈ l, Rw TyA 4 W0 p.1.elem p.2.1
theorem TyR.nil (B : Nat) (W0 w : World) : TyR B W0 w (.slice none 0 0) [] := ⟨World.ownsRow_nil _ _ _ _, fun _ h => by cases h⟩
theorem TyR.other {B : Nat} {W0 w w' : World} {v : Value} {l : List (Ty × Option Addr × Nat)} (h : TyR B W0 w v l) (hb : Below w.heap.size w w') : TyR B W0 w' v l := ⟨own_next h.1 hb, h.2⟩
theorem TyR.sl {B : Nat} {W0 w : World} {v : Value} {l : List (Ty × Option Addr × Nat)} (h : TyR B W0 w v l) (hb : Below W0.heap.size W0 w) : Sl TyA 4 w (l.map Prod.fst) v := by
  obtain ⟨h1, hp⟩ := h
  have h2 := h1
  obtain ⟨-, ⟨rfl, h3⟩ | ⟨g, cap, cur, rfl, -⟩⟩ := h2
  · obtain rfl := List.eq_nil_of_length_eq_zero h3
    exact Sl.nil _ _ _
  · refine ⟨_, cap, by rw [List.length_map], .inr ⟨_, rfl, fun i hi => ?_⟩⟩
    have hi2 : i < l.length := by simpa using hi
    obtain ⟨e0, e1, e2, e3⟩ := tyC_at hi2
    have c0 := World.ownsRow.cells h1 (g := g) rfl _ _ e0
    have c1 := World.ownsRow.cells h1 (g := g) rfl _ _ e1
    have c2 := World.ownsRow.cells h1 (g := g) rfl _ _ e2
    have c3 := World.ownsRow.cells h1 (g := g) rfl _ _ e3
    rw [List.getElem_map]
    rw [Addr.add_lit] at c0 c1 c2 c3 ⊢
    exact TyA.of c0 c1 c2 c3 ((hp _ (List.getElem_mem hi2)).next fun x p => TyA.next hb x p)
end Go.Proofs.YtcilkcnddgacgaaGreatDoor
/-
  The developers' match: the types of entries, field by field. No conditions beyond those that each names.
-/
namespace Go.Proofs.YtcilkcnddgacgaaGreatDoor
open Go.RowKit
/-- The types of the entries, or that they are not as the fields ask. -/
def MtP (d : List Fd) (f : List (Int × Vl)) (w : World) (e : Ending) (w' : World) : Prop :=
  ∃ (A : Option Addr) (n c : Nat), e = .returned (.tuple #[.slice A n c, .bool (mt d f).isSome]) ∧ Below w.heap.size w w' ∧ ∀ T, mt d f = some T → n = T.length ∧ Rw TyA 4 w' T A
theorem MtP.none_ {d : List Fd} {f : List (Int × Vl)} {w w' : World} {A : Option Addr} {n c : Nat} (h : mt d f = none) (hb : Below w.heap.size w w') : MtP d f w (.returned (.tuple #[.slice A n c, .bool false])) w' := ⟨A, n, c, by rw [h]; rfl, hb, fun T e => by rw [h] at e; cases e⟩
theorem MtP.some_ {d : List Fd} {f : List (Int × Vl)} {w w' : World} {A : Option Addr} {n c : Nat} {l : List (Ty × Option Addr × Nat)} (h : mt d f = some (l.map Prod.fst)) (hb : Below w.heap.size w w') (hT : TyR w.heap.size w w' (.slice A n c) l) : MtP d f w (.returned (.tuple #[.slice A n c, .bool true])) w' := by
  refine ⟨A, n, c, by rw [h]; rfl, hb, fun T e => ?_⟩
  rw [h] at e
  injection e with e
  subst e
  obtain ⟨B, q, e2, h2⟩ := hT.sl hb
  injection e2 with e3 e4 e5
  subst e3
  exact ⟨e4, h2⟩
end Go.Proofs.YtcilkcnddgacgaaGreatDoor
/-
  The developers' check of a list. No conditions beyond those that each names.
-/
namespace Go.Proofs.YtcilkcnddgacgaaGreatDoor
open Go.RowKit
end Go.Proofs.YtcilkcnddgacgaaGreatDoor
/-
  The developers' check of a struct. No conditions beyond those that each names.
-/
namespace Go.Proofs.YtcilkcnddgacgaaGreatDoor
open Go.RowKit
def lok9 (S : Sch) : Prop := ∀ t ∈ S.structs, ∀ f ∈ t.fields, lok f.type
end Go.Proofs.YtcilkcnddgacgaaGreatDoor
/-
  The developers' check, kind by kind. No conditions beyond those that each names.
-/
namespace Go.Proofs.YtcilkcnddgacgaaGreatDoor
open Go.RowKit
end Go.Proofs.YtcilkcnddgacgaaGreatDoor
/-
  The developers' check of a value, whatever its kind. No conditions beyond those that each names.
-/
namespace Go.Proofs.YtcilkcnddgacgaaGreatDoor
open Go.RowKit
end Go.Proofs.YtcilkcnddgacgaaGreatDoor
/-
  The schemas and the types of the law, as data. No conditions beyond those that each names.
-/
namespace Go.Proofs.YtcilkcnddgacgaaGreatDoor
open Go.RowKit
theorem heap_alloc_size (w : World) (o : Obj) : (w.alloc o).heap.size = w.heap.size + 1 := by simp
theorem heap_new (w : World) (o : Obj) : (w.alloc o).heap[w.heap.size]? = some o := by
  rw [show (w.alloc o).heap = w.heap.push o from rfl]
  exact Array.getElem?_push_size
theorem Bx.newA (w : World) (t : TypeId) (a : Array Value) : Bx (w.alloc (Obj.cells a t)) w.heap.size a.toList :=
  ⟨by simp, fun j v e => by
    have e2 : a[j]? = some v := by simpa using e
    have h1 := heap_new w (Obj.cells a t)
    refine ⟨?_, ?_⟩
    · unfold World.cell?
      simp only [h1]
      exact e2
    · unfold World.frozen?
      simp only [h1]
      simp⟩
end Go.Proofs.YtcilkcnddgacgaaGreatDoor
/-
  The types of the law, as data. No conditions beyond those that each names.
-/
namespace Go.Proofs.YtcilkcnddgacgaaGreatDoor
open Go.RowKit
theorem gb_set4' (w : World) (b : Nat) (x y z u : Value) : w.grownBy ((((w.setCell ⟨b, 0, none⟩ x).setCell ⟨b, 1, none⟩ y).setCell ⟨b, 2, none⟩ z).setCell ⟨b, 3, none⟩ u) (some b) := (gb_set3 w b x y z).trans (gb_set1 _ ⟨b, 3, none⟩ u)
theorem Bx.put4' {w : World} {b : Nat} {x y z u : Value} (h : Bx w b [x, y, z, u]) (x' y' z' u' : Value) : Bx ((((w.setCell ⟨b, 0, none⟩ x').setCell ⟨b, 1, none⟩ y').setCell ⟨b, 2, none⟩ z').setCell ⟨b, 3, none⟩ u') b [x', y', z', u'] := (((h.put1 0 x').put1 1 y').put1 2 z').put1 3 u'
end Go.Proofs.YtcilkcnddgacgaaGreatDoor
/-
  The reference's Widens. No conditions beyond those that each names.
-/
namespace Go.Proofs.YtcilkcnddgacgaaGreatDoor
open Go.RowKit Go.Sort
theorem wd_kind {t u : Ty} (h : Wd t u) : t.kind = u.kind ∧ t.name = u.name ∧ t.elem.length = u.elem.length := by
  cases h with
  | same => exact ⟨rfl, rfl, rfl⟩
  | num => exact ⟨rfl, rfl, rfl⟩
  | list => exact ⟨rfl, rfl, rfl⟩
theorem wd_lt {k s s' : Int} {n : List UInt8} {e e' : List Ty} (hk : k = 2 ∨ k = 3) (h : s < s') {r : Bool} (hr : r = true ↔ e = e') : wdB (.mk k s n e) (.mk k s' n e') = r := by
  refine wdB_of ?_
  rw [hr]
  constructor
  · rintro rfl; exact .num _ _ _ _ _ (by omega) (by omega)
  · intro h
    cases h with
    | same => rfl
    | num => rfl
    | list => rcases hk with h | h <;> cases h
theorem wd_ge {k s s' : Int} {n : List UInt8} {e e' : List Ty} (hk : k = 2 ∨ k = 3) (h : ¬ s < s') (hne : Ty.mk k s n e ≠ .mk k s' n e') : wdB (.mk k s n e) (.mk k s' n e') = false := by
  refine wdB_no fun hw => ?_
  cases hw with
  | same => exact hne rfl
  | num _ _ _ _ _ _ h2 =>
    obtain rfl : s = s' := by omega
    exact hne rfl
  | list => rcases hk with h | h <;> cases h
theorem wd_le4 {s s' : Int} {n : List UInt8} {e e' : List Ty} (h : s ≤ s') {r : Bool} (hr : r = true ↔ e = e') : wdB (.mk 4 s n e) (.mk 4 s' n e') = r := by
  refine wdB_of ?_
  rw [hr]
  constructor
  · rintro rfl; exact .num _ _ _ _ _ (by omega) h
  · intro h
    cases h with
    | same => rfl
    | num => rfl
theorem wd_gt {k s s' : Int} {n : List UInt8} {e e' : List Ty} (h : ¬ s ≤ s') : wdB (.mk k s n e) (.mk k s' n e') = false := by
  refine wdB_no fun hw => ?_
  cases hw with
  | same => omega
  | num _ _ _ _ _ _ h2 => omega
  | list _ _ _ _ _ h2 _ => omega
theorem wd_rest {k s s' : Int} {n : List UInt8} {e e' : List Ty} (h2 : k ≠ 2) (h3 : k ≠ 3) (h4 : k ≠ 4) (h5 : k ≠ 5 ∨ e.length ≠ 1) (hne : Ty.mk k s n e ≠ .mk k s' n e') : wdB (.mk k s n e) (.mk k s' n e') = false := by
  refine wdB_no fun hw => ?_
  cases hw with
  | same => exact hne rfl
  | num _ _ _ _ _ hk _ => omega
  | list => rcases h5 with h | h <;> exact h rfl
theorem wd_list1 {s s' : Int} {n : List UInt8} {t u : Ty} (h : s ≤ s') : wdB (.mk 5 s n [t]) (.mk 5 s' n [u]) = wdB t u :=
  wdB_of (by rw [wdB_iff, wd_list]; exact ⟨fun h2 => ⟨rfl, h, h2⟩, fun h2 => h2.2.2⟩)
set_option maxRecDepth 100000 in
set_option maxHeartbeats 8000000 in
theorem refWidens_any (N : Nat) : ∀ (t u : Ty) (v v' : Value) (w : World), SizeOf.sizeOf t < N → lok t → lok u → TyV w t v → TyV w u v' →
    Calls Tryz.prog 22 #[v, v'] w (Ib (.bool (wdB t u)) w) := by
  induction N with
  | zero => intro t u v v' w h; omega
  | succ N ih =>
    intro t u v v' w hN hl hl' hv hv'
    have hl1 := lok_len hl
    have hl2 := lok_len hl'
    have hg1 := fun i h => lok_get (t := t) (i := i) hl h
    have hg2 := fun i h => lok_get (t := u) (i := i) hl' h
    have hs1 := fun i h => size_elem (t := t) (i := i) h
    have cS := fun W hb => refSame_any (SizeOf.sizeOf t + 1) t u v v' W (Nat.lt_succ_self _) hl hl' (hv.next hb) (hv'.next hb)
    obtain ⟨A, c, rfl, hR⟩ := hv
    obtain ⟨A', c', rfl, hR'⟩ := hv'
    obtain ⟨k, s, n, e⟩ := t
    obtain ⟨k', s', n', e'⟩ := u
    simp only [Ty.kind, Ty.size, Ty.name, Ty.elem] at *
    obtain ⟨q, hq⟩ : ∃ q, e.length = q := ⟨_, rfl⟩
    obtain ⟨q', hq'⟩ : ∃ q', e'.length = q' := ⟨_, rfl⟩
    rw [hq] at hl1 cS ⊢
    rw [hq'] at hl2 cS ⊢
    have z1 : (w.alloc (Obj.cells #[.int .i64 k, .int .i64 s, .string (bs n), .slice A q c] 53)).heap.size = w.heap.size + 1 := by simp
    have D1 := (Bx.new4 w 53 (.int .i64 k) (.int .i64 s) (.string (bs n)) (.slice A q c)).next (ab1 _ (Obj.cells #[.int .i64 k', .int .i64 s', .string (bs n'), .slice A' q' c'] 53))
    have D2 := Bx.new4 (w.alloc (Obj.cells #[.int .i64 k, .int .i64 s, .string (bs n), .slice A q c] 53)) 53 (.int .i64 k') (.int .i64 s') (.string (bs n')) (.slice A' q' c')
    rw [z1] at D2
    have hab := ab2 w (Obj.cells #[.int .i64 k, .int .i64 s, .string (bs n), .slice A q c] 53) (Obj.cells #[.int .i64 k', .int .i64 s', .string (bs n'), .slice A' q' c'] 53)
    have c1 := cS _ hab
    obtain ⟨y, hy⟩ : ∃ y, eqT (.mk k s n e) (.mk k' s' n' e') = y := ⟨_, rfl⟩
    rw [hy] at c1
    have HY := Lib.hid hy
    have HQ := Lib.hid (And.intro hq hq')
    have HI := Lib.hid ih
    have HG := Lib.hid (And.intro hg1 hg2)
    have HS := Lib.hid (And.intro hN hs1)
    obtain ⟨r, hr⟩ : ∃ r, wdB (.mk k s n e) (.mk k' s' n' e') = r := ⟨_, rfl⟩
    rw [hr]
    have HR := Lib.hid hr
    have hR := Lib.hid hR
    have hR' := Lib.hid hR'
    clear hr hy hq hq' cS z1 ih hg1 hg2 hs1 hN hl hl'
    go_enter Tryz.func22, Tryz.ntmps22
    go_upto_region 1 with (fail)
    generalize (w.alloc (Obj.cells #[.int .i64 k, .int .i64 s, .string (bs n), .slice A q c] 53)).alloc (Obj.cells #[.int .i64 k', .int .i64 s', .string (bs n'), .slice A' q' c'] 53) = wB at *
    have f0 := D1.c 0 rfl
    have f1 := D1.c 1 rfl
    have f2 := D1.c 2 rfl
    have f3 := D1.c 3 rfl
    have fl := D1.lt
    have g0 := D2.c 0 rfl
    have g1 := D2.c 1 rfl
    have g2 := D2.c 2 rfl
    have g3 := D2.c 3 rfl
    have gl := D2.lt
    go_wp2_with fail
    refine c1.mono ?_
    rintro en w2 ⟨rfl, hb2⟩
    replace D1 := D1.next hb2
    replace D2 := D2.next hb2
    replace hab := Below.next hab hb2
    clear f0 f1 f2 f3 fl g0 g1 g2 g3 gl c1 hb2 wB
    have f0 := D1.c 0 rfl
    have f1 := D1.c 1 rfl
    have f2 := D1.c 2 rfl
    have f3 := D1.c 3 rfl
    have fl := D1.lt
    have g0 := D2.c 0 rfl
    have g1 := D2.c 1 rfl
    have g2 := D2.c 2 rfl
    have g3 := D2.c 3 rfl
    have gl := D2.lt
    cases y
    case true =>
      have hF : r = true := by rw [← HR.out, eqT_iff.1 HY.out]; exact wdB_self _
      subst hF
      go_wp2_with fail
      go_ret
      exact ⟨rfl, hab⟩
    case false =>
    have HNE := Lib.hid (show Ty.mk k s n e ≠ .mk k' s' n' e' from fun h => by rw [eqT_iff.2 h] at HY; exact Bool.noConfusion HY.out)
    by_cases h1 : k = k'
    case neg =>
      have b1 : (k != k') = true := by simpa using h1
      have hF : r = false := by rw [← HR.out]; exact wdB_no fun h => h1 (wd_kind h).1
      subst hF
      clear h1
      go_wp2_with fail
      go_ret
      exact ⟨rfl, hab⟩
    case pos =>
    subst h1
    have b1 : (k != k) = false := by simp
    by_cases h3 : n = n'
    case neg =>
      have b3 := sn_f h3
      have hF : r = false := by rw [← HR.out]; exact wdB_no fun h => h3 (wd_kind h).2.1
      subst hF
      have b3p : ((bs n).toList = (bs n').toList) = False := by rw [toList_bs, toList_bs]; simpa using h3
      have b3e := sq_f h3
      clear h3
      go_wp2_with fail
      go_ret
      exact ⟨rfl, hab⟩
    case pos =>
    subst h3
    have b3 := sn_t n
    by_cases h4 : q = q'
    case neg =>
      have b4 : ((q : Int) != (q' : Int)) = true := by simp; omega
      have hF : r = false := by rw [← HR.out]; exact wdB_no fun h => h4 (by rw [← HQ.out.1, ← HQ.out.2]; exact (wd_kind h).2.2)
      subst hF
      clear h4
      go_wp2_with fail
      go_ret
      exact ⟨rfl, hab⟩
    case pos =>
    subst h4
    have b4 : ((q : Int) != (q : Int)) = false := by simp
    have hRw := Lib.hid (hR.out.next fun x p => TyA.next hab x p)
    have hRw' := Lib.hid (hR'.out.next fun x p => TyA.next hab x p)
    by_cases h2 : k = 2
    case pos =>
      subst h2
      by_cases hs : s < s'
      case neg =>
        have hF : r = false := by rw [← HR.out]; exact wd_ge (by decide) hs HNE.out
        subst hF
        have d1 : decide (s < s') = false := decide_eq_false hs
        have d2 : decide (s' > s) = false := decide_eq_false hs
        clear hs
        go_wp2_with fail
        go_ret
        exact ⟨rfl, hab⟩
      case pos =>
        have d1 : decide (s < s') = true := decide_eq_true hs
        have d2 : decide (s' > s) = true := decide_eq_true hs
        obtain ⟨p, hp⟩ := exR (e = e')
        have hF : r = p := by rw [← HR.out]; exact wd_lt (by decide) hs hp
        subst hF
        have cL := refSameL_any e e' q HQ.out.1 HQ.out.2 hl1 A c A' c' w2 hRw.out hRw'.out HG.out.1 HG.out.2 r hp
        clear hs hp
        go_wp2_with fail
        refine cL.mono ?_
        rintro en w3 ⟨rfl, hb3⟩
        have hab3 := Below.next hab hb3
        clear cL hb3
        go_wp2_with fail
        go_ret
        exact ⟨rfl, hab3⟩
    case neg =>
    have n2 : (k == 2) = false := by simpa using h2
    by_cases h3 : k = 3
    case pos =>
      subst h3
      by_cases hs : s < s'
      case neg =>
        have hF : r = false := by rw [← HR.out]; exact wd_ge (by decide) hs HNE.out
        subst hF
        have d1 : decide (s < s') = false := decide_eq_false hs
        have d2 : decide (s' > s) = false := decide_eq_false hs
        clear hs
        go_wp2_with fail
        go_ret
        exact ⟨rfl, hab⟩
      case pos =>
        have d1 : decide (s < s') = true := decide_eq_true hs
        have d2 : decide (s' > s) = true := decide_eq_true hs
        obtain ⟨p, hp⟩ := exR (e = e')
        have hF : r = p := by rw [← HR.out]; exact wd_lt (by decide) hs hp
        subst hF
        have cL := refSameL_any e e' q HQ.out.1 HQ.out.2 hl1 A c A' c' w2 hRw.out hRw'.out HG.out.1 HG.out.2 r hp
        clear hs hp
        go_wp2_with fail
        refine cL.mono ?_
        rintro en w3 ⟨rfl, hb3⟩
        have hab3 := Below.next hab hb3
        clear cL hb3
        go_wp2_with fail
        go_ret
        exact ⟨rfl, hab3⟩
    case neg =>
    have n3 : (k == 3) = false := by simpa using h3
    by_cases h4 : k = 4
    case pos =>
      subst h4
      by_cases hs : s ≤ s'
      case neg =>
        have hF : r = false := by rw [← HR.out]; exact wd_gt hs
        subst hF
        have d1 : decide (s ≤ s') = false := decide_eq_false hs
        have d2 : decide (s' ≥ s) = false := decide_eq_false hs
        clear hs
        go_wp2_with fail
        go_ret
        exact ⟨rfl, hab⟩
      case pos =>
        have d1 : decide (s ≤ s') = true := decide_eq_true hs
        have d2 : decide (s' ≥ s) = true := decide_eq_true hs
        obtain ⟨p, hp⟩ := exR (e = e')
        have hF : r = p := by rw [← HR.out]; exact wd_le4 hs hp
        subst hF
        have cL := refSameL_any e e' q HQ.out.1 HQ.out.2 hl1 A c A' c' w2 hRw.out hRw'.out HG.out.1 HG.out.2 r hp
        clear hs hp
        go_wp2_with fail
        refine cL.mono ?_
        rintro en w3 ⟨rfl, hb3⟩
        have hab3 := Below.next hab hb3
        clear cL hb3
        go_wp2_with fail
        go_ret
        exact ⟨rfl, hab3⟩
    case neg =>
    have n4 : (k == 4) = false := by simpa using h4
    by_cases h5 : k = 5
    case neg =>
      have n5 : (k == 5) = false := by simpa using h5
      have hF : r = false := by rw [← HR.out]; exact wd_rest h2 h3 h4 (.inl h5) HNE.out
      subst hF
      clear h2 h3 h4 h5
      go_wp2_with fail
      go_ret
      exact ⟨rfl, hab⟩
    case pos =>
    subst h5
    clear h2 h3 h4 n2 n3 n4
    by_cases hs : s ≤ s'
    case neg =>
      have hF : r = false := by rw [← HR.out]; exact wd_gt hs
      subst hF
      have d1 : decide (s ≤ s') = false := decide_eq_false hs
      have d2 : decide (s' ≥ s) = false := decide_eq_false hs
      clear hs
      go_upto_region 12 with (fail)
      go_quiet (fail)
      go_wp2_with fail
      go_ret
      exact ⟨rfl, below_drewN hab nq⟩
    case pos =>
    have d1 : decide (s ≤ s') = true := decide_eq_true hs
    have d2 : decide (s' ≥ s) = true := decide_eq_true hs
    by_cases hq1 : q = 1
    case neg =>
      have hF : r = false := by rw [← HR.out]; exact wd_rest (by decide) (by decide) (by decide) (.inr (by rw [HQ.out.1]; exact hq1)) HNE.out
      subst hF
      have d3 : ((q : Int) == 1) = false := by simp; omega
      clear hs hq1
      go_upto_region 12 with (fail)
      go_quiet (fail)
      go_wp2_with fail
      go_ret
      exact ⟨rfl, below_drewN hab nq⟩
    case pos =>
    subst hq1
    obtain ⟨t, rfl⟩ : ∃ t, e = [t] := by
      match e, HQ.out.1 with
      | [t], _ => exact ⟨t, rfl⟩
    obtain ⟨u, rfl⟩ : ∃ u, e' = [u] := by
      match e', HQ.out.2 with
      | [u], _ => exact ⟨u, rfl⟩
    have hF : r = wdB t u := by rw [← HR.out]; exact wd_list1 hs
    obtain ⟨a, rfl, hA⟩ := hRw.out.get (i := 0) (by show 0 < 1; omega)
    obtain ⟨a', rfl, hA'⟩ := hRw'.out.get (i := 0) (by show 0 < 1; omega)
    rw [Nat.zero_mul] at hA hA'
    have hA : TyA w2 t a := hA
    have hA' : TyA w2 u a' := hA'
    obtain ⟨A4, c4, x0, x1, x2, x3, hV⟩ := hA.val
    obtain ⟨A5, c5, y0, y1, y2, y3, hV'⟩ := hA'.val
    have hblk : a.block < w2.heap.size := blk_lt x0
    have hblk' : a'.block < w2.heap.size := blk_lt y0
    have cR := fun W h => HI.out t u _ _ W (by have h8 := Ty.mk.sizeOf_spec 5 s n [t]; have h9 := List.cons.sizeOf_spec t []; have := HS.out.1; omega) (HG.out.1 0 (by show 0 < 1; omega)) (HG.out.2 0 (by show 0 < 1; omega)) (hV.next h) (hV'.next h)
    rw [← hF] at cR
    clear hF
    have j0 := fun d os => cell_regrown f0 d os
    have j1 := fun d os => cell_regrown f1 d os
    have j2 := fun d os => cell_regrown f2 d os
    have j3 := fun d os => cell_regrown f3 d os
    have k0 := fun d os => cell_regrown g0 d os
    have k1 := fun d os => cell_regrown g1 d os
    have k2 := fun d os => cell_regrown g2 d os
    have k3 := fun d os => cell_regrown g3 d os
    have i0 := fun d os => cell_regrown x0 d os
    have i1 := fun d os => cell_regrown x1 d os
    have i2 := fun d os => cell_regrown x2 d os
    have i3 := fun d os => cell_regrown x3 d os
    have m0 := fun d os => cell_regrown y0 d os
    have m1 := fun d os => cell_regrown y1 d os
    have m2 := fun d os => cell_regrown y2 d os
    have m3 := fun d os => cell_regrown y3 d os
    have cN := fun d os => Calls.regrown_of (cR (grow (redrawn w2 d) os) (below_regrown _ d os))
    clear D1 D2 hR hR' hRw hRw' HI HG HS HQ HR HY HNE hA hA' hV hV' cR hs
    go_upto_region 12 with (fail)
    refine wp_region_quiet_below (by kernel_rfl) (by kernel_rfl) ?_
    repeat (go_big_quiet_step (exact cN _ _))
    refine wpQuiet_nil ?_
    intro _ hw'
    obtain ⟨⟨dq, osq⟩, hw''⟩ := hw'
    subst hw''
    go_wp2_with fail
    go_ret
    exact ⟨rfl, Below.next hab (below_regrown _ _ _)⟩
end Go.Proofs.YtcilkcnddgacgaaGreatDoor


/-
  Entries by their number: the developers' indexOf, field and Field, the reference's Field. No conditions beyond those that each names.
-/
import Derived.Test.YthfodpbecddheaaGreatDoorQM08
import Derived.Lib.Overlaps
import Derived.Lib.AppendZerosOnto
import Derived.Laws.CopyRow
import Derived.Laws.Externs
import Derived.Shelf.Spec.SlicesInsert
import Derived.Shelf.Spec.SlicesInsertGrow
import Derived.Laws.CopyOwn
namespace Go.Proofs.YthfodpbecddheaaGreatDoor
open Go.RowKit Go.Sort
def ixI : Option Nat → Int
  | none => -1
  | some i => (i : Int)
theorem findIdx_at {α : Type} {p : α → Bool} {l : List α} {k : Nat} (h : k < l.length) (hp : p (l[k]'h) = true) (hb : ∀ j (hj : j < l.length), j < k → p (l[j]'hj) = false) : l.findIdx? p = some k := by
  rw [List.findIdx?_eq_some_iff_getElem]
  exact ⟨h, hp, fun j hj => by simp [hb j (by omega) hj]⟩
theorem findIdx_none {α : Type} {p : α → Bool} {l : List α} (hb : ∀ j (hj : j < l.length), p (l[j]'hj) = false) : l.findIdx? p = none := by
  rw [List.findIdx?_eq_none_iff]
  intro x hx
  obtain ⟨j, hj, rfl⟩ := List.mem_iff_getElem.1 hx
  exact hb j hj
set_option maxRecDepth 100000 in
theorem eqFn_any (x : Int × Vl) (z : Int) (g : Nat) (v : Value) (w : World) (hv : EtV w x v) (hg : w.cell? ⟨g, 0, none⟩ = some (.int .i64 z)) :
    Calls Tryz.prog 133 #[v, .pointer (some ⟨g, 0, none⟩)] w (Ib (.bool ((x.1 == z))) w) := by
  obtain ⟨A, c, B, d, rfl, -, -⟩ := hv
  obtain ⟨a, u⟩ := x
  have hl := blk_lt hg
  obtain ⟨r, hr⟩ : ∃ r, (a == z) = r := ⟨_, rfl⟩
  have hr2 : (((a, u).1 == z)) = r := hr
  rw [hr2]
  clear hr2
  go_enter Tryz.func133, Tryz.ntmps133
  go_wp2_with fail
  go_ret
  exact ⟨rfl, ab1 _ _⟩
set_option maxRecDepth 100000 in
set_option maxHeartbeats 4000000 in
theorem eqIx_any (l : List (Int × Vl)) (A : Option Addr) (c : Nat) (z : Int) (g : Nat) (w : World) (hl : l.length ≤ 9223372036854775807) (hR : Rw EtA 6 w l A) (hg : w.cell? ⟨g, 0, none⟩ = some (.int .i64 z)) :
    Calls Tryz.prog 84 #[.slice A l.length c, .func (.func 133) #[] #[.pointer (some ⟨g, 0, none⟩)]] w (Ib (.int .i64 (ixI (l.findIdx? fun x => (x.1 == z)))) w) := by
  obtain ⟨n, hn⟩ : ∃ n, l.length = n := ⟨_, rfl⟩
  obtain ⟨r, hr⟩ : ∃ r, ixI (l.findIdx? fun x => (x.1 == z)) = r := ⟨_, rfl⟩
  have HN := Lib.hid hn
  have HR := Lib.hid hr
  rw [hn] at hl
  rw [hn, hr]
  clear hn hr
  have H0 : Hid (∀ j (hj : j < l.length), j < 0 → (fun x : Int × Vl => (x.1 == z)) (l[j]'hj) = false) := Lib.hid fun j _ h => by omega
  go_enter Tryz.func84, Tryz.ntmps84
  go_wp2_with fail
  go_loopw [8] (fun i wr => ∃ k : Nat, k ≤ n ∧ i = .int .i64 (k : Int) ∧ Hid (∀ j (hj : j < l.length), j < k → (fun x : Int × Vl => (x.1 == z)) (l[j]'hj) = false) ∧ Below w.heap.size w wr) (fun i _ => n - (intOf i).toNat)
  case atStart => exact ⟨0, by omega, rfl, H0, Below.refl _ _⟩
  case round =>
    obtain ⟨k, hk, rfl, HK, hb⟩ := hrel
    clear H0
    by_cases hlt : k < n
    · have h1 : k < l.length := by rw [HN.out]; exact hlt
      have hk1 := Lib.hid hlt
      obtain ⟨a, rfl, hA⟩ := hR.get h1
      obtain ⟨B, p, B2, p2, x0, x1, x2, x3, x4, x5, hV⟩ := (EtA.next hb _ _ hA).val2
      have hblk : (a.add (k * 6)).block < wr.heap.size := blk_lt x0
      have cC := eqFn_any (l[k]'h1) z g _ wr hV (cell_next hb hg)
      have HF := Lib.hid (fun (h : (fun x : Int × Vl => (x.1 == z)) (l[k]'h1) = false) => show ∀ j (hj : j < l.length), j < k + 1 → (fun x : Int × Vl => (x.1 == z)) (l[j]'hj) = false from fun j hj h2 => by
        by_cases e : j = k
        · subst e; exact h
        · exact HK.out j hj (by omega))
      have HT := Lib.hid (fun (h : (fun x : Int × Vl => (x.1 == z)) (l[k]'h1) = true) => show r = (k : Int) by rw [← HR.out, findIdx_at h1 h HK.out]; rfl)
      obtain ⟨b, hbb⟩ : ∃ b, (fun x : Int × Vl => (x.1 == z)) (l[k]'h1) = b := ⟨_, rfl⟩
      have hbb2 : (((l[k]'h1).1 == z)) = b := hbb
      rw [hbb2] at cC
      simp only [hbb] at HF HT
      generalize l[k]'h1 = u at *
      clear hA hV hR HK hbb hbb2 hg
      cases b
      · have HF2 := Lib.hid (show ∀ (j : Nat) (hj : j < l.length), j < k + 1 → (((l[j]'hj).1 == z)) = false from HF.out rfl)
        clear HF HT
        go_wp2_with fail
        refine cC.mono ?_
        rintro e w2 ⟨rfl, hb2⟩
        go_wp2_with fail
        go_roundw
        case rel => exact ⟨k + 1, hk1.out, by go_num, HF2, Below.next hb hb2⟩
        case measure => have := hk1.out; simp [intOf]; omega
      · have HT := HT.out rfl
        subst HT
        go_wp2_with fail
        refine cC.mono ?_
        rintro e w2 ⟨rfl, hb2⟩
        go_wp2_with fail
        go_ret
        exact ⟨rfl, Below.next hb hb2⟩
    · obtain rfl : k = n := by omega
      have HE : r = -1 := by rw [← HR.out, findIdx_none fun j hj => HK.out j hj (by rw [← HN.out]; exact hj)]; rfl
      subst HE
      clear HK hR
      go_wp2_with fail
      go_ret
      exact ⟨rfl, hb⟩
set_option maxRecDepth 100000 in
theorem gtFn_any (x : Int × Vl) (z : Int) (g : Nat) (v : Value) (w : World) (hv : EtV w x v) (hg : w.cell? ⟨g, 0, none⟩ = some (.int .i64 z)) :
    Calls Tryz.prog 85 #[v, .pointer (some ⟨g, 0, none⟩)] w (Ib (.bool (decide (z < x.1))) w) := by
  obtain ⟨A, c, B, d, rfl, -, -⟩ := hv
  obtain ⟨a, u⟩ := x
  have hl := blk_lt hg
  obtain ⟨r, hr⟩ : ∃ r, decide (z < a) = r := ⟨_, rfl⟩
  have hr2 : (decide (z < (a, u).1)) = r := hr
  rw [hr2]
  clear hr2
  go_enter Tryz.func85, Tryz.ntmps85
  go_wp2_with fail
  go_ret
  exact ⟨rfl, ab1 _ _⟩
set_option maxRecDepth 100000 in
set_option maxHeartbeats 4000000 in
theorem gtIx_any (l : List (Int × Vl)) (A : Option Addr) (c : Nat) (z : Int) (g : Nat) (w : World) (hl : l.length ≤ 9223372036854775807) (hR : Rw EtA 6 w l A) (hg : w.cell? ⟨g, 0, none⟩ = some (.int .i64 z)) :
    Calls Tryz.prog 84 #[.slice A l.length c, .func (.func 85) #[] #[.pointer (some ⟨g, 0, none⟩)]] w (Ib (.int .i64 (ixI (l.findIdx? fun x => decide (z < x.1)))) w) := by
  obtain ⟨n, hn⟩ : ∃ n, l.length = n := ⟨_, rfl⟩
  obtain ⟨r, hr⟩ : ∃ r, ixI (l.findIdx? fun x => decide (z < x.1)) = r := ⟨_, rfl⟩
  have HN := Lib.hid hn
  have HR := Lib.hid hr
  rw [hn] at hl
  rw [hn, hr]
  clear hn hr
  have H0 : Hid (∀ j (hj : j < l.length), j < 0 → (fun x : Int × Vl => decide (z < x.1)) (l[j]'hj) = false) := Lib.hid fun j _ h => by omega
  go_enter Tryz.func84, Tryz.ntmps84
  go_wp2_with fail
  go_loopw [8] (fun i wr => ∃ k : Nat, k ≤ n ∧ i = .int .i64 (k : Int) ∧ Hid (∀ j (hj : j < l.length), j < k → (fun x : Int × Vl => decide (z < x.1)) (l[j]'hj) = false) ∧ Below w.heap.size w wr) (fun i _ => n - (intOf i).toNat)
  case atStart => exact ⟨0, by omega, rfl, H0, Below.refl _ _⟩
  case round =>
    obtain ⟨k, hk, rfl, HK, hb⟩ := hrel
    clear H0
    by_cases hlt : k < n
    · have h1 : k < l.length := by rw [HN.out]; exact hlt
      have hk1 := Lib.hid hlt
      obtain ⟨a, rfl, hA⟩ := hR.get h1
      obtain ⟨B, p, B2, p2, x0, x1, x2, x3, x4, x5, hV⟩ := (EtA.next hb _ _ hA).val2
      have hblk : (a.add (k * 6)).block < wr.heap.size := blk_lt x0
      have cC := gtFn_any (l[k]'h1) z g _ wr hV (cell_next hb hg)
      have HF := Lib.hid (fun (h : (fun x : Int × Vl => decide (z < x.1)) (l[k]'h1) = false) => show ∀ j (hj : j < l.length), j < k + 1 → (fun x : Int × Vl => decide (z < x.1)) (l[j]'hj) = false from fun j hj h2 => by
        by_cases e : j = k
        · subst e; exact h
        · exact HK.out j hj (by omega))
      have HT := Lib.hid (fun (h : (fun x : Int × Vl => decide (z < x.1)) (l[k]'h1) = true) => show r = (k : Int) by rw [← HR.out, findIdx_at h1 h HK.out]; rfl)
      obtain ⟨b, hbb⟩ : ∃ b, (fun x : Int × Vl => decide (z < x.1)) (l[k]'h1) = b := ⟨_, rfl⟩
      have hbb2 : (decide (z < (l[k]'h1).1)) = b := hbb
      rw [hbb2] at cC
      simp only [hbb] at HF HT
      generalize l[k]'h1 = u at *
      clear hA hV hR HK hbb hbb2 hg
      cases b
      · have HF2 := Lib.hid (show ∀ (j : Nat) (hj : j < l.length), j < k + 1 → (decide (z < (l[j]'hj).1)) = false from HF.out rfl)
        clear HF HT
        go_wp2_with fail
        refine cC.mono ?_
        rintro e w2 ⟨rfl, hb2⟩
        go_wp2_with fail
        go_roundw
        case rel => exact ⟨k + 1, hk1.out, by go_num, HF2, Below.next hb hb2⟩
        case measure => have := hk1.out; simp [intOf]; omega
      · have HT := HT.out rfl
        subst HT
        go_wp2_with fail
        refine cC.mono ?_
        rintro e w2 ⟨rfl, hb2⟩
        go_wp2_with fail
        go_ret
        exact ⟨rfl, Below.next hb hb2⟩
    · obtain rfl : k = n := by omega
      have HE : r = -1 := by rw [← HR.out, findIdx_none fun j hj => HK.out j hj (by rw [← HN.out]; exact hj)]; rfl
      subst HE
      clear HK hR
      go_wp2_with fail
      go_ret
      exact ⟨rfl, hb⟩
set_option maxRecDepth 100000 in
theorem indexOf_any (l : List (Int × Vl)) (A : Option Addr) (c : Nat) (z : Int) (w : World) (hl : l.length ≤ 9223372036854775807) (hR : Rw EtA 6 w l A) :
    Calls Tryz.prog 83 #[.slice A l.length c, .int .i64 z] w (Ib (.int .i64 (ixI (l.findIdx? fun x => (x.1 == z)))) w) := by
  have c1 := eqIx_any l A c z w.heap.size (w.alloc (Obj.cells #[.int .i64 z] 3)) hl (hR.next fun x p => EtA.next (ab1 _ _) x p) (by simp)
  generalize ixI (l.findIdx? fun x => (x.1 == z)) = r at *
  generalize l.length = n at *
  go_enter Tryz.func83, Tryz.ntmps83
  go_wp2_with fail
  refine c1.mono ?_
  rintro e w2 ⟨rfl, hb⟩
  go_wp2_with fail
  go_ret
  exact ⟨rfl, Below.next (ab1 _ _) hb⟩
end Go.Proofs.YthfodpbecddheaaGreatDoor
/-
  The developers' field and Field, the reference's Field. No conditions beyond those that each names.
-/
namespace Go.Proofs.YthfodpbecddheaaGreatDoor
open Go.RowKit Go.Sort
/-- The value of the first entry with this number. -/
def fvl (t : Vl) (z : Int) : Option Vl := if t.kind = 6 then (t.f.find? fun x => (x.1 == z)).map Prod.snd else none
def vl0 : Vl := .mk 0 0 [] [] []
def FdP (o : Option Vl) (w : World) (e : Ending) (w' : World) : Prop := ∃ s, e = .returned (.tuple #[.agg #[.int .i64 (o.getD vl0).kind, .int .i64 (o.getD vl0).n, .string (bs (o.getD vl0).s), .slice s.A (o.getD vl0).l.length s.c, .slice s.B (o.getD vl0).f.length s.d], .bool o.isSome]) ∧ RdV w' (o.getD vl0) s ∧ Below w.heap.size w w'
theorem rd0 (w : World) : RdV w vl0 ⟨none, 0, none, 0⟩ := ⟨.inl rfl, .inl rfl⟩
/-- The same, its lists where they lay in an elder world. -/
def FdQ (W0 : World) (o : Option Vl) (w : World) (e : Ending) (w' : World) : Prop := ∃ s, e = .returned (.tuple #[.agg #[.int .i64 (o.getD vl0).kind, .int .i64 (o.getD vl0).n, .string (bs (o.getD vl0).s), .slice s.A (o.getD vl0).l.length s.c, .slice s.B (o.getD vl0).f.length s.d], .bool o.isSome]) ∧ RdV W0 (o.getD vl0) s ∧ Below w.heap.size w w'
theorem FdQ.none_ {W0 w w' : World} (hb : Below w.heap.size w w') : FdQ W0 none w (.returned (.tuple #[.agg #[.int .i64 0, .int .i64 0, .string ⟨#[]⟩, .slice none 0 0, .slice none 0 0], .bool false])) w' := ⟨⟨none, 0, none, 0⟩, rfl, rd0 _, hb⟩
theorem FdQ.some_ {W0 w w' : World} {u : Vl} {s : Sb} (hr : RdV W0 u s) (hb : Below w.heap.size w w') : FdQ W0 (some u) w (.returned (.tuple #[.agg #[.int .i64 u.kind, .int .i64 u.n, .string (bs u.s), .slice s.A u.l.length s.c, .slice s.B u.f.length s.d], .bool true])) w' := ⟨s, rfl, hr, hb⟩
theorem FdP.none_ {w w' : World} (hb : Below w.heap.size w w') : FdP none w (.returned (.tuple #[.agg #[.int .i64 0, .int .i64 0, .string ⟨#[]⟩, .slice none 0 0, .slice none 0 0], .bool false])) w' := ⟨⟨none, 0, none, 0⟩, rfl, rd0 _, hb⟩
theorem FdP.some_ {w w' : World} {u : Vl} {s : Sb} (hr : RdV w' u s) (hb : Below w.heap.size w w') : FdP (some u) w (.returned (.tuple #[.agg #[.int .i64 u.kind, .int .i64 u.n, .string (bs u.s), .slice s.A u.l.length s.c, .slice s.B u.f.length s.d], .bool true])) w' := ⟨s, rfl, hr, hb⟩
theorem gb5 {W w' : World} (hb : Below W.heap.size W w') {b : Nat} (hle : W.heap.size ≤ b) (v0 v1 v2 v3 v4 : Value) : Below W.heap.size W (((((w'.setCell ⟨b, 0, none⟩ v0).setCell ⟨b, 1, none⟩ v1).setCell ⟨b, 2, none⟩ v2).setCell ⟨b, 3, none⟩ v3).setCell ⟨b, 4, none⟩ v4) :=
  ((((hb.setCell hle v0).setCell hle v1).setCell hle v2).setCell hle v3).setCell hle v4
theorem VlA.sb {w : World} {t : Vl} {p : Addr} (h : VlA w t p) : ∃ s : Sb, w.cell? p = some (.int .i64 t.kind) ∧ w.cell? (nx1 p 1) = some (.int .i64 t.n) ∧ w.cell? (nx1 p 2) = some (.string (bs t.s)) ∧ w.cell? (nx1 p 3) = some (.slice s.A t.l.length s.c) ∧ w.cell? (nx1 p 4) = some (.slice s.B t.f.length s.d) ∧ RdV w t s := by
  obtain ⟨h0, h1, h2, ⟨A, c, h3, h4⟩, A2, c2, h5, h6⟩ := h.cells
  exact ⟨⟨A, c, A2, c2⟩, h0, h1, h2, h3, h5, h4, h6⟩
theorem EtA.sb {w : World} {x : Int × Vl} {p : Addr} (h : EtA w x p) : ∃ s : Sb, w.cell? p = some (.int .i64 x.1) ∧ w.cell? (nx1 p 1) = some (.int .i64 x.2.kind) ∧ w.cell? (nx1 p 2) = some (.int .i64 x.2.n) ∧ w.cell? (nx1 p 3) = some (.string (bs x.2.s)) ∧ w.cell? (nx1 p 4) = some (.slice s.A x.2.l.length s.c) ∧ w.cell? (nx1 p 5) = some (.slice s.B x.2.f.length s.d) ∧ RdV w x.2 s := by
  obtain ⟨h0, h⟩ := h
  obtain ⟨s, h1, h2, h3, h4, h5, h6⟩ := h.sb
  exact ⟨s, h0, h1, h2, h3, h4, h5, h6⟩
theorem find_ix {α : Type} {p : α → Bool} {l : List α} : l.find? p = (l.findIdx? p).bind fun i => l[i]? := by
  induction l with
  | nil => rfl
  | cons a l ih =>
    rw [List.find?_cons, List.findIdx?_cons]
    cases h : p a with
    | true => rfl
    | false =>
      rw [ih]
      cases l.findIdx? p <;> simp
set_option maxRecDepth 100000 in
set_option maxHeartbeats 4000000 in
theorem field_any (t : Vl) (z : Int) (v : Value) (W0 w : World) (hb0 : Below W0.heap.size W0 w) (hok : t.f.length ≤ 2000000) (hv : VlV W0 t v) :
    Calls Tryz.prog 87 #[v, .int .i64 z] w (FdQ W0 (fvl t z) w) := by
  obtain ⟨A, c, B, d, rfl, hR, hR2⟩ := hv
  obtain ⟨m, hm⟩ : ∃ m, t.l.length = m := ⟨_, rfl⟩
  obtain ⟨n, hn⟩ : ∃ n, t.f.length = n := ⟨_, rfl⟩
  have cI := fun W (h : Below w.heap.size w W) => indexOf_any t.f B d z W (by omega) (hR2.next fun x p => EtA.next (Below.next hb0 h) x p)
  obtain ⟨o, ho⟩ : ∃ o, t.f.findIdx? (fun x => (x.1 == z)) = o := ⟨_, rfl⟩
  rw [ho, hn] at cI
  have hF : fvl t z = if t.kind = 6 then (o.bind fun i => t.f[i]?).map Prod.snd else none := by unfold fvl; rw [find_ix, ho]
  have HO : Hid (∀ i, o = some i → i < t.f.length) := Lib.hid fun i e => by rw [e, List.findIdx?_eq_some_iff_getElem] at ho; exact ho.1
  rw [hm, hn]
  rw [hn] at hok
  have HN := Lib.hid hn
  have z1 : (w.alloc (Obj.cells #[.int .i64 t.kind, .int .i64 t.n, .string (bs t.s), .slice A m c, .slice B n d] 34)).heap.size = w.heap.size + 1 := by simp
  have hab := ab2 w (Obj.cells #[.int .i64 t.kind, .int .i64 t.n, .string (bs t.s), .slice A m c, .slice B n d] 34) (Obj.cells #[.int .i64 0, .int .i64 0, .string ⟨#[]⟩, .slice none 0 0, .slice none 0 0] 34)
  have C1 := (Bx.new5 w 34 (.int .i64 t.kind) (.int .i64 t.n) (.string (bs t.s)) (.slice A m c) (.slice B n d)).next (ab1 _ (Obj.cells #[.int .i64 0, .int .i64 0, .string ⟨#[]⟩, .slice none 0 0, .slice none 0 0] 34))
  have C2 := Bx.new5 (w.alloc (Obj.cells #[.int .i64 t.kind, .int .i64 t.n, .string (bs t.s), .slice A m c, .slice B n d] 34)) 34 (.int .i64 0) (.int .i64 0) (.string ⟨#[]⟩) (.slice none 0 0) (.slice none 0 0)
  rw [z1] at C2
  have cI2 := cI _ hab
  clear cI hm hn hR z1 ho
  have r0 := C2.c 0 rfl
  have r1 := C2.c 1 rfl
  have r2 := C2.c 2 rfl
  have r3 := C2.c 3 rfl
  have r4 := C2.c 4 rfl
  have q0 := C2.f 0 rfl
  have q1 := C2.f 1 rfl
  have q2 := C2.f 2 rfl
  have q3 := C2.f 3 rfl
  have q4 := C2.f 4 rfl
  have l2 := C2.lt
  by_cases h6 : t.kind = 6
  case neg =>
    have d6 : (t.kind != 6) = true := by simpa using h6
    rw [if_neg h6] at hF
    rw [hF]
    clear h6 hF hR2 cI2
    go_enter Tryz.func87, Tryz.ntmps87
    go_wp2_with fail
    exact bodyPost_ret (v := .tuple #[.agg #[.int .i64 0, .int .i64 0, .string ⟨#[]⟩, .slice none 0 0, .slice none 0 0], .bool false]) (by simp [results, Tryz.results87, go_sem, r0, r1, r2, r3, r4]) rfl (FdQ.none_ hab)
  case pos =>
  have d6 : (t.kind != 6) = false := by simpa using h6
  rw [if_pos h6] at hF
  rw [hF]
  clear h6 hF
  cases o with
  | none =>
    clear HO HN hR2
    go_enter Tryz.func87, Tryz.ntmps87
    go_wp2_with fail
    refine cI2.mono ?_
    rintro e w2 ⟨rfl, hb2⟩
    have E2 := C2.next hb2
    have hab2 := Below.next hab hb2
    clear cI2 r0 r1 r2 r3 r4 q0 q1 q2 q3 q4
    have r0 := E2.c 0 rfl
    have r1 := E2.c 1 rfl
    have r2 := E2.c 2 rfl
    have r3 := E2.c 3 rfl
    have r4 := E2.c 4 rfl
    have q0 := E2.f 0 rfl
    have q1 := E2.f 1 rfl
    have q2 := E2.f 2 rfl
    have q3 := E2.f 3 rfl
    have q4 := E2.f 4 rfl
    have l3 := E2.lt
    simp only [ixI]
    go_wp2_with fail
    exact bodyPost_ret (v := .tuple #[.agg #[.int .i64 0, .int .i64 0, .string ⟨#[]⟩, .slice none 0 0, .slice none 0 0], .bool false]) (by simp [results, Tryz.results87, go_sem, r0, r1, r2, r3, r4]) rfl (FdQ.none_ (gb5 hab2 (Nat.le_succ _) _ _ _ _ _))
  | some i =>
    have hi := HO.out i rfl
    have hin : i < n := by rw [← HN.out]; exact hi
    have hx : ((some i).bind fun i => t.f[i]?).map Prod.snd = some (t.f[i]'hi).2 := by simp [List.getElem?_eq_getElem hi]
    rw [hx]
    obtain ⟨a, rfl, hA⟩ := hR2.get hi
    obtain ⟨s, x0, x1, x2, x3, x4, x5, hrd⟩ := hA.sb
    obtain ⟨num, hnum⟩ : ∃ num, (t.f[i]'hi).1 = num := ⟨_, rfl⟩
    rw [hnum] at x0
    obtain ⟨u, hu⟩ : ∃ u, (t.f[i]'hi).2 = u := ⟨_, rfl⟩
    rw [hu] at x1 x2 x3 x4 x5 hrd ⊢
    clear hx hR2 HO hA hu hnum
    go_enter Tryz.func87, Tryz.ntmps87
    go_wp2_with fail
    refine cI2.mono ?_
    rintro e w2 ⟨rfl, hb2⟩
    have E1 := C1.next hb2
    have E2 := C2.next hb2
    have hab2 := Below.next hab hb2
    clear cI2 r0 r1 r2 r3 r4 q0 q1 q2 q3 q4
    have c4 := E1.c 4 rfl
    have r0 := E2.c 0 rfl
    have r1 := E2.c 1 rfl
    have r2 := E2.c 2 rfl
    have r3 := E2.c 3 rfl
    have r4 := E2.c 4 rfl
    have q0 := E2.f 0 rfl
    have q1 := E2.f 1 rfl
    have q2 := E2.f 2 rfl
    have q3 := E2.f 3 rfl
    have q4 := E2.f 4 rfl
    have l3 := E2.lt
    replace x0 := cell_next (Below.next hb0 hab2) x0
    replace x1 := cell_next (Below.next hb0 hab2) x1
    replace x2 := cell_next (Below.next hb0 hab2) x2
    replace x3 := cell_next (Below.next hb0 hab2) x3
    replace x4 := cell_next (Below.next hb0 hab2) x4
    replace x5 := cell_next (Below.next hb0 hab2) x5
    have hblk : (a.add (i * 6)).block < w2.heap.size := blk_lt x0
    have d0 : decide ((i : Int) < 0) = false := decide_eq_false (by omega)
    simp only [ixI]
    go_wp2_with fail
    have hfin := gb5 hab2 (b := w.heap.size + 1) (Nat.le_succ _) (.int .i64 u.kind) (.int .i64 u.n) (.string (bs u.s)) (.slice s.A u.l.length s.c) (.slice s.B u.f.length s.d)
    exact bodyPost_ret (v := .tuple #[.agg #[.int .i64 u.kind, .int .i64 u.n, .string (bs u.s), .slice s.A u.l.length s.c, .slice s.B u.f.length s.d], .bool true]) (by simp [results, Tryz.results87, go_sem, r0, r1, r2, r3, r4]) rfl (FdQ.some_ hrd hfin)
theorem fvl_mem {t : Vl} {z : Int} {u : Vl} (h : fvl t z = some u) : ∃ x ∈ t.f, x.2 = u := by
  unfold fvl at h
  split at h
  · rw [Option.map_eq_some_iff] at h
    obtain ⟨x, h1, h2⟩ := h
    exact ⟨x, List.mem_of_find?_eq_some h1, h2⟩
  · cases h
theorem fvl_sz (t : Vl) (z : Int) : sz ((fvl t z).getD vl0) ≤ sz t := by
  cases h : fvl t z with
  | none => exact sz_pos t
  | some u =>
    obtain ⟨x, hx, rfl⟩ := fvl_mem h
    obtain ⟨i, hi, rfl⟩ := List.mem_iff_getElem.1 hx
    have := sz_f hi
    show sz (t.f[i]'hi).2 ≤ _
    omega
end Go.Proofs.YthfodpbecddheaaGreatDoor
/-
  The developers' renew of a value without lists. No conditions beyond those that each names.
-/
namespace Go.Proofs.YthfodpbecddheaaGreatDoor
open Go.RowKit Go.Shelf
set_option maxRecDepth 100000 in
set_option maxHeartbeats 4000000 in
theorem renewNil_any (k n : Int) (s : List UInt8) (w : World) : Calls Tryz.prog 82 #[(.agg #[.int .i64 k, .int .i64 n, .string (bs s), .slice none 0 0, .slice none 0 0])] w (Ib (.agg #[.int .i64 k, .int .i64 n, .string (bs s), .slice none 0 0, .slice none 0 0]) w) := by
  have cV := fun W => (AnyE.slices_Clone_nil Tryz.clone131 0 0 W).mono fun e w' (h : _ ∧ _) => (show Ib (.slice none 0 0) W e w' from ⟨h.1, by rw [h.2]; exact Below.refl _ _⟩)
  have cE := fun W => (AnyE.slices_Clone_nil Tryz.clone132 0 0 W).mono fun e w' (h : _ ∧ _) => (show Ib (.slice none 0 0) W e w' from ⟨h.1, by rw [h.2]; exact Below.refl _ _⟩)
  have z1 : (w.alloc (Obj.cells #[.int .i64 k, .int .i64 n, .string (bs s), .slice none 0 0, .slice none 0 0] 34)).heap.size = w.heap.size + 1 := by simp
  have hab := ab2 w (Obj.cells #[.int .i64 k, .int .i64 n, .string (bs s), .slice none 0 0, .slice none 0 0] 34) (Obj.cells #[.int .i64 0, .int .i64 0, .string ⟨#[]⟩, .slice none 0 0, .slice none 0 0] 34)
  have C1 := (Bx.new5 w 34 (.int .i64 k) (.int .i64 n) (.string (bs s)) (.slice none 0 0) (.slice none 0 0)).next (ab1 _ (Obj.cells #[.int .i64 0, .int .i64 0, .string ⟨#[]⟩, .slice none 0 0, .slice none 0 0] 34))
  have C2 := Bx.new5 (w.alloc (Obj.cells #[.int .i64 k, .int .i64 n, .string (bs s), .slice none 0 0, .slice none 0 0] 34)) 34 (.int .i64 0) (.int .i64 0) (.string ⟨#[]⟩) (.slice none 0 0) (.slice none 0 0)
  rw [z1] at C2
  have s3 := C1.c 3 rfl
  have s4 := C1.c 4 rfl
  clear z1
  go_enter Tryz.func82, Tryz.ntmps82
  go_upto_region 1 with (fail)
  generalize (w.alloc (Obj.cells #[.int .i64 k, .int .i64 n, .string (bs s), .slice none 0 0, .slice none 0 0] 34)).alloc (Obj.cells #[.int .i64 0, .int .i64 0, .string ⟨#[]⟩, .slice none 0 0, .slice none 0 0] 34) = W1 at *
  refine wp_region_seqN (by kernel_rfl) (FF [(1, Fact.at_ W1 (.pointer (some ⟨w.heap.size, 0, none⟩))), (7, Fact.at_ W1 (.pointer (some ⟨w.heap.size, 3, none⟩))), (8, Fact.at_ W1 (.slice none 0 0)), (9, Fact.at_ W1 (.slice none 0 0)), (10, Fact.at_ W1 (.pointer (some ⟨w.heap.size, 4, none⟩))), (11, Fact.at_ W1 (.slice none 0 0)), (12, Fact.at_ W1 (.slice none 0 0)), (13, Fact.at_ W1 (.pointer (some ⟨w.heap.size, 3, none⟩)))]) [1] [] 48 7 [7, 8, 9, 10, 11, 12, 13] rfl (by kernel_rfl) (by kernel_rfl) (by decide) (by kernel_rfl) (by kernel_rfl) ?_ ?_ ?_
  · intro t9 ht9
    simp only [List.mem_cons, List.not_mem_nil, or_false] at ht9
    rcases ht9 with rfl
    · exact ⟨rfl, Below.refl _ _⟩
  · refine fcs ⟨Ob.new_ (at1 1 7 (.pointer (some ⟨w.heap.size, 0, none⟩)) (.pointer (some ⟨w.heap.size, 3, none⟩)) rfl (by first | exact .inl rfl | exact .inr ⟨_, _, _, rfl, rfl, by kernel_rfl, by decide, rfl⟩) (by kernel_rfl) rfl rfl (fun a9 W9 hb9 h9 => by simp [execOp, h9] <;> go_simp)) (by kernel_rfl), ?_⟩
    refine fcs ⟨Ob.new_ (at1 7 8 (.pointer (some ⟨w.heap.size, 3, none⟩)) (.slice none 0 0) rfl (by first | exact .inl rfl | exact .inr ⟨_, _, _, rfl, rfl, by kernel_rfl, by decide, rfl⟩) (by kernel_rfl) rfl rfl (fun a9 W9 hb9 h9 => by have g0 := cell_next hb9 s3; simp [execOp, h9] <;> go_simp)) (by kernel_rfl), ?_⟩
    refine fcs ⟨Ob.new_ (atc1 131 8 9 (.slice none 0 0) (.slice none 0 0) _ rfl rfl (by first | exact .inl rfl | exact .inr ⟨_, _, _, rfl, rfl, by kernel_rfl, by decide, rfl⟩) (by kernel_rfl) rfl (by kernel_rfl) rfl (fun W9 hb9 => cV W9)) (by kernel_rfl), ?_⟩
    refine fcs ⟨Ob.new_ (at1 1 10 (.pointer (some ⟨w.heap.size, 0, none⟩)) (.pointer (some ⟨w.heap.size, 4, none⟩)) rfl (by first | exact .inl rfl | exact .inr ⟨_, _, _, rfl, rfl, by kernel_rfl, by decide, rfl⟩) (by kernel_rfl) rfl rfl (fun a9 W9 hb9 h9 => by simp [execOp, h9] <;> go_simp)) (by kernel_rfl), ?_⟩
    refine fcs ⟨Ob.new_ (at1 10 11 (.pointer (some ⟨w.heap.size, 4, none⟩)) (.slice none 0 0) rfl (by first | exact .inl rfl | exact .inr ⟨_, _, _, rfl, rfl, by kernel_rfl, by decide, rfl⟩) (by kernel_rfl) rfl rfl (fun a9 W9 hb9 h9 => by have g0 := cell_next hb9 s4; simp [execOp, h9] <;> go_simp)) (by kernel_rfl), ?_⟩
    refine fcs ⟨Ob.new_ (atc1 132 11 12 (.slice none 0 0) (.slice none 0 0) _ rfl rfl (by first | exact .inl rfl | exact .inr ⟨_, _, _, rfl, rfl, by kernel_rfl, by decide, rfl⟩) (by kernel_rfl) rfl (by kernel_rfl) rfl (fun W9 hb9 => cE W9)) (by kernel_rfl), ?_⟩
    refine fcs ⟨Ob.new_ (at1 1 13 (.pointer (some ⟨w.heap.size, 0, none⟩)) (.pointer (some ⟨w.heap.size, 3, none⟩)) rfl (by first | exact .inl rfl | exact .inr ⟨_, _, _, rfl, rfl, by kernel_rfl, by decide, rfl⟩) (by kernel_rfl) rfl rfl (fun a9 W9 hb9 h9 => by simp [execOp, h9] <;> go_simp)) (by kernel_rfl), ?_⟩
    exact fnl
  intro vv wv hvv hbv _ _
  have hv9 : vv 9 = (.slice none 0 0) := (hvv 9 (by decide)).1
  have hv12 : vv 12 = (.slice none 0 0) := (hvv 12 (by decide)).1
  have hv13 : vv 13 = (.pointer (some ⟨w.heap.size, 3, none⟩)) := (hvv 13 (by decide)).1
  simp only [lay, List.foldl_cons, List.foldl_nil, List.setIfInBounds_toArray, List.set_cons_succ, List.set_cons_zero, hv9, hv12, hv13, List.drop_succ_cons, List.drop_zero]
  clear hvv cV cE s3 s4 hv9 hv12 hv13
  replace hab := Below.next hab hbv
  replace C1 := C1.next hbv
  replace C2 := C2.next hbv
  have q3 := C1.c 3 rfl
  have q4 := C1.c 4 rfl
  have f3 := C1.f 3 rfl
  have f4 := C1.f 4 rfl
  have ql := C1.lt
  have D1 := (C1.put1 3 (.slice none 0 0)).put1 4 (.slice none 0 0)
  have hgr := ((gb_set1 wv ⟨w.heap.size, 3, none⟩ (.slice none 0 0)).trans (gb_set1 _ ⟨w.heap.size, 4, none⟩ (.slice none 0 0)))
  have D2 := C2.gb hgr (by show w.heap.size + 1 ≠ w.heap.size; omega)
  have hb2 := (hab.setCell (p := ⟨w.heap.size, 3, none⟩) (Nat.le_refl _) (.slice none 0 0)).setCell (p := ⟨w.heap.size, 4, none⟩) (Nat.le_refl _) (.slice none 0 0)
  clear C1 C2 hab hgr hbv
  go_wp2_with fail
  go_loopw [18] (fun i wr => i = .int .i64 0 ∧ Bx wr w.heap.size [.int .i64 k, .int .i64 n, .string (bs s), .slice none 0 0, .slice none 0 0] ∧ Bx wr (w.heap.size + 1) [.int .i64 0, .int .i64 0, .string ⟨#[]⟩, .slice none 0 0, .slice none 0 0] ∧ Below w.heap.size w wr) (fun _ _ => 0)
  case atStart => exact ⟨rfl, D1, D2, hb2⟩
  case round =>
    clear q3 q4 f3 f4 ql D1 D2 hb2
    obtain ⟨rfl, D1, D2, hb⟩ := hrel
    have q4 := D1.c 4 rfl
    go_wp2_with fail
    go_loopw [33] (fun i wr => i = .int .i64 0 ∧ Bx wr w.heap.size [.int .i64 k, .int .i64 n, .string (bs s), .slice none 0 0, .slice none 0 0] ∧ Bx wr (w.heap.size + 1) [.int .i64 0, .int .i64 0, .string ⟨#[]⟩, .slice none 0 0, .slice none 0 0] ∧ Below w.heap.size w wr) (fun _ _ => 0)
    case atStart => exact ⟨rfl, D1, D2, hb⟩
    case round =>
      clear q4 D1 D2 hb
      obtain ⟨rfl, D1, D2, hb⟩ := hrel
      have c0 := D1.c 0 rfl
      have c1 := D1.c 1 rfl
      have c2 := D1.c 2 rfl
      have c3 := D1.c 3 rfl
      have c4 := D1.c 4 rfl
      have r0 := D2.c 0 rfl
      have r1 := D2.c 1 rfl
      have r2 := D2.c 2 rfl
      have r3 := D2.c 3 rfl
      have r4 := D2.c 4 rfl
      have f0 := D2.f 0 rfl
      have f1 := D2.f 1 rfl
      have f2 := D2.f 2 rfl
      have f3 := D2.f 3 rfl
      have f4 := D2.f 4 rfl
      have l1 := D1.lt
      have l2 := D2.lt
      go_wp2_with fail
      exact bodyPost_ret (v := (.agg #[.int .i64 k, .int .i64 n, .string (bs s), .slice none 0 0, .slice none 0 0])) (by simp [results, Tryz.results82, go_sem, r0, r1, r2, r3, r4]) rfl ⟨rfl, ((((hb.setCell (Nat.le_succ _) _).setCell (Nat.le_succ _) _).setCell (Nat.le_succ _) _).setCell (Nat.le_succ _) _).setCell (Nat.le_succ _) _⟩
end Go.Proofs.YthfodpbecddheaaGreatDoor
/-
  slices.Insert at the end of a row of the call's own. No conditions beyond those that each names.
-/
namespace Go.Proofs.YthfodpbecddheaaGreatDoor
open Go.RowKit Go.Shelf
theorem IL.snoc {α β : Type} {z : Nat} {enc : α → β → List Value} {P : Nat → α → β → Prop} {l : List α} {xs : List Value} (h : IL z enc P l xs) (y : α) (b : β) (hz : (enc y b).length = z) (hP : P l.length y b) : IL z enc P (l ++ [y]) (xs ++ enc y b) := by
  refine ⟨by rw [List.length_append, List.length_append, h.1, hz, Nat.add_mul]; simp, fun j hj => ?_⟩
  rw [List.length_append] at hj
  by_cases e : j < l.length
  · obtain ⟨b', h1, h2⟩ := h.2 j e
    rw [List.getElem_append_left e]
    refine ⟨b', fun i hi => ?_, h2⟩
    rw [List.getElem?_append_left (by rw [h.1]; exact mulz e hi)]
    exact h1 i hi
  · have e2 : j = l.length := by simp at hj; omega
    subst e2
    rw [List.getElem_append_right (Nat.le_refl _)]
    simp only [Nat.sub_self, List.getElem_cons_zero]
    refine ⟨b, fun i hi => ?_, hP⟩
    rw [List.getElem?_append_right (by rw [h.1]; omega), h.1, Nat.add_sub_cancel_left]
set_option maxRecDepth 100000 in
set_option maxHeartbeats 4000000 in
theorem insertEnd_any (B0 : Nat) (A : Option Addr) (n d : Nat) (xs : List Value) (x : Int × Vl) (s : Sb) (g c : Nat) (w : World) (hn : n ≤ 2000000) (ho : w.ownsRow B0 94 6 (.slice A n d) n xs) (hg : Bx w g [.int .i64 x.1, .int .i64 x.2.kind, .int .i64 x.2.n, .string (bs x.2.s), .slice s.A x.2.l.length s.c, .slice s.B x.2.f.length s.d]) (hB : B0 ≤ w.heap.size) :
    Calls Tryz.prog 86 #[.slice A n d, .int .i64 (n : Int), .slice (some ⟨g, 0, none⟩) 1 c] w (fun e w' => ∃ v', e = .returned v' ∧ w'.ownsRow B0 94 6 v' (n + 1) (xs ++ encE x s) ∧ w.grownBy w' (Value.slice A n d).ownBlock) := by
  obtain ⟨i, hi, hz, hs5, hby⟩ := info_parts infoE
  have e0 : w.cell? ((⟨g, 0, none⟩ : Addr).add 0) = _ := hg.c 0 rfl
  have AP : ∀ (ops : Array Oper) (rest : List Oper) (o : Oper) (a : Act) (Q : Exit → Act → World → Prop), o.guard = none → ∀ (t u : Operand), o.op = .call { callee := .builtin .append, args := #[t, u], argTypes := #[32, 32] } → a.eval t = .slice A n d → a.eval u = .slice (some ⟨g, 0, none⟩) 1 c → (∀ v' w', w'.ownsRow B0 94 6 v' (n + 1) (xs ++ encE x s) → w.grownBy w' (Value.slice A n d).ownBlock → wpList Tryz.prog ops Q rest (a.put o.dst v') w') → wpList Tryz.prog ops Q (o :: rest) a w := fun ops rest o a Q hgd t u hop ht hu hk =>
    wpList_append_own_at w hgd t u 32 hop B0 94 i _ 6 88 Tryz.underlying32 hi hz hs5 hby rfl (by omega) _ n xs ht ho ⟨g, 0, none⟩ 1 c (encE x s) hu rfl
      (by intro j u hj
          match j, hj with
          | 0, hj => simp [encE] at hj; subst hj; exact hg.c 0 rfl
          | 1, hj => simp [encE] at hj; subst hj; exact hg.c 1 rfl
          | 2, hj => simp [encE] at hj; subst hj; exact hg.c 2 rfl
          | 3, hj => simp [encE] at hj; subst hj; exact hg.c 3 rfl
          | 4, hj => simp [encE] at hj; subst hj; exact hg.c 4 rfl
          | 5, hj => simp [encE] at hj; subst hj; exact hg.c 5 rfl) (fun u hu => oneE x s u hu) (by simp only [maxLen]; omega) (by omega) hB (fun v' w' h1 h2 _ _ => hk v' w' h1 h2)
  clear e0 hi hz hs5 hby i
  by_cases h0 : n = 0
  · subst h0
    have hA : A = none ∧ d = 0 ∨ ∃ b, A = some ⟨b, 0, none⟩ := by
      rcases ho.2 with ⟨h, -⟩ | ⟨b, cap, cur, h, -⟩
      · injection h with h1 _ h2; exact .inl ⟨h1, h2⟩
      · injection h with h1; exact .inr ⟨b, h1⟩
    rcases hA with ⟨rfl, rfl⟩ | ⟨b, rfl⟩
    · clear ho
      go_enter Tryz.func86, Tryz.ntmps86
      go_wp2_with (at_builtin; refine AP _ _ _ _ _ rfl _ _ rfl rfl rfl ?_)
      intro v' w1 hown hgr
      go_wp2
      go_ret
      exact ⟨v', rfl, hown, hgr⟩
    · have hl := (ho.lt b rfl).2
      clear ho
      by_cases hd : d = 0
      · subst hd
        go_enter Tryz.func86, Tryz.ntmps86
        go_wp2_with (at_builtin; refine AP _ _ _ _ _ rfl _ _ rfl rfl rfl ?_)
        intro v' w1 hown hgr
        go_wp2
        go_ret
        exact ⟨v', rfl, hown, hgr⟩
      · go_enter Tryz.func86, Tryz.ntmps86
        go_wp2_with (at_builtin; refine AP _ _ _ _ _ rfl _ _ rfl rfl rfl ?_)
        intro v' w1 hown hgr
        go_wp2
        go_ret
        exact ⟨v', rfl, hown, hgr⟩
  · obtain ⟨b, rfl⟩ := own_some ho h0
    have hl := (ho.lt b rfl).2
    have hcap : n ≤ d := by
      rcases ho.2 with ⟨h, -⟩ | ⟨b, cap, cur, h, -, -, hc, -⟩
      · cases h
      · injection h with _ _ h2; omega
    clear ho
    by_cases hd : d = n
    · subst hd
      go_enter Tryz.func86, Tryz.ntmps86
      go_wp2_with (at_builtin; refine AP _ _ _ _ _ rfl _ _ rfl rfl rfl ?_)
      intro v' w1 hown hgr
      go_wp2
      go_ret
      exact ⟨v', rfl, hown, hgr⟩
    · go_enter Tryz.func86, Tryz.ntmps86
      go_wp2_with (at_builtin; refine AP _ _ _ _ _ rfl _ _ rfl rfl rfl ?_)
      intro v' w1 hown hgr
      go_wp2
      go_ret
      exact ⟨v', rfl, hown, hgr⟩
end Go.Proofs.YthfodpbecddheaaGreatDoor
/-
  'copy' between rows of elements of several cells; slices.Insert ahead of an element where there is room. No conditions beyond those that each names.
-/
namespace Go.Proofs.YthfodpbecddheaaGreatDoor
open Go.RowKit Go.Shelf
end Go.Proofs.YthfodpbecddheaaGreatDoor
/-
  slices.Insert ahead of an element, with or without room. No conditions beyond those that each names.
-/
namespace Go.Proofs.YthfodpbecddheaaGreatDoor
open Go.RowKit Go.Shelf Go.Lib
end Go.Proofs.YthfodpbecddheaaGreatDoor


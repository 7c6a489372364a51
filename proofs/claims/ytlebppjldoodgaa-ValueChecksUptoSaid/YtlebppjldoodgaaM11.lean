/-
  The developers' field and Field, the reference's Field. No conditions beyond those that each names.
-/
import Derived.Test.YtlebppjldoodgaaM10
import Derived.Deep.QuietTactic
import Derived.BigQuiet
namespace Go.Proofs.Ytlebppjldoodgaa
open Go.RowKit Go.Sort
/-- The value of the first entry with this number. -/
def fvl (t : Vl) (z : Int) : Option Vl := if t.kind = 6 then (t.f.find? fun x => (x.1 == z)).map Prod.snd else none
def vl0 : Vl := .mk 0 0 [] [] []
def FdP (o : Option Vl) (w : World) (e : Ending) (w' : World) : Prop := ∃ s, e = .returned (.tuple #[.agg #[.int .i64 (o.getD vl0).kind, .int .i64 (o.getD vl0).n, .string (bs (o.getD vl0).s), .slice s.A (o.getD vl0).l.length s.c, .slice s.B (o.getD vl0).f.length s.d], .bool o.isSome]) ∧ RdV w' (o.getD vl0) s ∧ Below w.heap.size w w'
theorem rd0 (w : World) : RdV w vl0 ⟨none, 0, none, 0⟩ := ⟨.inl rfl, .inl rfl⟩
/-- The same, its lists where they lay in an elder world. -/
def FdQ (W0 : World) (o : Option Vl) (w : World) (e : Ending) (w' : World) : Prop := ∃ s, e = .returned (.tuple #[.agg #[.int .i64 (o.getD vl0).kind, .int .i64 (o.getD vl0).n, .string (bs (o.getD vl0).s), .slice s.A (o.getD vl0).l.length s.c, .slice s.B (o.getD vl0).f.length s.d], .bool o.isSome]) ∧ RdV W0 (o.getD vl0) s ∧ Below w.heap.size w w'
theorem FdQ.none_ {W0 w w' : World} (hb : Below w.heap.size w w') : FdQ W0 none w (.returned (.tuple #[.agg #[.int .i64 0, .int .i64 0, .string ⟨#[]⟩, .slice none 0 0, .slice none 0 0], .bool false])) w' := ⟨⟨none, 0, none, 0⟩, rfl, rd0 _, hb⟩
theorem FdQ.some_ {W0 w w' : World} {u : Vl} {s : Sb} (hr : RdV W0 u s) (hb : Below w.heap.size w w') : FdQ W0 (some u) w (.returned (.tuple #[.agg #[.int .i64 u.kind, .int .i64 u.n, .string (bs u.s), .slice s.A u.l.length s.c, .slice s.B u.f.length s.d], .bool true])) w' := ⟨s, rfl, hr, hb⟩
theorem FdP.none_ {w w' : World} (hb : Below w.heap.size w w') : FdP none w (.returned (.tuple #[.agg #[.int .i64 0, .int .i64 0, .string ⟨#[]⟩, .slice none 0 0, .slice none 0 0], .bool false])) w' := ⟨⟨none, 0, none, 0⟩, rfl, rd0 _, hb⟩
theorem FdP.some_ {w w' : World} {u : Vl} {s : Sb} (hr : RdV w' u s) (hb : Below w.heap.size w w') : FdP (some u) w (.returned (.tuple #[.agg #[.int .i64 u.kind, .int .i64 u.n, .string (bs u.s), .slice s.A u.l.length s.c, .slice s.B u.f.length s.d], .bool true])) w' := ⟨s, rfl, hr, hb⟩
theorem gb5 {W w' : World} (hb : Below W.heap.size W w') {b : Nat} (hle : W.heap.size ≤ b) (v0 v1 v2 v3 v4 : Value) : Below W.heap.size W (((((w'.setCell ⟨b, 0, none⟩ v0).setCell ⟨b, 1, none⟩ v1).setCell ⟨b, 2, none⟩ v2).setCell ⟨b, 3, none⟩ v3).setCell ⟨b, 4, none⟩ v4) :=
  ((((hb.setCell hle v0).setCell hle v1).setCell hle v2).setCell hle v3).setCell hle v4
theorem VlA.sb {w : World} {t : Vl} {p : Addr} (h : VlA w t p) : ∃ s : Sb, w.cell? p = some (.int .i64 t.kind) ∧ w.cell? (nx1 p 1) = some (.int .i64 t.n) ∧ w.cell? (nx1 p 2) = some (.string (bs t.s)) ∧ w.cell? (nx1 p 3) = some (.slice s.A t.l.length s.c) ∧ w.cell? (nx1 p 4) = some (.slice s.B t.f.length s.d) ∧ RdV w t s := by
  obtain ⟨h0, h1, h2, ⟨A, c, h3, h4⟩, A2, c2, h5, h6⟩ := h.cells
  exact ⟨⟨A, c, A2, c2⟩, h0, h1, h2, h3, h5, h4, h6⟩
theorem EtA.sb {w : World} {x : Int × Vl} {p : Addr} (h : EtA w x p) : ∃ s : Sb, w.cell? p = some (.int .i64 x.1) ∧ w.cell? (nx1 p 1) = some (.int .i64 x.2.kind) ∧ w.cell? (nx1 p 2) = some (.int .i64 x.2.n) ∧ w.cell? (nx1 p 3) = some (.string (bs x.2.s)) ∧ w.cell? (nx1 p 4) = some (.slice s.A x.2.l.length s.c) ∧ w.cell? (nx1 p 5) = some (.slice s.B x.2.f.length s.d) ∧ RdV w x.2 s := by
  obtain ⟨h0, h⟩ := h
  obtain ⟨s, h1, h2, h3, h4, h5, h6⟩ := h.sb
  exact ⟨s, h0, h1, h2, h3, h4, h5, h6⟩
theorem find_ix {α : Type} {p : α → Bool} {l : List α} : l.find? p = (l.findIdx? p).bind fun i => l[i]? := by
  induction l with
  | nil => rfl
  | cons a l ih =>
    rw [List.find?_cons, List.findIdx?_cons]
    cases h : p a with
    | true => rfl
    | false =>
      rw [ih]
      cases l.findIdx? p <;> simp
set_option maxRecDepth 100000 in
set_option maxHeartbeats 4000000 in
theorem field_any (t : Vl) (z : Int) (v : Value) (W0 w : World) (hb0 : Below W0.heap.size W0 w) (hok : t.f.length ≤ 2000000) (hv : VlV W0 t v) :
    Calls Try.prog 47 #[v, .int .i64 z] w (FdQ W0 (fvl t z) w) := by
  obtain ⟨A, c, B, d, rfl, hR, hR2⟩ := hv
  obtain ⟨m, hm⟩ : ∃ m, t.l.length = m := ⟨_, rfl⟩
  obtain ⟨n, hn⟩ : ∃ n, t.f.length = n := ⟨_, rfl⟩
  have cI := fun W (h : Below w.heap.size w W) => indexOf_any t.f B d z W (by omega) (hR2.next fun x p => EtA.next (Below.next hb0 h) x p)
  obtain ⟨o, ho⟩ : ∃ o, t.f.findIdx? (fun x => (x.1 == z)) = o := ⟨_, rfl⟩
  rw [ho, hn] at cI
  have hF : fvl t z = if t.kind = 6 then (o.bind fun i => t.f[i]?).map Prod.snd else none := by unfold fvl; rw [find_ix, ho]
  have HO : Hid (∀ i, o = some i → i < t.f.length) := Lib.hid fun i e => by rw [e, List.findIdx?_eq_some_iff_getElem] at ho; exact ho.1
  rw [hm, hn]
  rw [hn] at hok
  have HN := Lib.hid hn
  have z1 : (w.alloc (Obj.cells #[.int .i64 t.kind, .int .i64 t.n, .string (bs t.s), .slice A m c, .slice B n d] 25)).heap.size = w.heap.size + 1 := by simp
  have hab := ab2 w (Obj.cells #[.int .i64 t.kind, .int .i64 t.n, .string (bs t.s), .slice A m c, .slice B n d] 25) (Obj.cells #[.int .i64 0, .int .i64 0, .string ⟨#[]⟩, .slice none 0 0, .slice none 0 0] 25)
  have C1 := (Bx.new5 w 25 (.int .i64 t.kind) (.int .i64 t.n) (.string (bs t.s)) (.slice A m c) (.slice B n d)).next (ab1 _ (Obj.cells #[.int .i64 0, .int .i64 0, .string ⟨#[]⟩, .slice none 0 0, .slice none 0 0] 25))
  have C2 := Bx.new5 (w.alloc (Obj.cells #[.int .i64 t.kind, .int .i64 t.n, .string (bs t.s), .slice A m c, .slice B n d] 25)) 25 (.int .i64 0) (.int .i64 0) (.string ⟨#[]⟩) (.slice none 0 0) (.slice none 0 0)
  rw [z1] at C2
  have cI2 := cI _ hab
  clear cI hm hn hR z1 ho
  have r0 := C2.c 0 rfl
  have r1 := C2.c 1 rfl
  have r2 := C2.c 2 rfl
  have r3 := C2.c 3 rfl
  have r4 := C2.c 4 rfl
  have q0 := C2.f 0 rfl
  have q1 := C2.f 1 rfl
  have q2 := C2.f 2 rfl
  have q3 := C2.f 3 rfl
  have q4 := C2.f 4 rfl
  have l2 := C2.lt
  by_cases h6 : t.kind = 6
  case neg =>
    have d6 : (t.kind != 6) = true := by simpa using h6
    rw [if_neg h6] at hF
    rw [hF]
    clear h6 hF hR2 cI2
    go_enter Try.func47, Try.ntmps47
    go_wp2_with fail
    exact bodyPost_ret (v := .tuple #[.agg #[.int .i64 0, .int .i64 0, .string ⟨#[]⟩, .slice none 0 0, .slice none 0 0], .bool false]) (by simp [results, Try.results47, go_sem, r0, r1, r2, r3, r4]) rfl (FdQ.none_ hab)
  case pos =>
  have d6 : (t.kind != 6) = false := by simpa using h6
  rw [if_pos h6] at hF
  rw [hF]
  clear h6 hF
  cases o with
  | none =>
    clear HO HN hR2
    go_enter Try.func47, Try.ntmps47
    go_wp2_with fail
    refine cI2.mono ?_
    rintro e w2 ⟨rfl, hb2⟩
    have E2 := C2.next hb2
    have hab2 := Below.next hab hb2
    clear cI2 r0 r1 r2 r3 r4 q0 q1 q2 q3 q4
    have r0 := E2.c 0 rfl
    have r1 := E2.c 1 rfl
    have r2 := E2.c 2 rfl
    have r3 := E2.c 3 rfl
    have r4 := E2.c 4 rfl
    have q0 := E2.f 0 rfl
    have q1 := E2.f 1 rfl
    have q2 := E2.f 2 rfl
    have q3 := E2.f 3 rfl
    have q4 := E2.f 4 rfl
    have l3 := E2.lt
    simp only [ixI]
    go_wp2_with fail
    exact bodyPost_ret (v := .tuple #[.agg #[.int .i64 0, .int .i64 0, .string ⟨#[]⟩, .slice none 0 0, .slice none 0 0], .bool false]) (by simp [results, Try.results47, go_sem, r0, r1, r2, r3, r4]) rfl (FdQ.none_ (gb5 hab2 (Nat.le_succ _) _ _ _ _ _))
  | some i =>
    have hi := HO.out i rfl
    have hin : i < n := by rw [← HN.out]; exact hi
    have hx : ((some i).bind fun i => t.f[i]?).map Prod.snd = some (t.f[i]'hi).2 := by simp [List.getElem?_eq_getElem hi]
    rw [hx]
    obtain ⟨a, rfl, hA⟩ := hR2.get hi
    obtain ⟨s, x0, x1, x2, x3, x4, x5, hrd⟩ := hA.sb
    obtain ⟨num, hnum⟩ : ∃ num, (t.f[i]'hi).1 = num := ⟨_, rfl⟩
    rw [hnum] at x0
    obtain ⟨u, hu⟩ : ∃ u, (t.f[i]'hi).2 = u := ⟨_, rfl⟩
    rw [hu] at x1 x2 x3 x4 x5 hrd ⊢
    clear hx hR2 HO hA hu hnum
    go_enter Try.func47, Try.ntmps47
    go_wp2_with fail
    refine cI2.mono ?_
    rintro e w2 ⟨rfl, hb2⟩
    have E1 := C1.next hb2
    have E2 := C2.next hb2
    have hab2 := Below.next hab hb2
    clear cI2 r0 r1 r2 r3 r4 q0 q1 q2 q3 q4
    have c4 := E1.c 4 rfl
    have r0 := E2.c 0 rfl
    have r1 := E2.c 1 rfl
    have r2 := E2.c 2 rfl
    have r3 := E2.c 3 rfl
    have r4 := E2.c 4 rfl
    have q0 := E2.f 0 rfl
    have q1 := E2.f 1 rfl
    have q2 := E2.f 2 rfl
    have q3 := E2.f 3 rfl
    have q4 := E2.f 4 rfl
    have l3 := E2.lt
    replace x0 := cell_next (Below.next hb0 hab2) x0
    replace x1 := cell_next (Below.next hb0 hab2) x1
    replace x2 := cell_next (Below.next hb0 hab2) x2
    replace x3 := cell_next (Below.next hb0 hab2) x3
    replace x4 := cell_next (Below.next hb0 hab2) x4
    replace x5 := cell_next (Below.next hb0 hab2) x5
    have hblk : (a.add (i * 6)).block < w2.heap.size := blk_lt x0
    have d0 : decide ((i : Int) < 0) = false := decide_eq_false (by omega)
    simp only [ixI]
    go_wp2_with fail
    have hfin := gb5 hab2 (b := w.heap.size + 1) (Nat.le_succ _) (.int .i64 u.kind) (.int .i64 u.n) (.string (bs u.s)) (.slice s.A u.l.length s.c) (.slice s.B u.f.length s.d)
    exact bodyPost_ret (v := .tuple #[.agg #[.int .i64 u.kind, .int .i64 u.n, .string (bs u.s), .slice s.A u.l.length s.c, .slice s.B u.f.length s.d], .bool true]) (by simp [results, Try.results47, go_sem, r0, r1, r2, r3, r4]) rfl (FdQ.some_ hrd hfin)
theorem fvl_mem {t : Vl} {z : Int} {u : Vl} (h : fvl t z = some u) : ∃ x ∈ t.f, x.2 = u := by
  unfold fvl at h
  split at h
  · rw [Option.map_eq_some_iff] at h
    obtain ⟨x, h1, h2⟩ := h
    exact ⟨x, List.mem_of_find?_eq_some h1, h2⟩
  · cases h
theorem fvl_sz (t : Vl) (z : Int) : sz ((fvl t z).getD vl0) ≤ sz t := by
  cases h : fvl t z with
  | none => exact sz_pos t
  | some u =>
    obtain ⟨x, hx, rfl⟩ := fvl_mem h
    obtain ⟨i, hi, rfl⟩ := List.mem_iff_getElem.1 hx
    have := sz_f hi
    show sz (t.f[i]'hi).2 ≤ _
    omega
end Go.Proofs.Ytlebppjldoodgaa
/-
  How deep a value is: the developers' exceeds, the reference's Levels. No conditions beyond those that each names.
-/
namespace Go.Proofs.Ytlebppjldoodgaa
open Go.RowKit Go.Sort
theorem any_ix {α : Type} (p : α → Bool) (l : List α) : decide ((0 : Int) ≤ ixI (l.findIdx? p)) = l.any p := by
  cases h : l.findIdx? p with
  | none =>
    rw [List.findIdx?_eq_none_iff] at h
    rw [List.any_eq_false.2 fun x hx => by simp [h x hx]]
    rfl
  | some i =>
    rw [List.findIdx?_eq_some_iff_getElem] at h
    obtain ⟨h1, h2, -⟩ := h
    rw [List.any_eq_true.2 ⟨_, List.getElem_mem h1, h2⟩, decide_eq_true_eq]
    exact Int.natCast_nonneg _
theorem lvl_any (n : Nat) : ∀ l : List Vl, l.any (fun x => decide (n < lv x)) = decide (n < lv.lvl l)
  | [] => by rw [lv.lvl]; simp
  | t :: ts => by
    rw [List.any_cons, lvl_any n ts, lv.lvl, Bool.eq_iff_iff]
    simp only [Bool.or_eq_true, decide_eq_true_eq]
    omega
theorem lvf_any (n : Nat) : ∀ l : List (Int × Vl), l.any (fun x => decide (n < lv x.2)) = decide (n < lv.lvf l)
  | [] => by rw [lv.lvf]; simp
  | (k, t) :: ts => by
    rw [List.any_cons, lvf_any n ts, lv.lvf, Bool.eq_iff_iff]
    simp only [Bool.or_eq_true, decide_eq_true_eq]
    omega
theorem lv_flat {t : Vl} (h5 : t.kind ≠ 5) (h6 : t.kind ≠ 6) (hl : t.l.length = 0) (hf : t.f.length = 0) : lv t = 0 := by
  obtain ⟨k, n, s, l, f⟩ := t
  rw [lv, if_pos ⟨h5, h6, List.eq_nil_of_length_eq_zero hl, List.eq_nil_of_length_eq_zero hf⟩]
theorem lv_deep {t : Vl} (h : ¬ (t.kind ≠ 5 ∧ t.kind ≠ 6 ∧ t.l.length = 0 ∧ t.f.length = 0)) : lv t = 1 + max (lv.lvl t.l) (lv.lvf t.f) := by
  obtain ⟨k, n, s, l, f⟩ := t
  rw [lv, if_neg]
  · rfl
  · rintro ⟨h1, h2, rfl, rfl⟩
    exact h ⟨h1, h2, rfl, rfl⟩
theorem lv_succ {t : Vl} {n : Nat} (h : ¬ (t.kind ≠ 5 ∧ t.kind ≠ 6 ∧ t.l.length = 0 ∧ t.f.length = 0)) : decide (n + 1 < lv t) = (t.l.any (fun x => decide (n < lv x)) || t.f.any (fun x => decide (n < lv x.2))) := by
  rw [lv_deep h, lvl_any, lvf_any, Bool.eq_iff_iff]
  simp only [Bool.or_eq_true, decide_eq_true_eq]
  omega
set_option maxRecDepth 100000 in
set_option maxHeartbeats 4000000 in
theorem ixV_any (p : Vl → Bool) (l : List Vl) (A : Option Addr) (c : Nat) (z : Int) (g : Nat) (w : World) (hl : l.length ≤ 9223372036854775807) (hR : Rw VlA 5 w l A) (hg : w.cell? ⟨g, 0, none⟩ = some (.int .i64 z))
    (hc : ∀ i (h : i < l.length) v w', VlV w' (l[i]'h) v → w'.cell? ⟨g, 0, none⟩ = some (.int .i64 z) → Calls Try.prog 50 #[v, .pointer (some ⟨g, 0, none⟩)] w' (Ib (.bool (p (l[i]'h))) w')) :
    Calls Try.prog 73 #[.slice A l.length c, .func (.func 50) #[] #[.pointer (some ⟨g, 0, none⟩)]] w (Ib (.int .i64 (ixI (l.findIdx? p))) w) := by
  obtain ⟨n, hn⟩ : ∃ n, l.length = n := ⟨_, rfl⟩
  obtain ⟨r, hr⟩ : ∃ r, ixI (l.findIdx? p) = r := ⟨_, rfl⟩
  have HN := Lib.hid hn
  have HR := Lib.hid hr
  rw [hn] at hl
  rw [hn, hr]
  clear hn hr
  have H0 : Hid (∀ j (hj : j < l.length), j < 0 → p (l[j]'hj) = false) := Lib.hid fun j _ h => by omega
  go_enter Try.func73, Try.ntmps73
  go_wp2_with fail
  go_loopw [8] (fun i wr => ∃ k : Nat, k ≤ n ∧ i = .int .i64 (k : Int) ∧ Hid (∀ j (hj : j < l.length), j < k → p (l[j]'hj) = false) ∧ Below w.heap.size w wr) (fun i _ => n - (intOf i).toNat)
  case atStart => exact ⟨0, by omega, rfl, H0, Below.refl _ _⟩
  case round =>
    obtain ⟨k, hk, rfl, HK, hb⟩ := hrel
    clear H0
    by_cases hlt : k < n
    · have h1 : k < l.length := by rw [HN.out]; exact hlt
      have hk1 := Lib.hid hlt
      obtain ⟨a, rfl, hA⟩ := hR.get h1
      obtain ⟨B, q, B2, q2, x0, x1, x2, x3, x4, hV⟩ := (VlA.next hb _ _ hA).val
      have hblk : (a.add (k * 5)).block < wr.heap.size := blk_lt x0
      have cC := hc k h1 _ wr hV (cell_next hb hg)
      have HF := Lib.hid (fun (h : p (l[k]'h1) = false) => show ∀ j (hj : j < l.length), j < k + 1 → p (l[j]'hj) = false from fun j hj h2 => by
        by_cases e : j = k
        · subst e; exact h
        · exact HK.out j hj (by omega))
      have HT := Lib.hid (fun (h : p (l[k]'h1) = true) => show r = (k : Int) by rw [← HR.out, findIdx_at h1 h HK.out]; rfl)
      obtain ⟨b, hbb⟩ : ∃ b, p (l[k]'h1) = b := ⟨_, rfl⟩
      rw [hbb] at cC HF HT
      generalize l[k]'h1 = u at *
      clear hA hV hR HK hbb hg hc
      cases b
      · have HF2 := Lib.hid (show ∀ j (hj : j < l.length), j < k + 1 → p (l[j]'hj) = false from HF.out rfl)
        clear HF HT
        go_wp2_with fail
        refine cC.mono ?_
        rintro e w2 ⟨rfl, hb2⟩
        go_wp2_with fail
        go_roundw
        case rel => exact ⟨k + 1, hk1.out, by go_num, HF2, Below.next hb hb2⟩
        case measure => have := hk1.out; simp [intOf]; omega
      · have HT2 := HT.out rfl
        clear HF HT
        subst HT2
        go_wp2_with fail
        refine cC.mono ?_
        rintro e w2 ⟨rfl, hb2⟩
        go_wp2_with fail
        go_ret
        exact ⟨rfl, Below.next hb hb2⟩
    · obtain rfl : k = n := by omega
      have HE : r = -1 := by rw [← HR.out, findIdx_none fun j hj => HK.out j hj (by rw [← HN.out]; exact hj)]; rfl
      subst HE
      clear HK hR hc
      go_wp2_with fail
      go_ret
      exact ⟨rfl, hb⟩
set_option maxRecDepth 100000 in
set_option maxHeartbeats 4000000 in
theorem ixE_any (p : (Int × Vl) → Bool) (l : List (Int × Vl)) (A : Option Addr) (c : Nat) (z : Int) (g : Nat) (w : World) (hl : l.length ≤ 9223372036854775807) (hR : Rw EtA 6 w l A) (hg : w.cell? ⟨g, 0, none⟩ = some (.int .i64 z))
    (hc : ∀ i (h : i < l.length) v w', EtV w' (l[i]'h) v → w'.cell? ⟨g, 0, none⟩ = some (.int .i64 z) → Calls Try.prog 52 #[v, .pointer (some ⟨g, 0, none⟩)] w' (Ib (.bool (p (l[i]'h))) w')) :
    Calls Try.prog 42 #[.slice A l.length c, .func (.func 52) #[] #[.pointer (some ⟨g, 0, none⟩)]] w (Ib (.int .i64 (ixI (l.findIdx? p))) w) := by
  obtain ⟨n, hn⟩ : ∃ n, l.length = n := ⟨_, rfl⟩
  obtain ⟨r, hr⟩ : ∃ r, ixI (l.findIdx? p) = r := ⟨_, rfl⟩
  have HN := Lib.hid hn
  have HR := Lib.hid hr
  rw [hn] at hl
  rw [hn, hr]
  clear hn hr
  have H0 : Hid (∀ j (hj : j < l.length), j < 0 → p (l[j]'hj) = false) := Lib.hid fun j _ h => by omega
  go_enter Try.func42, Try.ntmps42
  go_wp2_with fail
  go_loopw [8] (fun i wr => ∃ k : Nat, k ≤ n ∧ i = .int .i64 (k : Int) ∧ Hid (∀ j (hj : j < l.length), j < k → p (l[j]'hj) = false) ∧ Below w.heap.size w wr) (fun i _ => n - (intOf i).toNat)
  case atStart => exact ⟨0, by omega, rfl, H0, Below.refl _ _⟩
  case round =>
    obtain ⟨k, hk, rfl, HK, hb⟩ := hrel
    clear H0
    by_cases hlt : k < n
    · have h1 : k < l.length := by rw [HN.out]; exact hlt
      have hk1 := Lib.hid hlt
      obtain ⟨a, rfl, hA⟩ := hR.get h1
      obtain ⟨B, q, B2, q2, x0, x1, x2, x3, x4, x5, hV⟩ := (EtA.next hb _ _ hA).val2
      have hblk : (a.add (k * 6)).block < wr.heap.size := blk_lt x0
      have cC := hc k h1 _ wr hV (cell_next hb hg)
      have HF := Lib.hid (fun (h : p (l[k]'h1) = false) => show ∀ j (hj : j < l.length), j < k + 1 → p (l[j]'hj) = false from fun j hj h2 => by
        by_cases e : j = k
        · subst e; exact h
        · exact HK.out j hj (by omega))
      have HT := Lib.hid (fun (h : p (l[k]'h1) = true) => show r = (k : Int) by rw [← HR.out, findIdx_at h1 h HK.out]; rfl)
      obtain ⟨b, hbb⟩ : ∃ b, p (l[k]'h1) = b := ⟨_, rfl⟩
      rw [hbb] at cC HF HT
      generalize l[k]'h1 = u at *
      clear hA hV hR HK hbb hg hc
      cases b
      · have HF2 := Lib.hid (show ∀ j (hj : j < l.length), j < k + 1 → p (l[j]'hj) = false from HF.out rfl)
        clear HF HT
        go_wp2_with fail
        refine cC.mono ?_
        rintro e w2 ⟨rfl, hb2⟩
        go_wp2_with fail
        go_roundw
        case rel => exact ⟨k + 1, hk1.out, by go_num, HF2, Below.next hb hb2⟩
        case measure => have := hk1.out; simp [intOf]; omega
      · have HT2 := HT.out rfl
        clear HF HT
        subst HT2
        go_wp2_with fail
        refine cC.mono ?_
        rintro e w2 ⟨rfl, hb2⟩
        go_wp2_with fail
        go_ret
        exact ⟨rfl, Below.next hb hb2⟩
    · obtain rfl : k = n := by omega
      have HE : r = -1 := by rw [← HR.out, findIdx_none fun j hj => HK.out j hj (by rw [← HN.out]; exact hj)]; rfl
      subst HE
      clear HK hR hc
      go_wp2_with fail
      go_ret
      exact ⟨rfl, hb⟩
set_option maxRecDepth 100000 in
theorem cfV_any (p : Vl → Bool) (l : List Vl) (A : Option Addr) (c : Nat) (z : Int) (g : Nat) (w : World) (hl : l.length ≤ 9223372036854775807) (hR : Rw VlA 5 w l A) (hg : w.cell? ⟨g, 0, none⟩ = some (.int .i64 z))
    (hc : ∀ i (h : i < l.length) v w', VlV w' (l[i]'h) v → w'.cell? ⟨g, 0, none⟩ = some (.int .i64 z) → Calls Try.prog 50 #[v, .pointer (some ⟨g, 0, none⟩)] w' (Ib (.bool (p (l[i]'h))) w')) :
    Calls Try.prog 49 #[.slice A l.length c, .func (.func 50) #[] #[.pointer (some ⟨g, 0, none⟩)]] w (Ib (.bool (l.any p)) w) := by
  have c1 := ixV_any p l A c z g w hl hR hg hc
  have ha := any_ix p l
  clear hc hR hg hl
  generalize ixI (l.findIdx? p) = i at *
  generalize l.any p = b at *
  generalize l.length = n at *
  subst ha
  go_enter Try.func49, Try.ntmps49
  go_wp2_with fail
  refine c1.mono ?_
  rintro e w2 ⟨rfl, hb⟩
  go_wp2_with fail
  go_ret
  exact ⟨rfl, hb⟩
set_option maxRecDepth 100000 in
theorem cfE_any (p : (Int × Vl) → Bool) (l : List (Int × Vl)) (A : Option Addr) (c : Nat) (z : Int) (g : Nat) (w : World) (hl : l.length ≤ 9223372036854775807) (hR : Rw EtA 6 w l A) (hg : w.cell? ⟨g, 0, none⟩ = some (.int .i64 z))
    (hc : ∀ i (h : i < l.length) v w', EtV w' (l[i]'h) v → w'.cell? ⟨g, 0, none⟩ = some (.int .i64 z) → Calls Try.prog 52 #[v, .pointer (some ⟨g, 0, none⟩)] w' (Ib (.bool (p (l[i]'h))) w')) :
    Calls Try.prog 51 #[.slice A l.length c, .func (.func 52) #[] #[.pointer (some ⟨g, 0, none⟩)]] w (Ib (.bool (l.any p)) w) := by
  have c1 := ixE_any p l A c z g w hl hR hg hc
  have ha := any_ix p l
  clear hc hR hg hl
  generalize ixI (l.findIdx? p) = i at *
  generalize l.any p = b at *
  generalize l.length = n at *
  subst ha
  go_enter Try.func51, Try.ntmps51
  go_wp2_with fail
  refine c1.mono ?_
  rintro e w2 ⟨rfl, hb⟩
  go_wp2_with fail
  go_ret
  exact ⟨rfl, hb⟩
set_option maxRecDepth 100000 in
theorem exC1_any (t : Vl) (n : Nat) (g : Nat) (v : Value) (w : World) (hv : VlV w t v) (hn : n ≤ 1000) (hg : w.cell? ⟨g, 0, none⟩ = some (.int .i64 ((n + 1 : Nat) : Int))) (hc : ∀ v w', VlV w' t v → Calls Try.prog 27 #[v, .int .i64 (n : Int)] w' (Ib (.bool (decide (n < lv t))) w')) :
    Calls Try.prog 50 #[v, .pointer (some ⟨g, 0, none⟩)] w (Ib (.bool (decide (n < lv t))) w) := by
  obtain ⟨s, rfl, hr⟩ := rdV_iff.1 hv
  have hl := blk_lt hg
  have c1 := hc _ _ (hv.next (ab1 w (Obj.cells (encV t s).toArray 25)))
  obtain ⟨r, hr2⟩ : ∃ r, decide (n < lv t) = r := ⟨_, rfl⟩
  have hx : ((n + 1 : Nat) : Int) - 1 = (n : Int) := by omega
  rw [hr2] at c1 ⊢
  obtain ⟨m, hm⟩ : ∃ m : Int, ((n + 1 : Nat) : Int) = m := ⟨_, rfl⟩
  rw [hm] at hx hg
  clear hc hr2 hr hv
  have hmr : m ≤ 2000 := by omega
  have hmr0 : 0 ≤ m := by omega
  clear hm
  show Calls Try.prog _ #[.agg #[.int .i64 t.kind, .int .i64 t.n, .string (bs t.s), .slice s.A t.l.length s.c, .slice s.B t.f.length s.d], _] w _
  have c2 : Calls Try.prog 27 #[.agg #[.int .i64 t.kind, .int .i64 t.n, .string (bs t.s), .slice s.A t.l.length s.c, .slice s.B t.f.length s.d], .int .i64 (n : Int)] (w.alloc (Obj.cells #[.int .i64 t.kind, .int .i64 t.n, .string (bs t.s), .slice s.A t.l.length s.c, .slice s.B t.f.length s.d] 25)) (Ib (.bool r) (w.alloc (Obj.cells #[.int .i64 t.kind, .int .i64 t.n, .string (bs t.s), .slice s.A t.l.length s.c, .slice s.B t.f.length s.d] 25))) := c1
  clear c1
  go_enter Try.func50, Try.ntmps50
  go_wp2_with fail
  refine c2.mono ?_
  rintro e w2 ⟨rfl, hb⟩
  go_wp2_with fail
  go_ret
  exact ⟨rfl, Below.next (ab1 _ _) hb⟩
set_option maxRecDepth 100000 in
theorem exC2_any (x : Int × Vl) (n : Nat) (g : Nat) (v : Value) (w : World) (hv : EtV w x v) (hn : n ≤ 1000) (hg : w.cell? ⟨g, 0, none⟩ = some (.int .i64 ((n + 1 : Nat) : Int))) (hc : ∀ v w', VlV w' x.2 v → Calls Try.prog 27 #[v, .int .i64 (n : Int)] w' (Ib (.bool (decide (n < lv x.2))) w')) :
    Calls Try.prog 52 #[v, .pointer (some ⟨g, 0, none⟩)] w (Ib (.bool (decide (n < lv x.2))) w) := by
  obtain ⟨A, c, B, d, rfl, h1, h2⟩ := hv
  obtain ⟨num, t⟩ := x
  have hl := blk_lt hg
  have hab := ab1 w (Obj.cells #[.int .i64 num, .int .i64 t.kind, .int .i64 t.n, .string (bs t.s), .slice A t.l.length c, .slice B t.f.length d] 72)
  have c2 := hc _ _ (VlV.next hab ⟨A, c, B, d, rfl, h1, h2⟩)
  obtain ⟨r, hr2⟩ : ∃ r, decide (n < lv t) = r := ⟨_, rfl⟩
  have hx : ((n + 1 : Nat) : Int) - 1 = (n : Int) := by omega
  have hr3 : decide (n < lv (num, t).2) = r := hr2
  rw [hr3] at c2 ⊢
  obtain ⟨m, hm⟩ : ∃ m : Int, ((n + 1 : Nat) : Int) = m := ⟨_, rfl⟩
  rw [hm] at hx hg
  have hmr : m ≤ 2000 := by omega
  have hmr0 : 0 ≤ m := by omega
  clear hc hr2 hr3 h1 h2 hm
  go_enter Try.func52, Try.ntmps52
  go_wp2_with fail
  refine c2.mono ?_
  rintro e w2 ⟨rfl, hb⟩
  go_wp2_with fail
  go_ret
  exact ⟨rfl, Below.next (ab1 _ _) hb⟩
set_option maxRecDepth 100000 in
set_option maxHeartbeats 8000000 in
theorem exceeds_any (N : Nat) : ∀ (t : Vl) (k : Nat) (v : Value) (w : World), SizeOf.sizeOf t < N → vok t → k ≤ 1000 → VlV w t v →
    Calls Try.prog 27 #[v, .int .i64 (k : Int)] w (Ib (.bool (decide (k < lv t))) w) := by
  induction N with
  | zero => intro t k v w h; omega
  | succ N ih =>
    intro t k v w hN hok hk hv
    obtain ⟨-, ⟨hl, hlo⟩, hf, hfo⟩ := vok_iff.1 hok
    have HD := Lib.hid (@lv_flat t)
    have HS := Lib.hid (fun (n : Nat) h => @lv_succ t n h)
    have HP := Lib.hid (@lv_deep t)
    have cL0 := fun (q : Nat) (hq : q ≤ 1000) (g : Nat) (W : World) (i : Nat) (h : i < t.l.length) v w' (hv' : VlV w' (t.l[i]'h) v) (hg : w'.cell? ⟨g, 0, none⟩ = some (.int .i64 ((q + 1 : Nat) : Int))) => exC1_any (t.l[i]'h) q g v w' hv' hq hg fun v w' => ih _ q v w' (by have := size_l h; omega) (hlo _ (List.getElem_mem h)) hq
    have cF0 := fun (q : Nat) (hq : q ≤ 1000) (g : Nat) (W : World) (i : Nat) (h : i < t.f.length) v w' (hv' : EtV w' (t.f[i]'h) v) (hg : w'.cell? ⟨g, 0, none⟩ = some (.int .i64 ((q + 1 : Nat) : Int))) => exC2_any (t.f[i]'h) q g v w' hv' hq hg fun v w' => ih _ q v w' (by have := size_f h; omega) (hfo _ (List.getElem_mem h)) hq
    obtain ⟨A, c, B, d, rfl, hR, hR2⟩ := hv
    have cL := fun (q : Nat) (hq : q ≤ 1000) (g : Nat) (W : World) (hb : Below w.heap.size w W) (hg : W.cell? ⟨g, 0, none⟩ = some (.int .i64 ((q + 1 : Nat) : Int))) => cfV_any (fun x => decide (q < lv x)) t.l A c ((q + 1 : Nat) : Int) g W hl (hR.next fun x p => VlA.next hb x p) hg (cL0 q hq g W)
    have cF := fun (q : Nat) (hq : q ≤ 1000) (g : Nat) (W : World) (hb : Below w.heap.size w W) (hg : W.cell? ⟨g, 0, none⟩ = some (.int .i64 ((q + 1 : Nat) : Int))) => cfE_any (fun x => decide (q < lv x.2)) t.f B d ((q + 1 : Nat) : Int) g W hf (hR2.next fun x p => EtA.next hb x p) hg (cF0 q hq g W)
    obtain ⟨m, hm⟩ : ∃ m, t.l.length = m := ⟨_, rfl⟩
    obtain ⟨n, hn⟩ : ∃ n, t.f.length = n := ⟨_, rfl⟩
    rw [hm] at hl
    rw [hn] at hf
    simp only [hm] at cL
    simp only [hn] at cF
    rw [hm, hn] at HD HS HP ⊢
    have D1 := (Bx.new5 w 25 (.int .i64 t.kind) (.int .i64 t.n) (.string (bs t.s)) (.slice A m c) (.slice B n d)).next (ab1 _ (Obj.cells #[.int .i64 (k : Int)] 3))
    have D2 := Bx.new1 (w.alloc (Obj.cells #[.int .i64 t.kind, .int .i64 t.n, .string (bs t.s), .slice A m c, .slice B n d] 25)) 3 (.int .i64 (k : Int))
    have hab := ab2 w (Obj.cells #[.int .i64 t.kind, .int .i64 t.n, .string (bs t.s), .slice A m c, .slice B n d] 25) (Obj.cells #[.int .i64 (k : Int)] 3)
    rw [show (w.alloc (Obj.cells #[.int .i64 t.kind, .int .i64 t.n, .string (bs t.s), .slice A m c, .slice B n d] 25)).heap.size = w.heap.size + 1 by simp] at D2
    clear cL0 cF0 ih hR hR2 hlo hfo hok hN hm hn
    by_cases hfl : t.kind ≠ 5 ∧ t.kind ≠ 6 ∧ m = 0 ∧ n = 0
    · obtain ⟨h5, h6, rfl, rfl⟩ := hfl
      have hz := HD.out h5 h6 rfl rfl
      have d5 : (t.kind != 5) = true := by simpa using h5
      have d6 : (t.kind != 6) = true := by simpa using h6
      rw [hz, show decide (k < 0) = false by simp]
      clear hz h5 h6 HD HS HP cL cF
      go_enter Try.func27, Try.ntmps27
      go_wp2_with fail
      go_ret
      exact ⟨rfl, hab⟩
    have HS := HS.out (k - 1) hfl
    have HP := HP.out hfl
    cases k with
    | zero =>
      rw [show decide (0 < lv t) = true by rw [decide_eq_true_eq, HP]; omega]
      clear HP HS HD cL cF
      by_cases h5 : t.kind = 5
      · have d5 : (t.kind != 5) = false := by simpa using h5
        clear h5 hfl
        go_enter Try.func27, Try.ntmps27
        go_wp2_with fail
        go_ret
        exact ⟨rfl, hab⟩
      have d5 : (t.kind != 5) = true := by simpa using h5
      by_cases h6 : t.kind = 6
      · have d6 : (t.kind != 6) = false := by simpa using h6
        clear h5 h6 hfl
        go_enter Try.func27, Try.ntmps27
        go_wp2_with fail
        go_ret
        exact ⟨rfl, hab⟩
      have d6 : (t.kind != 6) = true := by simpa using h6
      by_cases hm0 : m = 0
      · subst hm0
        have dn : ((n : Int) == 0) = false := by have : n ≠ 0 := fun e => hfl ⟨h5, h6, rfl, e⟩; simp; omega
        clear h5 h6 hfl
        go_enter Try.func27, Try.ntmps27
        go_wp2_with fail
        go_ret
        exact ⟨rfl, hab⟩
      · have dm : ((m : Int) == 0) = false := by simp; omega
        clear h5 h6 hfl hm0
        go_enter Try.func27, Try.ntmps27
        go_wp2_with fail
        go_ret
        exact ⟨rfl, hab⟩
    | succ q =>
      rw [Nat.add_sub_cancel] at HS
      rw [HS]
      have cL1 := cL q (by omega) (w.heap.size + 1) _ hab (D2.c 0 rfl)
      have cF1 := fun W h => cF q (by omega) (w.heap.size + 1) W (Below.next hab h) ((D2.next h).c 0 rfl)
      have kq : ((((q + 1 : Nat) : Int)) == 0) = false := by simp; omega
      obtain ⟨b1, hb1⟩ : ∃ b1, t.l.any (fun x => decide (q < lv x)) = b1 := ⟨_, rfl⟩
      obtain ⟨b2, hb2⟩ : ∃ b2, t.f.any (fun x => decide (q < lv x.2)) = b2 := ⟨_, rfl⟩
      rw [hb1] at cL1 ⊢
      rw [hb2] at cF1 ⊢
      obtain ⟨K, hK⟩ : ∃ K : Int, ((q + 1 : Nat) : Int) = K := ⟨_, rfl⟩
      rw [hK] at kq cL1 cF1 D1 D2 hab ⊢
      clear cL cF HS HP HD hb1 hb2 hK
      by_cases h5 : t.kind = 5
      · have d5 : (t.kind != 5) = false := by simpa using h5
        clear h5 hfl
        go_enter Try.func27, Try.ntmps27
        go_wp2_with fail
        refine cL1.mono ?_
        rintro e w2 ⟨rfl, hb2⟩
        have E1 := D1.next hb2
        have c4 := E1.c 4 rfl
        have cF2 := cF1 _ hb2
        cases b1
        · go_wp2_with fail
          refine cF2.mono ?_
          rintro e w3 ⟨rfl, hb3⟩
          go_wp2_with fail
          go_ret
          exact ⟨rfl, Below.next (Below.next hab hb2) hb3⟩
        · go_wp2_with fail
          go_ret
          exact ⟨rfl, Below.next hab hb2⟩
      have d5 : (t.kind != 5) = true := by simpa using h5
      by_cases h6 : t.kind = 6
      · have d6 : (t.kind != 6) = false := by simpa using h6
        clear h5 h6 hfl
        go_enter Try.func27, Try.ntmps27
        go_wp2_with fail
        refine cL1.mono ?_
        rintro e w2 ⟨rfl, hb2⟩
        have E1 := D1.next hb2
        have c4 := E1.c 4 rfl
        have cF2 := cF1 _ hb2
        cases b1
        · go_wp2_with fail
          refine cF2.mono ?_
          rintro e w3 ⟨rfl, hb3⟩
          go_wp2_with fail
          go_ret
          exact ⟨rfl, Below.next (Below.next hab hb2) hb3⟩
        · go_wp2_with fail
          go_ret
          exact ⟨rfl, Below.next hab hb2⟩
      have d6 : (t.kind != 6) = true := by simpa using h6
      by_cases hm0 : m = 0
      · subst hm0
        have dn : ((n : Int) == 0) = false := by have : n ≠ 0 := fun e => hfl ⟨h5, h6, rfl, e⟩; simp; omega
        clear h5 h6 hfl
        go_enter Try.func27, Try.ntmps27
        go_wp2_with fail
        refine cL1.mono ?_
        rintro e w2 ⟨rfl, hb2⟩
        have E1 := D1.next hb2
        have c4 := E1.c 4 rfl
        have cF2 := cF1 _ hb2
        cases b1
        · go_wp2_with fail
          refine cF2.mono ?_
          rintro e w3 ⟨rfl, hb3⟩
          go_wp2_with fail
          go_ret
          exact ⟨rfl, Below.next (Below.next hab hb2) hb3⟩
        · go_wp2_with fail
          go_ret
          exact ⟨rfl, Below.next hab hb2⟩
      · have dm : ((m : Int) == 0) = false := by simp; omega
        clear h5 h6 hfl hm0
        go_enter Try.func27, Try.ntmps27
        go_wp2_with fail
        refine cL1.mono ?_
        rintro e w2 ⟨rfl, hb2⟩
        have E1 := D1.next hb2
        have c4 := E1.c 4 rfl
        have cF2 := cF1 _ hb2
        cases b1
        · go_wp2_with fail
          refine cF2.mono ?_
          rintro e w3 ⟨rfl, hb3⟩
          go_wp2_with fail
          go_ret
          exact ⟨rfl, Below.next (Below.next hab hb2) hb3⟩
        · go_wp2_with fail
          go_ret
          exact ⟨rfl, Below.next hab hb2⟩
end Go.Proofs.Ytlebppjldoodgaa
/-
  The developers' Check of a number, for the self-test. No conditions beyond those that each names.
-/
namespace Go.Proofs.Ytlebppjldoodgaa
open Go.RowKit Go.Shelf
set_option maxRecDepth 100000 in
theorem index8_any (g : Nat) (c : Nat) (w : World) (h0 : w.cell? ⟨g, 0, none⟩ = some (.int .i64 8)) :
    Calls Try.prog 94 #[.slice (some ⟨g, 0, none⟩) 4 c, .int .i64 8] w (Is (.int .i64 0) w) := by
  have hl := blk_lt h0
  go_enter Try.func94, Try.ntmps94
  go_wp2_with fail
  go_loopw [8] (fun i wr => i = .int .i64 0 ∧ wr = w) (fun _ _ => 0)
  case atStart => exact ⟨rfl, rfl⟩
  case round =>
    obtain ⟨rfl, rfl⟩ := hrel
    go_wp2_with fail
    go_ret
    exact ⟨rfl, rfl⟩
set_option maxRecDepth 100000 in
theorem contains8_any (g : Nat) (c : Nat) (w : World) (h0 : w.cell? ⟨g, 0, none⟩ = some (.int .i64 8)) :
    Calls Try.prog 86 #[.slice (some ⟨g, 0, none⟩) 4 c, .int .i64 8] w (Is (.bool true) w) := by
  have c1 := index8_any g c w h0
  go_enter Try.func86, Try.ntmps86
  go_wp2_with fail
  refine c1.mono ?_
  rintro e w2 ⟨rfl, rfl⟩
  go_wp2_with fail
  go_ret
  exact ⟨rfl, rfl⟩
set_option maxRecDepth 100000 in
set_option maxHeartbeats 4000000 in
theorem exceedsN_any (n : Int) (w : World) : Calls Try.prog 27 #[.agg #[.int .i64 2, .int .i64 n, .string ⟨#[]⟩, .slice none 0 0, .slice none 0 0], .int .i64 6] w (Ib (.bool false) w) := by
  go_enter Try.func27, Try.ntmps27
  go_wp2_with fail
  go_ret
  exact ⟨rfl, ab2 _ _ _⟩
set_option maxRecDepth 100000 in
set_option maxHeartbeats 4000000 in
theorem permits8_any (v : Int) (E : Option Addr) (e1 e2 : Nat) (F : Option Addr) (f1 f2 : Nat) (w : World) : Calls Try.prog 74 #[.agg #[.int .i64 v, .slice E e1 e2, .slice F f1 f2], .agg #[.int .i64 2, .int .i64 8, .string ⟨#[]⟩, .slice none 0 0]] w (Ib (.bool true) w) := by
  have h8 := (Bx.new4 ((w.alloc (Obj.cells #[.int .i64 v, .slice E e1 e2, .slice F f1 f2] 33)).alloc (Obj.cells #[.int .i64 2, .int .i64 8, .string ⟨#[]⟩, .slice none 0 0] 37)) 3 (.int .i64 8) (.int .i64 16) (.int .i64 32) (.int .i64 64)).c 0 rfl
  rw [show ((w.alloc (Obj.cells #[.int .i64 v, .slice E e1 e2, .slice F f1 f2] 33)).alloc (Obj.cells #[.int .i64 2, .int .i64 8, .string ⟨#[]⟩, .slice none 0 0] 37)).heap.size = w.heap.size + 1 + 1 by simp] at h8
  have c1 := contains8_any (w.heap.size + 1 + 1) 4 _ h8
  clear h8
  go_enter Try.func74, Try.ntmps74
  go_wp2_with fail
  refine c1.mono ?_
  rintro e w2 ⟨rfl, rfl⟩
  go_wp2_with fail
  go_ret
  exact ⟨rfl, ab3 _ _ _ _⟩
set_option maxRecDepth 100000 in
set_option maxHeartbeats 4000000 in
theorem isPure2_any (n : Int) (w : World) : Calls Try.prog 75 #[.agg #[.int .i64 2, .int .i64 n, .string ⟨#[]⟩, .slice none 0 0, .slice none 0 0]] w (Ib (.bool true) w) := by
  go_enter Try.func75, Try.ntmps75
  go_wp2_with fail
  go_ret
  exact ⟨rfl, ab1 _ _⟩
set_option maxRecDepth 100000 in
set_option maxHeartbeats 4000000 in
theorem signed128_any (v : Int) (E : Option Addr) (e1 e2 : Nat) (F : Option Addr) (f1 f2 : Nat) (w : World) : Calls Try.prog 55 #[.agg #[.int .i64 v, .slice E e1 e2, .slice F f1 f2, .int .i64 2, .int .i64 8, .string ⟨#[]⟩, .slice none 0 0], .agg #[.int .i64 2, .int .i64 128, .string ⟨#[]⟩, .slice none 0 0, .slice none 0 0]] w (Ib (.int .i64 4) w) := by
  go_enter Try.func55, Try.ntmps55
  go_wp2_with (go_in)
  go_ret
  exact ⟨rfl, ab2 _ _ _⟩
set_option maxRecDepth 100000 in
set_option maxHeartbeats 4000000 in
theorem admit128_any (v : Int) (E : Option Addr) (e1 e2 : Nat) (F : Option Addr) (f1 f2 : Nat) (w : World) : Calls Try.prog 53 #[.agg #[.int .i64 v, .slice E e1 e2, .slice F f1 f2, .int .i64 2, .int .i64 8, .string ⟨#[]⟩, .slice none 0 0], .agg #[.int .i64 2, .int .i64 128, .string ⟨#[]⟩, .slice none 0 0, .slice none 0 0], .func (.func 55) #[.agg #[.int .i64 v, .slice E e1 e2, .slice F f1 f2, .int .i64 2, .int .i64 8, .string ⟨#[]⟩, .slice none 0 0]] #[]] w (Ib (.int .i64 4) w) := by
  have cP := fun W => permits8_any v E e1 e2 F f1 f2 W
  have cI := fun W => isPure2_any 128 W
  have cS := fun W => signed128_any v E e1 e2 F f1 f2 W
  have D1 := (Bx.new7 w 55 (.int .i64 v) (.slice E e1 e2) (.slice F f1 f2) (.int .i64 2) (.int .i64 8) (.string ⟨#[]⟩) (.slice none 0 0)).next (ab1 _ (Obj.cells #[.int .i64 2, .int .i64 128, .string ⟨#[]⟩, .slice none 0 0, .slice none 0 0] 25))
  have D2 := Bx.new5 (w.alloc (Obj.cells #[.int .i64 v, .slice E e1 e2, .slice F f1 f2, .int .i64 2, .int .i64 8, .string ⟨#[]⟩, .slice none 0 0] 55)) 25 (.int .i64 2) (.int .i64 128) (.string ⟨#[]⟩) (.slice none 0 0) (.slice none 0 0)
  have hab := ab2 w (Obj.cells #[.int .i64 v, .slice E e1 e2, .slice F f1 f2, .int .i64 2, .int .i64 8, .string ⟨#[]⟩, .slice none 0 0] 55) (Obj.cells #[.int .i64 2, .int .i64 128, .string ⟨#[]⟩, .slice none 0 0, .slice none 0 0] 25)
  rw [show (w.alloc (Obj.cells #[.int .i64 v, .slice E e1 e2, .slice F f1 f2, .int .i64 2, .int .i64 8, .string ⟨#[]⟩, .slice none 0 0] 55)).heap.size = w.heap.size + 1 by simp] at D2
  go_enter Try.func53, Try.ntmps53
  go_wp2_with fail
  refine (cP _).mono ?_
  rintro e w2 ⟨rfl, hb2⟩
  replace D1 := D1.next hb2
  replace D2 := D2.next hb2
  replace hab := Below.next hab hb2
  have c0 := D1.c 0 rfl
  have c1 := D1.c 1 rfl
  have c2 := D1.c 2 rfl
  have c3 := D1.c 3 rfl
  have c4 := D1.c 4 rfl
  have c5 := D1.c 5 rfl
  have c6 := D1.c 6 rfl
  have x0 := D2.c 0 rfl
  have x1 := D2.c 1 rfl
  have x2 := D2.c 2 rfl
  have x3 := D2.c 3 rfl
  have x4 := D2.c 4 rfl
  go_wp2_with fail
  refine (cI _).mono ?_
  rintro e w3 ⟨rfl, hb3⟩
  replace D1 := D1.next hb3
  replace D2 := D2.next hb3
  replace hab := Below.next hab hb3
  clear c0 c1 c2 c3 c4 c5 c6 x0 x1 x2 x3 x4
  have x0 := D2.c 0 rfl
  have x1 := D2.c 1 rfl
  have x2 := D2.c 2 rfl
  have x3 := D2.c 3 rfl
  have x4 := D2.c 4 rfl
  go_wp2_with fail
  refine (cS _).mono ?_
  rintro e w4 ⟨rfl, hb4⟩
  go_wp2_with fail
  go_ret
  exact ⟨rfl, Below.next hab hb4⟩
set_option maxRecDepth 100000 in
set_option maxHeartbeats 4000000 in
theorem check128_any (v : Int) (E : Option Addr) (e1 e2 : Nat) (F : Option Addr) (f1 f2 : Nat) (w : World) : Calls Try.prog 28 #[.agg #[.int .i64 v, .slice E e1 e2, .slice F f1 f2, .int .i64 2, .int .i64 8, .string ⟨#[]⟩, .slice none 0 0], .agg #[.int .i64 2, .int .i64 128, .string ⟨#[]⟩, .slice none 0 0, .slice none 0 0]] w (Ib (.int .i64 4) w) := by
  have cA := fun W => admit128_any v E e1 e2 F f1 f2 W
  go_enter Try.func28, Try.ntmps28
  go_wp2_with fail
  refine (cA _).mono ?_
  rintro e w2 ⟨rfl, hb2⟩
  go_wp2_with fail
  go_ret
  exact ⟨rfl, Below.next (ab2 _ _ _) hb2⟩
set_option maxRecDepth 100000 in
set_option maxHeartbeats 4000000 in
theorem valueCheck128_any (v : Int) (E : Option Addr) (e1 e2 : Nat) (F : Option Addr) (f1 f2 : Nat) (w : World) : Calls Try.prog 9 #[.agg #[.int .i64 v, .slice E e1 e2, .slice F f1 f2], .agg #[.int .i64 2, .int .i64 8, .string ⟨#[]⟩, .slice none 0 0], .agg #[.int .i64 2, .int .i64 128, .string ⟨#[]⟩, .slice none 0 0, .slice none 0 0]] w (Ib (.int .i64 4) w) := by
  have cE := fun W => exceedsN_any 128 W
  have cC := fun W => check128_any v E e1 e2 F f1 f2 W
  have D1 := (Bx.new3 w 33 (.int .i64 v) (.slice E e1 e2) (.slice F f1 f2)).next (ab2 _ (Obj.cells #[.int .i64 2, .int .i64 8, .string ⟨#[]⟩, .slice none 0 0] 37) (Obj.cells #[.int .i64 2, .int .i64 128, .string ⟨#[]⟩, .slice none 0 0, .slice none 0 0] 25))
  have D2 := (Bx.new4 (w.alloc (Obj.cells #[.int .i64 v, .slice E e1 e2, .slice F f1 f2] 33)) 37 (.int .i64 2) (.int .i64 8) (.string ⟨#[]⟩) (.slice none 0 0)).next (ab1 _ (Obj.cells #[.int .i64 2, .int .i64 128, .string ⟨#[]⟩, .slice none 0 0, .slice none 0 0] 25))
  have D3 := Bx.new5 ((w.alloc (Obj.cells #[.int .i64 v, .slice E e1 e2, .slice F f1 f2] 33)).alloc (Obj.cells #[.int .i64 2, .int .i64 8, .string ⟨#[]⟩, .slice none 0 0] 37)) 25 (.int .i64 2) (.int .i64 128) (.string ⟨#[]⟩) (.slice none 0 0) (.slice none 0 0)
  rw [show (w.alloc (Obj.cells #[.int .i64 v, .slice E e1 e2, .slice F f1 f2] 33)).heap.size = w.heap.size + 1 by simp] at D2
  rw [show ((w.alloc (Obj.cells #[.int .i64 v, .slice E e1 e2, .slice F f1 f2] 33)).alloc (Obj.cells #[.int .i64 2, .int .i64 8, .string ⟨#[]⟩, .slice none 0 0] 37)).heap.size = w.heap.size + 1 + 1 by simp] at D3
  have hab := ab3 w (Obj.cells #[.int .i64 v, .slice E e1 e2, .slice F f1 f2] 33) (Obj.cells #[.int .i64 2, .int .i64 8, .string ⟨#[]⟩, .slice none 0 0] 37) (Obj.cells #[.int .i64 2, .int .i64 128, .string ⟨#[]⟩, .slice none 0 0, .slice none 0 0] 25)
  go_enter Try.func9, Try.ntmps9
  go_wp2_with fail
  refine (cE _).mono ?_
  rintro e w2 ⟨rfl, hb2⟩
  replace D1 := D1.next hb2
  replace D2 := D2.next hb2
  replace D3 := D3.next hb2
  replace hab := Below.next hab hb2
  have s0 := D1.c 0 rfl
  have s1 := D1.c 1 rfl
  have s2 := D1.c 2 rfl
  have t0 := D2.c 0 rfl
  have t1 := D2.c 1 rfl
  have t2 := D2.c 2 rfl
  have t3 := D2.c 3 rfl
  have x0 := D3.c 0 rfl
  have x1 := D3.c 1 rfl
  have x2 := D3.c 2 rfl
  have x3 := D3.c 3 rfl
  have x4 := D3.c 4 rfl
  go_wp2_with fail
  refine (cC _).mono ?_
  rintro e w3 ⟨rfl, hb3⟩
  go_wp2_with fail
  go_ret
  exact ⟨rfl, Below.next hab hb3⟩
/-- What the law's schemas are, as far as the self-test asks. -/
def ScU (w : World) (e : Ending) (w' : World) : Prop := ∃ v E e1 e2 F f1 f2, e = .returned (.agg #[.int .i64 v, .slice E e1 e2, .slice F f1 f2]) ∧ Below w.heap.size w w'
set_option maxRecDepth 100000 in
set_option maxHeartbeats 4000000 in
theorem schema0_any (w : World) : Calls Try.prog 10 #[.int .u8 0] w (ScU w) := by
  go_enter Try.func10, Try.ntmps10
  go_wp2_with fail
  refine bodyPost_ret (by simp [results, Try.results10, go_sem]; exact ⟨rfl, ⟨rfl, rfl, rfl⟩, rfl, rfl, rfl⟩) rfl ⟨_, _, _, _, _, _, _, rfl, ?_⟩
  repeat (first | exact ab1 _ _ | refine Below.alloc ?_ (by first | (simp; done) | (simp; omega)) _)
end Go.Proofs.Ytlebppjldoodgaa
/-
  The developers' checks of one value, by kinds. No conditions beyond those that each names.
-/
namespace Go.Proofs.Ytlebppjldoodgaa
open Go.RowKit Go.Shelf
set_option maxRecDepth 100000 in
set_option maxHeartbeats 4000000 in
theorem boolean_any (v : Int) (E : Option Addr) (e1 e2 : Nat) (F : Option Addr) (f1 f2 : Nat) (k s : Int) (nm : ByteArray) (G : Option Addr) (g1 g2 : Nat) (q n : Int) (st : ByteArray) (A : Option Addr) (a1 a2 : Nat) (B : Option Addr) (b1 b2 : Nat) (w : World) :
    Calls Try.prog 54 #[.agg #[.int .i64 v, .slice E e1 e2, .slice F f1 f2, .int .i64 k, .int .i64 s, .string nm, .slice G g1 g2], .agg #[.int .i64 q, .int .i64 n, .string st, .slice A a1 a2, .slice B b1 b2]] w (Ib (.int .i64 (if 0 ≤ n ∧ n ≤ 1 then 0 else 4)) w) := by
  by_cases h1 : n < 0
  · have d1 : decide (n < 0) = true := decide_eq_true h1
    rw [if_neg (by omega)]
    clear h1
    go_enter Try.func54, Try.ntmps54
    go_wp2_with (go_in)
    go_ret
    exact ⟨rfl, ab2 _ _ _⟩
  · have d1 : decide (n < 0) = false := decide_eq_false h1
    by_cases h2 : 1 < n
    · have d2 : decide (1 < n) = true := decide_eq_true h2
      rw [if_neg (by omega)]
      clear h1 h2
      go_enter Try.func54, Try.ntmps54
      go_wp2_with (go_in)
      go_ret
      exact ⟨rfl, ab2 _ _ _⟩
    · have d2 : decide (1 < n) = false := decide_eq_false h2
      rw [if_pos (by omega)]
      clear h1 h2
      go_enter Try.func54, Try.ntmps54
      go_wp2_with (go_in)
      go_ret
      exact ⟨rfl, ab2 _ _ _⟩
set_option maxRecDepth 100000 in
set_option maxHeartbeats 4000000 in
theorem signed8_any (v : Int) (E : Option Addr) (e1 e2 : Nat) (F : Option Addr) (f1 f2 : Nat) (k : Int) (nm : ByteArray) (G : Option Addr) (g1 g2 : Nat) (q n : Int) (st : ByteArray) (A : Option Addr) (a1 a2 : Nat) (B : Option Addr) (b1 b2 : Nat) (w : World) :
    Calls Try.prog 55 #[.agg #[.int .i64 v, .slice E e1 e2, .slice F f1 f2, .int .i64 k, .int .i64 8, .string nm, .slice G g1 g2], .agg #[.int .i64 q, .int .i64 n, .string st, .slice A a1 a2, .slice B b1 b2]] w (Ib (.int .i64 (if -128 ≤ n ∧ n ≤ 127 then 0 else 4)) w) := by
  by_cases h1 : n < -128
  · have d1 : decide (n < -128) = true := decide_eq_true h1
    rw [if_neg (by omega)]
    clear h1
    go_enter Try.func55, Try.ntmps55
    go_wp2_with (go_in)
    go_ret
    exact ⟨rfl, ab2 _ _ _⟩
  · have d1 : decide (n < -128) = false := decide_eq_false h1
    by_cases h2 : 127 < n
    · have d2 : decide (127 < n) = true := decide_eq_true h2
      rw [if_neg (by omega)]
      clear h1 h2
      go_enter Try.func55, Try.ntmps55
      go_wp2_with (go_in)
      go_ret
      exact ⟨rfl, ab2 _ _ _⟩
    · have d2 : decide (127 < n) = false := decide_eq_false h2
      rw [if_pos (by omega)]
      clear h1 h2
      go_enter Try.func55, Try.ntmps55
      go_wp2_with (go_in)
      go_ret
      exact ⟨rfl, ab2 _ _ _⟩
set_option maxRecDepth 100000 in
set_option maxHeartbeats 4000000 in
theorem signed16_any (v : Int) (E : Option Addr) (e1 e2 : Nat) (F : Option Addr) (f1 f2 : Nat) (k : Int) (nm : ByteArray) (G : Option Addr) (g1 g2 : Nat) (q n : Int) (st : ByteArray) (A : Option Addr) (a1 a2 : Nat) (B : Option Addr) (b1 b2 : Nat) (w : World) :
    Calls Try.prog 55 #[.agg #[.int .i64 v, .slice E e1 e2, .slice F f1 f2, .int .i64 k, .int .i64 16, .string nm, .slice G g1 g2], .agg #[.int .i64 q, .int .i64 n, .string st, .slice A a1 a2, .slice B b1 b2]] w (Ib (.int .i64 (if -32768 ≤ n ∧ n ≤ 32767 then 0 else 4)) w) := by
  by_cases h1 : n < -32768
  · have d1 : decide (n < -32768) = true := decide_eq_true h1
    rw [if_neg (by omega)]
    clear h1
    go_enter Try.func55, Try.ntmps55
    go_wp2_with (go_in)
    go_ret
    exact ⟨rfl, ab2 _ _ _⟩
  · have d1 : decide (n < -32768) = false := decide_eq_false h1
    by_cases h2 : 32767 < n
    · have d2 : decide (32767 < n) = true := decide_eq_true h2
      rw [if_neg (by omega)]
      clear h1 h2
      go_enter Try.func55, Try.ntmps55
      go_wp2_with (go_in)
      go_ret
      exact ⟨rfl, ab2 _ _ _⟩
    · have d2 : decide (32767 < n) = false := decide_eq_false h2
      rw [if_pos (by omega)]
      clear h1 h2
      go_enter Try.func55, Try.ntmps55
      go_wp2_with (go_in)
      go_ret
      exact ⟨rfl, ab2 _ _ _⟩
set_option maxRecDepth 100000 in
set_option maxHeartbeats 4000000 in
theorem signed32_any (v : Int) (E : Option Addr) (e1 e2 : Nat) (F : Option Addr) (f1 f2 : Nat) (k : Int) (nm : ByteArray) (G : Option Addr) (g1 g2 : Nat) (q n : Int) (st : ByteArray) (A : Option Addr) (a1 a2 : Nat) (B : Option Addr) (b1 b2 : Nat) (w : World) :
    Calls Try.prog 55 #[.agg #[.int .i64 v, .slice E e1 e2, .slice F f1 f2, .int .i64 k, .int .i64 32, .string nm, .slice G g1 g2], .agg #[.int .i64 q, .int .i64 n, .string st, .slice A a1 a2, .slice B b1 b2]] w (Ib (.int .i64 (if -2147483648 ≤ n ∧ n ≤ 2147483647 then 0 else 4)) w) := by
  by_cases h1 : n < -2147483648
  · have d1 : decide (n < -2147483648) = true := decide_eq_true h1
    rw [if_neg (by omega)]
    clear h1
    go_enter Try.func55, Try.ntmps55
    go_wp2_with (go_in)
    go_ret
    exact ⟨rfl, ab2 _ _ _⟩
  · have d1 : decide (n < -2147483648) = false := decide_eq_false h1
    by_cases h2 : 2147483647 < n
    · have d2 : decide (2147483647 < n) = true := decide_eq_true h2
      rw [if_neg (by omega)]
      clear h1 h2
      go_enter Try.func55, Try.ntmps55
      go_wp2_with (go_in)
      go_ret
      exact ⟨rfl, ab2 _ _ _⟩
    · have d2 : decide (2147483647 < n) = false := decide_eq_false h2
      rw [if_pos (by omega)]
      clear h1 h2
      go_enter Try.func55, Try.ntmps55
      go_wp2_with (go_in)
      go_ret
      exact ⟨rfl, ab2 _ _ _⟩
set_option maxRecDepth 100000 in
set_option maxHeartbeats 4000000 in
theorem signed64_any (v : Int) (E : Option Addr) (e1 e2 : Nat) (F : Option Addr) (f1 f2 : Nat) (k : Int) (nm : ByteArray) (G : Option Addr) (g1 g2 : Nat) (q n : Int) (st : ByteArray) (A : Option Addr) (a1 a2 : Nat) (B : Option Addr) (b1 b2 : Nat) (w : World) :
    Calls Try.prog 55 #[.agg #[.int .i64 v, .slice E e1 e2, .slice F f1 f2, .int .i64 k, .int .i64 64, .string nm, .slice G g1 g2], .agg #[.int .i64 q, .int .i64 n, .string st, .slice A a1 a2, .slice B b1 b2]] w (Ib (.int .i64 (if -9223372036854775808 ≤ n ∧ n ≤ 9223372036854775807 then 0 else 4)) w) := by
  by_cases h1 : n < -9223372036854775808
  · have d1 : decide (n < -9223372036854775808) = true := decide_eq_true h1
    rw [if_neg (by omega)]
    clear h1
    go_enter Try.func55, Try.ntmps55
    go_wp2_with (go_in)
    go_ret
    exact ⟨rfl, ab2 _ _ _⟩
  · have d1 : decide (n < -9223372036854775808) = false := decide_eq_false h1
    by_cases h2 : 9223372036854775807 < n
    · have d2 : decide (9223372036854775807 < n) = true := decide_eq_true h2
      rw [if_neg (by omega)]
      clear h1 h2
      go_enter Try.func55, Try.ntmps55
      go_wp2_with (go_in)
      go_ret
      exact ⟨rfl, ab2 _ _ _⟩
    · have d2 : decide (9223372036854775807 < n) = false := decide_eq_false h2
      rw [if_pos (by omega)]
      clear h1 h2
      go_enter Try.func55, Try.ntmps55
      go_wp2_with (go_in)
      go_ret
      exact ⟨rfl, ab2 _ _ _⟩
set_option maxRecDepth 100000 in
set_option maxHeartbeats 4000000 in
theorem crange_any (n lo hi : Int) (w : World) : Calls Try.prog 76 #[.int .i64 n, .int .i64 lo, .int .i64 hi] w (Is (.int .i64 (if lo ≤ n ∧ n ≤ hi then 0 else 4)) w) := by
  by_cases h1 : n < lo
  · have d1 : decide (n < lo) = true := decide_eq_true h1
    rw [if_neg (by omega)]
    clear h1
    go_enter Try.func76, Try.ntmps76
    go_wp2_with fail
    go_ret
    exact ⟨rfl, rfl⟩
  · have d1 : decide (n < lo) = false := decide_eq_false h1
    by_cases h2 : hi < n
    · have d2 : decide (hi < n) = true := decide_eq_true h2
      rw [if_neg (by omega)]
      clear h1 h2
      go_enter Try.func76, Try.ntmps76
      go_wp2_with fail
      go_ret
      exact ⟨rfl, rfl⟩
    · have d2 : decide (hi < n) = false := decide_eq_false h2
      rw [if_pos (by omega)]
      clear h1 h2
      go_enter Try.func76, Try.ntmps76
      go_wp2_with fail
      go_ret
      exact ⟨rfl, rfl⟩
set_option maxRecDepth 100000 in
set_option maxHeartbeats 4000000 in
theorem unsigned8_any (v : Int) (E : Option Addr) (e1 e2 : Nat) (F : Option Addr) (f1 f2 : Nat) (k : Int) (nm : ByteArray) (G : Option Addr) (g1 g2 : Nat) (q n : Int) (st : ByteArray) (A : Option Addr) (a1 a2 : Nat) (B : Option Addr) (b1 b2 : Nat) (w : World) :
    Calls Try.prog 56 #[.agg #[.int .i64 v, .slice E e1 e2, .slice F f1 f2, .int .i64 k, .int .i64 8, .string nm, .slice G g1 g2], .agg #[.int .i64 q, .int .i64 n, .string st, .slice A a1 a2, .slice B b1 b2]] w (Ib (.int .i64 (if 0 ≤ n ∧ n ≤ 255 then 0 else 4)) w) := by
  have e1 : IntKind.i64.wrap (IntKind.i64.wrap 256 - 1) = 255 := by decide
  have cR : ∀ W, Calls Try.prog 76 #[.int .i64 n, .int .i64 0, .int .i64 (IntKind.i64.wrap (IntKind.i64.wrap 256 - 1))] W (Is (.int .i64 (if 0 ≤ n ∧ n ≤ 255 then 0 else 4)) W) := fun W => by rw [e1]; exact crange_any n 0 255 W
  clear e1
  generalize (if (0 : Int) ≤ n ∧ n ≤ 255 then (0 : Int) else 4) = r at cR ⊢
  go_enter Try.func56, Try.ntmps56
  go_wp2_with fail
  go_quiet ((go_at_call 76; exact Calls.quiet_of_same ((cR _).mono fun _ _ h => ⟨h.1, h.2.symm⟩)))
  go_wp2_with fail
  go_ret
  exact ⟨rfl, below_drewN (ab2 _ _ _) _⟩
set_option maxRecDepth 100000 in
set_option maxHeartbeats 4000000 in
theorem unsigned16_any (v : Int) (E : Option Addr) (e1 e2 : Nat) (F : Option Addr) (f1 f2 : Nat) (k : Int) (nm : ByteArray) (G : Option Addr) (g1 g2 : Nat) (q n : Int) (st : ByteArray) (A : Option Addr) (a1 a2 : Nat) (B : Option Addr) (b1 b2 : Nat) (w : World) :
    Calls Try.prog 56 #[.agg #[.int .i64 v, .slice E e1 e2, .slice F f1 f2, .int .i64 k, .int .i64 16, .string nm, .slice G g1 g2], .agg #[.int .i64 q, .int .i64 n, .string st, .slice A a1 a2, .slice B b1 b2]] w (Ib (.int .i64 (if 0 ≤ n ∧ n ≤ 65535 then 0 else 4)) w) := by
  have e1 : IntKind.i64.wrap (IntKind.i64.wrap 65536 - 1) = 65535 := by decide
  have cR : ∀ W, Calls Try.prog 76 #[.int .i64 n, .int .i64 0, .int .i64 (IntKind.i64.wrap (IntKind.i64.wrap 65536 - 1))] W (Is (.int .i64 (if 0 ≤ n ∧ n ≤ 65535 then 0 else 4)) W) := fun W => by rw [e1]; exact crange_any n 0 65535 W
  clear e1
  generalize (if (0 : Int) ≤ n ∧ n ≤ 65535 then (0 : Int) else 4) = r at cR ⊢
  go_enter Try.func56, Try.ntmps56
  go_wp2_with fail
  go_quiet ((go_at_call 76; exact Calls.quiet_of_same ((cR _).mono fun _ _ h => ⟨h.1, h.2.symm⟩)))
  go_wp2_with fail
  go_ret
  exact ⟨rfl, below_drewN (ab2 _ _ _) _⟩
set_option maxRecDepth 100000 in
set_option maxHeartbeats 4000000 in
theorem unsigned32_any (v : Int) (E : Option Addr) (e1 e2 : Nat) (F : Option Addr) (f1 f2 : Nat) (k : Int) (nm : ByteArray) (G : Option Addr) (g1 g2 : Nat) (q n : Int) (st : ByteArray) (A : Option Addr) (a1 a2 : Nat) (B : Option Addr) (b1 b2 : Nat) (w : World) :
    Calls Try.prog 56 #[.agg #[.int .i64 v, .slice E e1 e2, .slice F f1 f2, .int .i64 k, .int .i64 32, .string nm, .slice G g1 g2], .agg #[.int .i64 q, .int .i64 n, .string st, .slice A a1 a2, .slice B b1 b2]] w (Ib (.int .i64 (if 0 ≤ n ∧ n ≤ 4294967295 then 0 else 4)) w) := by
  have e1 : IntKind.i64.wrap (IntKind.i64.wrap 4294967296 - 1) = 4294967295 := by decide
  have cR : ∀ W, Calls Try.prog 76 #[.int .i64 n, .int .i64 0, .int .i64 (IntKind.i64.wrap (IntKind.i64.wrap 4294967296 - 1))] W (Is (.int .i64 (if 0 ≤ n ∧ n ≤ 4294967295 then 0 else 4)) W) := fun W => by rw [e1]; exact crange_any n 0 4294967295 W
  clear e1
  generalize (if (0 : Int) ≤ n ∧ n ≤ 4294967295 then (0 : Int) else 4) = r at cR ⊢
  go_enter Try.func56, Try.ntmps56
  go_wp2_with fail
  go_quiet ((go_at_call 76; exact Calls.quiet_of_same ((cR _).mono fun _ _ h => ⟨h.1, h.2.symm⟩)))
  go_wp2_with fail
  go_ret
  exact ⟨rfl, below_drewN (ab2 _ _ _) _⟩
set_option maxRecDepth 100000 in
set_option maxHeartbeats 4000000 in
theorem text_any (v : Int) (E : Option Addr) (e1 e2 : Nat) (F : Option Addr) (f1 f2 : Nat) (k s : Int) (nm : ByteArray) (G : Option Addr) (g1 g2 : Nat) (q n : Int) (st : List UInt8) (A : Option Addr) (a1 a2 : Nat) (B : Option Addr) (b1 b2 : Nat) (w : World) :
    Calls Try.prog 57 #[.agg #[.int .i64 v, .slice E e1 e2, .slice F f1 f2, .int .i64 k, .int .i64 s, .string nm, .slice G g1 g2], .agg #[.int .i64 q, .int .i64 n, .string (bs st), .slice A a1 a2, .slice B b1 b2]] w (Ib (.int .i64 (if (st.length : Int) ≤ s then 0 else 3)) w) := by
  have hz : ((bs st).size : Int) = (st.length : Int) := rfl
  by_cases h1 : s < (st.length : Int)
  · have d1 : decide (s < (st.length : Int)) = true := decide_eq_true h1
    rw [if_neg (by omega)]
    clear h1
    go_enter Try.func57, Try.ntmps57
    go_wp2_with fail
    go_ret
    exact ⟨rfl, ab2 _ _ _⟩
  · have d1 : decide (s < (st.length : Int)) = false := decide_eq_false h1
    rw [if_pos (by omega)]
    clear h1
    go_enter Try.func57, Try.ntmps57
    go_wp2_with fail
    go_ret
    exact ⟨rfl, ab2 _ _ _⟩
end Go.Proofs.Ytlebppjldoodgaa

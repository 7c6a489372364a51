import Derived.Test.YtlebppjldoodgaaYh
/-
  The developers' field and Field, the reference's Field. No conditions beyond those that each names.
-/
namespace Go.Proofs.Ytlebppjldoodgaa
open Go.RowKit Go.Sort
/-- The value of the first entry with this number. -/
def fvl (t : Vl) (z : Int) : Option Vl := if t.kind = 6 then (t.f.find? fun x => (x.1 == z)).map Prod.snd else none
def vl0 : Vl := .mk 0 0 [] [] []
def FdP (o : Option Vl) (w : World) (e : Ending) (w' : World) : Prop := ∃ s, e = .returned (.tuple #[.agg #[.int .i64 (o.getD vl0).kind, .int .i64 (o.getD vl0).n, .string (bs (o.getD vl0).s), .slice s.A (o.getD vl0).l.length s.c, .slice s.B (o.getD vl0).f.length s.d], .bool o.isSome]) ∧ RdV w' (o.getD vl0) s ∧ Below w.heap.size w w'
theorem rd0 (w : World) : RdV w vl0 ⟨none, 0, none, 0⟩ := ⟨.inl rfl, .inl rfl⟩
/-- The same, its lists where they lay in an elder world. -/
def FdQ (W0 : World) (o : Option Vl) (w : World) (e : Ending) (w' : World) : Prop := ∃ s, e = .returned (.tuple #[.agg #[.int .i64 (o.getD vl0).kind, .int .i64 (o.getD vl0).n, .string (bs (o.getD vl0).s), .slice s.A (o.getD vl0).l.length s.c, .slice s.B (o.getD vl0).f.length s.d], .bool o.isSome]) ∧ RdV W0 (o.getD vl0) s ∧ Below w.heap.size w w'
theorem FdQ.none_ {W0 w w' : World} (hb : Below w.heap.size w w') : FdQ W0 none w (.returned (.tuple #[.agg #[.int .i64 0, .int .i64 0, .string ⟨#[]⟩, .slice none 0 0, .slice none 0 0], .bool false])) w' := ⟨⟨none, 0, none, 0⟩, rfl, rd0 _, hb⟩
theorem FdQ.some_ {W0 w w' : World} {u : Vl} {s : Sb} (hr : RdV W0 u s) (hb : Below w.heap.size w w') : FdQ W0 (some u) w (.returned (.tuple #[.agg #[.int .i64 u.kind, .int .i64 u.n, .string (bs u.s), .slice s.A u.l.length s.c, .slice s.B u.f.length s.d], .bool true])) w' := ⟨s, rfl, hr, hb⟩
theorem FdP.none_ {w w' : World} (hb : Below w.heap.size w w') : FdP none w (.returned (.tuple #[.agg #[.int .i64 0, .int .i64 0, .string ⟨#[]⟩, .slice none 0 0, .slice none 0 0], .bool false])) w' := ⟨⟨none, 0, none, 0⟩, rfl, rd0 _, hb⟩
theorem FdP.some_ {w w' : World} {u : Vl} {s : Sb} (hr : RdV w' u s) (hb : Below w.heap.size w w') : FdP (some u) w (.returned (.tuple #[.agg #[.int .i64 u.kind, .int .i64 u.n, .string (bs u.s), .slice s.A u.l.length s.c, .slice s.B u.f.length s.d], .bool true])) w' := ⟨s, rfl, hr, hb⟩
theorem gb5 {W w' : World} (hb : Below W.heap.size W w') {b : Nat} (hle : W.heap.size ≤ b) (v0 v1 v2 v3 v4 : Value) : Below W.heap.size W (((((w'.setCell ⟨b, 0, none⟩ v0).setCell ⟨b, 1, none⟩ v1).setCell ⟨b, 2, none⟩ v2).setCell ⟨b, 3, none⟩ v3).setCell ⟨b, 4, none⟩ v4) :=
  ((((hb.setCell hle v0).setCell hle v1).setCell hle v2).setCell hle v3).setCell hle v4
theorem VlA.sb {w : World} {t : Vl} {p : Addr} (h : VlA w t p) : ∃ s : Sb, w.cell? p = some (.int .i64 t.kind) ∧ w.cell? (nx1 p 1) = some (.int .i64 t.n) ∧ w.cell? (nx1 p 2) = some (.string (bs t.s)) ∧ w.cell? (nx1 p 3) = some (.slice s.A t.l.length s.c) ∧ w.cell? (nx1 p 4) = some (.slice s.B t.f.length s.d) ∧ RdV w t s := by
  obtain ⟨h0, h1, h2, ⟨A, c, h3, h4⟩, A2, c2, h5, h6⟩ := h.cells
  exact ⟨⟨A, c, A2, c2⟩, h0, h1, h2, h3, h5, h4, h6⟩
theorem EtA.sb {w : World} {x : Int × Vl} {p : Addr} (h : EtA w x p) : ∃ s : Sb, w.cell? p = some (.int .i64 x.1) ∧ w.cell? (nx1 p 1) = some (.int .i64 x.2.kind) ∧ w.cell? (nx1 p 2) = some (.int .i64 x.2.n) ∧ w.cell? (nx1 p 3) = some (.string (bs x.2.s)) ∧ w.cell? (nx1 p 4) = some (.slice s.A x.2.l.length s.c) ∧ w.cell? (nx1 p 5) = some (.slice s.B x.2.f.length s.d) ∧ RdV w x.2 s := by
  obtain ⟨h0, h⟩ := h
  obtain ⟨s, h1, h2, h3, h4, h5, h6⟩ := h.sb
  exact ⟨s, h0, h1, h2, h3, h4, h5, h6⟩
theorem find_ix {α : Type} {p : α → Bool} {l : List α} : l.find? p = (l.findIdx? p).bind fun i => l[i]? := by
  induction l with
  | nil => rfl
  | cons a l ih =>
    rw [List.find?_cons, List.findIdx?_cons]
    cases h : p a with
    | true => rfl
    | false =>
      rw [ih]
      cases l.findIdx? p <;> simp
set_option maxRecDepth 100000 in
set_option maxHeartbeats 4000000 in
theorem field_any (t : Vl) (z : Int) (v : Value) (W0 w : World) (hb0 : Below W0.heap.size W0 w) (hok : t.f.length ≤ 2000000) (hv : VlV W0 t v) :
    Calls Try.prog 47 #[v, .int .i64 z] w (FdQ W0 (fvl t z) w) := by
  obtain ⟨A, c, B, d, rfl, hR, hR2⟩ := hv
  obtain ⟨m, hm⟩ : ∃ m, t.l.length = m := ⟨_, rfl⟩
  obtain ⟨n, hn⟩ : ∃ n, t.f.length = n := ⟨_, rfl⟩
  have cI := fun W (h : Below w.heap.size w W) => indexOf_any t.f B d z W (by omega) (hR2.next fun x p => EtA.next (Below.next hb0 h) x p)
  obtain ⟨o, ho⟩ : ∃ o, t.f.findIdx? (fun x => (x.1 == z)) = o := ⟨_, rfl⟩
  rw [ho, hn] at cI
  have hF : fvl t z = if t.kind = 6 then (o.bind fun i => t.f[i]?).map Prod.snd else none := by unfold fvl; rw [find_ix, ho]
  have HO : Hid (∀ i, o = some i → i < t.f.length) := Lib.hid fun i e => by rw [e, List.findIdx?_eq_some_iff_getElem] at ho; exact ho.1
  rw [hm, hn]
  rw [hn] at hok
  have HN := Lib.hid hn
  have z1 : (w.alloc (Obj.cells #[.int .i64 t.kind, .int .i64 t.n, .string (bs t.s), .slice A m c, .slice B n d] 25)).heap.size = w.heap.size + 1 := by simp
  have hab := ab2 w (Obj.cells #[.int .i64 t.kind, .int .i64 t.n, .string (bs t.s), .slice A m c, .slice B n d] 25) (Obj.cells #[.int .i64 0, .int .i64 0, .string ⟨#[]⟩, .slice none 0 0, .slice none 0 0] 25)
  have C1 := (Bx.new5 w 25 (.int .i64 t.kind) (.int .i64 t.n) (.string (bs t.s)) (.slice A m c) (.slice B n d)).next (ab1 _ (Obj.cells #[.int .i64 0, .int .i64 0, .string ⟨#[]⟩, .slice none 0 0, .slice none 0 0] 25))
  have C2 := Bx.new5 (w.alloc (Obj.cells #[.int .i64 t.kind, .int .i64 t.n, .string (bs t.s), .slice A m c, .slice B n d] 25)) 25 (.int .i64 0) (.int .i64 0) (.string ⟨#[]⟩) (.slice none 0 0) (.slice none 0 0)
  rw [z1] at C2
  have cI2 := cI _ hab
  clear cI hm hn hR z1 ho
  have r0 := C2.c 0 rfl
  have r1 := C2.c 1 rfl
  have r2 := C2.c 2 rfl
  have r3 := C2.c 3 rfl
  have r4 := C2.c 4 rfl
  have q0 := C2.f 0 rfl
  have q1 := C2.f 1 rfl
  have q2 := C2.f 2 rfl
  have q3 := C2.f 3 rfl
  have q4 := C2.f 4 rfl
  have l2 := C2.lt
  by_cases h6 : t.kind = 6
  case neg =>
    have d6 : (t.kind != 6) = true := by simpa using h6
    rw [if_neg h6] at hF
    rw [hF]
    clear h6 hF hR2 cI2
    go_enter Try.func47, Try.ntmps47
    go_wp2_with fail
    exact bodyPost_ret (v := .tuple #[.agg #[.int .i64 0, .int .i64 0, .string ⟨#[]⟩, .slice none 0 0, .slice none 0 0], .bool false]) (by simp [results, Try.results47, go_sem, r0, r1, r2, r3, r4]) rfl (FdQ.none_ hab)
  case pos =>
  have d6 : (t.kind != 6) = false := by simpa using h6
  rw [if_pos h6] at hF
  rw [hF]
  clear h6 hF
  cases o with
  | none =>
    clear HO HN hR2
    go_enter Try.func47, Try.ntmps47
    go_wp2_with fail
    refine cI2.mono ?_
    rintro e w2 ⟨rfl, hb2⟩
    have E2 := C2.next hb2
    have hab2 := Below.next hab hb2
    clear cI2 r0 r1 r2 r3 r4 q0 q1 q2 q3 q4
    have r0 := E2.c 0 rfl
    have r1 := E2.c 1 rfl
    have r2 := E2.c 2 rfl
    have r3 := E2.c 3 rfl
    have r4 := E2.c 4 rfl
    have q0 := E2.f 0 rfl
    have q1 := E2.f 1 rfl
    have q2 := E2.f 2 rfl
    have q3 := E2.f 3 rfl
    have q4 := E2.f 4 rfl
    have l3 := E2.lt
    simp only [ixI]
    go_wp2_with fail
    exact bodyPost_ret (v := .tuple #[.agg #[.int .i64 0, .int .i64 0, .string ⟨#[]⟩, .slice none 0 0, .slice none 0 0], .bool false]) (by simp [results, Try.results47, go_sem, r0, r1, r2, r3, r4]) rfl (FdQ.none_ (gb5 hab2 (Nat.le_succ _) _ _ _ _ _))
  | some i =>
    have hi := HO.out i rfl
    have hin : i < n := by rw [← HN.out]; exact hi
    have hx : ((some i).bind fun i => t.f[i]?).map Prod.snd = some (t.f[i]'hi).2 := by simp [List.getElem?_eq_getElem hi]
    rw [hx]
    obtain ⟨a, rfl, hA⟩ := hR2.get hi
    obtain ⟨s, x0, x1, x2, x3, x4, x5, hrd⟩ := hA.sb
    obtain ⟨num, hnum⟩ : ∃ num, (t.f[i]'hi).1 = num := ⟨_, rfl⟩
    rw [hnum] at x0
    obtain ⟨u, hu⟩ : ∃ u, (t.f[i]'hi).2 = u := ⟨_, rfl⟩
    rw [hu] at x1 x2 x3 x4 x5 hrd ⊢
    clear hx hR2 HO hA hu hnum
    go_enter Try.func47, Try.ntmps47
    go_wp2_with fail
    refine cI2.mono ?_
    rintro e w2 ⟨rfl, hb2⟩
    have E1 := C1.next hb2
    have E2 := C2.next hb2
    have hab2 := Below.next hab hb2
    clear cI2 r0 r1 r2 r3 r4 q0 q1 q2 q3 q4
    have c4 := E1.c 4 rfl
    have r0 := E2.c 0 rfl
    have r1 := E2.c 1 rfl
    have r2 := E2.c 2 rfl
    have r3 := E2.c 3 rfl
    have r4 := E2.c 4 rfl
    have q0 := E2.f 0 rfl
    have q1 := E2.f 1 rfl
    have q2 := E2.f 2 rfl
    have q3 := E2.f 3 rfl
    have q4 := E2.f 4 rfl
    have l3 := E2.lt
    replace x0 := cell_next (Below.next hb0 hab2) x0
    replace x1 := cell_next (Below.next hb0 hab2) x1
    replace x2 := cell_next (Below.next hb0 hab2) x2
    replace x3 := cell_next (Below.next hb0 hab2) x3
    replace x4 := cell_next (Below.next hb0 hab2) x4
    replace x5 := cell_next (Below.next hb0 hab2) x5
    have hblk : (a.add (i * 6)).block < w2.heap.size := blk_lt x0
    have d0 : decide ((i : Int) < 0) = false := decide_eq_false (by omega)
    simp only [ixI]
    go_wp2_with fail
    have hfin := gb5 hab2 (b := w.heap.size + 1) (Nat.le_succ _) (.int .i64 u.kind) (.int .i64 u.n) (.string (bs u.s)) (.slice s.A u.l.length s.c) (.slice s.B u.f.length s.d)
    exact bodyPost_ret (v := .tuple #[.agg #[.int .i64 u.kind, .int .i64 u.n, .string (bs u.s), .slice s.A u.l.length s.c, .slice s.B u.f.length s.d], .bool true]) (by simp [results, Try.results47, go_sem, r0, r1, r2, r3, r4]) rfl (FdQ.some_ hrd hfin)
theorem fvl_mem {t : Vl} {z : Int} {u : Vl} (h : fvl t z = some u) : ∃ x ∈ t.f, x.2 = u := by
  unfold fvl at h
  split at h
  · rw [Option.map_eq_some_iff] at h
    obtain ⟨x, h1, h2⟩ := h
    exact ⟨x, List.mem_of_find?_eq_some h1, h2⟩
  · cases h
theorem fvl_sz (t : Vl) (z : Int) : sz ((fvl t z).getD vl0) ≤ sz t := by
  cases h : fvl t z with
  | none => exact sz_pos t
  | some u =>
    obtain ⟨x, hx, rfl⟩ := fvl_mem h
    obtain ⟨i, hi, rfl⟩ := List.mem_iff_getElem.1 hx
    have := sz_f hi
    show sz (t.f[i]'hi).2 ≤ _
    omega
end Go.Proofs.Ytlebppjldoodgaa

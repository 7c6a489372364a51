import Derived.Test.YtlebppjldoodgaaIc
import Derived.Test.YtlebppjldoodgaaYo
import Derived.Test.YtlebppjldoodgaaIw
/-
  The developers' With, of any value. No conditions beyond those that each names.
-/
namespace Go.Proofs.Ytlebppjldoodgaa
open Go.RowKit Go.Shelf Go.Sort
/-- Entries with a number set. -/
def insF (f : List (Int × Vl)) (z : Int) (x : Vl) : List (Int × Vl) :=
  match f.findIdx? (fun e => e.1 == z) with
  | some i => f.set i (z, x)
  | none => match f.findIdx? (fun e => decide (z < e.1)) with
    | some i => f.take i ++ (z, x) :: f.drop i
    | none => f ++ [(z, x)]
theorem own_ge2 {base : Nat} {w : World} {e : TypeId} {z n : Nat} {v : Value} {xs : List Value} (h : w.ownsRow base e z v n xs) {g : Nat} (hg : v.ownBlock = some g) : base ≤ g := by
  rcases h.2 with ⟨rfl, -⟩ | ⟨g', cap, cur, rfl, h2, -⟩
  · simp [Value.ownBlock] at hg
  · simp [Value.ownBlock] at hg
    rw [← hg]
    exact h2
def wth (t : Vl) (z : Int) (x : Vl) : Vl := if t.kind = 6 then .mk t.kind t.n t.s t.l (insF t.f z x) else t
theorem encE_one (x : Int × Vl) (s : Sb) : ∀ u ∈ encE x s, u.oneCell' = true := fun u hu => by
  simp only [encE, List.mem_cons, List.not_mem_nil, or_false] at hu
  rcases hu with rfl | rfl | rfl | rfl | rfl | rfl <;> rfl
theorem IL.one {P : Nat → Int × Vl → Sb → Prop} {l : List (Int × Vl)} {xs : List Value} (h : IL 6 encE P l xs) : ∀ u ∈ xs, u.oneCell' = true := fun u hu => by
  obtain ⟨q, hq, rfl⟩ := List.getElem_of_mem hu
  have h1 := h.1
  have hj : q / 6 < l.length := by omega
  obtain ⟨b, hb, -⟩ := h.2 _ hj
  have h2 := hb (q % 6) (Nat.mod_lt _ (by decide))
  rw [show q / 6 * 6 + q % 6 = q by omega, List.getElem?_eq_getElem hq] at h2
  exact encE_one _ b _ (List.mem_of_getElem? h2.symm)
theorem IL.insert {P : Int × Vl → Sb → Prop} {l : List (Int × Vl)} {xs : List Value} (h : IL 6 encE (fun _ x s => P x s) l xs) (i : Nat) (hi : i ≤ l.length) (y : Int × Vl) (b : Sb) (hP : P y b) : IL 6 encE (fun _ x s => P x s) (l.take i ++ y :: l.drop i) (xs.take (i * 6) ++ encE y b ++ xs.drop (i * 6)) := by
  have h1 := h.1
  have hx : (xs.take (i * 6)).length = i * 6 := by rw [List.length_take]; omega
  have hl : (l.take i).length = i := by rw [List.length_take]; omega
  have he : (encE y b).length = 6 := rfl
  refine ⟨by simp only [List.length_append, List.length_cons, List.length_drop, hx, hl, he]; omega, fun j hj => ?_⟩
  simp only [List.length_append, List.length_cons, List.length_drop, hl] at hj
  rcases Nat.lt_trichotomy j i with c | c | c
  · obtain ⟨b', h2, h3⟩ := h.2 j (by omega)
    have e : (l.take i ++ y :: l.drop i)[j]'(by simp only [List.length_append, List.length_cons, List.length_drop, hl]; omega) = l[j]'(by omega) := by
      rw [List.getElem_append_left (by omega), List.getElem_take]
    rw [e]
    refine ⟨b', fun q hq => ?_, h3⟩
    rw [List.append_assoc, List.getElem?_append_left (by rw [hx]; omega), List.getElem?_take, if_pos (by omega)]
    exact h2 q hq
  · subst c
    have e : (l.take j ++ y :: l.drop j)[j]'(by simp only [List.length_append, List.length_cons, List.length_drop, hl]; omega) = y := by
      rw [List.getElem_append_right (by omega)]
      simp [hl]
    rw [e]
    refine ⟨b, fun q hq => ?_, hP⟩
    rw [List.append_assoc, List.getElem?_append_right (by rw [hx]; omega), List.getElem?_append_left (by rw [hx, he]; omega), hx, show j * 6 + q - j * 6 = q by omega]
  · obtain ⟨b', h2, h3⟩ := h.2 (j - 1) (by omega)
    have e : (l.take i ++ y :: l.drop i)[j]'(by simp only [List.length_append, List.length_cons, List.length_drop, hl]; omega) = l[j - 1]'(by omega) := by
      rw [List.getElem_append_right (by omega)]
      simp only [hl]
      rw [List.getElem_cons, dif_neg (by omega), List.getElem_drop]
      congr 1
      omega
    rw [e]
    refine ⟨b', fun q hq => ?_, h3⟩
    rw [List.getElem?_append_right (by rw [List.length_append, hx, he]; omega), List.length_append, hx, he, List.getElem?_drop, show i * 6 + (j * 6 + q - (i * 6 + 6)) = (j - 1) * 6 + q by omega]
    exact h2 q hq
/-- What the last part of With hands out. -/
theorem wtP_of {t u : Vl} {w w' : World} {A B : Option Addr} {c d n : Nat} (hn : u.f.length = n) (hl : u.l = t.l) (hk : u.kind = t.kind) (hu : u.n = t.n) (hs : u.s = t.s) (h1 : Rw VlA 5 w' t.l A) (h2 : Rw EtA 6 w' u.f B) (hb : Below w.heap.size w w') : WtP u w (.returned (.agg #[.int .i64 t.kind, .int .i64 t.n, .string (bs t.s), .slice A t.l.length c, .slice B n d])) w' :=
  ⟨⟨A, c, B, d⟩, by rw [hk, hu, hs, hl, hn], ⟨by rw [hl]; exact h1, h2⟩, hb⟩
theorem Bx.gbo {w w' : World} {b : Nat} {vs : List Value} {q : Option Nat} (h : Bx w b vs) (hg : w.grownBy w' q) (hn : ∀ g, q = some g → b ≠ g) : Bx w' b vs := by
  cases q with
  | none => exact h.next (below_of_gb hg)
  | some g => exact h.gb hg (hn g rfl)
theorem alloc_at (w : World) (o : Obj) : (w.alloc o).heap[w.heap.size]? = some o := by
  show (w.heap.push o)[w.heap.size]? = _
  simp
theorem ixI_none : ixI none = -1 := rfl
theorem ixI_some (i : Nat) : ixI (some i) = (i : Int) := rfl
set_option maxRecDepth 100000 in
set_option maxHeartbeats 8000000 in
theorem devWith_any (t x : Vl) (z : Int) (v u : Value) (w : World) (hzt : sz t ≤ 1048576) (hzx : sz x ≤ 1048576) (hv : VlV w t v) (hu : VlV w x u) :
    Calls Try.prog 16 #[v, .int .i64 z, u] w (WtP (wth t z x) w) := by
  have cT := fun W h => renew_any (SizeOf.sizeOf t + 1) t v W (by omega) (by omega) (hv.next h)
  have cX := fun W h => (renew_any (SizeOf.sizeOf x + 1) x u W (by omega) (by omega) (hu.next h)).mono fun _ _ => ReS.weak
  obtain ⟨A, c, B, d, rfl, -, -⟩ := hv
  obtain ⟨C, c2, D, d2, rfl, -, -⟩ := hu
  have D1 := (Bx.new5 w 25 (.int .i64 t.kind) (.int .i64 t.n) (.string (bs t.s)) (.slice A t.l.length c) (.slice B t.f.length d)).next (ab3 _ (Obj.cells #[.int .i64 z] 3) (Obj.cells #[.int .i64 x.kind, .int .i64 x.n, .string (bs x.s), .slice C x.l.length c2, .slice D x.f.length d2] 25) (Obj.cells #[.int .i64 0, .int .i64 0, .string ⟨#[]⟩, .slice none 0 0, .slice none 0 0] 25))
  have D2 := (Bx.new1 (w.alloc (Obj.cells #[.int .i64 t.kind, .int .i64 t.n, .string (bs t.s), .slice A t.l.length c, .slice B t.f.length d] 25)) 3 (.int .i64 z)).next (ab2 _ (Obj.cells #[.int .i64 x.kind, .int .i64 x.n, .string (bs x.s), .slice C x.l.length c2, .slice D x.f.length d2] 25) (Obj.cells #[.int .i64 0, .int .i64 0, .string ⟨#[]⟩, .slice none 0 0, .slice none 0 0] 25))
  have D3 := (Bx.new5 ((w.alloc (Obj.cells #[.int .i64 t.kind, .int .i64 t.n, .string (bs t.s), .slice A t.l.length c, .slice B t.f.length d] 25)).alloc (Obj.cells #[.int .i64 z] 3)) 25 (.int .i64 x.kind) (.int .i64 x.n) (.string (bs x.s)) (.slice C x.l.length c2) (.slice D x.f.length d2)).next (ab1 _ (Obj.cells #[.int .i64 0, .int .i64 0, .string ⟨#[]⟩, .slice none 0 0, .slice none 0 0] 25))
  have D4 := Bx.new5 (((w.alloc (Obj.cells #[.int .i64 t.kind, .int .i64 t.n, .string (bs t.s), .slice A t.l.length c, .slice B t.f.length d] 25)).alloc (Obj.cells #[.int .i64 z] 3)).alloc (Obj.cells #[.int .i64 x.kind, .int .i64 x.n, .string (bs x.s), .slice C x.l.length c2, .slice D x.f.length d2] 25)) 25 (.int .i64 0) (.int .i64 0) (.string ⟨#[]⟩) (.slice none 0 0) (.slice none 0 0)
  have z1 : (w.alloc (Obj.cells #[.int .i64 t.kind, .int .i64 t.n, .string (bs t.s), .slice A t.l.length c, .slice B t.f.length d] 25)).heap.size = w.heap.size + 1 := by simp
  have z2 : ((w.alloc (Obj.cells #[.int .i64 t.kind, .int .i64 t.n, .string (bs t.s), .slice A t.l.length c, .slice B t.f.length d] 25)).alloc (Obj.cells #[.int .i64 z] 3)).heap.size = w.heap.size + 1 + 1 := by simp
  have z3 : (((w.alloc (Obj.cells #[.int .i64 t.kind, .int .i64 t.n, .string (bs t.s), .slice A t.l.length c, .slice B t.f.length d] 25)).alloc (Obj.cells #[.int .i64 z] 3)).alloc (Obj.cells #[.int .i64 x.kind, .int .i64 x.n, .string (bs x.s), .slice C x.l.length c2, .slice D x.f.length d2] 25)).heap.size = w.heap.size + 1 + 1 + 1 := by simp
  have z4 : ((((w.alloc (Obj.cells #[.int .i64 t.kind, .int .i64 t.n, .string (bs t.s), .slice A t.l.length c, .slice B t.f.length d] 25)).alloc (Obj.cells #[.int .i64 z] 3)).alloc (Obj.cells #[.int .i64 x.kind, .int .i64 x.n, .string (bs x.s), .slice C x.l.length c2, .slice D x.f.length d2] 25)).alloc (Obj.cells #[.int .i64 0, .int .i64 0, .string ⟨#[]⟩, .slice none 0 0, .slice none 0 0] 25)).heap.size = w.heap.size + 1 + 1 + 1 + 1 := by simp
  rw [z1] at D2
  rw [z2] at D3
  rw [z3] at D4
  have hab := Below.next (ab3 w (Obj.cells #[.int .i64 t.kind, .int .i64 t.n, .string (bs t.s), .slice A t.l.length c, .slice B t.f.length d] 25) (Obj.cells #[.int .i64 z] 3) (Obj.cells #[.int .i64 x.kind, .int .i64 x.n, .string (bs x.s), .slice C x.l.length c2, .slice D x.f.length d2] 25)) (ab1 _ (Obj.cells #[.int .i64 0, .int .i64 0, .string ⟨#[]⟩, .slice none 0 0, .slice none 0 0] 25))
  go_enter Try.func16, Try.ntmps16
  go_upto_region 1 with (fail)
  generalize (((w.alloc (Obj.cells #[.int .i64 t.kind, .int .i64 t.n, .string (bs t.s), .slice A t.l.length c, .slice B t.f.length d] 25)).alloc (Obj.cells #[.int .i64 z] 3)).alloc (Obj.cells #[.int .i64 x.kind, .int .i64 x.n, .string (bs x.s), .slice C x.l.length c2, .slice D x.f.length d2] 25)).alloc (Obj.cells #[.int .i64 0, .int .i64 0, .string ⟨#[]⟩, .slice none 0 0, .slice none 0 0] 25) = w0 at *
  have c0 := D1.c 0 rfl
  have c1 := D1.c 1 rfl
  have c2' := D1.c 2 rfl
  have c3 := D1.c 3 rfl
  have c4 := D1.c 4 rfl
  clear z1 z2 z3
  go_wp2_with fail
  refine (cT _ hab).mono ?_
  rintro e w1 ⟨hi, A2, cA, B2, dB, xs, rfl, hhi, hLp, hBp, hIL, hown, hb1⟩
  have D1' := D1.next hb1
  have D2' := D2.next hb1
  have D3' := D3.next hb1
  have D4' := D4.next hb1
  have f0 := D1'.f 0 rfl
  have f1 := D1'.f 1 rfl
  have f2 := D1'.f 2 rfl
  have f3 := D1'.f 3 rfl
  have f4 := D1'.f 4 rfl
  have l1 := D1'.lt
  have c0 := D1'.c 0 rfl
  have c1 := D1'.c 1 rfl
  have c2' := D1'.c 2 rfl
  have c3 := D1'.c 3 rfl
  have c4 := D1'.c 4 rfl
  have hg5 := gb_set5 w1 w.heap.size (.int .i64 t.kind) (.int .i64 t.n) (.string (bs t.s)) (.slice A2 t.l.length cA) (.slice B2 t.f.length dB)
  have E1 := D1'.put5 (.int .i64 t.kind) (.int .i64 t.n) (.string (bs t.s)) (.slice A2 t.l.length cA) (.slice B2 t.f.length dB)
  have E2 := D2'.gb hg5 (by omega)
  have E3 := D3'.gb hg5 (by omega)
  have E4 := D4'.gb hg5 (by omega)
  have hb2 := gb5 (Below.next hab hb1) (b := w.heap.size) (Nat.le_refl _) (.int .i64 t.kind) (.int .i64 t.n) (.string (bs t.s)) (.slice A2 t.l.length cA) (.slice B2 t.f.length dB)
  have hK : Kpl w0.heap.size w1 (((((w1.setCell ⟨w.heap.size, 0, none⟩ (.int .i64 t.kind)).setCell ⟨w.heap.size, 1, none⟩ (.int .i64 t.n)).setCell ⟨w.heap.size, 2, none⟩ (.string (bs t.s))).setCell ⟨w.heap.size, 3, none⟩ (.slice A2 t.l.length cA)).setCell ⟨w.heap.size, 4, none⟩ (.slice B2 t.f.length dB)) := Kpl.gb hg5 (by omega)
  have hL2 := fun w' k => hLp w' ((Kpx.of hK).trans k)
  have hI2 : IL 6 encE (fun _ x s => NwV hi (((((w1.setCell ⟨w.heap.size, 0, none⟩ (.int .i64 t.kind)).setCell ⟨w.heap.size, 1, none⟩ (.int .i64 t.n)).setCell ⟨w.heap.size, 2, none⟩ (.string (bs t.s))).setCell ⟨w.heap.size, 3, none⟩ (.slice A2 t.l.length cA)).setCell ⟨w.heap.size, 4, none⟩ (.slice B2 t.f.length dB)) x.2 s) t.f xs := hIL.mono fun j hj s h => NwV.next h (hK.mono hhi)
  have hO2 := hown.kept hg5 (by
    cases hq : (Value.slice B2 t.f.length dB).ownBlock with
    | none => exact .inl rfl
    | some g => exact .inr (fun e => by injection e with e; have := own_ge2 hown hq; omega))
  have hBlt : ∀ g, (Value.slice B2 t.f.length dB).ownBlock = some g → g < w1.heap.size := fun g hg => by
    obtain ⟨B3, rfl⟩ : ∃ B3, B2 = some B3 := by cases B2 with | none => simp [Value.ownBlock] at hg | some B3 => exact ⟨B3, rfl⟩
    simp [Value.ownBlock] at hg
    rcases hown.2 with ⟨h, -⟩ | ⟨b', cap, cur, h, -, h2, -⟩
    · cases h
    · injection h with h; injection h with h; subst h; subst hg
      exact (Array.getElem?_eq_some_iff.1 h2).1
  clear hLp hIL hown hK D1 D2 D3 D4 D1' D2' D3' D4'
  have hsz2 := hg5.size
  clear hg5
  go_upto_region 2 with (fail)
  clear c0 c1 c2' c3 c4 f0 f1 f2 f3 f4 l1
  generalize (((((w1.setCell ⟨w.heap.size, 0, none⟩ (.int .i64 t.kind)).setCell ⟨w.heap.size, 1, none⟩ (.int .i64 t.n)).setCell ⟨w.heap.size, 2, none⟩ (.string (bs t.s))).setCell ⟨w.heap.size, 3, none⟩ (.slice A2 t.l.length cA)).setCell ⟨w.heap.size, 4, none⟩ (.slice B2 t.f.length dB)) = w2 at *
  by_cases h6 : t.kind = 6
  case neg =>
    have d6 : (t.kind != 6) = true := by simpa using h6
    have hw : wth t z x = t := by unfold wth; rw [if_neg h6]
    have HW := Lib.hid hw
    clear h6 hw
    have hbF := hb2
    have s0 := E1.c 0 rfl
    have s1 := E1.c 1 rfl
    have s2 := E1.c 2 rfl
    have s3 := E1.c 3 rfl
    have s4 := E1.c 4 rfl
    have r0 := E4.c 0 rfl
    have r1 := E4.c 1 rfl
    have r2 := E4.c 2 rfl
    have r3 := E4.c 3 rfl
    have r4 := E4.c 4 rfl
    have q0 := E4.f 0 rfl
    have q1 := E4.f 1 rfl
    have q2 := E4.f 2 rfl
    have q3 := E4.f 3 rfl
    have q4 := E4.f 4 rfl
    have l1 := E1.lt
    have l2 := E4.lt
    have hrl : w.heap.size + 1 + 1 + 1 < w0.heap.size := by omega
    have hK := (((((Kpl.refl w0.heap.size w2).set (p := ⟨w.heap.size + 1 + 1 + 1, 0, none⟩) hrl (.int .i64 t.kind)).set (p := ⟨w.heap.size + 1 + 1 + 1, 1, none⟩) hrl (.int .i64 t.n)).set (p := ⟨w.heap.size + 1 + 1 + 1, 2, none⟩) hrl (.string (bs t.s))).set (p := ⟨w.heap.size + 1 + 1 + 1, 3, none⟩) hrl (.slice A2 t.l.length cA)).set (p := ⟨w.heap.size + 1 + 1 + 1, 4, none⟩) hrl (.slice B2 t.f.length dB)
    have hbG := (((((hbF.setCell (p := ⟨w.heap.size + 1 + 1 + 1, 0, none⟩) (by show _ ≤ w.heap.size + 1 + 1 + 1; omega) (.int .i64 t.kind)).setCell (p := ⟨w.heap.size + 1 + 1 + 1, 1, none⟩) (by show _ ≤ w.heap.size + 1 + 1 + 1; omega) (.int .i64 t.n)).setCell (p := ⟨w.heap.size + 1 + 1 + 1, 2, none⟩) (by show _ ≤ w.heap.size + 1 + 1 + 1; omega) (.string (bs t.s))).setCell (p := ⟨w.heap.size + 1 + 1 + 1, 3, none⟩) (by show _ ≤ w.heap.size + 1 + 1 + 1; omega) (.slice A2 t.l.length cA)).setCell (p := ⟨w.heap.size + 1 + 1 + 1, 4, none⟩) (by show _ ≤ w.heap.size + 1 + 1 + 1; omega) (.slice B2 t.f.length dB))
    go_wp2_with fail
    refine bodyPost_ret (v := .agg #[.int .i64 t.kind, .int .i64 t.n, .string (bs t.s), .slice A2 t.l.length cA, .slice B2 t.f.length dB]) (by simp [results, Try.results16, go_sem, r0, r1, r2, r3, r4]) rfl ?_
    generalize (((((w2.setCell ⟨w.heap.size + 1 + 1 + 1, 0, none⟩ (.int .i64 t.kind)).setCell ⟨w.heap.size + 1 + 1 + 1, 1, none⟩ (.int .i64 t.n)).setCell ⟨w.heap.size + 1 + 1 + 1, 2, none⟩ (.string (bs t.s))).setCell ⟨w.heap.size + 1 + 1 + 1, 3, none⟩ (.slice A2 t.l.length cA)).setCell ⟨w.heap.size + 1 + 1 + 1, 4, none⟩ (.slice B2 t.f.length dB)) = wF at *
    have hbF := hb2
    rw [HW.out]
    refine wtP_of rfl rfl rfl rfl rfl (hL2 wF (Kpx.of hK)) ?_ hbG
    by_cases h0 : t.f.length = 0
    · exact .inl (List.eq_nil_of_length_eq_zero h0)
    · obtain ⟨g, rfl⟩ := own_some hO2 h0
      exact rowE_of hO2 (hK.blk g (hO2.lt g rfl).1 (hO2.lt g rfl).2) rfl (hI2.mono fun j hj b hp => hp wF (hK.mono hhi))
  case pos =>
  have d6 : (t.kind != 6) = false := by simp [h6]
  have H6 := Lib.hid h6
  clear h6
  have c0 := E1.c 0 rfl
  have e0 := E2.c 0 rfl
  have x0 := E3.c 0 rfl
  have x1 := E3.c 1 rfl
  have x2 := E3.c 2 rfl
  have x3 := E3.c 3 rfl
  have x4 := E3.c 4 rfl
  go_upto_region 4 with (fail)
  have hx4 := fun W (h : Below w2.heap.size w2 W) => cX W (Below.next hb2 h)
  have hMF := fun t => FFm_mf (ks := [(4, fun _ => Fact.at_ w2 (.pointer (some ⟨w.heap.size + 1, 0, none⟩))), (5, fun _ => Fact.at_ w2 (.pointer (some ⟨w.heap.size + 1 + 1, 0, none⟩))), (3, FB w2 (.pointer (some ⟨w.heap.size, 0, none⟩))), (16, fun _ => Fact.at_ w2 (.int .i64 z)), (17, fun _ => Fact.at_ w2 (.agg #[.int .i64 x.kind, .int .i64 x.n, .string (bs x.s), .slice C x.l.length c2, .slice D x.f.length d2])), (18, FX w2 x (fun s8 : Sb => Value.agg #[.int .i64 x.kind, .int .i64 x.n, .string (bs x.s), .slice s8.A x.l.length s8.c, .slice s8.B x.f.length s8.d])), (19, FX w2 x (fun s8 : Sb => Value.agg #[.int .i64 z, .int .i64 x.kind, .int .i64 x.n, .string (bs x.s), .slice s8.A x.l.length s8.c, .slice s8.B x.f.length s8.d]))]) (g := w2.heap.size) (fcs ⟨mf_at w2 (.pointer (some ⟨w.heap.size + 1, 0, none⟩)), fcs ⟨mf_at w2 (.pointer (some ⟨w.heap.size + 1 + 1, 0, none⟩)), fcs ⟨mf_b w2 (.pointer (some ⟨w.heap.size, 0, none⟩)), fcs ⟨mf_at w2 (.int .i64 z), fcs ⟨mf_at w2 (.agg #[.int .i64 x.kind, .int .i64 x.n, .string (bs x.s), .slice C x.l.length c2, .slice D x.f.length d2]), fcs ⟨mf_x w2 x (fun s8 : Sb => Value.agg #[.int .i64 x.kind, .int .i64 x.n, .string (bs x.s), .slice s8.A x.l.length s8.c, .slice s8.B x.f.length s8.d]), fcs ⟨mf_x w2 x (fun s8 : Sb => Value.agg #[.int .i64 z, .int .i64 x.kind, .int .i64 x.n, .string (bs x.s), .slice s8.A x.l.length s8.c, .slice s8.B x.f.length s8.d]), fnl⟩⟩⟩⟩⟩⟩⟩) t
  refine wp_region_boxm (by kernel_rfl) (FFm [(4, fun _ => Fact.at_ w2 (.pointer (some ⟨w.heap.size + 1, 0, none⟩))), (5, fun _ => Fact.at_ w2 (.pointer (some ⟨w.heap.size + 1 + 1, 0, none⟩))), (3, FB w2 (.pointer (some ⟨w.heap.size, 0, none⟩))), (16, fun _ => Fact.at_ w2 (.int .i64 z)), (17, fun _ => Fact.at_ w2 (.agg #[.int .i64 x.kind, .int .i64 x.n, .string (bs x.s), .slice C x.l.length c2, .slice D x.f.length d2])), (18, FX w2 x (fun s8 : Sb => Value.agg #[.int .i64 x.kind, .int .i64 x.n, .string (bs x.s), .slice s8.A x.l.length s8.c, .slice s8.B x.f.length s8.d])), (19, FX w2 x (fun s8 : Sb => Value.agg #[.int .i64 z, .int .i64 x.kind, .int .i64 x.n, .string (bs x.s), .slice s8.A x.l.length s8.c, .slice s8.B x.f.length s8.d]))]) [4, 5, 3] 49 7 5 19 [.int .i64 0, .int .i64 0, .int .i64 0, .string ⟨#[]⟩, .slice none 0 0, .slice none 0 0] (fun W b vs => ∃ s, vs = encE (z, x) s ∧ NwM (some b) w2.heap.size W x s) [16, 17, 18, 19, 7] rfl (by kernel_rfl) (by kernel_rfl) (by kernel_rfl) (by kernel_rfl) (fun W W' b vs ⟨s, h1, h2⟩ hb => ⟨s, h1, h2.next hb⟩) (fun t => (hMF t).1) (fun b t v w1 w' h1 h2 h3 h4 => (hMF t).2 b v w1 w' h1 h2 h3 h4) ?_ ?_ ?_
  · intro t9 ht9
    simp only [List.mem_cons, List.not_mem_nil, or_false] at ht9
    rcases ht9 with rfl | rfl | rfl
    · exact ⟨rfl, Below.refl _ _⟩
    · exact ⟨rfl, Below.refl _ _⟩
    · exact ⟨rfl, Below.refl _ _, fun b hb => by cases hb⟩
  · refine fcs ⟨.plain (fun m9 => at1 4 16 (.pointer (some ⟨w.heap.size + 1, 0, none⟩)) (.int .i64 z) rfl (by first | exact .inl rfl | exact .inr ⟨_, _, _, rfl, rfl, by kernel_rfl, by decide, rfl⟩) (by kernel_rfl) rfl rfl (fun a9 W9 hb9 h9 => by have g0 := cell_next hb9 e0; simp [execOp, h9] <;> go_simp)) (by decide) (by decide), ?_⟩
    refine fcs ⟨.plain (fun m9 => at1 5 17 (.pointer (some ⟨w.heap.size + 1 + 1, 0, none⟩)) (.agg #[.int .i64 x.kind, .int .i64 x.n, .string (bs x.s), .slice C x.l.length c2, .slice D x.f.length d2]) rfl (by first | exact .inl rfl | exact .inr ⟨_, _, _, rfl, rfl, by kernel_rfl, by decide, rfl⟩) (by kernel_rfl) rfl rfl (fun a9 W9 hb9 h9 => by have g0 := cell_next hb9 x0; have g1 := cell_next hb9 x1; have g2 := cell_next hb9 x2; have g3 := cell_next hb9 x3; have g4 := cell_next hb9 x4; simp [execOp, h9] <;> go_simp)) (by decide) (by decide), ?_⟩
    refine fcs ⟨.plain (fun m9 => at_enter (W0 := w2) (by first | exact .inl rfl | exact .inr ⟨_, _, _, rfl, rfl, by kernel_rfl, by decide, rfl⟩) (fun a9 W9 hf9 => by have p17 := hf9 17 (by kernel_rfl); have q17 : a9.tmps.getD 17 undef = (.agg #[.int .i64 x.kind, .int .i64 x.n, .string (bs x.s), .slice C x.l.length c2, .slice D x.f.length d2]) := p17.1; have hb9 := p17.2; have p3 := (hf9 3 (by kernel_rfl)).2.2; exact ⟨40, #[(.agg #[.int .i64 x.kind, .int .i64 x.n, .string (bs x.s), .slice C x.l.length c2, .slice D x.f.length d2])], by rw [← q17]; simpa [execOp, resolve, Act.eval] using run_invoke (by kernel_rfl) _ W9, (hx4 W9 hb9).mono fun e w' ⟨s, e1, hN, e3⟩ => ⟨_, e1, e3, fun s9 hs9 => by injection hs9 with hs9; subst hs9; exact ⟨⟨s, rfl, NwM.of hN hb9.size p3⟩, upG hb9 e3⟩⟩⟩)) (by decide) (by decide), ?_⟩
    refine fcs ⟨.plain (fun m9 => at_val (W0 := w2) (by first | exact .inl rfl | exact .inr ⟨_, _, _, rfl, rfl, by kernel_rfl, by decide, rfl⟩) (fun a9 W9 hf9 => by have p16 := hf9 16 (by kernel_rfl); have q16 : a9.eval (.tmp 16) = (.int .i64 z) := p16.1; obtain ⟨⟨s, q18, hN⟩, hb9⟩ := hf9 18 (by kernel_rfl); have q18' : a9.eval (.tmp 18) = (fun s8 : Sb => Value.agg #[.int .i64 x.kind, .int .i64 x.n, .string (bs x.s), .slice s8.A x.l.length s8.c, .slice s8.B x.f.length s8.d]) s := q18; exact ⟨(fun s8 : Sb => Value.agg #[.int .i64 z, .int .i64 x.kind, .int .i64 x.n, .string (bs x.s), .slice s8.A x.l.length s8.c, .slice s8.B x.f.length s8.d]) s, W9, by simp [execOp, q16, q18'] <;> go_simp, Below.refl _ _, fun s9 hs9 => by injection hs9 with hs9; subst hs9; exact ⟨⟨s, rfl, hN⟩, hb9⟩⟩)) (by decide) (by decide), ?_⟩
    refine fcs ⟨.alloc rfl rfl (fun _ => rfl) (by decide) (fun a9 w9 => ⟨_, by simp [execOp, ptr0] <;> go_simp, ab1 _ (Obj.cells #[.int .i64 0, .int .i64 0, .int .i64 0, .string ⟨#[]⟩, .slice none 0 0, .slice none 0 0] 72), by simp, Bx.new6 _ _ _ _ _ _ _ _⟩), ?_⟩
    refine fcs ⟨.store rfl rfl rfl (by kernel_rfl) (by kernel_rfl) (fun a9 w9 b9 h9 hgb9 hx9 hf9 => (by have k1 : a9.eval (.tmp 7) = .pointer (some ⟨b9, 0, none⟩) := h9; obtain ⟨⟨s, k2, hN⟩, -⟩ := hf9; have k3 : a9.eval (.tmp 19) = (fun s8 : Sb => Value.agg #[.int .i64 z, .int .i64 x.kind, .int .i64 x.n, .string (bs x.s), .slice s8.A x.l.length s8.c, .slice s8.B x.f.length s8.d]) s := k2; have g0 := hx9.c 0 rfl; have f0 := hx9.f 0 rfl; have g1 := hx9.c 1 rfl; have f1 := hx9.f 1 rfl; have g2 := hx9.c 2 rfl; have f2 := hx9.f 2 rfl; have g3 := hx9.c 3 rfl; have f3 := hx9.f 3 rfl; have g4 := hx9.c 4 rfl; have f4 := hx9.f 4 rfl; have g5 := hx9.c 5 rfl; have f5 := hx9.f 5 rfl; have l9 := hx9.lt; exact ⟨_, by simp [execOp, k1, k3] <;> go_simp, gb_set6 _ _ (.int .i64 z) (.int .i64 x.kind) (.int .i64 x.n) (.string (bs x.s)) (.slice s.A x.l.length s.c) (.slice s.B x.f.length s.d), ⟨encE (z, x) s, ⟨s, rfl, hN.grown (gb_set6 _ _ (.int .i64 z) (.int .i64 x.kind) (.int .i64 x.n) (.string (bs x.s)) (.slice s.A x.l.length s.c) (.slice s.B x.f.length s.d))⟩, hx9.put6 (.int .i64 z) (.int .i64 x.kind) (.int .i64 x.n) (.string (bs x.s)) (.slice s.A x.l.length s.c) (.slice s.B x.f.length s.d)⟩⟩)), ?_⟩
    exact fnl
  rintro vv w3 gx vs9 hvv hgx hgl ⟨s, rfl, hNx⟩ hX hb3
  replace hNx := hNx.nw
  unfold ptr0 at hgx
  simp only [lay, List.foldl_cons, List.foldl_nil, List.setIfInBounds_toArray, List.set_cons_succ, List.set_cons_zero, hgx]
  have hI3 : IL 6 encE (fun _ x s => NwV hi w3 x.2 s) t.f xs := hI2.mono fun j hj s h => NwV.next h (Kpl.of hb3)
  have hO3 := own_next hO2 hb3
  have hL3 := fun w' k => hL2 w' ((Kpx.of (Kpl.of hb3)).trans k)
  have hsz3 := hb3.size
  have hsz1 := hb1.size
  replace E1 := E1.next hb3
  replace E2 := E2.next hb3
  replace E4 := E4.next hb3
  have hab3 := Below.next hb2 hb3
  have hR : Rw EtA 6 w3 t.f B2 := by
    by_cases h0 : t.f.length = 0
    · exact .inl (List.eq_nil_of_length_eq_zero h0)
    · obtain ⟨b, rfl⟩ := own_some hO3 h0
      exact rowE_of hO3 rfl rfl (hI3.mono fun j hj s hs => hs.rd)
  have hfl := sz_fl t
  have cI := indexOf_any t.f B2 dB z w3 (by omega) hR
  clear hMF hvv hgx hx4 cX cT hL2 hI2 hO2 hb2 hb3 c0 e0 x0 x1 x2 x3 x4 E3 d6 hab hb1 hR
  have s4 := E1.c 4 rfl
  have p0 := E2.c 0 rfl
  have l1 := E2.lt
  cases hf : t.f.findIdx? (fun x => (x.1 == z)) with
  | some i =>
    rw [hf] at cI
    have cI : Calls Try.prog 41 #[.slice B2 t.f.length dB, .int .i64 z] w3 (Ib (.int .i64 (i : Int)) w3) := cI
    have hi0 : i < t.f.length := (List.findIdx?_eq_some_iff_getElem.1 hf).1
    have hins : insF t.f z x = t.f.set i (z, x) := by unfold insF; rw [hf]
    have hwt : wth t z x = .mk t.kind t.n t.s t.l (t.f.set i (z, x)) := by unfold wth; rw [if_pos H6.out, hins]
    have HW := Lib.hid hwt
    clear hwt hins hf
    go_wp2_with fail
    refine cI.mono ?_
    rintro e w4 ⟨rfl, hb4⟩
    have hI4 : IL 6 encE (fun _ x s => NwV hi w4 x.2 s) t.f xs := hI3.mono fun j hj s h => NwV.next h (Kpl.of hb4)
    have hO4 := own_next hO3 hb4
    have hL4 := fun w' k => hL3 w' ((Kpx.of (Kpl.of hb4)).trans k)
    have hN4 := hNx.next (Kpl.of hb4)
    replace E1 := E1.next hb4
    replace E4 := E4.next hb4
    replace hX := hX.next hb4
    have hab4 := Below.next hab3 hb4
    obtain ⟨g, rfl⟩ := own_some hO4 (by omega)
    have hglo := hO4.lt g rfl
    have hgw1 := hBlt g rfl
    have hghi := hBp g rfl
    clear cI hI3 hO3 hL3 hNx s4 p0 l1 E2 hab3 hBlt hBp
    have s0 := E1.c 0 rfl
    have s1 := E1.c 1 rfl
    have s2 := E1.c 2 rfl
    have s3 := E1.c 3 rfl
    have s4 := E1.c 4 rfl
    have y0 := hX.c 0 rfl
    have y1 := hX.c 1 rfl
    have y2 := hX.c 2 rfl
    have y3 := hX.c 3 rfl
    have y4 := hX.c 4 rfl
    have y5 := hX.c 5 rfl
    have f0 := hO4.frozenAt (i * 6)
    have f1 := hO4.frozenAt (i * 6 + 1)
    have f2 := hO4.frozenAt (i * 6 + 2)
    have f3 := hO4.frozenAt (i * 6 + 3)
    have f4 := hO4.frozenAt (i * 6 + 4)
    have f5 := hO4.frozenAt (i * 6 + 5)
    have gsome : ∀ j, j < t.f.length * 6 → ∃ v, w4.cell? ⟨g, j, none⟩ = some v := fun j hj => by
      rw [hO4.cellAt j hj]
      exact ⟨_, List.getElem?_eq_getElem (by rw [hO4.1]; exact hj)⟩
    obtain ⟨u0, g0⟩ := gsome (i * 6) (by omega)
    obtain ⟨u1, g1⟩ := gsome (i * 6 + 1) (by omega)
    obtain ⟨u2, g2⟩ := gsome (i * 6 + 2) (by omega)
    obtain ⟨u3, g3⟩ := gsome (i * 6 + 3) (by omega)
    obtain ⟨u4, g4⟩ := gsome (i * 6 + 4) (by omega)
    obtain ⟨u5, g5⟩ := gsome (i * 6 + 5) (by omega)
    have hst := storedN (encE (z, x) s) hO4 (i * 6)
    have hgl4 := hglo.2
    clear gsome
    have gbE : w4.grownBy (((((((w4.setCell ⟨g, i * 6, none⟩ (.int .i64 z)).setCell ⟨g, i * 6 + 1, none⟩ (.int .i64 x.kind)).setCell ⟨g, i * 6 + 2, none⟩ (.int .i64 x.n)).setCell ⟨g, i * 6 + 3, none⟩ (.string (bs x.s))).setCell ⟨g, i * 6 + 4, none⟩ (.slice s.A x.l.length s.c)).setCell ⟨g, i * 6 + 5, none⟩ (.slice s.B x.f.length s.d))) (some g) := hst.2
    have hO5 : (((((((w4.setCell ⟨g, i * 6, none⟩ (.int .i64 z)).setCell ⟨g, i * 6 + 1, none⟩ (.int .i64 x.kind)).setCell ⟨g, i * 6 + 2, none⟩ (.int .i64 x.n)).setCell ⟨g, i * 6 + 3, none⟩ (.string (bs x.s))).setCell ⟨g, i * 6 + 4, none⟩ (.slice s.A x.l.length s.c)).setCell ⟨g, i * 6 + 5, none⟩ (.slice s.B x.f.length s.d))).ownsRow w0.heap.size 72 6 (.slice (some ⟨g, 0, none⟩) t.f.length dB) t.f.length (putAt xs (i * 6) (encE (z, x) s)) := hst.1
    clear hst
    go_upto_region 8 with (fail)
    clear s0 s1 s2 s3 s4 y0 y1 y2 y3 y4 y5 f0 f1 f2 f3 f4 f5 g0 g1 g2 g3 g4 g5
    generalize (((((((w4.setCell ⟨g, i * 6, none⟩ (.int .i64 z)).setCell ⟨g, i * 6 + 1, none⟩ (.int .i64 x.kind)).setCell ⟨g, i * 6 + 2, none⟩ (.int .i64 x.n)).setCell ⟨g, i * 6 + 3, none⟩ (.string (bs x.s))).setCell ⟨g, i * 6 + 4, none⟩ (.slice s.A x.l.length s.c)).setCell ⟨g, i * 6 + 5, none⟩ (.slice s.B x.f.length s.d))) = w5 at *
    replace E1 := E1.gb gbE (by omega)
    replace E4 := E4.gb gbE (by omega)
    have hbF := hab4.grown gbE hab4.size (fun j hj => by cases hj; omega)
    clear hX hab4
    have s0 := E1.c 0 rfl
    have s1 := E1.c 1 rfl
    have s2 := E1.c 2 rfl
    have s3 := E1.c 3 rfl
    have s4 := E1.c 4 rfl
    have r0 := E4.c 0 rfl
    have r1 := E4.c 1 rfl
    have r2 := E4.c 2 rfl
    have r3 := E4.c 3 rfl
    have r4 := E4.c 4 rfl
    have q0 := E4.f 0 rfl
    have q1 := E4.f 1 rfl
    have q2 := E4.f 2 rfl
    have q3 := E4.f 3 rfl
    have q4 := E4.f 4 rfl
    have l1 := E1.lt
    have l2 := E4.lt
    have hrl : w.heap.size + 1 + 1 + 1 < w0.heap.size := by omega
    have hK := (((((Kpl.refl w0.heap.size w5).set (p := ⟨w.heap.size + 1 + 1 + 1, 0, none⟩) hrl (.int .i64 t.kind)).set (p := ⟨w.heap.size + 1 + 1 + 1, 1, none⟩) hrl (.int .i64 t.n)).set (p := ⟨w.heap.size + 1 + 1 + 1, 2, none⟩) hrl (.string (bs t.s))).set (p := ⟨w.heap.size + 1 + 1 + 1, 3, none⟩) hrl (.slice A2 t.l.length cA)).set (p := ⟨w.heap.size + 1 + 1 + 1, 4, none⟩) hrl (.slice (some ⟨g, 0, none⟩) t.f.length dB)
    have hbG := (((((hbF.setCell (p := ⟨w.heap.size + 1 + 1 + 1, 0, none⟩) (by show _ ≤ w.heap.size + 1 + 1 + 1; omega) (.int .i64 t.kind)).setCell (p := ⟨w.heap.size + 1 + 1 + 1, 1, none⟩) (by show _ ≤ w.heap.size + 1 + 1 + 1; omega) (.int .i64 t.n)).setCell (p := ⟨w.heap.size + 1 + 1 + 1, 2, none⟩) (by show _ ≤ w.heap.size + 1 + 1 + 1; omega) (.string (bs t.s))).setCell (p := ⟨w.heap.size + 1 + 1 + 1, 3, none⟩) (by show _ ≤ w.heap.size + 1 + 1 + 1; omega) (.slice A2 t.l.length cA)).setCell (p := ⟨w.heap.size + 1 + 1 + 1, 4, none⟩) (by show _ ≤ w.heap.size + 1 + 1 + 1; omega) (.slice (some ⟨g, 0, none⟩) t.f.length dB))
    go_wp2_with fail
    refine bodyPost_ret (v := .agg #[.int .i64 t.kind, .int .i64 t.n, .string (bs t.s), .slice A2 t.l.length cA, .slice (some ⟨g, 0, none⟩) t.f.length dB]) (by simp [results, Try.results16, go_sem, r0, r1, r2, r3, r4]) rfl ?_
    generalize (((((w5.setCell ⟨w.heap.size + 1 + 1 + 1, 0, none⟩ (.int .i64 t.kind)).setCell ⟨w.heap.size + 1 + 1 + 1, 1, none⟩ (.int .i64 t.n)).setCell ⟨w.heap.size + 1 + 1 + 1, 2, none⟩ (.string (bs t.s))).setCell ⟨w.heap.size + 1 + 1 + 1, 3, none⟩ (.slice A2 t.l.length cA)).setCell ⟨w.heap.size + 1 + 1 + 1, 4, none⟩ (.slice (some ⟨g, 0, none⟩) t.f.length dB)) = wF at *
    
    have hlen : (t.f.set i (z, x)).length = t.f.length := List.length_set ..
    have hKF : Kpl w2.heap.size w4 wF := (Kpl.gb gbE (by omega)).trans (hK.mono (by omega))
    have hKH : Kpl hi w4 wF := (Kpl.gb gbE hghi).trans (hK.mono hhi)
    rw [HW.out]
    refine wtP_of hlen rfl rfl rfl rfl (hL4 wF ((Kpx.gb gbE).trans (Kpx.of hK))) (rowE_of hO5 (hK.blk g hglo.1 (Nat.lt_of_lt_of_le hgl4 gbE.size)) hlen ?_) hbG
    exact hI4.put (Q := fun _ x s => RdV wF x.2 s) hi0 (z, x) s rfl (fun j hj b _ hp => hp wF hKH) (hN4 wF hKF)
  | none =>
    rw [hf] at cI
    have cI : Calls Try.prog 41 #[.slice B2 t.f.length dB, .int .i64 z] w3 (Ib (.int .i64 (-1)) w3) := cI
    go_wp2_with fail
    refine cI.mono ?_
    rintro e w4 ⟨rfl, hb4⟩
    have hI4 : IL 6 encE (fun _ x s => NwV hi w4 x.2 s) t.f xs := hI3.mono fun j hj s h => NwV.next h (Kpl.of hb4)
    have hO4 := own_next hO3 hb4
    have hL4 := fun w' k => hL3 w' ((Kpx.of (Kpl.of hb4)).trans k)
    have hN4 := hNx.next (Kpl.of hb4)
    have hR : Rw EtA 6 w4 t.f B2 := by
      by_cases h0 : t.f.length = 0
      · exact .inl (List.eq_nil_of_length_eq_zero h0)
      · obtain ⟨b, rfl⟩ := own_some hO4 h0
        exact rowE_of hO4 rfl rfl (hI4.mono fun j hj s hs => hs.rd)
    replace E1 := E1.next hb4
    replace E2 := E2.next hb4
    replace E4 := E4.next hb4
    replace hX := hX.next hb4
    have hab4 := Below.next hab3 hb4
    have hsz4 := hb4.size
    clear cI hI3 hO3 hL3 hNx s4 p0 l1 hab3 hb4
    have s4 := E1.c 4 rfl
    have p0 := E2.c 0 rfl
    have cG := gtIx_any t.f B2 dB z (w.heap.size + 1) w4 (by omega) hR p0
    cases hf2 : t.f.findIdx? (fun x => decide (z < x.1)) with
    | some i =>
      rw [hf2, ixI_some] at cG
      have hi0 : i < t.f.length := (List.findIdx?_eq_some_iff_getElem.1 hf2).1
      have hins : insF t.f z x = t.f.take i ++ (z, x) :: t.f.drop i := by unfold insF; rw [hf]; simp only []; rw [hf2]
      have HW := Lib.hid (show wth t z x = .mk t.kind t.n t.s t.l (t.f.take i ++ (z, x) :: t.f.drop i) by unfold wth; rw [if_pos H6.out, hins])
      clear hins hf hf2 hR
      go_wp2_with fail
      refine cG.mono ?_
      rintro e w5 ⟨rfl, hb5⟩
      have hI5 : IL 6 encE (fun _ x s => NwV hi w5 x.2 s) t.f xs := hI4.mono fun j hj s h => NwV.next h (Kpl.of hb5)
      have hO5 := own_next hO4 hb5
      have hL5 := fun w' k => hL4 w' ((Kpx.of (Kpl.of hb5)).trans k)
      have hN5 := hN4.next (Kpl.of hb5)
      replace E1 := E1.next hb5
      replace E4 := E4.next hb5
      replace hX := hX.next hb5
      have hab5 := Below.next hab4 hb5
      have hsz5 := hb5.size
      clear cG hI4 hO4 hL4 hN4 s4 p0 hab4 hb5 E2
      have s4 := E1.c 4 rfl
      have dneg : decide ((i : Int) < 0) = false := by simp
      go_upto_region 12 with (fail)
      have hbx := ab1 w5 (Obj.cells #[.int .i64 z, .int .i64 x.kind, .int .i64 x.n, .string (bs x.s), .slice s.A x.l.length s.c, .slice s.B x.f.length s.d] 72)
      have hI6 : IL 6 encE (fun _ p r => NwV hi (w5.alloc (Obj.cells #[.int .i64 z, .int .i64 x.kind, .int .i64 x.n, .string (bs x.s), .slice s.A x.l.length s.c, .slice s.B x.f.length s.d] 72)) p.2 r) t.f xs := hI5.mono fun j hj s h => NwV.next h (Kpl.of hbx)
      have hO6 := own_next hO5 hbx
      have hL6 := fun w' k => hL5 w' ((Kpx.of (Kpl.of hbx)).trans k)
      have hN6 := hN5.next (Kpl.of hbx)
      have hsz6 := hbx.size
      have hgE : (w5.alloc (Obj.cells #[.int .i64 z, .int .i64 x.kind, .int .i64 x.n, .string (bs x.s), .slice s.A x.l.length s.c, .slice s.B x.f.length s.d] 72)).heap[w5.heap.size]? = some (.cells #[.int .i64 z, .int .i64 x.kind, .int .i64 x.n, .string (bs x.s), .slice s.A x.l.length s.c, .slice s.B x.f.length s.d] 72 (0, 0)) := alloc_at _ _
      have cX := insert_any w0.heap.size B2 t.f.length dB i xs (z, x) s w5.heap.size 1 (w5.alloc (Obj.cells #[.int .i64 z, .int .i64 x.kind, .int .i64 x.n, .string (bs x.s), .slice s.A x.l.length s.c, .slice s.B x.f.length s.d] 72)) (by omega) (by omega) hO6 hI6.one hgE (fun b hb => by subst hb; have := (hO5.lt b rfl).2; omega) (by omega)
      have E16 := E1.next hbx
      have E46 := E4.next hbx
      have hab6 := Below.next hab5 hbx
      have s4 := E1.c 4 rfl
      have y0 := hX.c 0 rfl
      have y1 := hX.c 1 rfl
      have y2 := hX.c 2 rfl
      have y3 := hX.c 3 rfl
      have y4 := hX.c 4 rfl
      have y5 := hX.c 5 rfl
      have s5 := E16.c 4 rfl
      have l1 := E16.lt
      go_wp2_with fail
      refine cX.mono ?_
      rintro e w7 ⟨v', rfl, hO7, hgr⟩
      obtain ⟨B', d', rfl⟩ := own_form hO7
      generalize w5.alloc (Obj.cells #[.int .i64 z, .int .i64 x.kind, .int .i64 x.n, .string (bs x.s), .slice s.A x.l.length s.c, .slice s.B x.f.length s.d] 72) = w6 at *
      have hq : ∀ g, (Value.slice B2 t.f.length dB).ownBlock = some g → w0.heap.size ≤ g := fun g hg => own_ge2 hO6 hg
      have E17 := E16.gbo hgr (fun g hg => by have := hq g hg; omega)
      have E47 := E46.gbo hgr (fun g hg => by have := hq g hg; omega)
      have hab7 := hab6.grown hgr hab6.size (fun g hg => by have := hq g hg; omega)
      clear cX s4 y0 y1 y2 y3 y4 y5 s5 l1 hX hgE
      have s4 := E17.c 4 rfl
      have f4 := E17.f 4 rfl
      have l1 := E17.lt
      have E1 := E17.put1 4 (.slice B' (t.f.length + 1) d')
      have gb8 := gb_set1 w7 ⟨w.heap.size, 4, none⟩ (.slice B' (t.f.length + 1) d')
      have E4 := E47.gb gb8 (by show w.heap.size + 1 + 1 + 1 ≠ w.heap.size; omega)
      have hbF := hab7.setCell (p := ⟨w.heap.size, 4, none⟩) (Nat.le_refl _) (.slice B' (t.f.length + 1) d')
      have hK8 := (Kpl.refl w0.heap.size w7).set (p := ⟨w.heap.size, 4, none⟩) (by show w.heap.size < _; omega) (.slice B' (t.f.length + 1) d')
      go_upto_region 13 with (fail)
      clear s4 f4 l1 E16 E46 E17 E47 gb8
      generalize w7.setCell ⟨w.heap.size, 4, none⟩ (.slice B' (t.f.length + 1) d') = w8 at *
      have s0 := E1.c 0 rfl
      have s1 := E1.c 1 rfl
      have s2 := E1.c 2 rfl
      have s3 := E1.c 3 rfl
      have s4 := E1.c 4 rfl
      have r0 := E4.c 0 rfl
      have r1 := E4.c 1 rfl
      have r2 := E4.c 2 rfl
      have r3 := E4.c 3 rfl
      have r4 := E4.c 4 rfl
      have q0 := E4.f 0 rfl
      have q1 := E4.f 1 rfl
      have q2 := E4.f 2 rfl
      have q3 := E4.f 3 rfl
      have q4 := E4.f 4 rfl
      have l1 := E1.lt
      have l2 := E4.lt
      have hrl : w.heap.size + 1 + 1 + 1 < w0.heap.size := by omega
      have hK := (((((Kpl.refl w0.heap.size w8).set (p := ⟨w.heap.size + 1 + 1 + 1, 0, none⟩) hrl (.int .i64 t.kind)).set (p := ⟨w.heap.size + 1 + 1 + 1, 1, none⟩) hrl (.int .i64 t.n)).set (p := ⟨w.heap.size + 1 + 1 + 1, 2, none⟩) hrl (.string (bs t.s))).set (p := ⟨w.heap.size + 1 + 1 + 1, 3, none⟩) hrl (.slice A2 t.l.length cA)).set (p := ⟨w.heap.size + 1 + 1 + 1, 4, none⟩) hrl (.slice B' (t.f.length + 1) d')
      have hbG := (((((hbF.setCell (p := ⟨w.heap.size + 1 + 1 + 1, 0, none⟩) (by show _ ≤ w.heap.size + 1 + 1 + 1; omega) (.int .i64 t.kind)).setCell (p := ⟨w.heap.size + 1 + 1 + 1, 1, none⟩) (by show _ ≤ w.heap.size + 1 + 1 + 1; omega) (.int .i64 t.n)).setCell (p := ⟨w.heap.size + 1 + 1 + 1, 2, none⟩) (by show _ ≤ w.heap.size + 1 + 1 + 1; omega) (.string (bs t.s))).setCell (p := ⟨w.heap.size + 1 + 1 + 1, 3, none⟩) (by show _ ≤ w.heap.size + 1 + 1 + 1; omega) (.slice A2 t.l.length cA)).setCell (p := ⟨w.heap.size + 1 + 1 + 1, 4, none⟩) (by show _ ≤ w.heap.size + 1 + 1 + 1; omega) (.slice B' (t.f.length + 1) d'))
      go_wp2_with fail
      refine bodyPost_ret (v := .agg #[.int .i64 t.kind, .int .i64 t.n, .string (bs t.s), .slice A2 t.l.length cA, .slice B' (t.f.length + 1) d']) (by simp [results, Try.results16, go_sem, r0, r1, r2, r3, r4]) rfl ?_
      generalize (((((w8.setCell ⟨w.heap.size + 1 + 1 + 1, 0, none⟩ (.int .i64 t.kind)).setCell ⟨w.heap.size + 1 + 1 + 1, 1, none⟩ (.int .i64 t.n)).setCell ⟨w.heap.size + 1 + 1 + 1, 2, none⟩ (.string (bs t.s))).setCell ⟨w.heap.size + 1 + 1 + 1, 3, none⟩ (.slice A2 t.l.length cA)).setCell ⟨w.heap.size + 1 + 1 + 1, 4, none⟩ (.slice B' (t.f.length + 1) d')) = wF at *
      
      have hKG := hK8.trans hK
      have hKF : Kpl w2.heap.size w6 wF := (Kpl.gb0 hgr (fun g hg => by have := hBlt g hg; omega)).trans (hKG.mono (by omega))
      have hKH : Kpl hi w6 wF := (Kpl.gb0 hgr (fun g hg => hBp g hg)).trans (hKG.mono hhi)
      have hlen : (t.f.take i ++ (z, x) :: t.f.drop i).length = t.f.length + 1 := by simp only [List.length_append, List.length_cons, List.length_take, List.length_drop]; omega
      rw [HW.out]
      obtain ⟨g', rfl⟩ := own_some hO7 (by omega)
      have hg' := hO7.lt g' rfl
      refine wtP_of hlen rfl rfl rfl rfl (hL6 wF ((Kpx.gb hgr).trans (Kpx.of hKG))) (rowE_of hO7 (hKG.blk g' hg'.1 hg'.2) hlen ?_) hbG
      exact IL.insert (P := fun x s => RdV wF x.2 s) (hI6.mono fun j hj b hp => hp wF hKH) i (by omega) (z, x) s (hN6 wF hKF)
    | none =>
      rw [hf2, ixI_none] at cG
      have hins : insF t.f z x = t.f.take t.f.length ++ (z, x) :: t.f.drop t.f.length := by unfold insF; rw [hf]; simp only []; rw [hf2]; simp only [List.take_length, List.drop_length]
      have HW := Lib.hid (show wth t z x = .mk t.kind t.n t.s t.l (t.f.take t.f.length ++ (z, x) :: t.f.drop t.f.length) by unfold wth; rw [if_pos H6.out, hins])
      clear hins hf hf2 hR
      go_wp2_with fail
      refine cG.mono ?_
      rintro e w5 ⟨rfl, hb5⟩
      have hI5 : IL 6 encE (fun _ x s => NwV hi w5 x.2 s) t.f xs := hI4.mono fun j hj s h => NwV.next h (Kpl.of hb5)
      have hO5 := own_next hO4 hb5
      have hL5 := fun w' k => hL4 w' ((Kpx.of (Kpl.of hb5)).trans k)
      have hN5 := hN4.next (Kpl.of hb5)
      replace E1 := E1.next hb5
      replace E4 := E4.next hb5
      replace hX := hX.next hb5
      have hab5 := Below.next hab4 hb5
      have hsz5 := hb5.size
      clear cG hI4 hO4 hL4 hN4 s4 p0 hab4 hb5 E2
      have s4 := E1.c 4 rfl
      go_upto_region 12 with (fail)
      have hbx := ab1 w5 (Obj.cells #[.int .i64 z, .int .i64 x.kind, .int .i64 x.n, .string (bs x.s), .slice s.A x.l.length s.c, .slice s.B x.f.length s.d] 72)
      have hI6 : IL 6 encE (fun _ p r => NwV hi (w5.alloc (Obj.cells #[.int .i64 z, .int .i64 x.kind, .int .i64 x.n, .string (bs x.s), .slice s.A x.l.length s.c, .slice s.B x.f.length s.d] 72)) p.2 r) t.f xs := hI5.mono fun j hj s h => NwV.next h (Kpl.of hbx)
      have hO6 := own_next hO5 hbx
      have hL6 := fun w' k => hL5 w' ((Kpx.of (Kpl.of hbx)).trans k)
      have hN6 := hN5.next (Kpl.of hbx)
      have hsz6 := hbx.size
      have hgE : (w5.alloc (Obj.cells #[.int .i64 z, .int .i64 x.kind, .int .i64 x.n, .string (bs x.s), .slice s.A x.l.length s.c, .slice s.B x.f.length s.d] 72)).heap[w5.heap.size]? = some (.cells #[.int .i64 z, .int .i64 x.kind, .int .i64 x.n, .string (bs x.s), .slice s.A x.l.length s.c, .slice s.B x.f.length s.d] 72 (0, 0)) := alloc_at _ _
      have cX := insert_any w0.heap.size B2 t.f.length dB t.f.length xs (z, x) s w5.heap.size 1 (w5.alloc (Obj.cells #[.int .i64 z, .int .i64 x.kind, .int .i64 x.n, .string (bs x.s), .slice s.A x.l.length s.c, .slice s.B x.f.length s.d] 72)) (by omega) (Nat.le_refl _) hO6 hI6.one hgE (fun b hb => by subst hb; have := (hO5.lt b rfl).2; omega) (by omega)
      have E16 := E1.next hbx
      have E46 := E4.next hbx
      have hab6 := Below.next hab5 hbx
      have s4 := E1.c 4 rfl
      have y0 := hX.c 0 rfl
      have y1 := hX.c 1 rfl
      have y2 := hX.c 2 rfl
      have y3 := hX.c 3 rfl
      have y4 := hX.c 4 rfl
      have y5 := hX.c 5 rfl
      have s5 := E16.c 4 rfl
      have l1 := E16.lt
      go_wp2_with fail
      refine cX.mono ?_
      rintro e w7 ⟨v', rfl, hO7, hgr⟩
      obtain ⟨B', d', rfl⟩ := own_form hO7
      generalize w5.alloc (Obj.cells #[.int .i64 z, .int .i64 x.kind, .int .i64 x.n, .string (bs x.s), .slice s.A x.l.length s.c, .slice s.B x.f.length s.d] 72) = w6 at *
      have hq : ∀ g, (Value.slice B2 t.f.length dB).ownBlock = some g → w0.heap.size ≤ g := fun g hg => own_ge2 hO6 hg
      have E17 := E16.gbo hgr (fun g hg => by have := hq g hg; omega)
      have E47 := E46.gbo hgr (fun g hg => by have := hq g hg; omega)
      have hab7 := hab6.grown hgr hab6.size (fun g hg => by have := hq g hg; omega)
      clear cX s4 y0 y1 y2 y3 y4 y5 s5 l1 hX hgE
      have s4 := E17.c 4 rfl
      have f4 := E17.f 4 rfl
      have l1 := E17.lt
      have E1 := E17.put1 4 (.slice B' (t.f.length + 1) d')
      have gb8 := gb_set1 w7 ⟨w.heap.size, 4, none⟩ (.slice B' (t.f.length + 1) d')
      have E4 := E47.gb gb8 (by show w.heap.size + 1 + 1 + 1 ≠ w.heap.size; omega)
      have hbF := hab7.setCell (p := ⟨w.heap.size, 4, none⟩) (Nat.le_refl _) (.slice B' (t.f.length + 1) d')
      have hK8 := (Kpl.refl w0.heap.size w7).set (p := ⟨w.heap.size, 4, none⟩) (by show w.heap.size < _; omega) (.slice B' (t.f.length + 1) d')
      go_upto_region 13 with (fail)
      clear s4 f4 l1 E16 E46 E17 E47 gb8
      generalize w7.setCell ⟨w.heap.size, 4, none⟩ (.slice B' (t.f.length + 1) d') = w8 at *
      have s0 := E1.c 0 rfl
      have s1 := E1.c 1 rfl
      have s2 := E1.c 2 rfl
      have s3 := E1.c 3 rfl
      have s4 := E1.c 4 rfl
      have r0 := E4.c 0 rfl
      have r1 := E4.c 1 rfl
      have r2 := E4.c 2 rfl
      have r3 := E4.c 3 rfl
      have r4 := E4.c 4 rfl
      have q0 := E4.f 0 rfl
      have q1 := E4.f 1 rfl
      have q2 := E4.f 2 rfl
      have q3 := E4.f 3 rfl
      have q4 := E4.f 4 rfl
      have l1 := E1.lt
      have l2 := E4.lt
      have hrl : w.heap.size + 1 + 1 + 1 < w0.heap.size := by omega
      have hK := (((((Kpl.refl w0.heap.size w8).set (p := ⟨w.heap.size + 1 + 1 + 1, 0, none⟩) hrl (.int .i64 t.kind)).set (p := ⟨w.heap.size + 1 + 1 + 1, 1, none⟩) hrl (.int .i64 t.n)).set (p := ⟨w.heap.size + 1 + 1 + 1, 2, none⟩) hrl (.string (bs t.s))).set (p := ⟨w.heap.size + 1 + 1 + 1, 3, none⟩) hrl (.slice A2 t.l.length cA)).set (p := ⟨w.heap.size + 1 + 1 + 1, 4, none⟩) hrl (.slice B' (t.f.length + 1) d')
      have hbG := (((((hbF.setCell (p := ⟨w.heap.size + 1 + 1 + 1, 0, none⟩) (by show _ ≤ w.heap.size + 1 + 1 + 1; omega) (.int .i64 t.kind)).setCell (p := ⟨w.heap.size + 1 + 1 + 1, 1, none⟩) (by show _ ≤ w.heap.size + 1 + 1 + 1; omega) (.int .i64 t.n)).setCell (p := ⟨w.heap.size + 1 + 1 + 1, 2, none⟩) (by show _ ≤ w.heap.size + 1 + 1 + 1; omega) (.string (bs t.s))).setCell (p := ⟨w.heap.size + 1 + 1 + 1, 3, none⟩) (by show _ ≤ w.heap.size + 1 + 1 + 1; omega) (.slice A2 t.l.length cA)).setCell (p := ⟨w.heap.size + 1 + 1 + 1, 4, none⟩) (by show _ ≤ w.heap.size + 1 + 1 + 1; omega) (.slice B' (t.f.length + 1) d'))
      go_wp2_with fail
      refine bodyPost_ret (v := .agg #[.int .i64 t.kind, .int .i64 t.n, .string (bs t.s), .slice A2 t.l.length cA, .slice B' (t.f.length + 1) d']) (by simp [results, Try.results16, go_sem, r0, r1, r2, r3, r4]) rfl ?_
      generalize (((((w8.setCell ⟨w.heap.size + 1 + 1 + 1, 0, none⟩ (.int .i64 t.kind)).setCell ⟨w.heap.size + 1 + 1 + 1, 1, none⟩ (.int .i64 t.n)).setCell ⟨w.heap.size + 1 + 1 + 1, 2, none⟩ (.string (bs t.s))).setCell ⟨w.heap.size + 1 + 1 + 1, 3, none⟩ (.slice A2 t.l.length cA)).setCell ⟨w.heap.size + 1 + 1 + 1, 4, none⟩ (.slice B' (t.f.length + 1) d')) = wF at *
      
      have hKG := hK8.trans hK
      have hKF : Kpl w2.heap.size w6 wF := (Kpl.gb0 hgr (fun g hg => by have := hBlt g hg; omega)).trans (hKG.mono (by omega))
      have hKH : Kpl hi w6 wF := (Kpl.gb0 hgr (fun g hg => hBp g hg)).trans (hKG.mono hhi)
      have hlen : (t.f.take t.f.length ++ (z, x) :: t.f.drop t.f.length).length = t.f.length + 1 := by simp only [List.length_append, List.length_cons, List.length_take, List.length_drop]; omega
      rw [HW.out]
      obtain ⟨g', rfl⟩ := own_some hO7 (by omega)
      have hg' := hO7.lt g' rfl
      refine wtP_of hlen rfl rfl rfl rfl (hL6 wF ((Kpx.gb hgr).trans (Kpx.of hKG))) (rowE_of hO7 (hKG.blk g' hg'.1 hg'.2) hlen ?_) hbG
      exact IL.insert (P := fun x s => RdV wF x.2 s) (hI6.mono fun j hj b hp => hp wF hKH) t.f.length (Nat.le_refl _) (z, x) s (hN6 wF hKF)
end Go.Proofs.Ytlebppjldoodgaa

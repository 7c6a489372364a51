import Derived.Test.YtlebppjldoodgaaId
/-
  The developers' Without, of any value. No conditions beyond those that each names.
-/
namespace Go.Proofs.Ytlebppjldoodgaa
open Go.RowKit Go.Shelf Go.Sort
/-- A value without the entries of a number. -/
def wto (t : Vl) (z : Int) : Vl := if t.kind = 6 then .mk t.kind t.n t.s t.l (t.f.filter fun x => !(x.1 == z)) else t
set_option maxRecDepth 100000 in
set_option maxHeartbeats 8000000 in
theorem devWithout_any (t : Vl) (z : Int) (v : Value) (w : World) (hzt : sz t ≤ 1048576) (hv : VlV w t v) :
    Calls Try.prog 17 #[v, .int .i64 z] w (WtP (wto t z) w) := by
  have cT := fun W h => renew_any (SizeOf.sizeOf t + 1) t v W (by omega) (by omega) (hv.next h)
  obtain ⟨A, c, B, d, rfl, -, -⟩ := hv
  have D1 := (Bx.new5 w 25 (.int .i64 t.kind) (.int .i64 t.n) (.string (bs t.s)) (.slice A t.l.length c) (.slice B t.f.length d)).next (ab2 _ (Obj.cells #[.int .i64 z] 3) (Obj.cells #[.int .i64 0, .int .i64 0, .string ⟨#[]⟩, .slice none 0 0, .slice none 0 0] 25))
  have D2 := (Bx.new1 (w.alloc (Obj.cells #[.int .i64 t.kind, .int .i64 t.n, .string (bs t.s), .slice A t.l.length c, .slice B t.f.length d] 25)) 3 (.int .i64 z)).next (ab1 _ (Obj.cells #[.int .i64 0, .int .i64 0, .string ⟨#[]⟩, .slice none 0 0, .slice none 0 0] 25))
  have D4 := Bx.new5 ((w.alloc (Obj.cells #[.int .i64 t.kind, .int .i64 t.n, .string (bs t.s), .slice A t.l.length c, .slice B t.f.length d] 25)).alloc (Obj.cells #[.int .i64 z] 3)) 25 (.int .i64 0) (.int .i64 0) (.string ⟨#[]⟩) (.slice none 0 0) (.slice none 0 0)
  have z1 : (w.alloc (Obj.cells #[.int .i64 t.kind, .int .i64 t.n, .string (bs t.s), .slice A t.l.length c, .slice B t.f.length d] 25)).heap.size = w.heap.size + 1 := by simp
  have z2 : ((w.alloc (Obj.cells #[.int .i64 t.kind, .int .i64 t.n, .string (bs t.s), .slice A t.l.length c, .slice B t.f.length d] 25)).alloc (Obj.cells #[.int .i64 z] 3)).heap.size = w.heap.size + 1 + 1 := by simp
  have z4 : (((w.alloc (Obj.cells #[.int .i64 t.kind, .int .i64 t.n, .string (bs t.s), .slice A t.l.length c, .slice B t.f.length d] 25)).alloc (Obj.cells #[.int .i64 z] 3)).alloc (Obj.cells #[.int .i64 0, .int .i64 0, .string ⟨#[]⟩, .slice none 0 0, .slice none 0 0] 25)).heap.size = w.heap.size + 1 + 1 + 1 := by simp
  rw [z1] at D2
  rw [z2] at D4
  have hab := ab3 w (Obj.cells #[.int .i64 t.kind, .int .i64 t.n, .string (bs t.s), .slice A t.l.length c, .slice B t.f.length d] 25) (Obj.cells #[.int .i64 z] 3) (Obj.cells #[.int .i64 0, .int .i64 0, .string ⟨#[]⟩, .slice none 0 0, .slice none 0 0] 25)
  go_enter Try.func17, Try.ntmps17
  go_upto_region 1 with (fail)
  generalize ((w.alloc (Obj.cells #[.int .i64 t.kind, .int .i64 t.n, .string (bs t.s), .slice A t.l.length c, .slice B t.f.length d] 25)).alloc (Obj.cells #[.int .i64 z] 3)).alloc (Obj.cells #[.int .i64 0, .int .i64 0, .string ⟨#[]⟩, .slice none 0 0, .slice none 0 0] 25) = w0 at *
  have c0 := D1.c 0 rfl
  have c1 := D1.c 1 rfl
  have c2' := D1.c 2 rfl
  have c3 := D1.c 3 rfl
  have c4 := D1.c 4 rfl
  clear z1 z2
  go_wp2_with fail
  refine (cT _ hab).mono ?_
  rintro e w1 ⟨hi, A2, cA, B2, dB, xs, rfl, hhi, hLp, hBp, hIL, hown, hb1⟩
  have D1' := D1.next hb1
  have D2' := D2.next hb1
  have D4' := D4.next hb1
  have f0 := D1'.f 0 rfl
  have f1 := D1'.f 1 rfl
  have f2 := D1'.f 2 rfl
  have f3 := D1'.f 3 rfl
  have f4 := D1'.f 4 rfl
  have l1 := D1'.lt
  have c0 := D1'.c 0 rfl
  have c1 := D1'.c 1 rfl
  have c2' := D1'.c 2 rfl
  have c3 := D1'.c 3 rfl
  have c4 := D1'.c 4 rfl
  have hg5 := gb_set5 w1 w.heap.size (.int .i64 t.kind) (.int .i64 t.n) (.string (bs t.s)) (.slice A2 t.l.length cA) (.slice B2 t.f.length dB)
  have E1 := D1'.put5 (.int .i64 t.kind) (.int .i64 t.n) (.string (bs t.s)) (.slice A2 t.l.length cA) (.slice B2 t.f.length dB)
  have E2 := D2'.gb hg5 (by omega)
  have E4 := D4'.gb hg5 (by omega)
  have hb2 := gb5 (Below.next hab hb1) (b := w.heap.size) (Nat.le_refl _) (.int .i64 t.kind) (.int .i64 t.n) (.string (bs t.s)) (.slice A2 t.l.length cA) (.slice B2 t.f.length dB)
  have hK : Kpl w0.heap.size w1 (((((w1.setCell ⟨w.heap.size, 0, none⟩ (.int .i64 t.kind)).setCell ⟨w.heap.size, 1, none⟩ (.int .i64 t.n)).setCell ⟨w.heap.size, 2, none⟩ (.string (bs t.s))).setCell ⟨w.heap.size, 3, none⟩ (.slice A2 t.l.length cA)).setCell ⟨w.heap.size, 4, none⟩ (.slice B2 t.f.length dB)) := Kpl.gb hg5 (by omega)
  have hL2 := fun w' k => hLp w' ((Kpx.of hK).trans k)
  have hI2 : IL 6 encE (fun _ x s => NwV hi (((((w1.setCell ⟨w.heap.size, 0, none⟩ (.int .i64 t.kind)).setCell ⟨w.heap.size, 1, none⟩ (.int .i64 t.n)).setCell ⟨w.heap.size, 2, none⟩ (.string (bs t.s))).setCell ⟨w.heap.size, 3, none⟩ (.slice A2 t.l.length cA)).setCell ⟨w.heap.size, 4, none⟩ (.slice B2 t.f.length dB)) x.2 s) t.f xs := hIL.mono fun j hj s h => NwV.next h (hK.mono hhi)
  have hO2 := hown.kept hg5 (by
    cases hq : (Value.slice B2 t.f.length dB).ownBlock with
    | none => exact .inl rfl
    | some g => exact .inr (fun e => by injection e with e; have := own_ge2 hown hq; omega))
  clear hLp hIL hown hK D1 D2 D4 D1' D2' D4'
  have hsz2 := hg5.size
  clear hg5
  go_upto_region 2 with (fail)
  clear c0 c1 c2' c3 c4 f0 f1 f2 f3 f4 l1
  generalize (((((w1.setCell ⟨w.heap.size, 0, none⟩ (.int .i64 t.kind)).setCell ⟨w.heap.size, 1, none⟩ (.int .i64 t.n)).setCell ⟨w.heap.size, 2, none⟩ (.string (bs t.s))).setCell ⟨w.heap.size, 3, none⟩ (.slice A2 t.l.length cA)).setCell ⟨w.heap.size, 4, none⟩ (.slice B2 t.f.length dB)) = w2 at *
  have hsz1 := hb1.size
  by_cases h6 : t.kind = 6
  case neg =>
    have d6 : (t.kind == 6) = false := by simpa using h6
    have HW := Lib.hid (show wto t z = t by unfold wto; rw [if_neg h6])
    clear h6
    have c0 := E1.c 0 rfl
    have hbF := hb2
    have s0 := E1.c 0 rfl
    have s1 := E1.c 1 rfl
    have s2 := E1.c 2 rfl
    have s3 := E1.c 3 rfl
    have s4 := E1.c 4 rfl
    have r0 := E4.c 0 rfl
    have r1 := E4.c 1 rfl
    have r2 := E4.c 2 rfl
    have r3 := E4.c 3 rfl
    have r4 := E4.c 4 rfl
    have q0 := E4.f 0 rfl
    have q1 := E4.f 1 rfl
    have q2 := E4.f 2 rfl
    have q3 := E4.f 3 rfl
    have q4 := E4.f 4 rfl
    have l1 := E1.lt
    have l2 := E4.lt
    have hrl : w.heap.size + 1 + 1 < w0.heap.size := by omega
    have hK := (((((Kpl.refl w0.heap.size w2).set (p := ⟨w.heap.size + 1 + 1, 0, none⟩) hrl (.int .i64 t.kind)).set (p := ⟨w.heap.size + 1 + 1, 1, none⟩) hrl (.int .i64 t.n)).set (p := ⟨w.heap.size + 1 + 1, 2, none⟩) hrl (.string (bs t.s))).set (p := ⟨w.heap.size + 1 + 1, 3, none⟩) hrl (.slice A2 t.l.length cA)).set (p := ⟨w.heap.size + 1 + 1, 4, none⟩) hrl (.slice B2 t.f.length dB)
    have hbG := (((((hbF.setCell (p := ⟨w.heap.size + 1 + 1, 0, none⟩) (by show _ ≤ w.heap.size + 1 + 1; omega) (.int .i64 t.kind)).setCell (p := ⟨w.heap.size + 1 + 1, 1, none⟩) (by show _ ≤ w.heap.size + 1 + 1; omega) (.int .i64 t.n)).setCell (p := ⟨w.heap.size + 1 + 1, 2, none⟩) (by show _ ≤ w.heap.size + 1 + 1; omega) (.string (bs t.s))).setCell (p := ⟨w.heap.size + 1 + 1, 3, none⟩) (by show _ ≤ w.heap.size + 1 + 1; omega) (.slice A2 t.l.length cA)).setCell (p := ⟨w.heap.size + 1 + 1, 4, none⟩) (by show _ ≤ w.heap.size + 1 + 1; omega) (.slice B2 t.f.length dB))
    go_wp2_with fail
    refine bodyPost_ret (v := .agg #[.int .i64 t.kind, .int .i64 t.n, .string (bs t.s), .slice A2 t.l.length cA, .slice B2 t.f.length dB]) (by simp [results, Try.results17, go_sem, r0, r1, r2, r3, r4]) rfl ?_
    generalize (((((w2.setCell ⟨w.heap.size + 1 + 1, 0, none⟩ (.int .i64 t.kind)).setCell ⟨w.heap.size + 1 + 1, 1, none⟩ (.int .i64 t.n)).setCell ⟨w.heap.size + 1 + 1, 2, none⟩ (.string (bs t.s))).setCell ⟨w.heap.size + 1 + 1, 3, none⟩ (.slice A2 t.l.length cA)).setCell ⟨w.heap.size + 1 + 1, 4, none⟩ (.slice B2 t.f.length dB)) = wF at *
    rw [HW.out]
    refine wtP_of rfl rfl rfl rfl rfl (hL2 wF (Kpx.of hK)) ?_ hbG
    by_cases h0 : t.f.length = 0
    · exact .inl (List.eq_nil_of_length_eq_zero h0)
    · obtain ⟨g, rfl⟩ := own_some hO2 h0
      exact rowE_of hO2 (hK.blk g (hO2.lt g rfl).1 (hO2.lt g rfl).2) rfl (hI2.mono fun j hj b hp => hp wF (hK.mono hhi))
  case pos =>
    have d6 : (t.kind == 6) = true := by simpa using h6
    have HW := Lib.hid (show wto t z = .mk t.kind t.n t.s t.l (t.f.filter fun x => !(x.1 == z)) by unfold wto; rw [if_pos h6])
    clear h6
    have c0 := E1.c 0 rfl
    have s4 := E1.c 4 rfl
    have p0 := E2.c 0 rfl
    have hfl := sz_fl t
    have hq : ∀ g, (Value.slice B2 t.f.length dB).ownBlock = some g → w0.heap.size ≤ g := fun g hg => own_ge2 hO2 hg
    have cD := delete_any w0.heap.size hi B2 t.f.length dB t.f xs z (w.heap.size + 1) w2 (by omega) rfl hO2 hI2 (fun g hg => ⟨hBp g hg, by have := hq g hg; omega⟩) p0
    go_wp2_with fail
    refine cD.mono ?_
    rintro e w7 ⟨v', xs', rfl, hO7, hI7, hgr⟩
    obtain ⟨m, hm⟩ : ∃ m, (t.f.filter fun x => !(x.1 == z)).length = m := ⟨_, rfl⟩
    rw [hm] at hO7
    obtain ⟨B', d', rfl⟩ := own_form hO7
    have E17 := E1.gbo hgr (fun g hg => by have := hq g hg; omega)
    have E47 := E4.gbo hgr (fun g hg => by have := hq g hg; omega)
    have hab7 := hb2.grown hgr hb2.size (fun g hg => by have := hq g hg; omega)
    clear cD c0 s4 p0 E1 E4 E2
    have s4 := E17.c 4 rfl
    have f4 := E17.f 4 rfl
    have l1 := E17.lt
    have E1 := E17.put1 4 (.slice B' m d')
    have gb8 := gb_set1 w7 ⟨w.heap.size, 4, none⟩ (.slice B' m d')
    have E4 := E47.gb gb8 (by show w.heap.size + 1 + 1 ≠ w.heap.size; omega)
    have hbF := hab7.setCell (p := ⟨w.heap.size, 4, none⟩) (Nat.le_refl _) (.slice B' m d')
    have hK8 := (Kpl.refl w0.heap.size w7).set (p := ⟨w.heap.size, 4, none⟩) (by show w.heap.size < _; omega) (.slice B' m d')
    go_upto_region 4 with (fail)
    clear s4 f4 l1 E17 E47 gb8
    generalize w7.setCell ⟨w.heap.size, 4, none⟩ (.slice B' m d') = w8 at *
    have s0 := E1.c 0 rfl
    have s1 := E1.c 1 rfl
    have s2 := E1.c 2 rfl
    have s3 := E1.c 3 rfl
    have s4 := E1.c 4 rfl
    have r0 := E4.c 0 rfl
    have r1 := E4.c 1 rfl
    have r2 := E4.c 2 rfl
    have r3 := E4.c 3 rfl
    have r4 := E4.c 4 rfl
    have q0 := E4.f 0 rfl
    have q1 := E4.f 1 rfl
    have q2 := E4.f 2 rfl
    have q3 := E4.f 3 rfl
    have q4 := E4.f 4 rfl
    have l1 := E1.lt
    have l2 := E4.lt
    have hrl : w.heap.size + 1 + 1 < w0.heap.size := by omega
    have hK := (((((Kpl.refl w0.heap.size w8).set (p := ⟨w.heap.size + 1 + 1, 0, none⟩) hrl (.int .i64 t.kind)).set (p := ⟨w.heap.size + 1 + 1, 1, none⟩) hrl (.int .i64 t.n)).set (p := ⟨w.heap.size + 1 + 1, 2, none⟩) hrl (.string (bs t.s))).set (p := ⟨w.heap.size + 1 + 1, 3, none⟩) hrl (.slice A2 t.l.length cA)).set (p := ⟨w.heap.size + 1 + 1, 4, none⟩) hrl (.slice B' m d')
    have hbG := (((((hbF.setCell (p := ⟨w.heap.size + 1 + 1, 0, none⟩) (by show _ ≤ w.heap.size + 1 + 1; omega) (.int .i64 t.kind)).setCell (p := ⟨w.heap.size + 1 + 1, 1, none⟩) (by show _ ≤ w.heap.size + 1 + 1; omega) (.int .i64 t.n)).setCell (p := ⟨w.heap.size + 1 + 1, 2, none⟩) (by show _ ≤ w.heap.size + 1 + 1; omega) (.string (bs t.s))).setCell (p := ⟨w.heap.size + 1 + 1, 3, none⟩) (by show _ ≤ w.heap.size + 1 + 1; omega) (.slice A2 t.l.length cA)).setCell (p := ⟨w.heap.size + 1 + 1, 4, none⟩) (by show _ ≤ w.heap.size + 1 + 1; omega) (.slice B' m d'))
    go_wp2_with fail
    refine bodyPost_ret (v := .agg #[.int .i64 t.kind, .int .i64 t.n, .string (bs t.s), .slice A2 t.l.length cA, .slice B' m d']) (by simp [results, Try.results17, go_sem, r0, r1, r2, r3, r4]) rfl ?_
    generalize (((((w8.setCell ⟨w.heap.size + 1 + 1, 0, none⟩ (.int .i64 t.kind)).setCell ⟨w.heap.size + 1 + 1, 1, none⟩ (.int .i64 t.n)).setCell ⟨w.heap.size + 1 + 1, 2, none⟩ (.string (bs t.s))).setCell ⟨w.heap.size + 1 + 1, 3, none⟩ (.slice A2 t.l.length cA)).setCell ⟨w.heap.size + 1 + 1, 4, none⟩ (.slice B' m d')) = wF at *
    have hKG := hK8.trans hK
    have hKH : Kpl hi w2 wF := (Kpl.gb0 hgr (fun g hg => hBp g hg)).trans (hKG.mono hhi)
    rw [HW.out]
    refine wtP_of hm rfl rfl rfl rfl (hL2 wF ((Kpx.gb hgr).trans (Kpx.of hKG))) ?_ hbG
    by_cases h0 : m = 0
    · exact .inl (List.eq_nil_of_length_eq_zero (by rw [← h0]; exact hm))
    · obtain ⟨g', rfl⟩ := own_some hO7 h0
      have hg' := hO7.lt g' rfl
      exact rowE_of hO7 (hKG.blk g' hg'.1 hg'.2) hm (hI7.mono fun j hj b hp => hp wF hKH)
end Go.Proofs.Ytlebppjldoodgaa

import Derived.Test.YtlebppjldoodgaaYi
/-
  The developers' Field. No conditions beyond those that each names.
-/
namespace Go.Proofs.Ytlebppjldoodgaa
open Go.RowKit Go.Sort
set_option maxRecDepth 100000 in
set_option maxHeartbeats 4000000 in
theorem devField_any (t : Vl) (z : Int) (v : Value) (w : World) (hok : sz t ≤ 2000000) (hv : VlV w t v) :
    Calls Try.prog 18 #[v, .int .i64 z] w (FdP (fvl t z) w) := by
  have cF := fun W (h : Below w.heap.size w W) => field_any t z v w W h (by have := sz_fl t; omega) hv
  obtain ⟨A, c, B, d, rfl, hR, hR2⟩ := hv
  obtain ⟨m, hm⟩ : ∃ m, t.l.length = m := ⟨_, rfl⟩
  obtain ⟨n, hn⟩ : ∃ n, t.f.length = n := ⟨_, rfl⟩
  have z1 : (w.alloc (Obj.cells #[.int .i64 t.kind, .int .i64 t.n, .string (bs t.s), .slice A m c, .slice B n d] 25)).heap.size = w.heap.size + 1 := by simp
  have hab := ab2 w (Obj.cells #[.int .i64 t.kind, .int .i64 t.n, .string (bs t.s), .slice A m c, .slice B n d] 25) (Obj.cells #[.int .i64 0, .int .i64 0, .string ⟨#[]⟩, .slice none 0 0, .slice none 0 0] 25)
  have C1 := (Bx.new5 w 25 (.int .i64 t.kind) (.int .i64 t.n) (.string (bs t.s)) (.slice A m c) (.slice B n d)).next (ab1 _ (Obj.cells #[.int .i64 0, .int .i64 0, .string ⟨#[]⟩, .slice none 0 0, .slice none 0 0] 25))
  have C2 := Bx.new5 (w.alloc (Obj.cells #[.int .i64 t.kind, .int .i64 t.n, .string (bs t.s), .slice A m c, .slice B n d] 25)) 25 (.int .i64 0) (.int .i64 0) (.string ⟨#[]⟩) (.slice none 0 0) (.slice none 0 0)
  rw [z1] at C2
  have cF2 := cF _ hab
  rw [hm, hn] at cF2 ⊢
  have hsz := fvl_sz t z
  clear cF hm hn hR hR2 z1
  obtain ⟨o, ho⟩ : ∃ o, fvl t z = o := ⟨_, rfl⟩
  rw [ho] at cF2 hsz ⊢
  clear ho
  go_enter Try.func18, Try.ntmps18
  go_wp2_with fail
  refine cF2.mono ?_
  rintro e w2 ⟨s, rfl, hrd0, hb2⟩
  have hrd := hrd0.next (Below.next hab hb2)
  obtain ⟨u, hu⟩ : ∃ u, o.getD vl0 = u := ⟨_, rfl⟩
  obtain ⟨b, hbb⟩ : ∃ b, o.isSome = b := ⟨_, rfl⟩
  have HU := Lib.hid hu
  have HB := Lib.hid hbb
  rw [hu] at hrd hsz
  simp only [hu, hbb]
  have hbx := ab1 w2 (Obj.cells #[.int .i64 u.kind, .int .i64 u.n, .string (bs u.s), .slice s.A u.l.length s.c, .slice s.B u.f.length s.d] 25)
  have cN := renew_any (SizeOf.sizeOf u + 1) u _ (w2.alloc (Obj.cells #[.int .i64 u.kind, .int .i64 u.n, .string (bs u.s), .slice s.A u.l.length s.c, .slice s.B u.f.length s.d] 25)) (by omega) (by omega) ⟨s.A, s.c, s.B, s.d, rfl, hrd.next hbx⟩
  have E2 := (C2.next hb2).next hbx
  have hab3 := Below.next (Below.next hab hb2) hbx
  have hl3 := E2.lt
  clear cF2 C1 C2 hab hb2 hrd hsz hu hbb
  go_wp2_with fail
  refine cN.mono ?_
  rintro e w3 hh
  obtain ⟨s3, rfl, hN3, hb3⟩ := hh.weak
  have E3 := E2.next hb3
  have hab4 := Below.next hab3 hb3
  have r0 := E3.c 0 rfl
  have r1 := E3.c 1 rfl
  have r2 := E3.c 2 rfl
  have r3 := E3.c 3 rfl
  have r4 := E3.c 4 rfl
  have q0 := E3.f 0 rfl
  have q1 := E3.f 1 rfl
  have q2 := E3.f 2 rfl
  have q3 := E3.f 3 rfl
  have q4 := E3.f 4 rfl
  have l3 := E3.lt
  clear cN hh E2 hab3 hb3
  go_wp2_with fail
  have hfin := gb5 hab4 (b := w.heap.size + 1) (Nat.le_succ _) (.int .i64 u.kind) (.int .i64 u.n) (.string (bs u.s)) (.slice s3.A u.l.length s3.c) (.slice s3.B u.f.length s3.d)
  refine bodyPost_ret (v := .tuple #[.agg #[.int .i64 u.kind, .int .i64 u.n, .string (bs u.s), .slice s3.A u.l.length s3.c, .slice s3.B u.f.length s3.d], .bool b]) (by simp [results, Try.results18, go_sem, r0, r1, r2, r3, r4]) rfl ⟨s3, by rw [HU.out, HB.out], ?_, hfin⟩
  rw [HU.out]
  exact hN3 _ ((((((Kpl.refl _ _).set hl3 _).set hl3 _).set hl3 _).set hl3 _).set hl3 _)
end Go.Proofs.Ytlebppjldoodgaa

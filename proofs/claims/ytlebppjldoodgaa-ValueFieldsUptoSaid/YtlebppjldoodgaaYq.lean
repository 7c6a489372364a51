import Derived.Test.YtlebppjldoodgaaYp
import Derived.Test.YtlebppjldoodgaaYo
import Derived.Test.YtlebppjldoodgaaYj
import Derived.Test.YtlebppjldoodgaaYk
/-
  The law's self-test, and which values are played. No conditions beyond those that each names.
-/
namespace Go.Proofs.Ytlebppjldoodgaa
open Go.RowKit Go.Shelf
set_option maxRecDepth 100000 in
set_option maxHeartbeats 4000000 in
theorem small_any (t : Vl) (v : Value) (w : World) (hok : vok t) (hv : VlV w t v) :
    Calls Try.prog 7 #[v] w (Ib (.bool (decide (wrap64 (sz t : Int) ≤ 300))) w) := by
  have cC := fun W h => refSize_any (SizeOf.sizeOf t + 1) t v W (by omega) hok (hv.next h)
  obtain ⟨A, c, A2, c2, rfl, -, -⟩ := hv
  have c1 := cC _ (ab1 w (Obj.cells #[.int .i64 t.kind, .int .i64 t.n, .string (bs t.s), .slice A t.l.length c, .slice A2 t.f.length c2] 25))
  clear cC
  generalize wrap64 (sz t : Int) = z at *
  go_enter Try.func7, Try.ntmps7
  go_wp2_with fail
  refine c1.mono ?_
  rintro e w2 ⟨rfl, hb⟩
  go_wp2_with fail
  go_ret
  exact ⟨rfl, Below.next (ab1 _ _) hb⟩
def aw1 : Vl := .mk 1 1 [] [] []
def aw6 : Vl := .mk 6 0 [] [] [(2, aw1)]
theorem aw_f : fvl aw6 2 = some aw1 := rfl
theorem aw_s : wrap64 (sz aw6 : Int) = 2 := by
  have : sz aw6 = 2 := by simp [aw6, aw1, sz, sz.szl, sz.szf]
  rw [this]; unfold wrap64; omega
theorem aw_k : vok aw6 := by simp [aw6, aw1, vok, vok.voks, vok.foks]
theorem aw_with (W : World) : Calls Try.prog 16 #[.agg #[.int .i64 6, .int .i64 0, .string ⟨#[]⟩, .slice none 0 0, .slice none 0 0], .int .i64 2, .agg #[.int .i64 1, .int .i64 1, .string ⟨#[]⟩, .slice none 0 0, .slice none 0 0]] W (fun e w' => ∃ s : Sb, e = .returned (.agg #[.int .i64 6, .int .i64 0, .string ⟨#[]⟩, .slice s.A 0 s.c, .slice s.B 1 s.d]) ∧ RdV w' aw6 s ∧ Below W.heap.size W w') := with0_any 0 [] 2 1 1 [] W
theorem aw_val {W : World} {s : Sb} (h : RdV W aw6 s) : VlV W aw6 (.agg #[.int .i64 6, .int .i64 0, .string ⟨#[]⟩, .slice s.A 0 s.c, .slice s.B 1 s.d]) := ⟨s.A, s.c, s.B, s.d, rfl, h⟩
theorem aw_field (W : World) (s : Sb) (h : RdV W aw6 s) : Calls Try.prog 18 #[.agg #[.int .i64 6, .int .i64 0, .string ⟨#[]⟩, .slice s.A 0 s.c, .slice s.B 1 s.d], .int .i64 2] W (fun e w' => ∃ s : Sb, e = .returned (.tuple #[.agg #[.int .i64 1, .int .i64 1, .string ⟨#[]⟩, .slice s.A 0 s.c, .slice s.B 0 s.d], .bool true]) ∧ Below W.heap.size W w') :=
  (devField_any aw6 2 _ W (by simp [aw6, aw1, sz, sz.szl, sz.szf]) (aw_val h)).mono fun e w' ⟨s, h1, _, h2⟩ => ⟨s, h1, h2⟩
theorem aw_size (W : World) (s : Sb) (h : RdV W aw6 s) : Calls Try.prog 25 #[.agg #[.int .i64 6, .int .i64 0, .string ⟨#[]⟩, .slice s.A 0 s.c, .slice s.B 1 s.d]] W (Ib (.int .i64 2) W) := by
  have := devSize_any (SizeOf.sizeOf aw6 + 1) aw6 _ W (by omega) aw_k (aw_val h)
  rw [aw_s] at this
  exact this
set_option maxRecDepth 100000 in
set_option maxHeartbeats 8000000 in
theorem awake_any (w : World) : Calls Try.prog 8 #[] w (Ib (.bool true) w) := by
  have cS := schema0_any
  go_enter Try.func8, Try.ntmps8
  go_wp2_with fail
  refine (aw_with _).mono ?_
  rintro e w2 ⟨s, rfl, hrd, hb2⟩
  have hbx := ab1 w2 (Obj.cells #[.int .i64 6, .int .i64 0, .string ⟨#[]⟩, .slice s.A 0 s.c, .slice s.B 1 s.d] 25)
  have D1 := Bx.new5 w2 25 (.int .i64 6) (.int .i64 0) (.string ⟨#[]⟩) (.slice s.A 0 s.c) (.slice s.B 1 s.d)
  have c1 := aw_field (w2.alloc (Obj.cells #[.int .i64 6, .int .i64 0, .string ⟨#[]⟩, .slice s.A 0 s.c, .slice s.B 1 s.d] 25)) s (hrd.next hbx)
  have hab := Below.next hb2 hbx
  go_wp2_with fail
  refine c1.mono ?_
  rintro e w3 ⟨q, rfl, hb3⟩
  have hby := ab1 w3 (Obj.cells #[.int .i64 1, .int .i64 1, .string ⟨#[]⟩, .slice q.A 0 q.c, .slice q.B 0 q.d] 25)
  have D2 := Bx.new5 w3 25 (.int .i64 1) (.int .i64 1) (.string ⟨#[]⟩) (.slice q.A 0 q.c) (.slice q.B 0 q.d)
  replace D1 := (D1.next hb3).next hby
  have hrd2 := hrd.next (Below.next hbx (Below.next hb3 hby))
  replace hab := Below.next (Below.next hab hb3) hby
  clear c1 hbx hb3 hby hb2
  have x0 := D2.c 0 rfl
  have x1 := D2.c 1 rfl
  go_wp2_with fail
  refine (cS _).mono ?_
  rintro e w4 ⟨v, E, e1, e2, F, f1, f2, rfl, hb4⟩
  have hrd4 := hrd2.next (Below.refl _ _)
  replace D1 := D1.next hb4
  have hr4 : RdV w4 aw6 s := hrd2.next hb4
  replace hab := Below.next hab hb4
  clear x0 x1 D2 hrd4
  go_wp2_with fail
  refine (valueCheck128_any v E e1 e2 F f1 f2 w4).mono ?_
  rintro e w5 ⟨rfl, hb5⟩
  replace D1 := D1.next hb5
  have hr5 : RdV w5 aw6 s := hr4.next hb5
  replace hab := Below.next hab hb5
  have y0 := D1.c 0 rfl
  have y1 := D1.c 1 rfl
  have y2 := D1.c 2 rfl
  have y3 := D1.c 3 rfl
  have y4 := D1.c 4 rfl
  have c2 := aw_size w5 s hr5
  go_wp2_with fail
  refine c2.mono ?_
  rintro e w6 ⟨rfl, hb6⟩
  go_wp2_with fail
  go_ret
  exact ⟨rfl, Below.next hab hb6⟩
end Go.Proofs.Ytlebppjldoodgaa

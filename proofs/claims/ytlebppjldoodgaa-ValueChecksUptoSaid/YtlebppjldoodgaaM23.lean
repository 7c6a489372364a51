/-
  The developers' Size. No conditions beyond those that each names.
-/
import Derived.Test.YtlebppjldoodgaaM08
import Derived.Test.YtlebppjldoodgaaM11
import Derived.Test.YtlebppjldoodgaaM13
import Derived.Test.YtlebppjldoodgaaM14
import Derived.Test.YtlebppjldoodgaaM22
namespace Go.Proofs.Ytlebppjldoodgaa
open Go.RowKit
set_option maxRecDepth 100000 in
set_option maxHeartbeats 4000000 in
theorem devSize_any (N : Nat) : ∀ (t : Vl) (v : Value) (w : World), SizeOf.sizeOf t < N → vok t → VlV w t v →
    Calls Try.prog 25 #[v] w (Ib (.int .i64 (wrap64 (sz t : Int))) w) := by
  induction N with
  | zero => intro t v w h; omega
  | succ N ih =>
    intro t v w hN hok hv
    obtain ⟨-, ⟨hl, hlo⟩, hf, hfo⟩ := vok_iff.1 hok
    have cL : ∀ (i : Nat) (h : i < t.l.length) v w, VlV w (t.l[i]'h) v → Calls Try.prog 25 #[v] w (Ib (.int .i64 (wrap64 (sz (t.l[i]'h) : Int))) w) := fun i h v w => ih _ v w (by have := size_l h; omega) (hlo _ (List.getElem_mem h))
    have cF : ∀ (i : Nat) (h : i < t.f.length) v w, VlV w (t.f[i]'h).2 v → Calls Try.prog 25 #[v] w (Ib (.int .i64 (wrap64 (sz (t.f[i]'h).2 : Int))) w) := fun i h v w => ih _ v w (by have := size_f h; omega) (hfo _ (List.getElem_mem h))
    have HZ := Lib.hid (sz_eq t)
    obtain ⟨A, c, A2, c2, rfl, hR, hR2⟩ := hv
    obtain ⟨m, hm⟩ : ∃ m, t.l.length = m := ⟨_, rfl⟩
    obtain ⟨n, hn⟩ : ∃ n, t.f.length = n := ⟨_, rfl⟩
    obtain ⟨z, hz⟩ : ∃ z, wrap64 (sz t : Int) = z := ⟨_, rfl⟩
    have HQ := Lib.hid hz
    have HM := Lib.hid hm
    have HN := Lib.hid hn
    rw [hm] at hl ⊢
    rw [hn] at hf ⊢
    rw [hz]
    have hB := Bx.new5 w 25 (.int .i64 t.kind) (.int .i64 t.n) (.string (bs t.s)) (.slice A m c) (.slice A2 n c2)
    have H0 := Lib.hid (show (1 : Int) = wrap64 ((1 + sz.szl (t.l.take 0) : Nat) : Int) by rw [List.take_zero, sz.szl]; unfold wrap64; omega)
    clear hm hn hz ih hok hlo hfo hN
    go_enter Try.func25, Try.ntmps25
    go_wp2_with fail
    go_loopw [3, 11] (fun s i wr => ∃ (k : Nat) (x : Int), k ≤ m ∧ i = .int .i64 (k : Int) ∧ s = .int .i64 x ∧ Hid (x = wrap64 ((1 + sz.szl (t.l.take k) : Nat) : Int)) ∧ Bx wr w.heap.size [.int .i64 t.kind, .int .i64 t.n, .string (bs t.s), .slice A m c, .slice A2 n c2] ∧ Below w.heap.size w wr) (fun _ i _ => m - (intOf i).toNat)
    case atStart => exact ⟨0, 1, by omega, rfl, rfl, H0, hB, ab1 _ _⟩
    case round =>
      obtain ⟨k, x, hk, rfl, rfl, hx, hBr, hb⟩ := hrel
      have c3 := hBr.c 3 rfl
      have c4 := hBr.c 4 rfl
      by_cases hlt : k < m
      · have h1 : k < t.l.length := by rw [HM.out]; exact hlt
        obtain ⟨a, rfl, hA⟩ := hR.get h1
        have hA := VlA.next hb _ _ hA
        obtain ⟨A3, c5, A4, c6, h0, h1', h2, h3, h4, hV⟩ := hA.val
        have hblk : (a.add (k * 5)).block < wr.heap.size := blk_lt h0
        have cS := cL k h1 _ _ (hV.next (ab1 wr (Obj.cells #[.int .i64 (t.l[k]'h1).kind, .int .i64 (t.l[k]'h1).n, .string (bs (t.l[k]'h1).s), .slice A3 (t.l[k]'h1).l.length c5, .slice A4 (t.l[k]'h1).f.length c6] 25)))
        have HS := Lib.hid (szl_take h1)
        have hx2 := hx.out
        generalize t.l[k]'h1 = u at *
        have HX := Lib.hid (show wrap64 (x + wrap64 (sz u : Int)) = wrap64 ((1 + sz.szl (t.l.take (k + 1)) : Nat) : Int) by
          rw [hx2, wrap_add, HS.out]; congr 1; omega)
        generalize wrap64 (sz u : Int) = y at *
        clear hx hx2 HS cL cF hR hR2 hA
        obtain ⟨x2, hx2⟩ : ∃ x2, wrap64 (x + y) = x2 := ⟨_, rfl⟩
        rw [hx2] at HX
        go_wp2_with fail
        refine cS.mono ?_
        rintro e w2 ⟨rfl, hb2⟩
        go_wp2_with fail
        go_roundw
        case rel => exact ⟨k + 1, x2, by omega, by go_num, by first | rfl | (rw [← hx2]) | (rw [intK, ← hx2]), HX, (hBr.next (ab1 _ _)).next hb2, Below.next (Below.next hb (ab1 _ _)) hb2⟩
        case measure => simp [intOf]; omega
      · obtain rfl : k = m := by omega
        have HX := Lib.hid (show x = wrap64 ((1 + sz.szl t.l + sz.szf (t.f.take 0) : Nat) : Int) by rw [hx.out, List.take_of_length_le (by rw [HM.out]; exact Nat.le_refl _), List.take_zero, sz.szf]; rfl)
        clear hx H0 hB cL hR
        go_wp2_with fail
        go_loopw [3, 23] (fun s i wr => ∃ (j : Nat) (y : Int), j ≤ n ∧ i = .int .i64 (j : Int) ∧ s = .int .i64 y ∧ Hid (y = wrap64 ((1 + sz.szl t.l + sz.szf (t.f.take j) : Nat) : Int)) ∧ Bx wr w.heap.size [.int .i64 t.kind, .int .i64 t.n, .string (bs t.s), .slice A k c, .slice A2 n c2] ∧ Below w.heap.size w wr) (fun _ i _ => n - (intOf i).toNat)
        case atStart => exact ⟨0, x, by omega, rfl, rfl, HX, hBr, hb⟩
        case round =>
          clear hb hBr c3 c4 HX
          obtain ⟨j, x, hj, rfl, rfl, hx, hBr, hb⟩ := hrel
          have c3 := hBr.c 3 rfl
          have c4 := hBr.c 4 rfl
          by_cases hlt : j < n
          · have h1 : j < t.f.length := by rw [HN.out]; exact hlt
            obtain ⟨a, rfl, hA⟩ := hR2.get h1
            have hA := EtA.next hb _ _ hA
            obtain ⟨A3, c5, A4, c6, hn0, h0, h1', h2, h3, h4, hV⟩ := hA.val
            have hblk : (a.add (j * 6)).block < wr.heap.size := blk_lt hn0
            have cS := cF j h1 _ _ (hV.next (ab1 wr (Obj.cells #[.int .i64 (t.f[j]'h1).1, .int .i64 (t.f[j]'h1).2.kind, .int .i64 (t.f[j]'h1).2.n, .string (bs (t.f[j]'h1).2.s), .slice A3 (t.f[j]'h1).2.l.length c5, .slice A4 (t.f[j]'h1).2.f.length c6] 72)))
            generalize (t.f[j]'h1).1 = num at *
            have HS := Lib.hid (szf_take h1)
            have hx2 := hx.out
            generalize (t.f[j]'h1).2 = u at *
            have HX := Lib.hid (show wrap64 (x + wrap64 (sz u : Int)) = wrap64 ((1 + sz.szl t.l + sz.szf (t.f.take (j + 1)) : Nat) : Int) by
              rw [hx2, wrap_add, HS.out]; congr 1; omega)
            generalize wrap64 (sz u : Int) = y at *
            clear hx hx2 HS cF hR2 hA
            obtain ⟨x2, hx2⟩ : ∃ x2, wrap64 (x + y) = x2 := ⟨_, rfl⟩
            rw [hx2] at HX
            go_wp2_with fail
            refine cS.mono ?_
            rintro e w2 ⟨rfl, hb2⟩
            go_wp2_with fail
            go_roundw
            case rel => exact ⟨j + 1, x2, by omega, by go_num, by first | rfl | (rw [← hx2]) | (rw [intK, ← hx2]), HX, (hBr.next (ab1 _ _)).next hb2, Below.next (Below.next hb (ab1 _ _)) hb2⟩
            case measure => simp [intOf]; omega
          · obtain rfl : j = n := by omega
            obtain rfl : x = z := by
              rw [← HQ.out, hx.out, HZ.out, List.take_of_length_le (by rw [HN.out]; exact Nat.le_refl _)]
            clear hx cF hR2
            go_wp2_with fail
            go_ret
            exact ⟨rfl, hb⟩
end Go.Proofs.Ytlebppjldoodgaa
/-
  The law's self-test, and which values are played. No conditions beyond those that each names.
-/
namespace Go.Proofs.Ytlebppjldoodgaa
open Go.RowKit Go.Shelf
set_option maxRecDepth 100000 in
set_option maxHeartbeats 4000000 in
theorem small_any (t : Vl) (v : Value) (w : World) (hok : vok t) (hv : VlV w t v) :
    Calls Try.prog 7 #[v] w (Ib (.bool (decide (wrap64 (sz t : Int) ≤ 300))) w) := by
  have cC := fun W h => refSize_any (SizeOf.sizeOf t + 1) t v W (by omega) hok (hv.next h)
  obtain ⟨A, c, A2, c2, rfl, -, -⟩ := hv
  have c1 := cC _ (ab1 w (Obj.cells #[.int .i64 t.kind, .int .i64 t.n, .string (bs t.s), .slice A t.l.length c, .slice A2 t.f.length c2] 25))
  clear cC
  generalize wrap64 (sz t : Int) = z at *
  go_enter Try.func7, Try.ntmps7
  go_wp2_with fail
  refine c1.mono ?_
  rintro e w2 ⟨rfl, hb⟩
  go_wp2_with fail
  go_ret
  exact ⟨rfl, Below.next (ab1 _ _) hb⟩
def aw1 : Vl := .mk 1 1 [] [] []
def aw6 : Vl := .mk 6 0 [] [] [(2, aw1)]
theorem aw_f : fvl aw6 2 = some aw1 := rfl
theorem aw_s : wrap64 (sz aw6 : Int) = 2 := by
  have : sz aw6 = 2 := by simp [aw6, aw1, sz, sz.szl, sz.szf]
  rw [this]; unfold wrap64; omega
theorem aw_k : vok aw6 := by simp [aw6, aw1, vok, vok.voks, vok.foks]
theorem aw_with (W : World) : Calls Try.prog 16 #[.agg #[.int .i64 6, .int .i64 0, .string ⟨#[]⟩, .slice none 0 0, .slice none 0 0], .int .i64 2, .agg #[.int .i64 1, .int .i64 1, .string ⟨#[]⟩, .slice none 0 0, .slice none 0 0]] W (fun e w' => ∃ s : Sb, e = .returned (.agg #[.int .i64 6, .int .i64 0, .string ⟨#[]⟩, .slice s.A 0 s.c, .slice s.B 1 s.d]) ∧ RdV w' aw6 s ∧ Below W.heap.size W w') := with0_any 0 [] 2 1 1 [] W
theorem aw_val {W : World} {s : Sb} (h : RdV W aw6 s) : VlV W aw6 (.agg #[.int .i64 6, .int .i64 0, .string ⟨#[]⟩, .slice s.A 0 s.c, .slice s.B 1 s.d]) := ⟨s.A, s.c, s.B, s.d, rfl, h⟩
theorem aw_field (W : World) (s : Sb) (h : RdV W aw6 s) : Calls Try.prog 18 #[.agg #[.int .i64 6, .int .i64 0, .string ⟨#[]⟩, .slice s.A 0 s.c, .slice s.B 1 s.d], .int .i64 2] W (fun e w' => ∃ s : Sb, e = .returned (.tuple #[.agg #[.int .i64 1, .int .i64 1, .string ⟨#[]⟩, .slice s.A 0 s.c, .slice s.B 0 s.d], .bool true]) ∧ Below W.heap.size W w') :=
  (devField_any aw6 2 _ W (by simp [aw6, aw1, sz, sz.szl, sz.szf]) (aw_val h)).mono fun e w' ⟨s, h1, _, h2⟩ => ⟨s, h1, h2⟩
theorem aw_size (W : World) (s : Sb) (h : RdV W aw6 s) : Calls Try.prog 25 #[.agg #[.int .i64 6, .int .i64 0, .string ⟨#[]⟩, .slice s.A 0 s.c, .slice s.B 1 s.d]] W (Ib (.int .i64 2) W) := by
  have := devSize_any (SizeOf.sizeOf aw6 + 1) aw6 _ W (by omega) aw_k (aw_val h)
  rw [aw_s] at this
  exact this
set_option maxRecDepth 100000 in
set_option maxHeartbeats 8000000 in
theorem awake_any (w : World) : Calls Try.prog 8 #[] w (Ib (.bool true) w) := by
  have cS := schema0_any
  go_enter Try.func8, Try.ntmps8
  go_wp2_with fail
  refine (aw_with _).mono ?_
  rintro e w2 ⟨s, rfl, hrd, hb2⟩
  have hbx := ab1 w2 (Obj.cells #[.int .i64 6, .int .i64 0, .string ⟨#[]⟩, .slice s.A 0 s.c, .slice s.B 1 s.d] 25)
  have D1 := Bx.new5 w2 25 (.int .i64 6) (.int .i64 0) (.string ⟨#[]⟩) (.slice s.A 0 s.c) (.slice s.B 1 s.d)
  have c1 := aw_field (w2.alloc (Obj.cells #[.int .i64 6, .int .i64 0, .string ⟨#[]⟩, .slice s.A 0 s.c, .slice s.B 1 s.d] 25)) s (hrd.next hbx)
  have hab := Below.next hb2 hbx
  go_wp2_with fail
  refine c1.mono ?_
  rintro e w3 ⟨q, rfl, hb3⟩
  have hby := ab1 w3 (Obj.cells #[.int .i64 1, .int .i64 1, .string ⟨#[]⟩, .slice q.A 0 q.c, .slice q.B 0 q.d] 25)
  have D2 := Bx.new5 w3 25 (.int .i64 1) (.int .i64 1) (.string ⟨#[]⟩) (.slice q.A 0 q.c) (.slice q.B 0 q.d)
  replace D1 := (D1.next hb3).next hby
  have hrd2 := hrd.next (Below.next hbx (Below.next hb3 hby))
  replace hab := Below.next (Below.next hab hb3) hby
  clear c1 hbx hb3 hby hb2
  have x0 := D2.c 0 rfl
  have x1 := D2.c 1 rfl
  go_wp2_with fail
  refine (cS _).mono ?_
  rintro e w4 ⟨v, E, e1, e2, F, f1, f2, rfl, hb4⟩
  have hrd4 := hrd2.next (Below.refl _ _)
  replace D1 := D1.next hb4
  have hr4 : RdV w4 aw6 s := hrd2.next hb4
  replace hab := Below.next hab hb4
  clear x0 x1 D2 hrd4
  go_wp2_with fail
  refine (valueCheck128_any v E e1 e2 F f1 f2 w4).mono ?_
  rintro e w5 ⟨rfl, hb5⟩
  replace D1 := D1.next hb5
  have hr5 : RdV w5 aw6 s := hr4.next hb5
  replace hab := Below.next hab hb5
  have y0 := D1.c 0 rfl
  have y1 := D1.c 1 rfl
  have y2 := D1.c 2 rfl
  have y3 := D1.c 3 rfl
  have y4 := D1.c 4 rfl
  have c2 := aw_size w5 s hr5
  go_wp2_with fail
  refine c2.mono ?_
  rintro e w6 ⟨rfl, hb6⟩
  go_wp2_with fail
  go_ret
  exact ⟨rfl, Below.next hab hb6⟩
end Go.Proofs.Ytlebppjldoodgaa
/-
  The law of checks. Its condition: the value has at most 1048576 values within it.
-/
namespace Go.Proofs.Ytlebppjldoodgaa
open Go.RowKit
/-- A slot that holds a schema, wherever its parts lie. -/
def FSc (S : Sch) (W0 : World) : Fact := ⟨fun v w => ScV w S v ∧ Below W0.heap.size W0 w, fun _ _ _ ⟨h, hb⟩ hb' => ⟨ScV.next hb' h, upG hb hb'⟩⟩
/-- A slot that holds a type, wherever its parts lie. -/
def FTy (T : Ty) (W0 : World) : Fact := ⟨fun v w => TyV w T v ∧ Below W0.heap.size W0 w, fun _ _ _ ⟨h, hb⟩ hb' => ⟨TyV.next hb' h, upG hb hb'⟩⟩
/-- The law's schemas. -/
def schN (n : Int) : Sch := if n % 2 = 1 then schB else schA
theorem schema_any (n : Int) (w : World) (h0 : 0 ≤ n) (h1 : n ≤ 255) : Calls Try.prog 10 #[.int .u8 n] w (ScP (schN n) w) := by
  unfold schN
  by_cases h : n % 2 = 1
  · rw [if_pos h]; exact schemaB_any n w h0 h1 h
  · rw [if_neg h]; exact schemaA_any n w h0 h1 (by omega)
theorem few_tag : stTag.fields.length ≤ 1000 ∧ ∀ f ∈ stTag.fields, fewT f.type = true := ⟨by decide, List.all_eq_true.1 (by decide +kernel)⟩
theorem few_top : stTop.fields.length ≤ 1000 ∧ ∀ f ∈ stTop.fields, fewT f.type = true := ⟨by decide, List.all_eq_true.1 (by decide +kernel)⟩
theorem few_schN (n : Int) : Few9 (schN n) := by
  unfold schN
  split
  · exact ⟨by decide, by decide, fun t ht => by
      obtain rfl : t = stTag := by simpa [schB] using ht
      exact few_tag, fun t ht => by simp [schB] at ht⟩
  · exact ⟨by decide, by decide, fun t ht => by
      obtain rfl | rfl : t = stTag ∨ t = stTop := by simpa [schA] using ht
      · exact few_tag
      · exact few_top, fun t ht => by
      obtain rfl : t = enMode := by simpa [schA] using ht
      exact ⟨by decide, by decide⟩⟩
theorem lok_tag : ∀ f ∈ stTag.fields, lok f.type := by
  intro f hf
  simp only [stTag, List.mem_cons, List.not_mem_nil, or_false] at hf
  rcases hf with rfl | rfl <;> simp [lok, lok.loks]
theorem lok_top : ∀ f ∈ stTop.fields, lok f.type := by
  intro f hf
  simp only [stTop, List.mem_cons, List.not_mem_nil, or_false] at hf
  rcases hf with rfl | rfl | rfl | rfl <;> simp [lok, lok.loks]
theorem asc_tag : AscD stTag.fields := by simp [AscD, stTag]
theorem asc_top : AscD stTop.fields := by simp [AscD, stTop]
theorem lok_schN (n : Int) : lok9 (schN n) := by
  unfold schN
  split
  · intro t ht
    obtain rfl : t = stTag := by simpa [schB] using ht
    exact lok_tag
  · intro t ht
    obtain rfl | rfl : t = stTag ∨ t = stTop := by simpa [schA] using ht
    · exact lok_tag
    · exact lok_top
theorem asc_schN (n : Int) : ∀ t ∈ (schN n).structs, AscD t.fields := by
  unfold schN
  split
  · intro t ht
    obtain rfl : t = stTag := by simpa [schB] using ht
    exact asc_tag
  · intro t ht
    obtain rfl | rfl : t = stTag ∨ t = stTop := by simpa [schA] using ht
    · exact asc_tag
    · exact asc_top
theorem lok_typ (n : Int) : lok (typ n) := by
  unfold typ
  rw [List.getD_eq_getElem?_getD]
  cases h : tyL[(n % 15).toNat]? with
  | none => simp [lok, lok.loks]
  | some t =>
    have ht := List.mem_of_getElem? h
    simp only [tyL, List.mem_cons, List.not_mem_nil, or_false] at ht
    rcases ht with rfl | rfl | rfl | rfl | rfl | rfl | rfl | rfl | rfl | rfl | rfl | rfl | rfl | rfl | rfl <;> simp [lok, lok.loks]
set_option maxRecDepth 100000 in
set_option maxHeartbeats 8000000 in
theorem checks_any (n m : Int) (t : Vl) (v : Value) (w : World) (hn0 : 0 ≤ n) (hn1 : n ≤ 255) (hm0 : 0 ≤ m) (hm1 : m ≤ 255) (hok : vok t) (hrk : vrk t) (hsz : sz t ≤ 1048576) (hv : VlV w t v) :
    Calls Try.prog 3 #[.int .u8 n, .int .u8 m, v] w (Ib (.bool true) w) := by
  have sM := fun W h => small_any t v W hok (hv.next h)
  obtain ⟨p, hp⟩ : ∃ p, decide (wrap64 (sz t : Int) ≤ 300) = p := ⟨_, rfl⟩
  rw [hp] at sM
  clear hp
  have cSc := fun W => schema_any n W hn0 hn1
  have cTy := fun W => type_any m W hm0 hm1
  have hF := few_schN n
  have hK := lok_schN n
  have hA := asc_schN n
  have hT := lok_typ m
  generalize schN n = S at *
  generalize typ m = T at *
  have cD0 := fun W a b h hS hTy => devCheck_any S T t a b v W hF hK hA hT hok hS hTy (hv.next h)
  have cR0 := fun W a b h hS hTy => refCheck_any S T t a b v W hF hK hT hok hrk (by omega) hS hTy (hv.next h)
  generalize vchk S T t = r at *
  obtain ⟨A, c, B, d, rfl, -, -⟩ := hv
  have D1 := Bx.new5 w 25 (.int .i64 t.kind) (.int .i64 t.n) (.string (bs t.s)) (.slice A t.l.length c) (.slice B t.f.length d)
  have hab := ab1 w (Obj.cells #[.int .i64 t.kind, .int .i64 t.n, .string (bs t.s), .slice A t.l.length c, .slice B t.f.length d] 25)
  have s1 := sM _ hab
  clear hn0 hn1 hm0 hm1 hF hK hA hT hok hrk hsz sM
  go_enter Try.func3, Try.ntmps3
  go_wp2_with fail
  refine s1.mono ?_
  rintro e w1 ⟨rfl, hb1⟩
  replace D1 := D1.next hb1
  replace hab := Below.next hab hb1
  clear s1 hb1
  cases p
  case false =>
    go_wp2_with fail
    refine (awake_any _).mono ?_
    rintro e w9 ⟨rfl, hb9⟩
    go_wp2_with fail
    go_ret
    exact ⟨rfl, Below.next hab hb9⟩
  case true =>
  have q0 := D1.c 0 rfl
  have q1 := D1.c 1 rfl
  have q2 := D1.c 2 rfl
  have q3 := D1.c 3 rfl
  have q4 := D1.c 4 rfl
  have cD := fun W a b (h : Below w1.heap.size w1 W) hS hTy => cD0 W a b (Below.next hab h) hS hTy
  have cR := fun W a b (h : Below w1.heap.size w1 W) hS hTy => cR0 W a b (Below.next hab h) hS hTy
  clear cD0 cR0
  go_upto_region 3 with (fail)
  refine wp_region_on (by kernel_rfl) (FF [(0, Fact.at_ w1 (.int .u8 n)), (1, Fact.at_ w1 (.int .u8 m)), (5, Fact.at_ w1 (.pointer (some ⟨w.heap.size, 0, none⟩))), (11, Fact.at_ w1 (.int .u8 n)), (12, FSc S w1), (13, Fact.at_ w1 (.int .u8 m)), (14, FTy T w1), (15, Fact.at_ w1 (.agg #[.int .i64 t.kind, .int .i64 t.n, .string (bs t.s), .slice A t.l.length c, .slice B t.f.length d])), (16, Fact.at_ w1 (.int .i64 r)), (17, Fact.at_ w1 (.int .u8 n)), (18, FSc S w1), (19, Fact.at_ w1 (.int .u8 m)), (20, FTy T w1), (21, Fact.at_ w1 (.agg #[.int .i64 t.kind, .int .i64 t.n, .string (bs t.s), .slice A t.l.length c, .slice B t.f.length d])), (22, Fact.at_ w1 (.int .i64 r)), (23, Fact.at_ w1 (.bool true)), (24, Fact.at_ w1 (.bool true)), (25, Fact.at_ w1 (.bool true)), (26, Fact.at_ w1 (.bool true)), (6, Fact.at_ w1 (.bool true))]) [0, 1, 5] 27 [11, 12, 13, 14, 15, 16, 17, 18, 19, 20, 21, 22, 23, 24, 25, 26, 6] rfl (by kernel_rfl) (by kernel_rfl) ?_ ?_ ?_
  · intro t9 ht9
    simp only [List.mem_cons, List.not_mem_nil, or_false] at ht9
    rcases ht9 with rfl | rfl | rfl
    · exact ⟨rfl, Below.refl _ _⟩
    · exact ⟨rfl, Below.refl _ _⟩
    · exact ⟨rfl, Below.refl _ _⟩
  · refine fcs ⟨atcopy 0 11 (.int .u8 n) (.inl rfl) rfl (by first | exact .inl rfl | exact .inr ⟨_, _, _, rfl, rfl, by kernel_rfl, by decide, rfl⟩) (by kernel_rfl) rfl rfl, ?_⟩
    refine fcs ⟨at_enter (W0 := w1) (by first | exact .inl rfl | exact .inr ⟨_, _, _, rfl, rfl, by kernel_rfl, by decide, rfl⟩) (fun a9 W9 hf9 => by have p11 := hf9 11 (by kernel_rfl); have q11 : a9.tmps.getD 11 undef = (.int .u8 n) := p11.1; have hb9 := p11.2; exact ⟨10, #[(.int .u8 n)], by rw [← q11]; simpa [execOp, resolve, Act.eval] using run_invoke (by kernel_rfl) _ W9, (cSc W9).mono fun e w' ⟨v, e1, e2, e3⟩ => ⟨v, e1, e3, fun s hs => by injection hs with hs; subst hs; exact ⟨e2, upG hb9 e3⟩⟩⟩), ?_⟩
    refine fcs ⟨atcopy 1 13 (.int .u8 m) (.inl rfl) rfl (by first | exact .inl rfl | exact .inr ⟨_, _, _, rfl, rfl, by kernel_rfl, by decide, rfl⟩) (by kernel_rfl) rfl rfl, ?_⟩
    refine fcs ⟨at_enter (W0 := w1) (by first | exact .inl rfl | exact .inr ⟨_, _, _, rfl, rfl, by kernel_rfl, by decide, rfl⟩) (fun a9 W9 hf9 => by have p13 := hf9 13 (by kernel_rfl); have q13 : a9.tmps.getD 13 undef = (.int .u8 m) := p13.1; have hb9 := p13.2; exact ⟨11, #[(.int .u8 m)], by rw [← q13]; simpa [execOp, resolve, Act.eval] using run_invoke (by kernel_rfl) _ W9, (cTy W9).mono fun e w' ⟨v, e1, e2, e3⟩ => ⟨v, e1, e3, fun s hs => by injection hs with hs; subst hs; exact ⟨e2, upG hb9 e3⟩⟩⟩), ?_⟩
    refine fcs ⟨at1 5 15 (.pointer (some ⟨w.heap.size, 0, none⟩)) (.agg #[.int .i64 t.kind, .int .i64 t.n, .string (bs t.s), .slice A t.l.length c, .slice B t.f.length d]) rfl (by first | exact .inl rfl | exact .inr ⟨_, _, _, rfl, rfl, by kernel_rfl, by decide, rfl⟩) (by kernel_rfl) rfl rfl (fun a9 W9 hb9 h9 => by have g0 := cell_next hb9 q0; have g1 := cell_next hb9 q1; have g2 := cell_next hb9 q2; have g3 := cell_next hb9 q3; have g4 := cell_next hb9 q4; simp [execOp, h9] <;> go_simp), ?_⟩
    refine fcs ⟨at_enter (W0 := w1) (by first | exact .inl rfl | exact .inr ⟨_, _, _, rfl, rfl, by kernel_rfl, by decide, rfl⟩) (fun a9 W9 hf9 => by have p12 := hf9 12 (by kernel_rfl); have p14 := hf9 14 (by kernel_rfl); have p15 := hf9 15 (by kernel_rfl); have q15 : a9.tmps.getD 15 undef = (.agg #[.int .i64 t.kind, .int .i64 t.n, .string (bs t.s), .slice A t.l.length c, .slice B t.f.length d]) := p15.1; have hb9 := p15.2; exact ⟨9, #[(a9.tmps.getD 12 undef), (a9.tmps.getD 14 undef), (.agg #[.int .i64 t.kind, .int .i64 t.n, .string (bs t.s), .slice A t.l.length c, .slice B t.f.length d])], by rw [← q15]; simpa [execOp, resolve, Act.eval] using run_invoke (by kernel_rfl) _ W9, (cD W9 _ _ hb9 p12.1 p14.1).mono fun e w' ⟨e1, e2⟩ => ⟨_, e1, e2, fun s hs => by injection hs with hs; subst hs; exact ⟨rfl, upG hb9 e2⟩⟩⟩), ?_⟩
    refine fcs ⟨atcopy 0 17 (.int .u8 n) (.inl rfl) rfl (by first | exact .inl rfl | exact .inr ⟨_, _, _, rfl, rfl, by kernel_rfl, by decide, rfl⟩) (by kernel_rfl) rfl rfl, ?_⟩
    refine fcs ⟨at_enter (W0 := w1) (by first | exact .inl rfl | exact .inr ⟨_, _, _, rfl, rfl, by kernel_rfl, by decide, rfl⟩) (fun a9 W9 hf9 => by have p17 := hf9 17 (by kernel_rfl); have q17 : a9.tmps.getD 17 undef = (.int .u8 n) := p17.1; have hb9 := p17.2; exact ⟨10, #[(.int .u8 n)], by rw [← q17]; simpa [execOp, resolve, Act.eval] using run_invoke (by kernel_rfl) _ W9, (cSc W9).mono fun e w' ⟨v, e1, e2, e3⟩ => ⟨v, e1, e3, fun s hs => by injection hs with hs; subst hs; exact ⟨e2, upG hb9 e3⟩⟩⟩), ?_⟩
    refine fcs ⟨atcopy 1 19 (.int .u8 m) (.inl rfl) rfl (by first | exact .inl rfl | exact .inr ⟨_, _, _, rfl, rfl, by kernel_rfl, by decide, rfl⟩) (by kernel_rfl) rfl rfl, ?_⟩
    refine fcs ⟨at_enter (W0 := w1) (by first | exact .inl rfl | exact .inr ⟨_, _, _, rfl, rfl, by kernel_rfl, by decide, rfl⟩) (fun a9 W9 hf9 => by have p19 := hf9 19 (by kernel_rfl); have q19 : a9.tmps.getD 19 undef = (.int .u8 m) := p19.1; have hb9 := p19.2; exact ⟨11, #[(.int .u8 m)], by rw [← q19]; simpa [execOp, resolve, Act.eval] using run_invoke (by kernel_rfl) _ W9, (cTy W9).mono fun e w' ⟨v, e1, e2, e3⟩ => ⟨v, e1, e3, fun s hs => by injection hs with hs; subst hs; exact ⟨e2, upG hb9 e3⟩⟩⟩), ?_⟩
    refine fcs ⟨at1 5 21 (.pointer (some ⟨w.heap.size, 0, none⟩)) (.agg #[.int .i64 t.kind, .int .i64 t.n, .string (bs t.s), .slice A t.l.length c, .slice B t.f.length d]) rfl (by first | exact .inl rfl | exact .inr ⟨_, _, _, rfl, rfl, by kernel_rfl, by decide, rfl⟩) (by kernel_rfl) rfl rfl (fun a9 W9 hb9 h9 => by have g0 := cell_next hb9 q0; have g1 := cell_next hb9 q1; have g2 := cell_next hb9 q2; have g3 := cell_next hb9 q3; have g4 := cell_next hb9 q4; simp [execOp, h9] <;> go_simp), ?_⟩
    refine fcs ⟨at_enter (W0 := w1) (by first | exact .inl rfl | exact .inr ⟨_, _, _, rfl, rfl, by kernel_rfl, by decide, rfl⟩) (fun a9 W9 hf9 => by have p18 := hf9 18 (by kernel_rfl); have p20 := hf9 20 (by kernel_rfl); have p21 := hf9 21 (by kernel_rfl); have q21 : a9.tmps.getD 21 undef = (.agg #[.int .i64 t.kind, .int .i64 t.n, .string (bs t.s), .slice A t.l.length c, .slice B t.f.length d]) := p21.1; have hb9 := p21.2; exact ⟨12, #[(a9.tmps.getD 18 undef), (a9.tmps.getD 20 undef), (.agg #[.int .i64 t.kind, .int .i64 t.n, .string (bs t.s), .slice A t.l.length c, .slice B t.f.length d])], by rw [← q21]; simpa [execOp, resolve, Act.eval] using run_invoke (by kernel_rfl) _ W9, (cR W9 _ _ hb9 p18.1 p20.1).mono fun e w' ⟨e1, e2⟩ => ⟨_, e1, e2, fun s hs => by injection hs with hs; subst hs; exact ⟨rfl, upG hb9 e2⟩⟩⟩), ?_⟩
    refine fcs ⟨at2 16 22 23 (.int .i64 r) (.int .i64 r) (.bool true) rfl (by first | exact .inl rfl | exact .inr ⟨_, _, _, rfl, rfl, by kernel_rfl, by decide, rfl⟩) (by kernel_rfl) (by kernel_rfl) rfl rfl rfl (fun a9 W9 hb9 h9 h8 => by simp [execOp, h9, h8] <;> go_simp), ?_⟩
    refine fcs ⟨atcopy 23 24 (.bool true) (.inl rfl) rfl (by first | exact .inl rfl | exact .inr ⟨_, _, _, rfl, rfl, by kernel_rfl, by decide, rfl⟩) (by kernel_rfl) rfl rfl, ?_⟩
    refine fcs ⟨atc0 8 0 25 (.int .u8 n) (.bool true) _ rfl rfl (by first | exact .inl rfl | exact .inr ⟨_, _, _, rfl, rfl, by kernel_rfl, by decide, rfl⟩) (by kernel_rfl) rfl (by kernel_rfl) rfl (fun W9 hb9 => awake_any W9), ?_⟩
    refine fcs ⟨atpick 24 25 26 true (.bool true) _ _ rfl rfl rfl (by first | exact .inl rfl | exact .inr ⟨_, _, _, rfl, rfl, by kernel_rfl, by decide, rfl⟩) (by kernel_rfl) (by kernel_rfl) rfl rfl rfl, ?_⟩
    refine fcs ⟨atcopy 26 6 (.bool true) (.inr rfl) rfl (by first | exact .inl rfl | exact .inr ⟨_, _, _, rfl, rfl, by kernel_rfl, by decide, rfl⟩) (by kernel_rfl) rfl rfl, ?_⟩
    exact fnl
  intro vv wv hvv hbv
  have hv6 : vv 6 = (.bool true) := (hvv 6 (by decide)).1
  simp only [lay, List.foldl_cons, List.foldl_nil, List.setIfInBounds_toArray, List.set_cons_succ, List.set_cons_zero, hv6]
  clear hvv
  go_wp2_with fail
  go_ret
  exact ⟨rfl, Below.next hab hbv⟩
theorem checks_row (n m : Int) (t : Vl) (v : Value) (w : World) (hn0 : 0 ≤ n) (hn1 : n ≤ 255) (hm0 : 0 ≤ m) (hm1 : m ≤ 255) (hok : vok t ∧ vrk t) (hsz : sz t ≤ 1048576) (hv : VlV w t v) :
    Calls Try.prog 3 #[.int .u8 n, .int .u8 m, v] w (Ib (.bool true) w) := checks_any n m t v w hn0 hn1 hm0 hm1 hok.1 hok.2 hsz hv
end Go.Proofs.Ytlebppjldoodgaa

/-
  The law's schemas are valid: mathematics. No conditions beyond those that each names.
-/
import Derived.Test.YthfodpbecddheaaGreatDoorQM22
import Derived.Test.YthfodpbecddheaaGreatDoorQM18
import Derived.Test.YthfodpbecddheaaGreatDoorQM09
import Derived.Test.YthfodpbecddheaaGreatDoorQM08
import Derived.Test.YthfodpbecddheaaGreatDoorQM15
import Derived.Test.YthfodpbecddheaaGreatDoorQM10
import Derived.Test.YthfodpbecddheaaGreatDoorQM03
import Derived.Lib.LaidU8
import Derived.Lib.LaidTab
import Derived.Stop.LaidErr
import Derived.MakeChecks
import Derived.Deep.Slices
import Derived.WideKeyArgs
import Derived.ChangeMaps5
namespace Go.Proofs.YthfodpbecddheaaGreatDoor
theorem Reach.rank {nx : List UInt8 → List (List UInt8)} {rk : List UInt8 → Nat} (hr : ∀ x y, y ∈ nx x → rk y < rk x) {x y : List UInt8} (h : Reach nx x y) : rk y < rk x := by
  induction h with
  | one h => exact hr _ _ h
  | more _ hz ih => exact Nat.lt_trans (hr _ _ hz) ih
theorem cyc_no {S : Sch} (rk : List UInt8 → Nat) (hr : ∀ x y, y ∈ nx S x → rk y < rk x) : ¬ cyc S := by
  rintro ⟨t, -, h⟩
  exact Nat.lt_irrefl _ (Reach.rank hr h)
theorem chk_zero {S : Sch} (h1 : ¬ (S.ver < 1 ∨ 999 < S.ver)) (h2 : ¬ longS S) (h3 : Parts S) (h4 : ¬ cyc S) (h5 : ∀ t ∈ S.structs, dep S t.name ≤ 6) : chk S = 0 := by
  rw [chk_ns h1 h2 h3]
  refine (nsR_no h4).2 ?_
  rintro ⟨t, ht, h⟩
  have := h5 t ht
  omega
theorem nx_tag (x y : List UInt8) (S : Sch) (h : y ∈ nx S x) (hS : S.structs = [stTag] ∨ S.structs = [stTag, stTop]) : x = bTop ∧ (y = bTag ∨ y = bMode) := by
  unfold nx at h
  have e1 : nxs stTag = [] := by decide +kernel
  have e2 : nxs stTop = [bTag, bMode] := by decide +kernel
  have e3 : nxs st0 = [] := by decide +kernel
  rcases hS with hS | hS
  · rw [hS, fst_cons, fst_nil] at h
    by_cases h1 : stTag.name = x
    · rw [if_pos h1] at h
      have h : y ∈ nxs stTag := h
      rw [e1] at h; cases h
    · rw [if_neg h1] at h
      have h : y ∈ nxs st0 := h
      rw [e3] at h; cases h
  · rw [hS, fst_cons, fst_cons, fst_nil] at h
    by_cases h1 : stTag.name = x
    · rw [if_pos h1] at h
      have h : y ∈ nxs stTag := h
      rw [e1] at h; cases h
    · rw [if_neg h1] at h
      by_cases h2 : stTop.name = x
      · rw [if_pos h2] at h
        have h : y ∈ nxs stTop := h
        rw [e2] at h
        exact ⟨h2.symm, by simpa using h⟩
      · rw [if_neg h2] at h
        have h : y ∈ nxs st0 := h
        rw [e3] at h; cases h
theorem cyc_sch (S : Sch) (hS : S.structs = [stTag] ∨ S.structs = [stTag, stTop]) : ¬ cyc S := by
  refine cyc_no (fun x => if x = bTop then 1 else 0) fun x y h => ?_
  obtain ⟨h1, h2⟩ := nx_tag x y S h hS
  rw [h1]
  rcases h2 with h2 | h2
  · rw [h2]; decide
  · rw [h2]; decide
theorem chk_schN (n : Int) : chk (schN n) = 0 := by
  unfold schN
  split
  · exact chk_zero (by decide) (by unfold longS; decide +kernel) ⟨by decide +kernel, by decide +kernel⟩ (cyc_sch _ (.inl rfl)) (by decide +kernel)
  · exact chk_zero (by decide) (by unfold longS; decide +kernel) ⟨by decide +kernel, by decide +kernel⟩ (cyc_sch _ (.inr rfl)) (by decide +kernel)
theorem few_schB (n : Int) : FewB (schN n) := by
  unfold schN
  split
  · exact few_B (by decide +kernel)
  · exact few_B (by decide +kernel)
end Go.Proofs.YthfodpbecddheaaGreatDoor
/-
  The developers' Field. No conditions beyond those that each names.
-/
namespace Go.Proofs.YthfodpbecddheaaGreatDoor
open Go.RowKit Go.Sort
set_option maxRecDepth 100000 in
set_option maxHeartbeats 4000000 in
theorem devField_any (t : Vl) (z : Int) (v : Value) (w : World) (hok : sz t ≤ 2000000) (hv : VlV w t v) :
    Calls Tryz.prog 40 #[v, .int .i64 z] w (FdP (fvl t z) w) := by
  have cF := fun W (h : Below w.heap.size w W) => field_any t z v w W h (by have := sz_fl t; omega) hv
  obtain ⟨A, c, B, d, rfl, hR, hR2⟩ := hv
  obtain ⟨m, hm⟩ : ∃ m, t.l.length = m := ⟨_, rfl⟩
  obtain ⟨n, hn⟩ : ∃ n, t.f.length = n := ⟨_, rfl⟩
  have z1 : (w.alloc (Obj.cells #[.int .i64 t.kind, .int .i64 t.n, .string (bs t.s), .slice A m c, .slice B n d] 34)).heap.size = w.heap.size + 1 := by simp
  have hab := ab2 w (Obj.cells #[.int .i64 t.kind, .int .i64 t.n, .string (bs t.s), .slice A m c, .slice B n d] 34) (Obj.cells #[.int .i64 0, .int .i64 0, .string ⟨#[]⟩, .slice none 0 0, .slice none 0 0] 34)
  have C1 := (Bx.new5 w 34 (.int .i64 t.kind) (.int .i64 t.n) (.string (bs t.s)) (.slice A m c) (.slice B n d)).next (ab1 _ (Obj.cells #[.int .i64 0, .int .i64 0, .string ⟨#[]⟩, .slice none 0 0, .slice none 0 0] 34))
  have C2 := Bx.new5 (w.alloc (Obj.cells #[.int .i64 t.kind, .int .i64 t.n, .string (bs t.s), .slice A m c, .slice B n d] 34)) 34 (.int .i64 0) (.int .i64 0) (.string ⟨#[]⟩) (.slice none 0 0) (.slice none 0 0)
  rw [z1] at C2
  have cF2 := cF _ hab
  rw [hm, hn] at cF2 ⊢
  have hsz := fvl_sz t z
  clear cF hm hn hR hR2 z1
  obtain ⟨o, ho⟩ : ∃ o, fvl t z = o := ⟨_, rfl⟩
  rw [ho] at cF2 hsz ⊢
  clear ho
  go_enter Tryz.func40, Tryz.ntmps40
  go_wp2_with fail
  refine cF2.mono ?_
  rintro e w2 ⟨s, rfl, hrd0, hb2⟩
  have hrd := hrd0.next (Below.next hab hb2)
  obtain ⟨u, hu⟩ : ∃ u, o.getD vl0 = u := ⟨_, rfl⟩
  obtain ⟨b, hbb⟩ : ∃ b, o.isSome = b := ⟨_, rfl⟩
  have HU := Lib.hid hu
  have HB := Lib.hid hbb
  rw [hu] at hrd hsz
  simp only [hu, hbb]
  have hbx := ab1 w2 (Obj.cells #[.int .i64 u.kind, .int .i64 u.n, .string (bs u.s), .slice s.A u.l.length s.c, .slice s.B u.f.length s.d] 34)
  have cN := renew_any (SizeOf.sizeOf u + 1) u _ (w2.alloc (Obj.cells #[.int .i64 u.kind, .int .i64 u.n, .string (bs u.s), .slice s.A u.l.length s.c, .slice s.B u.f.length s.d] 34)) (by omega) (by omega) ⟨s.A, s.c, s.B, s.d, rfl, hrd.next hbx⟩
  have E2 := (C2.next hb2).next hbx
  have hab3 := Below.next (Below.next hab hb2) hbx
  have hl3 := E2.lt
  clear cF2 C1 C2 hab hb2 hrd hsz hu hbb
  go_wp2_with fail
  refine cN.mono ?_
  rintro e w3 hh
  obtain ⟨s3, rfl, hN3, hb3⟩ := hh.weak
  have E3 := E2.next hb3
  have hab4 := Below.next hab3 hb3
  have r0 := E3.c 0 rfl
  have r1 := E3.c 1 rfl
  have r2 := E3.c 2 rfl
  have r3 := E3.c 3 rfl
  have r4 := E3.c 4 rfl
  have q0 := E3.f 0 rfl
  have q1 := E3.f 1 rfl
  have q2 := E3.f 2 rfl
  have q3 := E3.f 3 rfl
  have q4 := E3.f 4 rfl
  have l3 := E3.lt
  clear cN hh E2 hab3 hb3
  go_wp2_with fail
  have hfin := gb5 hab4 (b := w.heap.size + 1) (Nat.le_succ _) (.int .i64 u.kind) (.int .i64 u.n) (.string (bs u.s)) (.slice s3.A u.l.length s3.c) (.slice s3.B u.f.length s3.d)
  refine bodyPost_ret (v := .tuple #[.agg #[.int .i64 u.kind, .int .i64 u.n, .string (bs u.s), .slice s3.A u.l.length s3.c, .slice s3.B u.f.length s3.d], .bool b]) (by simp [results, Tryz.results40, go_sem, r0, r1, r2, r3, r4]) rfl ⟨s3, by rw [HU.out, HB.out], ?_, hfin⟩
  rw [HU.out]
  exact hN3 _ ((((((Kpl.refl _ _).set hl3 _).set hl3 _).set hl3 _).set hl3 _).set hl3 _)
end Go.Proofs.YthfodpbecddheaaGreatDoor
/-
  The developers' Size. No conditions beyond those that each names.
-/
namespace Go.Proofs.YthfodpbecddheaaGreatDoor
open Go.RowKit
set_option maxRecDepth 100000 in
set_option maxHeartbeats 4000000 in
theorem devSize_any (N : Nat) : ∀ (t : Vl) (v : Value) (w : World), SizeOf.sizeOf t < N → vok t → VlV w t v →
    Calls Tryz.prog 41 #[v] w (Ib (.int .i64 (wrap64 (sz t : Int))) w) := by
  induction N with
  | zero => intro t v w h; omega
  | succ N ih =>
    intro t v w hN hok hv
    obtain ⟨-, ⟨hl, hlo⟩, hf, hfo⟩ := vok_iff.1 hok
    have cL : ∀ (i : Nat) (h : i < t.l.length) v w, VlV w (t.l[i]'h) v → Calls Tryz.prog 41 #[v] w (Ib (.int .i64 (wrap64 (sz (t.l[i]'h) : Int))) w) := fun i h v w => ih _ v w (by have := size_l h; omega) (hlo _ (List.getElem_mem h))
    have cF : ∀ (i : Nat) (h : i < t.f.length) v w, VlV w (t.f[i]'h).2 v → Calls Tryz.prog 41 #[v] w (Ib (.int .i64 (wrap64 (sz (t.f[i]'h).2 : Int))) w) := fun i h v w => ih _ v w (by have := size_f h; omega) (hfo _ (List.getElem_mem h))
    have HZ := Lib.hid (sz_eq t)
    obtain ⟨A, c, A2, c2, rfl, hR, hR2⟩ := hv
    obtain ⟨m, hm⟩ : ∃ m, t.l.length = m := ⟨_, rfl⟩
    obtain ⟨n, hn⟩ : ∃ n, t.f.length = n := ⟨_, rfl⟩
    obtain ⟨z, hz⟩ : ∃ z, wrap64 (sz t : Int) = z := ⟨_, rfl⟩
    have HQ := Lib.hid hz
    have HM := Lib.hid hm
    have HN := Lib.hid hn
    rw [hm] at hl ⊢
    rw [hn] at hf ⊢
    rw [hz]
    have hB := Bx.new5 w 34 (.int .i64 t.kind) (.int .i64 t.n) (.string (bs t.s)) (.slice A m c) (.slice A2 n c2)
    have H0 := Lib.hid (show (1 : Int) = wrap64 ((1 + sz.szl (t.l.take 0) : Nat) : Int) by rw [List.take_zero, sz.szl]; unfold wrap64; omega)
    clear hm hn hz ih hok hlo hfo hN
    go_enter Tryz.func41, Tryz.ntmps41
    go_wp2_with fail
    go_loopw [3, 11] (fun s i wr => ∃ (k : Nat) (x : Int), k ≤ m ∧ i = .int .i64 (k : Int) ∧ s = .int .i64 x ∧ Hid (x = wrap64 ((1 + sz.szl (t.l.take k) : Nat) : Int)) ∧ Bx wr w.heap.size [.int .i64 t.kind, .int .i64 t.n, .string (bs t.s), .slice A m c, .slice A2 n c2] ∧ Below w.heap.size w wr) (fun _ i _ => m - (intOf i).toNat)
    case atStart => exact ⟨0, 1, by omega, rfl, rfl, H0, hB, ab1 _ _⟩
    case round =>
      obtain ⟨k, x, hk, rfl, rfl, hx, hBr, hb⟩ := hrel
      have c3 := hBr.c 3 rfl
      have c4 := hBr.c 4 rfl
      by_cases hlt : k < m
      · have h1 : k < t.l.length := by rw [HM.out]; exact hlt
        obtain ⟨a, rfl, hA⟩ := hR.get h1
        have hA := VlA.next hb _ _ hA
        obtain ⟨A3, c5, A4, c6, h0, h1', h2, h3, h4, hV⟩ := hA.val
        have hblk : (a.add (k * 5)).block < wr.heap.size := blk_lt h0
        have cS := cL k h1 _ _ (hV.next (ab1 wr (Obj.cells #[.int .i64 (t.l[k]'h1).kind, .int .i64 (t.l[k]'h1).n, .string (bs (t.l[k]'h1).s), .slice A3 (t.l[k]'h1).l.length c5, .slice A4 (t.l[k]'h1).f.length c6] 34)))
        have HS := Lib.hid (szl_take h1)
        have hx2 := hx.out
        generalize t.l[k]'h1 = u at *
        have HX := Lib.hid (show wrap64 (x + wrap64 (sz u : Int)) = wrap64 ((1 + sz.szl (t.l.take (k + 1)) : Nat) : Int) by
          rw [hx2, wrap_add, HS.out]; congr 1; omega)
        generalize wrap64 (sz u : Int) = y at *
        clear hx hx2 HS cL cF hR hR2 hA
        obtain ⟨x2, hx2⟩ : ∃ x2, wrap64 (x + y) = x2 := ⟨_, rfl⟩
        rw [hx2] at HX
        go_wp2_with fail
        refine cS.mono ?_
        rintro e w2 ⟨rfl, hb2⟩
        go_wp2_with fail
        go_roundw
        case rel => exact ⟨k + 1, x2, by omega, by go_num, by first | rfl | (rw [← hx2]) | (rw [intK, ← hx2]), HX, (hBr.next (ab1 _ _)).next hb2, Below.next (Below.next hb (ab1 _ _)) hb2⟩
        case measure => simp [intOf]; omega
      · obtain rfl : k = m := by omega
        have HX := Lib.hid (show x = wrap64 ((1 + sz.szl t.l + sz.szf (t.f.take 0) : Nat) : Int) by rw [hx.out, List.take_of_length_le (by rw [HM.out]; exact Nat.le_refl _), List.take_zero, sz.szf]; rfl)
        clear hx H0 hB cL hR
        go_wp2_with fail
        go_loopw [3, 23] (fun s i wr => ∃ (j : Nat) (y : Int), j ≤ n ∧ i = .int .i64 (j : Int) ∧ s = .int .i64 y ∧ Hid (y = wrap64 ((1 + sz.szl t.l + sz.szf (t.f.take j) : Nat) : Int)) ∧ Bx wr w.heap.size [.int .i64 t.kind, .int .i64 t.n, .string (bs t.s), .slice A k c, .slice A2 n c2] ∧ Below w.heap.size w wr) (fun _ i _ => n - (intOf i).toNat)
        case atStart => exact ⟨0, x, by omega, rfl, rfl, HX, hBr, hb⟩
        case round =>
          clear hb hBr c3 c4 HX
          obtain ⟨j, x, hj, rfl, rfl, hx, hBr, hb⟩ := hrel
          have c3 := hBr.c 3 rfl
          have c4 := hBr.c 4 rfl
          by_cases hlt : j < n
          · have h1 : j < t.f.length := by rw [HN.out]; exact hlt
            obtain ⟨a, rfl, hA⟩ := hR2.get h1
            have hA := EtA.next hb _ _ hA
            obtain ⟨A3, c5, A4, c6, hn0, h0, h1', h2, h3, h4, hV⟩ := hA.val
            have hblk : (a.add (j * 6)).block < wr.heap.size := blk_lt hn0
            have cS := cF j h1 _ _ (hV.next (ab1 wr (Obj.cells #[.int .i64 (t.f[j]'h1).1, .int .i64 (t.f[j]'h1).2.kind, .int .i64 (t.f[j]'h1).2.n, .string (bs (t.f[j]'h1).2.s), .slice A3 (t.f[j]'h1).2.l.length c5, .slice A4 (t.f[j]'h1).2.f.length c6] 94)))
            generalize (t.f[j]'h1).1 = num at *
            have HS := Lib.hid (szf_take h1)
            have hx2 := hx.out
            generalize (t.f[j]'h1).2 = u at *
            have HX := Lib.hid (show wrap64 (x + wrap64 (sz u : Int)) = wrap64 ((1 + sz.szl t.l + sz.szf (t.f.take (j + 1)) : Nat) : Int) by
              rw [hx2, wrap_add, HS.out]; congr 1; omega)
            generalize wrap64 (sz u : Int) = y at *
            clear hx hx2 HS cF hR2 hA
            obtain ⟨x2, hx2⟩ : ∃ x2, wrap64 (x + y) = x2 := ⟨_, rfl⟩
            rw [hx2] at HX
            go_wp2_with fail
            refine cS.mono ?_
            rintro e w2 ⟨rfl, hb2⟩
            go_wp2_with fail
            go_roundw
            case rel => exact ⟨j + 1, x2, by omega, by go_num, by first | rfl | (rw [← hx2]) | (rw [intK, ← hx2]), HX, (hBr.next (ab1 _ _)).next hb2, Below.next (Below.next hb (ab1 _ _)) hb2⟩
            case measure => simp [intOf]; omega
          · obtain rfl : j = n := by omega
            obtain rfl : x = z := by
              rw [← HQ.out, hx.out, HZ.out, List.take_of_length_le (by rw [HN.out]; exact Nat.le_refl _)]
            clear hx cF hR2
            go_wp2_with fail
            go_ret
            exact ⟨rfl, hb⟩
end Go.Proofs.YthfodpbecddheaaGreatDoor
/-
  The law's self-test, and which values are played. No conditions beyond those that each names.
-/
namespace Go.Proofs.YthfodpbecddheaaGreatDoor
open Go.RowKit Go.Shelf
def aw1 : Vl := .mk 1 1 [] [] []
def aw6 : Vl := .mk 6 0 [] [] [(2, aw1)]
theorem aw_s : wrap64 (sz aw6 : Int) = 2 := by
  have : sz aw6 = 2 := by simp [aw6, aw1, sz, sz.szl, sz.szf]
  rw [this]; unfold wrap64; omega
theorem aw_k : vok aw6 := by simp [aw6, aw1, vok, vok.voks, vok.foks]
theorem aw_with (W : World) : Calls Tryz.prog 39 #[.agg #[.int .i64 6, .int .i64 0, .string ⟨#[]⟩, .slice none 0 0, .slice none 0 0], .int .i64 2, .agg #[.int .i64 1, .int .i64 1, .string ⟨#[]⟩, .slice none 0 0, .slice none 0 0]] W (fun e w' => ∃ s : Sb, e = .returned (.agg #[.int .i64 6, .int .i64 0, .string ⟨#[]⟩, .slice s.A 0 s.c, .slice s.B 1 s.d]) ∧ RdV w' aw6 s ∧ Below W.heap.size W w') := with0_any 0 [] 2 1 1 [] W
theorem aw_val {W : World} {s : Sb} (h : RdV W aw6 s) : VlV W aw6 (.agg #[.int .i64 6, .int .i64 0, .string ⟨#[]⟩, .slice s.A 0 s.c, .slice s.B 1 s.d]) := ⟨s.A, s.c, s.B, s.d, rfl, h⟩
theorem aw_field (W : World) (s : Sb) (h : RdV W aw6 s) : Calls Tryz.prog 40 #[.agg #[.int .i64 6, .int .i64 0, .string ⟨#[]⟩, .slice s.A 0 s.c, .slice s.B 1 s.d], .int .i64 2] W (fun e w' => ∃ s : Sb, e = .returned (.tuple #[.agg #[.int .i64 1, .int .i64 1, .string ⟨#[]⟩, .slice s.A 0 s.c, .slice s.B 0 s.d], .bool true]) ∧ Below W.heap.size W w') :=
  (devField_any aw6 2 _ W (by simp [aw6, aw1, sz, sz.szl, sz.szf]) (aw_val h)).mono fun e w' ⟨s, h1, _, h2⟩ => ⟨s, h1, h2⟩
theorem aw_size (W : World) (s : Sb) (h : RdV W aw6 s) : Calls Tryz.prog 41 #[.agg #[.int .i64 6, .int .i64 0, .string ⟨#[]⟩, .slice s.A 0 s.c, .slice s.B 1 s.d]] W (Ib (.int .i64 2) W) := by
  have := devSize_any (SizeOf.sizeOf aw6 + 1) aw6 _ W (by omega) aw_k (aw_val h)
  rw [aw_s] at this
  exact this
set_option maxRecDepth 100000 in
set_option maxHeartbeats 8000000 in
theorem awake9_any (w : World) : Calls Tryz.prog 17 #[] w (Ib (.bool true) w) := by
  have cS := schema0_any
  go_enter Tryz.func17, Tryz.ntmps17
  go_wp2_with fail
  refine (aw_with _).mono ?_
  rintro e w2 ⟨s, rfl, hrd, hb2⟩
  have hbx := ab1 w2 (Obj.cells #[.int .i64 6, .int .i64 0, .string ⟨#[]⟩, .slice s.A 0 s.c, .slice s.B 1 s.d] 34)
  have D1 := Bx.new5 w2 34 (.int .i64 6) (.int .i64 0) (.string ⟨#[]⟩) (.slice s.A 0 s.c) (.slice s.B 1 s.d)
  have c1 := aw_field (w2.alloc (Obj.cells #[.int .i64 6, .int .i64 0, .string ⟨#[]⟩, .slice s.A 0 s.c, .slice s.B 1 s.d] 34)) s (hrd.next hbx)
  have hab := Below.next hb2 hbx
  go_wp2_with fail
  refine c1.mono ?_
  rintro e w3 ⟨q, rfl, hb3⟩
  have hby := ab1 w3 (Obj.cells #[.int .i64 1, .int .i64 1, .string ⟨#[]⟩, .slice q.A 0 q.c, .slice q.B 0 q.d] 34)
  have D2 := Bx.new5 w3 34 (.int .i64 1) (.int .i64 1) (.string ⟨#[]⟩) (.slice q.A 0 q.c) (.slice q.B 0 q.d)
  replace D1 := (D1.next hb3).next hby
  have hrd2 := hrd.next (Below.next hbx (Below.next hb3 hby))
  replace hab := Below.next (Below.next hab hb3) hby
  clear c1 hbx hb3 hby hb2
  have x0 := D2.c 0 rfl
  have x1 := D2.c 1 rfl
  go_wp2_with fail
  refine (cS _).mono ?_
  rintro e w4 ⟨v, E, e1, e2, F, f1, f2, rfl, hb4⟩
  have hrd4 := hrd2.next (Below.refl _ _)
  replace D1 := D1.next hb4
  have hr4 : RdV w4 aw6 s := hrd2.next hb4
  replace hab := Below.next hab hb4
  clear x0 x1 D2 hrd4
  go_wp2_with fail
  refine (valueCheck128_any v E e1 e2 F f1 f2 w4).mono ?_
  rintro e w5 ⟨rfl, hb5⟩
  replace D1 := D1.next hb5
  have hr5 : RdV w5 aw6 s := hr4.next hb5
  replace hab := Below.next hab hb5
  have y0 := D1.c 0 rfl
  have y1 := D1.c 1 rfl
  have y2 := D1.c 2 rfl
  have y3 := D1.c 3 rfl
  have y4 := D1.c 4 rfl
  have c2 := aw_size w5 s hr5
  go_wp2_with fail
  refine c2.mono ?_
  rintro e w6 ⟨rfl, hb6⟩
  go_wp2_with fail
  go_ret
  exact ⟨rfl, Below.next hab hb6⟩
end Go.Proofs.YthfodpbecddheaaGreatDoor
/-
  The law of zero values. No conditions beyond those that each names.
-/
namespace Go.Proofs.YthfodpbecddheaaGreatDoor
open Go.RowKit
/-- A slot that holds a value, wherever its parts lie. -/
def FRd (V : Vl) (W0 : World) : Fact := ⟨fun v w => VlV w V v ∧ Below W0.heap.size W0 w, fun _ _ _ ⟨h, hb⟩ hb' => ⟨h.next hb', upG hb hb'⟩⟩
set_option maxRecDepth 100000 in
set_option maxHeartbeats 8000000 in
theorem zero_law (n m : Int) (w : World) (hn0 : 0 ≤ n) (hn1 : n ≤ 255) (hm0 : 0 ≤ m) (hm1 : m ≤ 255) (hE : Env w) :
    Calls Tryz.prog 3 #[.int .u8 n, .int .u8 m] w (Ib (.bool true) w) := by
  have cSc := fun W => schema_any n W hn0 hn1
  have cTy := fun W => type_any m W hm0 hm1
  have hF := few_schN n
  have hK := lok_schN n
  have hA := asc_schN n
  have hT := lok_typ m
  have hB := few_schB n
  have hC := chk_schN n
  have hL := zr_law n m
  have hV := vok_zr hF (typ m)
  generalize schN n = S at *
  generalize typ m = T at *
  have hP := fun h => (hL h).2
  have cD := fun W a b h0 h1 h2 => devZeroV_any S T a b W hF hB hC hT hP h0 h1 h2
  have cR := fun W a b h1 h2 => refZeroV_any S T a b W hF hK hT hP h1 h2
  have cE := fun W a b h1 h2 => refEqual_any (zr S T) (zr S T) a b W hV hV h1 h2
  rw [cm_self] at cE
  have cP := fun W a b h1 h2 => permitted_any S T a b W hF.sl hF.el hT h1 h2
  have cK := fun W a b u h1 h2 h3 => devCheck_any S T (zr S T) a b u W hF hK hA hT hV h1 h2 h3
  have hL2 := fun h => (hL h).1
  clear hn0 hn1 hm0 hm1 hF hK hA hT hB hC hV hP hL
  generalize zr S T = V at *
  generalize vchk S T V = r at *
  generalize right S T = p at *
  go_enter Tryz.func3, Tryz.ntmps3
  go_wp2_with fail
  refine (cSc w).mono ?_
  rintro e w1 ⟨a, rfl, hS, hb1⟩
  go_wp2_with fail
  refine (cTy w1).mono ?_
  rintro e w2 ⟨b, rfl, hT, hb2⟩
  obtain ⟨A, c, A2, c2, rfl, hS⟩ := hS
  obtain ⟨G, g, rfl, hG⟩ := hT
  have hbx := ab2 w2 (Obj.cells #[.int .i64 S.ver, .slice A S.enums.length c, .slice A2 S.structs.length c2] 25) (Obj.cells #[.int .i64 T.kind, .int .i64 T.size, .string (bs T.name), .slice G T.elem.length g] 29)
  have B5 := (Bx.new3 w2 25 (.int .i64 S.ver) (.slice A S.enums.length c) (.slice A2 S.structs.length c2)).next (ab1 _ (Obj.cells #[.int .i64 T.kind, .int .i64 T.size, .string (bs T.name), .slice G T.elem.length g] 29))
  have B6 := Bx.new4 (w2.alloc (Obj.cells #[.int .i64 S.ver, .slice A S.enums.length c, .slice A2 S.structs.length c2] 25)) 29 (.int .i64 T.kind) (.int .i64 T.size) (.string (bs T.name)) (.slice G T.elem.length g)
  have z1 : (w2.alloc (Obj.cells #[.int .i64 S.ver, .slice A S.enums.length c, .slice A2 S.structs.length c2] 25)).heap.size = w2.heap.size + 1 := by simp
  rw [z1] at B6
  have hab := Below.next (Below.next hb1 hb2) hbx
  have hS := Sc.next (Below.next hb2 hbx) hS
  have hG := hG.next fun x p => TyA.next hbx x p
  go_upto_region 2 with (fail)
  generalize (w2.alloc (Obj.cells #[.int .i64 S.ver, .slice A S.enums.length c, .slice A2 S.structs.length c2] 25)).alloc (Obj.cells #[.int .i64 T.kind, .int .i64 T.size, .string (bs T.name), .slice G T.elem.length g] 29) = w4 at *
  clear z1 hbx hb1 hb2 cSc cTy
  have hE4 := hE.next hab
  have s0 := B5.c 0 rfl
  have s1 := B5.c 1 rfl
  have s2 := B5.c 2 rfl
  have t0 := B6.c 0 rfl
  have t1 := B6.c 1 rfl
  have t2 := B6.c 2 rfl
  have t3 := B6.c 3 rfl
  have ls := B5.lt
  have lt := B6.lt
  have c1 := cD w4 _ _ hE4 ⟨A, c, A2, c2, rfl, hS⟩ ⟨G, g, rfl, hG⟩
  unfold WtP at c1
  clear cD hE hE4
  go_wp2_with fail
  refine c1.mono ?_
  rintro e w5 ⟨s, rfl, hrd, hb5⟩
  have hbx := ab1 w5 (Obj.cells #[.int .i64 V.kind, .int .i64 V.n, .string (bs V.s), .slice s.A V.l.length s.c, .slice s.B V.f.length s.d] 34)
  have B7 := Bx.new5 w5 34 (.int .i64 V.kind) (.int .i64 V.n) (.string (bs V.s)) (.slice s.A V.l.length s.c) (.slice s.B V.f.length s.d)
  replace B5 := (B5.next hb5).next hbx
  replace B6 := (B6.next hb5).next hbx
  have hS := Sc.next (Below.next hb5 hbx) hS
  have hG := hG.next fun x p => TyA.next (Below.next hb5 hbx) x p
  have hrd := hrd.next hbx
  replace hab := Below.next hab (Below.next hb5 hbx)
  clear c1 hb5 s0 s1 s2 t0 t1 t2 t3 ls lt hbx
  go_upto_region 3 with (fail)
  generalize w5.alloc (Obj.cells #[.int .i64 V.kind, .int .i64 V.n, .string (bs V.s), .slice s.A V.l.length s.c, .slice s.B V.f.length s.d] 34) = w3 at *
  generalize w5.heap.size = b7 at *
  generalize hb5 : w2.heap.size = b5 at *
  generalize hb6 : b5 + 1 = b6 at *
  have s0 := B5.c 0 rfl
  have s1 := B5.c 1 rfl
  have s2 := B5.c 2 rfl
  have t0 := B6.c 0 rfl
  have t1 := B6.c 1 rfl
  have t2 := B6.c 2 rfl
  have t3 := B6.c 3 rfl
  have ls := B5.lt
  have lt := B6.lt
  have v0 := B7.c 0 rfl
  have v1 := B7.c 1 rfl
  have v2 := B7.c 2 rfl
  have v3 := B7.c 3 rfl
  have v4 := B7.c 4 rfl
  have lv := B7.lt
  refine wp_region_on (by kernel_rfl) (FF [(5, Fact.at_ w3 (.pointer (some ⟨b5, 0, none⟩))), (6, Fact.at_ w3 (.pointer (some ⟨b6, 0, none⟩))), (7, Fact.at_ w3 (.pointer (some ⟨b7, 0, none⟩))), (15, Fact.at_ w3 (.agg #[.int .i64 V.kind, .int .i64 V.n, .string (bs V.s), .slice s.A V.l.length s.c, .slice s.B V.f.length s.d])), (16, Fact.at_ w3 (.agg #[.int .i64 S.ver, .slice A S.enums.length c, .slice A2 S.structs.length c2])), (17, Fact.at_ w3 (.agg #[.int .i64 T.kind, .int .i64 T.size, .string (bs T.name), .slice G T.elem.length g])), (18, FRd V w3), (19, Fact.at_ w3 (.bool true)), (20, Fact.at_ w3 (.bool false))]) [5, 6, 7] 35 [15, 16, 17, 18, 19, 20] rfl (by kernel_rfl) (by kernel_rfl) ?_ ?_ ?_
  · intro t9 ht9
    simp only [List.mem_cons, List.not_mem_nil, or_false] at ht9
    rcases ht9 with rfl | rfl | rfl
    · exact ⟨rfl, Below.refl _ _⟩
    · exact ⟨rfl, Below.refl _ _⟩
    · exact ⟨rfl, Below.refl _ _⟩
  · refine fcs ⟨at1 7 15 (.pointer (some ⟨b7, 0, none⟩)) (.agg #[.int .i64 V.kind, .int .i64 V.n, .string (bs V.s), .slice s.A V.l.length s.c, .slice s.B V.f.length s.d]) rfl (by first | exact .inl rfl | exact .inr ⟨_, _, _, rfl, rfl, by kernel_rfl, by decide, rfl⟩) (by kernel_rfl) rfl rfl (fun a9 W9 hb9 h9 => by have g0 := cell_next hb9 v0; have g1 := cell_next hb9 v1; have g2 := cell_next hb9 v2; have g3 := cell_next hb9 v3; have g4 := cell_next hb9 v4; simp [execOp, h9] <;> go_simp), ?_⟩
    refine fcs ⟨at1 5 16 (.pointer (some ⟨b5, 0, none⟩)) (.agg #[.int .i64 S.ver, .slice A S.enums.length c, .slice A2 S.structs.length c2]) rfl (by first | exact .inl rfl | exact .inr ⟨_, _, _, rfl, rfl, by kernel_rfl, by decide, rfl⟩) (by kernel_rfl) rfl rfl (fun a9 W9 hb9 h9 => by have g0 := cell_next hb9 s0; have g1 := cell_next hb9 s1; have g2 := cell_next hb9 s2; simp [execOp, h9] <;> go_simp), ?_⟩
    refine fcs ⟨at1 6 17 (.pointer (some ⟨b6, 0, none⟩)) (.agg #[.int .i64 T.kind, .int .i64 T.size, .string (bs T.name), .slice G T.elem.length g]) rfl (by first | exact .inl rfl | exact .inr ⟨_, _, _, rfl, rfl, by kernel_rfl, by decide, rfl⟩) (by kernel_rfl) rfl rfl (fun a9 W9 hb9 h9 => by have g0 := cell_next hb9 t0; have g1 := cell_next hb9 t1; have g2 := cell_next hb9 t2; have g3 := cell_next hb9 t3; simp [execOp, h9] <;> go_simp), ?_⟩
    refine fcs ⟨at_enter (W0 := w3) (by first | exact .inl rfl | exact .inr ⟨_, _, _, rfl, rfl, by kernel_rfl, by decide, rfl⟩) (fun a9 W9 hf9 => by have p16 := hf9 16 (by kernel_rfl); have q16 : a9.tmps.getD 16 undef = (.agg #[.int .i64 S.ver, .slice A S.enums.length c, .slice A2 S.structs.length c2]) := p16.1; have p17 := hf9 17 (by kernel_rfl); have q17 : a9.tmps.getD 17 undef = (.agg #[.int .i64 T.kind, .int .i64 T.size, .string (bs T.name), .slice G T.elem.length g]) := p17.1; have hb9 := p16.2; exact ⟨14, #[(.agg #[.int .i64 S.ver, .slice A S.enums.length c, .slice A2 S.structs.length c2]), (.agg #[.int .i64 T.kind, .int .i64 T.size, .string (bs T.name), .slice G T.elem.length g])], by rw [← q16, ← q17]; simpa [execOp, resolve, Act.eval] using run_invoke (by kernel_rfl) _ W9, (cR W9 _ _ ⟨A, c, A2, c2, rfl, Sc.next hb9 hS⟩ ⟨G, g, rfl, hG.next fun x p => TyA.next hb9 x p⟩).mono fun e w' ⟨s2, e1, e2, e3⟩ => ⟨_, e1, e3, fun s hs => by injection hs with hs; subst hs; exact ⟨rdV_iff.2 ⟨s2, rfl, e2⟩, upG hb9 e3⟩⟩⟩), ?_⟩
    refine fcs ⟨at_enter (W0 := w3) (by first | exact .inl rfl | exact .inr ⟨_, _, _, rfl, rfl, by kernel_rfl, by decide, rfl⟩) (fun a9 W9 hf9 => by have p15 := hf9 15 (by kernel_rfl); have q15 : a9.tmps.getD 15 undef = (.agg #[.int .i64 V.kind, .int .i64 V.n, .string (bs V.s), .slice s.A V.l.length s.c, .slice s.B V.f.length s.d]) := p15.1; have p18 := hf9 18 (by kernel_rfl); have hb9 := p15.2; exact ⟨13, #[(.agg #[.int .i64 V.kind, .int .i64 V.n, .string (bs V.s), .slice s.A V.l.length s.c, .slice s.B V.f.length s.d]), (a9.tmps.getD 18 undef)], by rw [← q15]; simpa [execOp, resolve, Act.eval] using run_invoke (by kernel_rfl) _ W9, (cE W9 _ _ (rdV_iff.2 ⟨s, rfl, hrd.next hb9⟩) p18.1).mono fun e w' ⟨e1, e2⟩ => ⟨_, e1, e2, fun s hs => by injection hs with hs; subst hs; exact ⟨rfl, upG hb9 e2⟩⟩⟩), ?_⟩
    refine fcs ⟨at1 19 20 (.bool true) (.bool false) rfl (by first | exact .inl rfl | exact .inr ⟨_, _, _, rfl, rfl, by kernel_rfl, by decide, rfl⟩) (by kernel_rfl) rfl rfl (fun a9 W9 hb9 h9 => by simp [execOp, h9] <;> go_simp), ?_⟩
    exact fnl
  intro vv wv hvv hbv
  have hv20 : vv 20 = (.bool false) := (hvv 20 (by decide)).1
  simp only [lay, List.foldl_cons, List.foldl_nil, List.setIfInBounds_toArray, List.set_cons_succ, List.set_cons_zero, hv20]
  replace B5 := B5.next hbv
  replace B6 := B6.next hbv
  replace B7 := B7.next hbv
  have hS := Sc.next hbv hS
  have hG := hG.next fun x p => TyA.next hbv x p
  have hrd := hrd.next hbv
  replace hab := Below.next hab hbv
  clear hvv s0 s1 s2 t0 t1 t2 t3 ls lt v0 v1 v2 v3 v4 lv cR cE
  have s0 := B5.c 0 rfl
  have s1 := B5.c 1 rfl
  have s2 := B5.c 2 rfl
  have t0 := B6.c 0 rfl
  have t1 := B6.c 1 rfl
  have t2 := B6.c 2 rfl
  have t3 := B6.c 3 rfl
  have ls := B5.lt
  have lt := B6.lt
  have v0 := B7.c 0 rfl
  have v1 := B7.c 1 rfl
  have v2 := B7.c 2 rfl
  have v3 := B7.c 3 rfl
  have v4 := B7.c 4 rfl
  have lv := B7.lt
  have c2' := cP wv _ _ ⟨A, c, A2, c2, rfl, hS⟩ ⟨G, g, rfl, hG⟩
  go_wp2_with fail
  refine c2'.mono ?_
  rintro e w6 ⟨rfl, hb6'⟩
  replace B5 := B5.next hb6'
  replace B6 := B6.next hb6'
  replace B7 := B7.next hb6'
  have hS := Sc.next hb6' hS
  have hG := hG.next fun x p => TyA.next hb6' x p
  have hrd := hrd.next hb6'
  replace hab := Below.next hab hb6'
  clear s0 s1 s2 t0 t1 t2 t3 ls lt v0 v1 v2 v3 v4 lv cP c2' hb6'
  cases p
  case false =>
    go_wp2_with fail
    refine (awake9_any _).mono ?_
    rintro e w7 ⟨rfl, hb7⟩
    go_wp2_with fail
    go_ret
    exact ⟨rfl, Below.next hab hb7⟩
  case true =>
  obtain rfl := hL2 rfl
  have s0 := B5.c 0 rfl
  have s1 := B5.c 1 rfl
  have s2 := B5.c 2 rfl
  have t0 := B6.c 0 rfl
  have t1 := B6.c 1 rfl
  have t2 := B6.c 2 rfl
  have t3 := B6.c 3 rfl
  have ls := B5.lt
  have lt := B6.lt
  have v0 := B7.c 0 rfl
  have v1 := B7.c 1 rfl
  have v2 := B7.c 2 rfl
  have v3 := B7.c 3 rfl
  have v4 := B7.c 4 rfl
  have lv := B7.lt
  have c3 := cK w6 _ _ _ ⟨A, c, A2, c2, rfl, hS⟩ ⟨G, g, rfl, hG⟩ (rdV_iff.2 ⟨s, rfl, hrd⟩)
  have q0 : ((0 : Int) == 0) = true := rfl
  clear cK hL2
  go_wp2_with fail
  refine c3.mono ?_
  rintro e w7 ⟨rfl, hb7⟩
  go_wp2_with fail
  refine (awake9_any _).mono ?_
  rintro e w8 ⟨rfl, hb8⟩
  go_wp2_with fail
  go_ret
  exact ⟨rfl, Below.next hab (Below.next hb7 hb8)⟩
end Go.Proofs.YthfodpbecddheaaGreatDoor
/-
  The library's variables out of the row's own condition. No conditions beyond the row's own.
-/
namespace Go.Proofs.YthfodpbecddheaaGreatDoor
open Go.ChangeShapes Go.WideShapes Go.ChangeAt Go.RowKit Go.Lib
theorem rowErr (u : TypeId) (h : Tryz.prog.typeName? 3 u = some "*errors.errorString") : u = 305 := by
  have star : "*" ++ "errors.errorString" = "*errors.errorString" := by decide
  exact typeName_ptr_named (nm := "errors.errorString") (by rw [star]; kernel_rfl) (by kernel_rfl) (by decide) u (by rw [star]; exact h)
/-- The rows' list of variables. -/
def laidRows : List (String × DataW Unit) := [("math/bits.deBruijn32tab", Rows.laid_math_bits_deBruijn32tab), ("math/bits.deBruijn64tab", Rows.laid_math_bits_deBruijn64tab), ("internal/strconv.uint64pow10", Rows.laid_internal_strconv_uint64pow10), ("unicode/utf8.acceptRanges", Rows.laid_unicode_utf8_acceptRanges), ("strconv.ErrRange", Rows.laid_strconv_ErrRange), ("strconv.ErrSyntax", Rows.laid_strconv_ErrSyntax), ("unicode/utf8.first", Rows.laid_unicode_utf8_first)]
theorem env_laid {w : World} (hl : laidMetH Tryz.prog laidRows w) : Env w := by
  rw [MakeChecks.laidMetH_plain _ _ _ (by kernel_rfl)] at hl
  have ht := tabIs_of_head (zs := pow10Tab) (g := 0) (t := 284) (e := 102) (n := 20) (by kernel_rfl) (by kernel_rfl) Tryz.underlying284 Tryz.underlying102 (by kernel_rfl) (by kernel_rfl) hl.tail.tail
  obtain ⟨a, s, hv, -, -, -⟩ := laid_sentinel hl.tail.tail.tail.tail (g := 2) (ti := 245) (tp := 305) (te := 307) (ts := 9) (by kernel_rfl) (by kernel_rfl) Tryz.underlying245 rowErr Tryz.underlying305 Tryz.underlying307 rfl rfl Tryz.underlying9 (by kernel_rfl) (by kernel_rfl)
  exact ⟨⟨_, _, hv⟩, ht⟩
theorem zero_row (n m : Int) (w : World) (hn0 : 0 ≤ n) (hn1 : n ≤ 255) (hm0 : 0 ≤ m) (hm1 : m ≤ 255) (hl : laidMetH Tryz.prog laidRows w) :
    Calls Tryz.prog 3 #[.int .u8 n, .int .u8 m] w (Ib (.bool true) w) := zero_law n m w hn0 hn1 hm0 hm1 (env_laid hl)
end Go.Proofs.YthfodpbecddheaaGreatDoor


import Derived.Test.YtlebppjldoodgaaYb
/-
  The developers' Size. No conditions beyond those that each names.
-/
namespace Go.Proofs.Ytlebppjldoodgaa
open Go.RowKit
set_option maxRecDepth 100000 in
set_option maxHeartbeats 4000000 in
theorem devSize_any (N : Nat) : ∀ (t : Vl) (v : Value) (w : World), SizeOf.sizeOf t < N → vok t → VlV w t v →
    Calls Try.prog 25 #[v] w (Ib (.int .i64 (wrap64 (sz t : Int))) w) := by
  induction N with
  | zero => intro t v w h; omega
  | succ N ih =>
    intro t v w hN hok hv
    obtain ⟨-, ⟨hl, hlo⟩, hf, hfo⟩ := vok_iff.1 hok
    have cL : ∀ (i : Nat) (h : i < t.l.length) v w, VlV w (t.l[i]'h) v → Calls Try.prog 25 #[v] w (Ib (.int .i64 (wrap64 (sz (t.l[i]'h) : Int))) w) := fun i h v w => ih _ v w (by have := size_l h; omega) (hlo _ (List.getElem_mem h))
    have cF : ∀ (i : Nat) (h : i < t.f.length) v w, VlV w (t.f[i]'h).2 v → Calls Try.prog 25 #[v] w (Ib (.int .i64 (wrap64 (sz (t.f[i]'h).2 : Int))) w) := fun i h v w => ih _ v w (by have := size_f h; omega) (hfo _ (List.getElem_mem h))
    have HZ := Lib.hid (sz_eq t)
    obtain ⟨A, c, A2, c2, rfl, hR, hR2⟩ := hv
    obtain ⟨m, hm⟩ : ∃ m, t.l.length = m := ⟨_, rfl⟩
    obtain ⟨n, hn⟩ : ∃ n, t.f.length = n := ⟨_, rfl⟩
    obtain ⟨z, hz⟩ : ∃ z, wrap64 (sz t : Int) = z := ⟨_, rfl⟩
    have HQ := Lib.hid hz
    have HM := Lib.hid hm
    have HN := Lib.hid hn
    rw [hm] at hl ⊢
    rw [hn] at hf ⊢
    rw [hz]
    have hB := Bx.new5 w 25 (.int .i64 t.kind) (.int .i64 t.n) (.string (bs t.s)) (.slice A m c) (.slice A2 n c2)
    have H0 := Lib.hid (show (1 : Int) = wrap64 ((1 + sz.szl (t.l.take 0) : Nat) : Int) by rw [List.take_zero, sz.szl]; unfold wrap64; omega)
    clear hm hn hz ih hok hlo hfo hN
    go_enter Try.func25, Try.ntmps25
    go_wp2_with fail
    go_loopw [3, 11] (fun s i wr => ∃ (k : Nat) (x : Int), k ≤ m ∧ i = .int .i64 (k : Int) ∧ s = .int .i64 x ∧ Hid (x = wrap64 ((1 + sz.szl (t.l.take k) : Nat) : Int)) ∧ Bx wr w.heap.size [.int .i64 t.kind, .int .i64 t.n, .string (bs t.s), .slice A m c, .slice A2 n c2] ∧ Below w.heap.size w wr) (fun _ i _ => m - (intOf i).toNat)
    case atStart => exact ⟨0, 1, by omega, rfl, rfl, H0, hB, ab1 _ _⟩
    case round =>
      obtain ⟨k, x, hk, rfl, rfl, hx, hBr, hb⟩ := hrel
      have c3 := hBr.c 3 rfl
      have c4 := hBr.c 4 rfl
      by_cases hlt : k < m
      · have h1 : k < t.l.length := by rw [HM.out]; exact hlt
        obtain ⟨a, rfl, hA⟩ := hR.get h1
        have hA := VlA.next hb _ _ hA
        obtain ⟨A3, c5, A4, c6, h0, h1', h2, h3, h4, hV⟩ := hA.val
        have hblk : (a.add (k * 5)).block < wr.heap.size := blk_lt h0
        have cS := cL k h1 _ _ (hV.next (ab1 wr (Obj.cells #[.int .i64 (t.l[k]'h1).kind, .int .i64 (t.l[k]'h1).n, .string (bs (t.l[k]'h1).s), .slice A3 (t.l[k]'h1).l.length c5, .slice A4 (t.l[k]'h1).f.length c6] 25)))
        have HS := Lib.hid (szl_take h1)
        have hx2 := hx.out
        generalize t.l[k]'h1 = u at *
        have HX := Lib.hid (show wrap64 (x + wrap64 (sz u : Int)) = wrap64 ((1 + sz.szl (t.l.take (k + 1)) : Nat) : Int) by
          rw [hx2, wrap_add, HS.out]; congr 1; omega)
        generalize wrap64 (sz u : Int) = y at *
        clear hx hx2 HS cL cF hR hR2 hA
        obtain ⟨x2, hx2⟩ : ∃ x2, wrap64 (x + y) = x2 := ⟨_, rfl⟩
        rw [hx2] at HX
        go_wp2_with fail
        refine cS.mono ?_
        rintro e w2 ⟨rfl, hb2⟩
        go_wp2_with fail
        go_roundw
        case rel => exact ⟨k + 1, x2, by omega, by go_num, by first | rfl | (rw [← hx2]) | (rw [intK, ← hx2]), HX, (hBr.next (ab1 _ _)).next hb2, Below.next (Below.next hb (ab1 _ _)) hb2⟩
        case measure => simp [intOf]; omega
      · obtain rfl : k = m := by omega
        have HX := Lib.hid (show x = wrap64 ((1 + sz.szl t.l + sz.szf (t.f.take 0) : Nat) : Int) by rw [hx.out, List.take_of_length_le (by rw [HM.out]; exact Nat.le_refl _), List.take_zero, sz.szf]; rfl)
        clear hx H0 hB cL hR
        go_wp2_with fail
        go_loopw [3, 23] (fun s i wr => ∃ (j : Nat) (y : Int), j ≤ n ∧ i = .int .i64 (j : Int) ∧ s = .int .i64 y ∧ Hid (y = wrap64 ((1 + sz.szl t.l + sz.szf (t.f.take j) : Nat) : Int)) ∧ Bx wr w.heap.size [.int .i64 t.kind, .int .i64 t.n, .string (bs t.s), .slice A k c, .slice A2 n c2] ∧ Below w.heap.size w wr) (fun _ i _ => n - (intOf i).toNat)
        case atStart => exact ⟨0, x, by omega, rfl, rfl, HX, hBr, hb⟩
        case round =>
          clear hb hBr c3 c4 HX
          obtain ⟨j, x, hj, rfl, rfl, hx, hBr, hb⟩ := hrel
          have c3 := hBr.c 3 rfl
          have c4 := hBr.c 4 rfl
          by_cases hlt : j < n
          · have h1 : j < t.f.length := by rw [HN.out]; exact hlt
            obtain ⟨a, rfl, hA⟩ := hR2.get h1
            have hA := EtA.next hb _ _ hA
            obtain ⟨A3, c5, A4, c6, hn0, h0, h1', h2, h3, h4, hV⟩ := hA.val
            have hblk : (a.add (j * 6)).block < wr.heap.size := blk_lt hn0
            have cS := cF j h1 _ _ (hV.next (ab1 wr (Obj.cells #[.int .i64 (t.f[j]'h1).1, .int .i64 (t.f[j]'h1).2.kind, .int .i64 (t.f[j]'h1).2.n, .string (bs (t.f[j]'h1).2.s), .slice A3 (t.f[j]'h1).2.l.length c5, .slice A4 (t.f[j]'h1).2.f.length c6] 72)))
            generalize (t.f[j]'h1).1 = num at *
            have HS := Lib.hid (szf_take h1)
            have hx2 := hx.out
            generalize (t.f[j]'h1).2 = u at *
            have HX := Lib.hid (show wrap64 (x + wrap64 (sz u : Int)) = wrap64 ((1 + sz.szl t.l + sz.szf (t.f.take (j + 1)) : Nat) : Int) by
              rw [hx2, wrap_add, HS.out]; congr 1; omega)
            generalize wrap64 (sz u : Int) = y at *
            clear hx hx2 HS cF hR2 hA
            obtain ⟨x2, hx2⟩ : ∃ x2, wrap64 (x + y) = x2 := ⟨_, rfl⟩
            rw [hx2] at HX
            go_wp2_with fail
            refine cS.mono ?_
            rintro e w2 ⟨rfl, hb2⟩
            go_wp2_with fail
            go_roundw
            case rel => exact ⟨j + 1, x2, by omega, by go_num, by first | rfl | (rw [← hx2]) | (rw [intK, ← hx2]), HX, (hBr.next (ab1 _ _)).next hb2, Below.next (Below.next hb (ab1 _ _)) hb2⟩
            case measure => simp [intOf]; omega
          · obtain rfl : j = n := by omega
            obtain rfl : x = z := by
              rw [← HQ.out, hx.out, HZ.out, List.take_of_length_le (by rw [HN.out]; exact Nat.le_refl _)]
            clear hx cF hR2
            go_wp2_with fail
            go_ret
            exact ⟨rfl, hb⟩
end Go.Proofs.Ytlebppjldoodgaa

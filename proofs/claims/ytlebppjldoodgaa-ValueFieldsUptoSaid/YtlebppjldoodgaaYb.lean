import Derived.Test.YtlebppjldoodgaaYa
import Derived.Test.YtlebppjldoodgaaSe
/-
  The reference's order of texts, sizes and levels. No conditions beyond those that each names.
-/
namespace Go.Proofs.Ytlebppjldoodgaa
open Go.RowKit
set_option maxRecDepth 100000 in
set_option maxHeartbeats 2000000 in
theorem refSign_any (a b : Int) (w : World) : Calls Try.prog 38 #[.int .i64 a, .int .i64 b] w (Is (.int .i64 (sg a b)) w) := by
  by_cases h1 : a < b
  · have d1 : decide (a < b) = true := decide_eq_true h1
    have e : sg a b = -1 := by unfold sg; rw [if_pos h1]
    rw [e]
    clear e
    go_enter Try.func38, Try.ntmps38
    go_wp2_with fail
    go_ret
    exact ⟨rfl, rfl⟩
  · have d1 : decide (a < b) = false := decide_eq_false h1
    by_cases h2 : b < a
    · have d2 : decide (b < a) = true := decide_eq_true h2
      have e : sg a b = 1 := by unfold sg; rw [if_neg h1, if_pos h2]
      rw [e]
      clear e
      go_enter Try.func38, Try.ntmps38
      go_wp2_with fail
      go_ret
      exact ⟨rfl, rfl⟩
    · have d2 : decide (b < a) = false := decide_eq_false h2
      have e : sg a b = 0 := by unfold sg; rw [if_neg h1, if_neg h2]
      rw [e]
      clear e
      go_enter Try.func38, Try.ntmps38
      go_wp2_with fail
      go_ret
      exact ⟨rfl, rfl⟩
theorem ob_drop {a b : List UInt8} {k : Nat} (h1 : k < a.length) (h2 : k < b.length) : ob (a.drop k) (b.drop k) = o1 (sg ((a[k]'h1).toNat : Int) ((b[k]'h2).toNat : Int)) (ob (a.drop (k + 1)) (b.drop (k + 1))) := by
  rw [List.drop_eq_getElem_cons h1, List.drop_eq_getElem_cons h2, ob]
theorem ob_end (a b : List UInt8) (k : Nat) (h : a.length ≤ k ∨ b.length ≤ k) (h1 : k ≤ a.length) (h2 : k ≤ b.length) : ob (a.drop k) (b.drop k) = sg (a.length : Int) (b.length : Int) := by
  rcases h with h | h
  · obtain rfl : k = a.length := by omega
    rw [List.drop_length]
    by_cases e : b.length = a.length
    · rw [← e, List.drop_length, ob]; unfold sg; omega
    · rw [List.drop_eq_getElem_cons (show a.length < b.length by omega), ob]; unfold sg; rw [if_pos (by omega)]
  · obtain rfl : k = b.length := by omega
    rw [List.drop_length]
    by_cases e : a.length = b.length
    · rw [← e, List.drop_length, ob]; unfold sg; omega
    · rw [List.drop_eq_getElem_cons (show b.length < a.length by omega), ob]; unfold sg; rw [if_neg (by omega), if_pos (by omega)]
set_option maxRecDepth 100000 in
set_option maxHeartbeats 2000000 in
theorem refOrder_any (a b : List UInt8) (w : World) (ha : a.length ≤ 9223372036854775807) (hb : b.length ≤ 9223372036854775807) : Calls Try.prog 39 #[.string (bs a), .string (bs b)] w (Iq (.int .i64 (ob a b)) w) := by
  obtain ⟨m, hm⟩ : ∃ m, a.length = m := ⟨_, rfl⟩
  obtain ⟨n, hn⟩ : ∃ n, b.length = n := ⟨_, rfl⟩
  obtain ⟨r, hr⟩ : ∃ r, ob a b = r := ⟨_, rfl⟩
  have HM := Lib.hid hm
  have HN := Lib.hid hn
  have z1 : (bs a).size = m := by rw [bs_size, hm]
  have z2 : (bs b).size = n := by rw [bs_size, hn]
  rw [hr]
  have H0 := Lib.hid (show ob (a.drop 0) (b.drop 0) = r from hr)
  rw [hm] at ha
  rw [hn] at hb
  clear hm hn hr
  go_enter Try.func39, Try.ntmps39
  go_wp2_with fail
  go_loopw [5] (fun i wr => ∃ (k q : Nat), k ≤ m ∧ k ≤ n ∧ i = .int .i64 (k : Int) ∧ wr = w.drewN q ∧ Hid (ob (a.drop k) (b.drop k) = r)) (fun i _ => m - (intOf i).toNat)
  case atStart => exact ⟨0, 0, by omega, by omega, rfl, rfl, H0⟩
  case round =>
    obtain ⟨k, q, hk, hk2, rfl, rfl, hI⟩ := hrel
    clear H0
    by_cases hlt : k < m ∧ k < n
    · obtain ⟨g1, g2⟩ := hlt
      have h1 : k < a.length := by rw [HM.out]; exact g1
      have h2 : k < b.length := by rw [HN.out]; exact g2
      have hE := hI.out
      rw [ob_drop h1 h2] at hE
      have l1 : k < (bs a).size := by rw [z1]; exact g1
      have l2 : k < (bs b).size := by rw [z2]; exact g2
      have e1 : ((bs a)[k]'l1).toNat = (a[k]'h1).toNat := rfl
      have e2 : ((bs b)[k]'l2).toNat = (b[k]'h2).toNat := rfl
      generalize (a[k]'h1).toNat = x at *
      generalize (b[k]'h2).toNat = y at *
      clear hI
      by_cases c1 : x < y
      · have d1 : decide (x < y) = true := decide_eq_true c1
        have HE := Lib.hid (show (-1 : Int) = r by rw [← hE]; unfold o1 sg; rw [if_pos (show (x : Int) < y by omega)]; rfl)
        clear hE
        go_wp2_with fail
        go_quiet (fail)
        go_wp2_with fail
        go_ret
        obtain rfl := HE.out
        exact ⟨_, rfl, by simp only [drewN_add]; rfl⟩
      · have d1 : decide (x < y) = false := decide_eq_false c1
        by_cases c2 : y < x
        · have d2 : decide (y < x) = true := decide_eq_true c2
          have HE := Lib.hid (show (1 : Int) = r by rw [← hE]; unfold o1 sg; rw [if_neg (show ¬ (x : Int) < y by omega), if_pos (show (y : Int) < x by omega)]; rfl)
          clear hE
          go_wp2_with fail
          go_quiet (fail)
          go_wp2_with fail
          go_quiet (fail)
          go_wp2_with fail
          go_ret
          obtain rfl := HE.out
          exact ⟨_, rfl, by simp only [drewN_add]; rfl⟩
        · have d2 : decide (y < x) = false := decide_eq_false c2
          have HE := Lib.hid (show ob (a.drop (k + 1)) (b.drop (k + 1)) = r by rw [← hE]; unfold o1 sg; rw [if_neg (show ¬ (x : Int) < y by omega), if_neg (show ¬ (y : Int) < x by omega)]; rfl)
          clear hE
          go_wp2_with fail
          go_quiet (fail)
          go_wp2_with fail
          go_quiet (fail)
          go_wp2_with fail
          go_roundw
          case rel => exact ⟨k + 1, _, by omega, by omega, by go_num, rfl, HE⟩
          case measure => simp [intOf]; omega
    · have hE := hI.out
      rw [ob_end a b k (by rw [HM.out, HN.out]; omega) (by rw [HM.out]; exact hk) (by rw [HN.out]; exact hk2), HM.out, HN.out] at hE
      have HE := Lib.hid hE
      clear hI hE
      have cS := fun W => refSign_any (m : Int) (n : Int) W
      by_cases g1 : k < m
      · obtain rfl : k = n := by omega
        go_wp2_with fail
        refine (cS _).mono ?_
        rintro e w2 ⟨rfl, rfl⟩
        go_wp2_with fail
        go_ret
        obtain rfl := HE.out
        exact ⟨_, rfl, rfl⟩
      · obtain rfl : k = m := by omega
        go_wp2_with fail
        refine (cS _).mono ?_
        rintro e w2 ⟨rfl, rfl⟩
        go_wp2_with fail
        go_ret
        obtain rfl := HE.out
        exact ⟨_, rfl, rfl⟩
theorem wrap_add (a b : Int) : wrap64 (wrap64 a + wrap64 b) = wrap64 (a + b) := by unfold wrap64; omega
theorem intK (a : Int) : IntKind.i64.wrap a = wrap64 a := IntWalk.i64_left a
set_option maxRecDepth 100000 in
set_option maxHeartbeats 4000000 in
theorem refSize_any (N : Nat) : ∀ (t : Vl) (v : Value) (w : World), SizeOf.sizeOf t < N → vok t → VlV w t v →
    Calls Try.prog 26 #[v] w (Ib (.int .i64 (wrap64 (sz t : Int))) w) := by
  induction N with
  | zero => intro t v w h; omega
  | succ N ih =>
    intro t v w hN hok hv
    obtain ⟨-, ⟨hl, hlo⟩, hf, hfo⟩ := vok_iff.1 hok
    have cL : ∀ (i : Nat) (h : i < t.l.length) v w, VlV w (t.l[i]'h) v → Calls Try.prog 26 #[v] w (Ib (.int .i64 (wrap64 (sz (t.l[i]'h) : Int))) w) := fun i h v w => ih _ v w (by have := size_l h; omega) (hlo _ (List.getElem_mem h))
    have cF : ∀ (i : Nat) (h : i < t.f.length) v w, VlV w (t.f[i]'h).2 v → Calls Try.prog 26 #[v] w (Ib (.int .i64 (wrap64 (sz (t.f[i]'h).2 : Int))) w) := fun i h v w => ih _ v w (by have := size_f h; omega) (hfo _ (List.getElem_mem h))
    have HZ := Lib.hid (sz_eq t)
    obtain ⟨A, c, A2, c2, rfl, hR, hR2⟩ := hv
    obtain ⟨m, hm⟩ : ∃ m, t.l.length = m := ⟨_, rfl⟩
    obtain ⟨n, hn⟩ : ∃ n, t.f.length = n := ⟨_, rfl⟩
    obtain ⟨z, hz⟩ : ∃ z, wrap64 (sz t : Int) = z := ⟨_, rfl⟩
    have HQ := Lib.hid hz
    have HM := Lib.hid hm
    have HN := Lib.hid hn
    rw [hm] at hl ⊢
    rw [hn] at hf ⊢
    rw [hz]
    have hB := Bx.new5 w 25 (.int .i64 t.kind) (.int .i64 t.n) (.string (bs t.s)) (.slice A m c) (.slice A2 n c2)
    have H0 := Lib.hid (show (1 : Int) = wrap64 ((1 + sz.szl (t.l.take 0) : Nat) : Int) by rw [List.take_zero, sz.szl]; unfold wrap64; omega)
    clear hm hn hz ih hok hlo hfo hN
    go_enter Try.func26, Try.ntmps26
    go_wp2_with fail
    go_loopw [3, 4] (fun s i wr => ∃ (k : Nat) (x : Int), k ≤ m ∧ i = .int .i64 (k : Int) ∧ s = .int .i64 x ∧ Hid (x = wrap64 ((1 + sz.szl (t.l.take k) : Nat) : Int)) ∧ Bx wr w.heap.size [.int .i64 t.kind, .int .i64 t.n, .string (bs t.s), .slice A m c, .slice A2 n c2] ∧ Below w.heap.size w wr) (fun _ i _ => m - (intOf i).toNat)
    case atStart => exact ⟨0, 1, by omega, rfl, rfl, H0, hB, ab1 _ _⟩
    case round =>
      obtain ⟨k, x, hk, rfl, rfl, hx, hBr, hb⟩ := hrel
      have c3 := hBr.c 3 rfl
      have c4 := hBr.c 4 rfl
      by_cases hlt : k < m
      · have h1 : k < t.l.length := by rw [HM.out]; exact hlt
        obtain ⟨a, rfl, hA⟩ := hR.get h1
        have hA := VlA.next hb _ _ hA
        obtain ⟨A3, c5, A4, c6, h0, h1', h2, h3, h4, hV⟩ := hA.val
        have hblk : (a.add (k * 5)).block < wr.heap.size := blk_lt h0
        have cS := cL k h1 _ wr hV
        have HS := Lib.hid (szl_take h1)
        have hx2 := hx.out
        generalize t.l[k]'h1 = u at *
        have HX := Lib.hid (show wrap64 (x + wrap64 (sz u : Int)) = wrap64 ((1 + sz.szl (t.l.take (k + 1)) : Nat) : Int) by
          rw [hx2, wrap_add, HS.out]; congr 1; omega)
        generalize wrap64 (sz u : Int) = y at *
        clear hx hx2 HS cL cF hR hR2 hA
        obtain ⟨x2, hx2⟩ : ∃ x2, wrap64 (x + y) = x2 := ⟨_, rfl⟩
        rw [hx2] at HX
        go_wp2_with fail
        refine cS.mono ?_
        rintro e w2 ⟨rfl, hb2⟩
        go_wp2_with fail
        go_roundw
        case rel => exact ⟨k + 1, x2, by omega, by go_num, by first | rfl | (rw [← hx2]) | (rw [intK, ← hx2]), HX, hBr.next hb2, Below.next hb hb2⟩
        case measure => simp [intOf]; omega
      · obtain rfl : k = m := by omega
        have HX := Lib.hid (show x = wrap64 ((1 + sz.szl t.l + sz.szf (t.f.take 0) : Nat) : Int) by rw [hx.out, List.take_of_length_le (by rw [HM.out]; exact Nat.le_refl _), List.take_zero, sz.szf]; rfl)
        clear hx H0 hB cL hR
        go_wp2_with fail
        go_loopw [3, 5] (fun s i wr => ∃ (j : Nat) (y : Int), j ≤ n ∧ i = .int .i64 (j : Int) ∧ s = .int .i64 y ∧ Hid (y = wrap64 ((1 + sz.szl t.l + sz.szf (t.f.take j) : Nat) : Int)) ∧ Bx wr w.heap.size [.int .i64 t.kind, .int .i64 t.n, .string (bs t.s), .slice A k c, .slice A2 n c2] ∧ Below w.heap.size w wr) (fun _ i _ => n - (intOf i).toNat)
        case atStart => exact ⟨0, x, by omega, rfl, rfl, HX, hBr, hb⟩
        case round =>
          clear hb hBr c3 c4 HX
          obtain ⟨j, x, hj, rfl, rfl, hx, hBr, hb⟩ := hrel
          have c3 := hBr.c 3 rfl
          have c4 := hBr.c 4 rfl
          by_cases hlt : j < n
          · have h1 : j < t.f.length := by rw [HN.out]; exact hlt
            obtain ⟨a, rfl, hA⟩ := hR2.get h1
            have hA := EtA.next hb _ _ hA
            obtain ⟨A3, c5, A4, c6, hn0, h0, h1', h2, h3, h4, hV⟩ := hA.val
            have hblk : (a.add (j * 6)).block < wr.heap.size := blk_lt hn0
            have cS := cF j h1 _ wr hV
            have HS := Lib.hid (szf_take h1)
            have hx2 := hx.out
            generalize (t.f[j]'h1).2 = u at *
            have HX := Lib.hid (show wrap64 (x + wrap64 (sz u : Int)) = wrap64 ((1 + sz.szl t.l + sz.szf (t.f.take (j + 1)) : Nat) : Int) by
              rw [hx2, wrap_add, HS.out]; congr 1; omega)
            generalize wrap64 (sz u : Int) = y at *
            clear hx hx2 HS cF hR2 hA
            obtain ⟨x2, hx2⟩ : ∃ x2, wrap64 (x + y) = x2 := ⟨_, rfl⟩
            rw [hx2] at HX
            go_wp2_with fail
            refine cS.mono ?_
            rintro e w2 ⟨rfl, hb2⟩
            go_wp2_with fail
            go_roundw
            case rel => exact ⟨j + 1, x2, by omega, by go_num, by first | rfl | (rw [← hx2]) | (rw [intK, ← hx2]), HX, hBr.next hb2, Below.next hb hb2⟩
            case measure => simp [intOf]; omega
          · obtain rfl : j = n := by omega
            obtain rfl : x = z := by
              rw [← HQ.out, hx.out, HZ.out, List.take_of_length_le (by rw [HN.out]; exact Nat.le_refl _)]
            clear hx cF hR2
            go_wp2_with fail
            go_ret
            exact ⟨rfl, hb⟩
end Go.Proofs.Ytlebppjldoodgaa

/-
  The reference's Levels. No conditions beyond those that each names.
-/
import Derived.Test.YtlebppjldoodgaaM11
import Derived.Test.YtlebppjldoodgaaM20
namespace Go.Proofs.Ytlebppjldoodgaa
open Go.RowKit
theorem lvl_take {l : List Vl} {k : Nat} (h : k < l.length) : lv.lvl (l.take (k + 1)) = max (lv.lvl (l.take k)) (lv (l[k]'h)) := by
  induction l generalizing k with
  | nil => exact absurd h (Nat.not_lt_zero _)
  | cons t ts ih =>
    cases k with
    | zero => simp [lv.lvl]
    | succ k =>
      rw [List.take_succ_cons, List.take_succ_cons, lv.lvl, lv.lvl, ih (by simpa using h)]
      first | (simp; done) | (simp; omega)
theorem lvf_take {l : List (Int × Vl)} {k : Nat} (h : k < l.length) : lv.lvf (l.take (k + 1)) = max (lv.lvf (l.take k)) (lv (l[k]'h).2) := by
  induction l generalizing k with
  | nil => exact absurd h (Nat.not_lt_zero _)
  | cons t ts ih =>
    obtain ⟨n, t⟩ := t
    cases k with
    | zero => simp [lv.lvf]
    | succ k =>
      rw [List.take_succ_cons, List.take_succ_cons, lv.lvf, lv.lvf, ih (by simpa using h)]
      first | (simp; done) | (simp; omega)
mutual
theorem lv_sz : ∀ t : Vl, lv t ≤ sz t
  | .mk k n s l f => by
    rw [lv, sz]
    have h1 := lvl_sz l
    have h2 := lvf_sz f
    split <;> omega
theorem lvl_sz : ∀ l : List Vl, lv.lvl l ≤ sz.szl l
  | [] => by rw [lv.lvl]; omega
  | t :: ts => by
    rw [lv.lvl, sz.szl]
    have h1 := lv_sz t
    have h2 := lvl_sz ts
    omega
theorem lvf_sz : ∀ l : List (Int × Vl), lv.lvf l ≤ sz.szf l
  | [] => by rw [lv.lvf]; omega
  | (n, t) :: ts => by
    rw [lv.lvf, sz.szf]
    have h1 := lv_sz t
    have h2 := lvf_sz ts
    omega
end
set_option maxRecDepth 100000 in
set_option maxHeartbeats 8000000 in
theorem refLevels_any (N : Nat) : ∀ (t : Vl) (v : Value) (w : World), SizeOf.sizeOf t < N → sz t ≤ 2000000 → VlV w t v →
    Calls Try.prog 29 #[v] w (Ib (.int .i64 (lv t : Int)) w) := by
  induction N with
  | zero => intro t v w h; omega
  | succ N ih =>
    intro t v w hN hsz hv
    have hml : t.l.length ≤ 2000000 := by have := sz_ll t; omega
    have hnl : t.f.length ≤ 2000000 := by have := sz_fl t; omega
    have cL : ∀ (i : Nat) (h : i < t.l.length) v w, VlV w (t.l[i]'h) v → Calls Try.prog 29 #[v] w (Ib (.int .i64 (lv (t.l[i]'h) : Int)) w) := fun i h v w => ih _ v w (by have := size_l h; omega) (by have := sz_l h; omega)
    have cF : ∀ (i : Nat) (h : i < t.f.length) v w, VlV w (t.f[i]'h).2 v → Calls Try.prog 29 #[v] w (Ib (.int .i64 (lv (t.f[i]'h).2 : Int)) w) := fun i h v w => ih _ v w (by have := size_f h; omega) (by have := sz_f h; omega)
    have bL : ∀ (i : Nat) (h : i < t.l.length), lv (t.l[i]'h) ≤ 2000000 := fun i h => by have := lv_sz (t.l[i]'h); have := sz_l h; omega
    have bF : ∀ (i : Nat) (h : i < t.f.length), lv (t.f[i]'h).2 ≤ 2000000 := fun i h => by have := lv_sz (t.f[i]'h).2; have := sz_f h; omega
    have HD := Lib.hid (@lv_flat t)
    have HP := Lib.hid (@lv_deep t)
    obtain ⟨A, c, A2, c2, rfl, hR, hR2⟩ := hv
    obtain ⟨m, hm⟩ : ∃ m, t.l.length = m := ⟨_, rfl⟩
    obtain ⟨n, hn⟩ : ∃ n, t.f.length = n := ⟨_, rfl⟩
    have HM := Lib.hid hm
    have HN := Lib.hid hn
    rw [hm] at hml
    rw [hn] at hnl
    rw [hm, hn] at HD HP ⊢
    have hB := Bx.new5 w 25 (.int .i64 t.kind) (.int .i64 t.n) (.string (bs t.s)) (.slice A m c) (.slice A2 n c2)
    clear hm hn ih hN hsz
    by_cases hfl : t.kind ≠ 5 ∧ t.kind ≠ 6 ∧ m = 0 ∧ n = 0
    · obtain ⟨h5, h6, rfl, rfl⟩ := hfl
      have hz := HD.out h5 h6 rfl rfl
      have d5 : (t.kind != 5) = true := by simpa using h5
      have d6 : (t.kind != 6) = true := by simpa using h6
      rw [hz]
      clear hz h5 h6 HD HP cL cF bL bF
      go_enter Try.func29, Try.ntmps29
      go_wp2_with fail
      go_ret
      exact ⟨rfl, ab1 _ _⟩
    replace HP := Lib.hid (HP.out hfl)
    obtain ⟨z, hz⟩ : ∃ z, lv t = z := ⟨_, rfl⟩
    have HZ := Lib.hid hz
    rw [hz]
    clear hz HD
    have H0 := Lib.hid (show (0 : Nat) = lv.lvl (t.l.take 0) by rw [List.take_zero, lv.lvl])
    by_cases h5 : t.kind = 5
    · have d5 : (t.kind != 5) = false := by simpa using h5
      clear h5 hfl
      go_enter Try.func29, Try.ntmps29
      go_wp2_with fail
      go_loopw [3, 4] (fun s i wr => ∃ (k x : Nat), k ≤ m ∧ i = .int .i64 (k : Int) ∧ s = .int .i64 (x : Int) ∧ x ≤ 2000000 ∧ Hid (x = lv.lvl (t.l.take k)) ∧ Bx wr w.heap.size [.int .i64 t.kind, .int .i64 t.n, .string (bs t.s), .slice A m c, .slice A2 n c2] ∧ Below w.heap.size w wr) (fun _ i _ => m - (intOf i).toNat)
      case atStart => exact ⟨0, 0, by omega, rfl, rfl, by omega, H0, hB, ab1 _ _⟩
      case round =>
        obtain ⟨k, x, hk, rfl, rfl, hxb, hx, hBr, hb⟩ := hrel
        have c3 := hBr.c 3 rfl
        have c4 := hBr.c 4 rfl
        by_cases hlt : k < m
        · have hk1 := Lib.hid hlt
          have h1 : k < t.l.length := by rw [HM.out]; exact hlt
          obtain ⟨a, rfl, hA⟩ := hR.get h1
          have hA := VlA.next hb _ _ hA
          obtain ⟨A3, c5, A4, c6, h0, h1', h2, h3, h4, hV⟩ := hA.val
          have hblk : (a.add (k * 5)).block < wr.heap.size := blk_lt h0
          have cS := cL k h1 _ wr hV
          have HS := Lib.hid (lvl_take h1)
          have hyb := bL k h1
          generalize t.l[k]'h1 = u at *
          obtain ⟨y, hy⟩ : ∃ y, lv u = y := ⟨_, rfl⟩
          rw [hy] at cS HS hyb
          clear hy cL cF hR hR2 hA bL bF
          by_cases hxy : x < y
          · have d1 : decide ((x : Int) < (y : Int)) = true := decide_eq_true (by omega)
            have d2 : decide (x < y) = true := decide_eq_true hxy
            have HX := Lib.hid (show y = lv.lvl (t.l.take (k + 1)) by rw [HS.out, ← hx.out]; omega)
            clear hx HS
            go_wp2_with fail
            refine cS.mono ?_
            rintro e w2 ⟨rfl, hb2⟩
            go_wp2_with fail
            go_roundw
            case rel => exact ⟨k + 1, y, hk1.out, by go_num, rfl, hyb, HX, hBr.next hb2, Below.next hb hb2⟩
            case measure => have := hk1.out; simp [intOf]; omega
          · have d1 : decide ((x : Int) < (y : Int)) = false := decide_eq_false (by omega)
            have d2 : decide (x < y) = false := decide_eq_false hxy
            have HX := Lib.hid (show x = lv.lvl (t.l.take (k + 1)) by rw [HS.out, ← hx.out]; omega)
            clear hx HS
            go_wp2_with fail
            refine cS.mono ?_
            rintro e w2 ⟨rfl, hb2⟩
            go_wp2_with fail
            go_roundw
            case rel => exact ⟨k + 1, x, hk1.out, by go_num, rfl, hxb, HX, hBr.next hb2, Below.next hb hb2⟩
            case measure => have := hk1.out; simp [intOf]; omega
        · obtain rfl : k = m := by omega
          have HX := Lib.hid (show x = max (lv.lvl t.l) (lv.lvf (t.f.take 0)) by rw [hx.out, List.take_of_length_le (by rw [HM.out]; exact Nat.le_refl _), List.take_zero, lv.lvf]; omega)
          clear hx H0 hB cL hR hlt bL
          go_wp2_with fail
          go_loopw [3, 6] (fun s i wr => ∃ (j y : Nat), j ≤ n ∧ i = .int .i64 (j : Int) ∧ s = .int .i64 (y : Int) ∧ y ≤ 2000000 ∧ Hid (y = max (lv.lvl t.l) (lv.lvf (t.f.take j))) ∧ Bx wr w.heap.size [.int .i64 t.kind, .int .i64 t.n, .string (bs t.s), .slice A k c, .slice A2 n c2] ∧ Below w.heap.size w wr) (fun _ i _ => n - (intOf i).toNat)
          case atStart => exact ⟨0, x, by omega, rfl, rfl, hxb, HX, hBr, hb⟩
          case round =>
            clear hb hBr c3 c4 HX hxb
            obtain ⟨j, x, hj, rfl, rfl, hxb, hx, hBr, hb⟩ := hrel
            have c3 := hBr.c 3 rfl
            have c4 := hBr.c 4 rfl
            by_cases hlt : j < n
            · have hk1 := Lib.hid hlt
              have h1 : j < t.f.length := by rw [HN.out]; exact hlt
              obtain ⟨a, rfl, hA⟩ := hR2.get h1
              have hA := EtA.next hb _ _ hA
              obtain ⟨A3, c5, A4, c6, hn0, h0, h1', h2, h3, h4, hV⟩ := hA.val
              have hblk : (a.add (j * 6)).block < wr.heap.size := blk_lt hn0
              have cS := cF j h1 _ wr hV
              have HS := Lib.hid (lvf_take h1)
              have hyb := bF j h1
              generalize (t.f[j]'h1).2 = u at *
              obtain ⟨y, hy⟩ : ∃ y, lv u = y := ⟨_, rfl⟩
              rw [hy] at cS HS hyb
              clear hy cF hR2 hA bF
              by_cases hxy : x < y
              · have d1 : decide ((x : Int) < (y : Int)) = true := decide_eq_true (by omega)
                have d2 : decide (x < y) = true := decide_eq_true hxy
                have HX := Lib.hid (show y = max (lv.lvl t.l) (lv.lvf (t.f.take (j + 1))) by rw [HS.out]; have := hx.out; omega)
                clear hx HS
                go_wp2_with fail
                refine cS.mono ?_
                rintro e w2 ⟨rfl, hb2⟩
                go_wp2_with fail
                go_roundw
                case rel => exact ⟨j + 1, y, hk1.out, by go_num, rfl, hyb, HX, hBr.next hb2, Below.next hb hb2⟩
                case measure => have := hk1.out; simp [intOf]; omega
              · have d1 : decide ((x : Int) < (y : Int)) = false := decide_eq_false (by omega)
                have d2 : decide (x < y) = false := decide_eq_false hxy
                have HX := Lib.hid (show x = max (lv.lvl t.l) (lv.lvf (t.f.take (j + 1))) by rw [HS.out]; have := hx.out; omega)
                clear hx HS
                go_wp2_with fail
                refine cS.mono ?_
                rintro e w2 ⟨rfl, hb2⟩
                go_wp2_with fail
                go_roundw
                case rel => exact ⟨j + 1, x, hk1.out, by go_num, rfl, hxb, HX, hBr.next hb2, Below.next hb hb2⟩
                case measure => have := hk1.out; simp [intOf]; omega
            · obtain rfl : j = n := by omega
              have hxz : (x : Int) + 1 = (z : Int) := by
                have h1 := hx.out
                have h2 := HP.out
                have h3 := HZ.out
                rw [List.take_of_length_le (by rw [HN.out]; exact Nat.le_refl _)] at h1
                omega
              clear hx cF hR2 bF hlt
              go_wp2_with fail
              go_ret
              exact ⟨rfl, hb⟩
    have d5 : (t.kind != 5) = true := by simpa using h5
    by_cases h6 : t.kind = 6
    · have d6 : (t.kind != 6) = false := by simpa using h6
      clear h5 h6 hfl
      go_enter Try.func29, Try.ntmps29
      go_wp2_with fail
      go_loopw [3, 4] (fun s i wr => ∃ (k x : Nat), k ≤ m ∧ i = .int .i64 (k : Int) ∧ s = .int .i64 (x : Int) ∧ x ≤ 2000000 ∧ Hid (x = lv.lvl (t.l.take k)) ∧ Bx wr w.heap.size [.int .i64 t.kind, .int .i64 t.n, .string (bs t.s), .slice A m c, .slice A2 n c2] ∧ Below w.heap.size w wr) (fun _ i _ => m - (intOf i).toNat)
      case atStart => exact ⟨0, 0, by omega, rfl, rfl, by omega, H0, hB, ab1 _ _⟩
      case round =>
        obtain ⟨k, x, hk, rfl, rfl, hxb, hx, hBr, hb⟩ := hrel
        have c3 := hBr.c 3 rfl
        have c4 := hBr.c 4 rfl
        by_cases hlt : k < m
        · have hk1 := Lib.hid hlt
          have h1 : k < t.l.length := by rw [HM.out]; exact hlt
          obtain ⟨a, rfl, hA⟩ := hR.get h1
          have hA := VlA.next hb _ _ hA
          obtain ⟨A3, c5, A4, c6, h0, h1', h2, h3, h4, hV⟩ := hA.val
          have hblk : (a.add (k * 5)).block < wr.heap.size := blk_lt h0
          have cS := cL k h1 _ wr hV
          have HS := Lib.hid (lvl_take h1)
          have hyb := bL k h1
          generalize t.l[k]'h1 = u at *
          obtain ⟨y, hy⟩ : ∃ y, lv u = y := ⟨_, rfl⟩
          rw [hy] at cS HS hyb
          clear hy cL cF hR hR2 hA bL bF
          by_cases hxy : x < y
          · have d1 : decide ((x : Int) < (y : Int)) = true := decide_eq_true (by omega)
            have d2 : decide (x < y) = true := decide_eq_true hxy
            have HX := Lib.hid (show y = lv.lvl (t.l.take (k + 1)) by rw [HS.out, ← hx.out]; omega)
            clear hx HS
            go_wp2_with fail
            refine cS.mono ?_
            rintro e w2 ⟨rfl, hb2⟩
            go_wp2_with fail
            go_roundw
            case rel => exact ⟨k + 1, y, hk1.out, by go_num, rfl, hyb, HX, hBr.next hb2, Below.next hb hb2⟩
            case measure => have := hk1.out; simp [intOf]; omega
          · have d1 : decide ((x : Int) < (y : Int)) = false := decide_eq_false (by omega)
            have d2 : decide (x < y) = false := decide_eq_false hxy
            have HX := Lib.hid (show x = lv.lvl (t.l.take (k + 1)) by rw [HS.out, ← hx.out]; omega)
            clear hx HS
            go_wp2_with fail
            refine cS.mono ?_
            rintro e w2 ⟨rfl, hb2⟩
            go_wp2_with fail
            go_roundw
            case rel => exact ⟨k + 1, x, hk1.out, by go_num, rfl, hxb, HX, hBr.next hb2, Below.next hb hb2⟩
            case measure => have := hk1.out; simp [intOf]; omega
        · obtain rfl : k = m := by omega
          have HX := Lib.hid (show x = max (lv.lvl t.l) (lv.lvf (t.f.take 0)) by rw [hx.out, List.take_of_length_le (by rw [HM.out]; exact Nat.le_refl _), List.take_zero, lv.lvf]; omega)
          clear hx H0 hB cL hR hlt bL
          go_wp2_with fail
          go_loopw [3, 6] (fun s i wr => ∃ (j y : Nat), j ≤ n ∧ i = .int .i64 (j : Int) ∧ s = .int .i64 (y : Int) ∧ y ≤ 2000000 ∧ Hid (y = max (lv.lvl t.l) (lv.lvf (t.f.take j))) ∧ Bx wr w.heap.size [.int .i64 t.kind, .int .i64 t.n, .string (bs t.s), .slice A k c, .slice A2 n c2] ∧ Below w.heap.size w wr) (fun _ i _ => n - (intOf i).toNat)
          case atStart => exact ⟨0, x, by omega, rfl, rfl, hxb, HX, hBr, hb⟩
          case round =>
            clear hb hBr c3 c4 HX hxb
            obtain ⟨j, x, hj, rfl, rfl, hxb, hx, hBr, hb⟩ := hrel
            have c3 := hBr.c 3 rfl
            have c4 := hBr.c 4 rfl
            by_cases hlt : j < n
            · have hk1 := Lib.hid hlt
              have h1 : j < t.f.length := by rw [HN.out]; exact hlt
              obtain ⟨a, rfl, hA⟩ := hR2.get h1
              have hA := EtA.next hb _ _ hA
              obtain ⟨A3, c5, A4, c6, hn0, h0, h1', h2, h3, h4, hV⟩ := hA.val
              have hblk : (a.add (j * 6)).block < wr.heap.size := blk_lt hn0
              have cS := cF j h1 _ wr hV
              have HS := Lib.hid (lvf_take h1)
              have hyb := bF j h1
              generalize (t.f[j]'h1).2 = u at *
              obtain ⟨y, hy⟩ : ∃ y, lv u = y := ⟨_, rfl⟩
              rw [hy] at cS HS hyb
              clear hy cF hR2 hA bF
              by_cases hxy : x < y
              · have d1 : decide ((x : Int) < (y : Int)) = true := decide_eq_true (by omega)
                have d2 : decide (x < y) = true := decide_eq_true hxy
                have HX := Lib.hid (show y = max (lv.lvl t.l) (lv.lvf (t.f.take (j + 1))) by rw [HS.out]; have := hx.out; omega)
                clear hx HS
                go_wp2_with fail
                refine cS.mono ?_
                rintro e w2 ⟨rfl, hb2⟩
                go_wp2_with fail
                go_roundw
                case rel => exact ⟨j + 1, y, hk1.out, by go_num, rfl, hyb, HX, hBr.next hb2, Below.next hb hb2⟩
                case measure => have := hk1.out; simp [intOf]; omega
              · have d1 : decide ((x : Int) < (y : Int)) = false := decide_eq_false (by omega)
                have d2 : decide (x < y) = false := decide_eq_false hxy
                have HX := Lib.hid (show x = max (lv.lvl t.l) (lv.lvf (t.f.take (j + 1))) by rw [HS.out]; have := hx.out; omega)
                clear hx HS
                go_wp2_with fail
                refine cS.mono ?_
                rintro e w2 ⟨rfl, hb2⟩
                go_wp2_with fail
                go_roundw
                case rel => exact ⟨j + 1, x, hk1.out, by go_num, rfl, hxb, HX, hBr.next hb2, Below.next hb hb2⟩
                case measure => have := hk1.out; simp [intOf]; omega
            · obtain rfl : j = n := by omega
              have hxz : (x : Int) + 1 = (z : Int) := by
                have h1 := hx.out
                have h2 := HP.out
                have h3 := HZ.out
                rw [List.take_of_length_le (by rw [HN.out]; exact Nat.le_refl _)] at h1
                omega
              clear hx cF hR2 bF hlt
              go_wp2_with fail
              go_ret
              exact ⟨rfl, hb⟩
    have d6 : (t.kind != 6) = true := by simpa using h6
    by_cases hm0 : m = 0
    · have dm : ((m : Int) == 0) = true := by simp; omega
      have dn : ((n : Int) == 0) = false := by have : n ≠ 0 := fun e => hfl ⟨h5, h6, hm0, e⟩; simp; omega
      clear h5 h6 hfl hm0
      go_enter Try.func29, Try.ntmps29
      go_wp2_with fail
      go_loopw [3, 4] (fun s i wr => ∃ (k x : Nat), k ≤ m ∧ i = .int .i64 (k : Int) ∧ s = .int .i64 (x : Int) ∧ x ≤ 2000000 ∧ Hid (x = lv.lvl (t.l.take k)) ∧ Bx wr w.heap.size [.int .i64 t.kind, .int .i64 t.n, .string (bs t.s), .slice A m c, .slice A2 n c2] ∧ Below w.heap.size w wr) (fun _ i _ => m - (intOf i).toNat)
      case atStart => exact ⟨0, 0, by omega, rfl, rfl, by omega, H0, hB, ab1 _ _⟩
      case round =>
        obtain ⟨k, x, hk, rfl, rfl, hxb, hx, hBr, hb⟩ := hrel
        have c3 := hBr.c 3 rfl
        have c4 := hBr.c 4 rfl
        by_cases hlt : k < m
        · have hk1 := Lib.hid hlt
          have h1 : k < t.l.length := by rw [HM.out]; exact hlt
          obtain ⟨a, rfl, hA⟩ := hR.get h1
          have hA := VlA.next hb _ _ hA
          obtain ⟨A3, c5, A4, c6, h0, h1', h2, h3, h4, hV⟩ := hA.val
          have hblk : (a.add (k * 5)).block < wr.heap.size := blk_lt h0
          have cS := cL k h1 _ wr hV
          have HS := Lib.hid (lvl_take h1)
          have hyb := bL k h1
          generalize t.l[k]'h1 = u at *
          obtain ⟨y, hy⟩ : ∃ y, lv u = y := ⟨_, rfl⟩
          rw [hy] at cS HS hyb
          clear hy cL cF hR hR2 hA bL bF
          by_cases hxy : x < y
          · have d1 : decide ((x : Int) < (y : Int)) = true := decide_eq_true (by omega)
            have d2 : decide (x < y) = true := decide_eq_true hxy
            have HX := Lib.hid (show y = lv.lvl (t.l.take (k + 1)) by rw [HS.out, ← hx.out]; omega)
            clear hx HS
            go_wp2_with fail
            refine cS.mono ?_
            rintro e w2 ⟨rfl, hb2⟩
            go_wp2_with fail
            go_roundw
            case rel => exact ⟨k + 1, y, hk1.out, by go_num, rfl, hyb, HX, hBr.next hb2, Below.next hb hb2⟩
            case measure => have := hk1.out; simp [intOf]; omega
          · have d1 : decide ((x : Int) < (y : Int)) = false := decide_eq_false (by omega)
            have d2 : decide (x < y) = false := decide_eq_false hxy
            have HX := Lib.hid (show x = lv.lvl (t.l.take (k + 1)) by rw [HS.out, ← hx.out]; omega)
            clear hx HS
            go_wp2_with fail
            refine cS.mono ?_
            rintro e w2 ⟨rfl, hb2⟩
            go_wp2_with fail
            go_roundw
            case rel => exact ⟨k + 1, x, hk1.out, by go_num, rfl, hxb, HX, hBr.next hb2, Below.next hb hb2⟩
            case measure => have := hk1.out; simp [intOf]; omega
        · obtain rfl : k = m := by omega
          have HX := Lib.hid (show x = max (lv.lvl t.l) (lv.lvf (t.f.take 0)) by rw [hx.out, List.take_of_length_le (by rw [HM.out]; exact Nat.le_refl _), List.take_zero, lv.lvf]; omega)
          clear hx H0 hB cL hR hlt bL
          go_wp2_with fail
          go_loopw [3, 6] (fun s i wr => ∃ (j y : Nat), j ≤ n ∧ i = .int .i64 (j : Int) ∧ s = .int .i64 (y : Int) ∧ y ≤ 2000000 ∧ Hid (y = max (lv.lvl t.l) (lv.lvf (t.f.take j))) ∧ Bx wr w.heap.size [.int .i64 t.kind, .int .i64 t.n, .string (bs t.s), .slice A k c, .slice A2 n c2] ∧ Below w.heap.size w wr) (fun _ i _ => n - (intOf i).toNat)
          case atStart => exact ⟨0, x, by omega, rfl, rfl, hxb, HX, hBr, hb⟩
          case round =>
            clear hb hBr c3 c4 HX hxb
            obtain ⟨j, x, hj, rfl, rfl, hxb, hx, hBr, hb⟩ := hrel
            have c3 := hBr.c 3 rfl
            have c4 := hBr.c 4 rfl
            by_cases hlt : j < n
            · have hk1 := Lib.hid hlt
              have h1 : j < t.f.length := by rw [HN.out]; exact hlt
              obtain ⟨a, rfl, hA⟩ := hR2.get h1
              have hA := EtA.next hb _ _ hA
              obtain ⟨A3, c5, A4, c6, hn0, h0, h1', h2, h3, h4, hV⟩ := hA.val
              have hblk : (a.add (j * 6)).block < wr.heap.size := blk_lt hn0
              have cS := cF j h1 _ wr hV
              have HS := Lib.hid (lvf_take h1)
              have hyb := bF j h1
              generalize (t.f[j]'h1).2 = u at *
              obtain ⟨y, hy⟩ : ∃ y, lv u = y := ⟨_, rfl⟩
              rw [hy] at cS HS hyb
              clear hy cF hR2 hA bF
              by_cases hxy : x < y
              · have d1 : decide ((x : Int) < (y : Int)) = true := decide_eq_true (by omega)
                have d2 : decide (x < y) = true := decide_eq_true hxy
                have HX := Lib.hid (show y = max (lv.lvl t.l) (lv.lvf (t.f.take (j + 1))) by rw [HS.out]; have := hx.out; omega)
                clear hx HS
                go_wp2_with fail
                refine cS.mono ?_
                rintro e w2 ⟨rfl, hb2⟩
                go_wp2_with fail
                go_roundw
                case rel => exact ⟨j + 1, y, hk1.out, by go_num, rfl, hyb, HX, hBr.next hb2, Below.next hb hb2⟩
                case measure => have := hk1.out; simp [intOf]; omega
              · have d1 : decide ((x : Int) < (y : Int)) = false := decide_eq_false (by omega)
                have d2 : decide (x < y) = false := decide_eq_false hxy
                have HX := Lib.hid (show x = max (lv.lvl t.l) (lv.lvf (t.f.take (j + 1))) by rw [HS.out]; have := hx.out; omega)
                clear hx HS
                go_wp2_with fail
                refine cS.mono ?_
                rintro e w2 ⟨rfl, hb2⟩
                go_wp2_with fail
                go_roundw
                case rel => exact ⟨j + 1, x, hk1.out, by go_num, rfl, hxb, HX, hBr.next hb2, Below.next hb hb2⟩
                case measure => have := hk1.out; simp [intOf]; omega
            · obtain rfl : j = n := by omega
              have hxz : (x : Int) + 1 = (z : Int) := by
                have h1 := hx.out
                have h2 := HP.out
                have h3 := HZ.out
                rw [List.take_of_length_le (by rw [HN.out]; exact Nat.le_refl _)] at h1
                omega
              clear hx cF hR2 bF hlt
              go_wp2_with fail
              go_ret
              exact ⟨rfl, hb⟩
    · have dm : ((m : Int) == 0) = false := by simp; omega
      clear h5 h6 hfl hm0
      go_enter Try.func29, Try.ntmps29
      go_wp2_with fail
      go_loopw [3, 4] (fun s i wr => ∃ (k x : Nat), k ≤ m ∧ i = .int .i64 (k : Int) ∧ s = .int .i64 (x : Int) ∧ x ≤ 2000000 ∧ Hid (x = lv.lvl (t.l.take k)) ∧ Bx wr w.heap.size [.int .i64 t.kind, .int .i64 t.n, .string (bs t.s), .slice A m c, .slice A2 n c2] ∧ Below w.heap.size w wr) (fun _ i _ => m - (intOf i).toNat)
      case atStart => exact ⟨0, 0, by omega, rfl, rfl, by omega, H0, hB, ab1 _ _⟩
      case round =>
        obtain ⟨k, x, hk, rfl, rfl, hxb, hx, hBr, hb⟩ := hrel
        have c3 := hBr.c 3 rfl
        have c4 := hBr.c 4 rfl
        by_cases hlt : k < m
        · have hk1 := Lib.hid hlt
          have h1 : k < t.l.length := by rw [HM.out]; exact hlt
          obtain ⟨a, rfl, hA⟩ := hR.get h1
          have hA := VlA.next hb _ _ hA
          obtain ⟨A3, c5, A4, c6, h0, h1', h2, h3, h4, hV⟩ := hA.val
          have hblk : (a.add (k * 5)).block < wr.heap.size := blk_lt h0
          have cS := cL k h1 _ wr hV
          have HS := Lib.hid (lvl_take h1)
          have hyb := bL k h1
          generalize t.l[k]'h1 = u at *
          obtain ⟨y, hy⟩ : ∃ y, lv u = y := ⟨_, rfl⟩
          rw [hy] at cS HS hyb
          clear hy cL cF hR hR2 hA bL bF
          by_cases hxy : x < y
          · have d1 : decide ((x : Int) < (y : Int)) = true := decide_eq_true (by omega)
            have d2 : decide (x < y) = true := decide_eq_true hxy
            have HX := Lib.hid (show y = lv.lvl (t.l.take (k + 1)) by rw [HS.out, ← hx.out]; omega)
            clear hx HS
            go_wp2_with fail
            refine cS.mono ?_
            rintro e w2 ⟨rfl, hb2⟩
            go_wp2_with fail
            go_roundw
            case rel => exact ⟨k + 1, y, hk1.out, by go_num, rfl, hyb, HX, hBr.next hb2, Below.next hb hb2⟩
            case measure => have := hk1.out; simp [intOf]; omega
          · have d1 : decide ((x : Int) < (y : Int)) = false := decide_eq_false (by omega)
            have d2 : decide (x < y) = false := decide_eq_false hxy
            have HX := Lib.hid (show x = lv.lvl (t.l.take (k + 1)) by rw [HS.out, ← hx.out]; omega)
            clear hx HS
            go_wp2_with fail
            refine cS.mono ?_
            rintro e w2 ⟨rfl, hb2⟩
            go_wp2_with fail
            go_roundw
            case rel => exact ⟨k + 1, x, hk1.out, by go_num, rfl, hxb, HX, hBr.next hb2, Below.next hb hb2⟩
            case measure => have := hk1.out; simp [intOf]; omega
        · obtain rfl : k = m := by omega
          have HX := Lib.hid (show x = max (lv.lvl t.l) (lv.lvf (t.f.take 0)) by rw [hx.out, List.take_of_length_le (by rw [HM.out]; exact Nat.le_refl _), List.take_zero, lv.lvf]; omega)
          clear hx H0 hB cL hR hlt bL
          go_wp2_with fail
          go_loopw [3, 6] (fun s i wr => ∃ (j y : Nat), j ≤ n ∧ i = .int .i64 (j : Int) ∧ s = .int .i64 (y : Int) ∧ y ≤ 2000000 ∧ Hid (y = max (lv.lvl t.l) (lv.lvf (t.f.take j))) ∧ Bx wr w.heap.size [.int .i64 t.kind, .int .i64 t.n, .string (bs t.s), .slice A k c, .slice A2 n c2] ∧ Below w.heap.size w wr) (fun _ i _ => n - (intOf i).toNat)
          case atStart => exact ⟨0, x, by omega, rfl, rfl, hxb, HX, hBr, hb⟩
          case round =>
            clear hb hBr c3 c4 HX hxb
            obtain ⟨j, x, hj, rfl, rfl, hxb, hx, hBr, hb⟩ := hrel
            have c3 := hBr.c 3 rfl
            have c4 := hBr.c 4 rfl
            by_cases hlt : j < n
            · have hk1 := Lib.hid hlt
              have h1 : j < t.f.length := by rw [HN.out]; exact hlt
              obtain ⟨a, rfl, hA⟩ := hR2.get h1
              have hA := EtA.next hb _ _ hA
              obtain ⟨A3, c5, A4, c6, hn0, h0, h1', h2, h3, h4, hV⟩ := hA.val
              have hblk : (a.add (j * 6)).block < wr.heap.size := blk_lt hn0
              have cS := cF j h1 _ wr hV
              have HS := Lib.hid (lvf_take h1)
              have hyb := bF j h1
              generalize (t.f[j]'h1).2 = u at *
              obtain ⟨y, hy⟩ : ∃ y, lv u = y := ⟨_, rfl⟩
              rw [hy] at cS HS hyb
              clear hy cF hR2 hA bF
              by_cases hxy : x < y
              · have d1 : decide ((x : Int) < (y : Int)) = true := decide_eq_true (by omega)
                have d2 : decide (x < y) = true := decide_eq_true hxy
                have HX := Lib.hid (show y = max (lv.lvl t.l) (lv.lvf (t.f.take (j + 1))) by rw [HS.out]; have := hx.out; omega)
                clear hx HS
                go_wp2_with fail
                refine cS.mono ?_
                rintro e w2 ⟨rfl, hb2⟩
                go_wp2_with fail
                go_roundw
                case rel => exact ⟨j + 1, y, hk1.out, by go_num, rfl, hyb, HX, hBr.next hb2, Below.next hb hb2⟩
                case measure => have := hk1.out; simp [intOf]; omega
              · have d1 : decide ((x : Int) < (y : Int)) = false := decide_eq_false (by omega)
                have d2 : decide (x < y) = false := decide_eq_false hxy
                have HX := Lib.hid (show x = max (lv.lvl t.l) (lv.lvf (t.f.take (j + 1))) by rw [HS.out]; have := hx.out; omega)
                clear hx HS
                go_wp2_with fail
                refine cS.mono ?_
                rintro e w2 ⟨rfl, hb2⟩
                go_wp2_with fail
                go_roundw
                case rel => exact ⟨j + 1, x, hk1.out, by go_num, rfl, hxb, HX, hBr.next hb2, Below.next hb hb2⟩
                case measure => have := hk1.out; simp [intOf]; omega
            · obtain rfl : j = n := by omega
              have hxz : (x : Int) + 1 = (z : Int) := by
                have h1 := hx.out
                have h2 := HP.out
                have h3 := HZ.out
                rw [List.take_of_length_le (by rw [HN.out]; exact Nat.le_refl _)] at h1
                omega
              clear hx cF hR2 bF hlt
              go_wp2_with fail
              go_ret
              exact ⟨rfl, hb⟩
end Go.Proofs.Ytlebppjldoodgaa
/-
  Check, of both packages: the same answer, one function on data. No conditions beyond those that each names.
-/
namespace Go.Proofs.Ytlebppjldoodgaa
open Go.RowKit
theorem pur_5 {k n : Int} {s : List UInt8} {a b : Nat} (h : pur k n s a b = true) (ha : 0 < a) : k = 5 := by
  unfold pur at h
  simp only [Bool.and_eq_true, Bool.or_eq_true, decide_eq_true_eq] at h
  rcases h.2.1 with h | h
  · exact h
  · omega
set_option maxRecDepth 100000 in
theorem within_rec (S : Sch) (hf : Few9 S) (hlk : lok9 S) : ∀ N, WiI S N := by
  intro N
  induction N with
  | zero => intro t v A c A2 c2 G g u w hN; omega
  | succ N ih =>
    intro t v A c A2 c2 G g u w hN hlo hvo hvr hS hG hV
    obtain ⟨B, b, B2, b2, rfl, hL, hF⟩ := hV
    have hvo2 := vok_iff.1 hvo
    have hvr2 := vrk_iff.1 hvr
    have hlL : ∀ i (h : i < v.l.length), SizeOf.sizeOf (v.l[i]'h) < N ∧ vok (v.l[i]'h) ∧ vrk (v.l[i]'h) := fun i h => ⟨by have := size_l (t := v) h; omega, hvo2.2.1.2 _ (List.getElem_mem h), hvr2.2.1 _ (List.getElem_mem h)⟩
    have hfF : ∀ i (h : i < v.f.length), SizeOf.sizeOf (v.f[i]'h).2 < N ∧ vok (v.f[i]'h).2 ∧ vrk (v.f[i]'h).2 := fun i h => ⟨by have := size_f (t := v) h; omega, hvo2.2.2.2 _ (List.getElem_mem h), hvr2.2.2 _ (List.getElem_mem h)⟩
    obtain ⟨k, s, nm, e⟩ := t
    obtain ⟨q, n, st, l, f⟩ := v
    have hll : l.length ≤ 9223372036854775807 := hvo2.2.1.1
    have hfl : f.length ≤ 9223372036854775807 := hvo2.2.2.1
    have hn : -9223372036854775808 ≤ n ∧ n ≤ 9223372036854775807 := hvr2.1
    have cT := fun W (h : Below w.heap.size w W) => typed_any S A A2 c c2 k s nm G e.length g q n st B l.length b B2 f.length b2 (right S (.mk k s nm e)) (shp (fds S (.mk k s nm e)) f) W (Sc.next h hS) hf.sl
      (fun W' h' => permitted_any S (.mk k s nm e) _ _ W' hf.sl hf.el hlo ⟨A, c, A2, c2, rfl, Sc.next (Below.next h h') hS⟩ ⟨G, g, rfl, hG.next fun x p => TyA.next (Below.next h h') x p⟩)
      (fun hq W' v' h' hv' => by
        subst hq
        obtain ⟨A5, c5, rfl, hD⟩ := hv'
        exact shaped_any ((fst_ St.name S.structs nm).getD st0) A5 c5 n st B l.length b l f B2 b2 W' hD (few_st hf nm) (hF.next fun x p => EtA.next (Below.next h h') x p) hfl (hL.next fun x p => VlA.next (Below.next h h') x p) rfl)
    refine within_walk S N ih hf hlk A c A2 c2 k s nm e G g q n st l f B b B2 b2 w _ (rgd S (.mk k s nm e) n) _ hlo hll hfl ?_ hlL hfF hS hG hL hF cT ?_ ?_
    · intro hty kk hkk
      simp only [Bool.and_eq_true, decide_eq_true_eq] at hty
      obtain ⟨⟨⟨h1, h2⟩, h3⟩, -⟩ := hty
      have h5 := pur_5 h3 (by omega)
      subst h5
      subst h2
      obtain ⟨-, x, rfl, -⟩ := right_list h1
      exact ⟨x, rfl⟩
    · intro hty W h
      simp only [Bool.and_eq_true, decide_eq_true_eq] at hty
      exact ranged_all S A c A2 c2 k s nm e G e.length g q n st B l.length b B2 f.length b2 W hty.1.1.1 hf (Sc.next h hS) hn
    · rw [vck]; rfl
/-- What Check answers. -/
def vchk (S : Sch) (t : Ty) (v : Vl) : Int := if 6 < lv v then 9 else vck S t v
set_option maxRecDepth 100000 in
set_option maxHeartbeats 4000000 in
theorem refCheck_any (S : Sch) (t : Ty) (v : Vl) (a b u : Value) (w : World) (hf : Few9 S) (hlk : lok9 S) (hlo : lok t) (hvo : vok v) (hvr : vrk v) (hsz : sz v ≤ 2000000) (hS : ScV w S a) (hT : TyV w t b) (hV : VlV w v u) :
    Calls Try.prog 12 #[a, b, u] w (Ib (.int .i64 (vchk S t v)) w) := by
  have cL := fun W h => refLevels_any (SizeOf.sizeOf v + 1) v u W (by omega) hsz (hV.next h)
  obtain ⟨A, c, A2, c2, rfl, hS⟩ := hS
  obtain ⟨G, g, rfl, hG⟩ := hT
  have cW := fun W h => within_rec S hf hlk (SizeOf.sizeOf v + 1) t v A c A2 c2 G g u W (by omega) hlo hvo hvr (Sc.next h hS) (hG.next fun x p => TyA.next h x p) (hV.next h)
  have hls := lv_sz v
  obtain ⟨B, b1, B2, b2, rfl, -, -⟩ := hV
  obtain ⟨r, hr⟩ : ∃ r, vchk S t v = r := ⟨_, rfl⟩
  unfold vchk at hr
  show Calls _ _ _ _ (Ib (.int .i64 (vchk S t v)) w)
  rw [show vchk S t v = r from hr]
  obtain ⟨x, hx⟩ : ∃ x, vck S t v = x := ⟨_, rfl⟩
  rw [hx] at cW hr
  obtain ⟨y, hy⟩ : ∃ y, lv v = y := ⟨_, rfl⟩
  rw [hy] at cL hr hls
  clear hx hy
  have hab := ab3 w (Obj.cells #[.int .i64 S.ver, .slice A S.enums.length c, .slice A2 S.structs.length c2] 33) (Obj.cells #[.int .i64 t.kind, .int .i64 t.size, .string (bs t.name), .slice G t.elem.length g] 37) (Obj.cells #[.int .i64 v.kind, .int .i64 v.n, .string (bs v.s), .slice B v.l.length b1, .slice B2 v.f.length b2] 25)
  have D1 := (Bx.new3 w 33 (.int .i64 S.ver) (.slice A S.enums.length c) (.slice A2 S.structs.length c2)).next (ab2 _ (Obj.cells #[.int .i64 t.kind, .int .i64 t.size, .string (bs t.name), .slice G t.elem.length g] 37) (Obj.cells #[.int .i64 v.kind, .int .i64 v.n, .string (bs v.s), .slice B v.l.length b1, .slice B2 v.f.length b2] 25))
  have D2 := (Bx.new4 (w.alloc (Obj.cells #[.int .i64 S.ver, .slice A S.enums.length c, .slice A2 S.structs.length c2] 33)) 37 (.int .i64 t.kind) (.int .i64 t.size) (.string (bs t.name)) (.slice G t.elem.length g)).next (ab1 _ (Obj.cells #[.int .i64 v.kind, .int .i64 v.n, .string (bs v.s), .slice B v.l.length b1, .slice B2 v.f.length b2] 25))
  have D3 := Bx.new5 ((w.alloc (Obj.cells #[.int .i64 S.ver, .slice A S.enums.length c, .slice A2 S.structs.length c2] 33)).alloc (Obj.cells #[.int .i64 t.kind, .int .i64 t.size, .string (bs t.name), .slice G t.elem.length g] 37)) 25 (.int .i64 v.kind) (.int .i64 v.n) (.string (bs v.s)) (.slice B v.l.length b1) (.slice B2 v.f.length b2)
  rw [show (w.alloc (Obj.cells #[.int .i64 S.ver, .slice A S.enums.length c, .slice A2 S.structs.length c2] 33)).heap.size = w.heap.size + 1 by simp] at D2
  rw [show ((w.alloc (Obj.cells #[.int .i64 S.ver, .slice A S.enums.length c, .slice A2 S.structs.length c2] 33)).alloc (Obj.cells #[.int .i64 t.kind, .int .i64 t.size, .string (bs t.name), .slice G t.elem.length g] 37)).heap.size = w.heap.size + 1 + 1 by simp] at D3
  go_enter Try.func12, Try.ntmps12
  go_wp2_with fail
  refine (cL _ hab).mono ?_
  rintro _ w1 ⟨rfl, hb1⟩
  replace D1 := D1.next hb1
  replace D2 := D2.next hb1
  replace D3 := D3.next hb1
  replace hab := Below.next hab hb1
  have cW2 := cW _ hab
  clear cL hb1 cW
  by_cases h6 : 6 < y
  · have d6 : decide ((6 : Int) < (y : Int)) = true := decide_eq_true (by omega)
    rw [if_pos h6] at hr
    subst hr
    clear h6 hls
    go_wp2_with fail
    go_ret
    exact ⟨rfl, hab⟩
  · have d6 : decide ((6 : Int) < (y : Int)) = false := decide_eq_false (by omega)
    rw [if_neg h6] at hr
    subst hr
    have a0 := D1.c 0 rfl
    have a1 := D1.c 1 rfl
    have a2 := D1.c 2 rfl
    have t0 := D2.c 0 rfl
    have t1 := D2.c 1 rfl
    have t2 := D2.c 2 rfl
    have t3 := D2.c 3 rfl
    have v0 := D3.c 0 rfl
    have v1 := D3.c 1 rfl
    have v2 := D3.c 2 rfl
    have v3 := D3.c 3 rfl
    have v4 := D3.c 4 rfl
    clear h6 hls D1 D2 D3
    go_wp2_with fail
    refine cW2.mono ?_
    rintro _ w2 ⟨rfl, hb2⟩
    go_wp2_with fail
    go_ret
    exact ⟨rfl, Below.next hab hb2⟩
set_option maxRecDepth 100000 in
set_option maxHeartbeats 4000000 in
theorem devCheck_any (S : Sch) (t : Ty) (v : Vl) (a b u : Value) (w : World) (hf : Few9 S) (hlk : lok9 S) (hasc : ∀ t ∈ S.structs, AscD t.fields) (hlo : lok t) (hvo : vok v) (hS : ScV w S a) (hT : TyV w t b) (hV : VlV w v u) :
    Calls Try.prog 9 #[a, b, u] w (Ib (.int .i64 (vchk S t v)) w) := by
  have cL := fun W h => exceeds_any (SizeOf.sizeOf v + 1) v 6 u W (by omega) hvo (by decide) (hV.next h)
  obtain ⟨A, c, A2, c2, rfl, hS⟩ := hS
  obtain ⟨G, g, rfl, hG⟩ := hT
  have cW := fun W h => check_rec S hf hlk hasc (SizeOf.sizeOf v + 1) t v A c A2 c2 G g u W (by omega) hlo hvo (Sc.next h hS) (hG.next fun x p => TyA.next h x p) (hV.next h)
  obtain ⟨B, b1, B2, b2, rfl, -, -⟩ := hV
  obtain ⟨r, hr⟩ : ∃ r, vchk S t v = r := ⟨_, rfl⟩
  unfold vchk at hr
  show Calls _ _ _ _ (Ib (.int .i64 (vchk S t v)) w)
  rw [show vchk S t v = r from hr]
  obtain ⟨x, hx⟩ : ∃ x, vck S t v = x := ⟨_, rfl⟩
  rw [hx] at cW hr
  have cL : ∀ W, Below w.heap.size w W → Calls Try.prog 27 #[.agg #[.int .i64 v.kind, .int .i64 v.n, .string (bs v.s), .slice B v.l.length b1, .slice B2 v.f.length b2], .int .i64 6] W (Ib (.bool (decide (6 < lv v))) W) := cL
  obtain ⟨y, hy⟩ : ∃ y, decide (6 < lv v) = y := ⟨_, rfl⟩
  have hr : (if y = true then 9 else x) = r := by rw [← hr, ← hy]; simp
  rw [hy] at cL
  clear hx hy
  have hab := ab3 w (Obj.cells #[.int .i64 S.ver, .slice A S.enums.length c, .slice A2 S.structs.length c2] 33) (Obj.cells #[.int .i64 t.kind, .int .i64 t.size, .string (bs t.name), .slice G t.elem.length g] 37) (Obj.cells #[.int .i64 v.kind, .int .i64 v.n, .string (bs v.s), .slice B v.l.length b1, .slice B2 v.f.length b2] 25)
  have D1 := (Bx.new3 w 33 (.int .i64 S.ver) (.slice A S.enums.length c) (.slice A2 S.structs.length c2)).next (ab2 _ (Obj.cells #[.int .i64 t.kind, .int .i64 t.size, .string (bs t.name), .slice G t.elem.length g] 37) (Obj.cells #[.int .i64 v.kind, .int .i64 v.n, .string (bs v.s), .slice B v.l.length b1, .slice B2 v.f.length b2] 25))
  have D2 := (Bx.new4 (w.alloc (Obj.cells #[.int .i64 S.ver, .slice A S.enums.length c, .slice A2 S.structs.length c2] 33)) 37 (.int .i64 t.kind) (.int .i64 t.size) (.string (bs t.name)) (.slice G t.elem.length g)).next (ab1 _ (Obj.cells #[.int .i64 v.kind, .int .i64 v.n, .string (bs v.s), .slice B v.l.length b1, .slice B2 v.f.length b2] 25))
  have D3 := Bx.new5 ((w.alloc (Obj.cells #[.int .i64 S.ver, .slice A S.enums.length c, .slice A2 S.structs.length c2] 33)).alloc (Obj.cells #[.int .i64 t.kind, .int .i64 t.size, .string (bs t.name), .slice G t.elem.length g] 37)) 25 (.int .i64 v.kind) (.int .i64 v.n) (.string (bs v.s)) (.slice B v.l.length b1) (.slice B2 v.f.length b2)
  rw [show (w.alloc (Obj.cells #[.int .i64 S.ver, .slice A S.enums.length c, .slice A2 S.structs.length c2] 33)).heap.size = w.heap.size + 1 by simp] at D2
  rw [show ((w.alloc (Obj.cells #[.int .i64 S.ver, .slice A S.enums.length c, .slice A2 S.structs.length c2] 33)).alloc (Obj.cells #[.int .i64 t.kind, .int .i64 t.size, .string (bs t.name), .slice G t.elem.length g] 37)).heap.size = w.heap.size + 1 + 1 by simp] at D3
  go_enter Try.func9, Try.ntmps9
  go_wp2_with fail
  refine (cL _ hab).mono ?_
  rintro _ w1 ⟨rfl, hb1⟩
  replace D1 := D1.next hb1
  replace D2 := D2.next hb1
  replace D3 := D3.next hb1
  replace hab := Below.next hab hb1
  have cW2 := cW _ hab
  clear cL hb1 cW
  cases y
  case true =>
    have hr : (9 : Int) = r := by simpa using hr
    subst hr
    go_wp2_with fail
    go_ret
    exact ⟨rfl, hab⟩
  case false =>
    have hr : x = r := by simpa using hr
    subst hr
    have a0 := D1.c 0 rfl
    have a1 := D1.c 1 rfl
    have a2 := D1.c 2 rfl
    have t0 := D2.c 0 rfl
    have t1 := D2.c 1 rfl
    have t2 := D2.c 2 rfl
    have t3 := D2.c 3 rfl
    have v0 := D3.c 0 rfl
    have v1 := D3.c 1 rfl
    have v2 := D3.c 2 rfl
    have v3 := D3.c 3 rfl
    have v4 := D3.c 4 rfl
    clear D1 D2 D3
    go_wp2_with fail
    refine cW2.mono ?_
    rintro _ w2 ⟨rfl, hb2⟩
    go_wp2_with fail
    go_ret
    exact ⟨rfl, Below.next hab hb2⟩
end Go.Proofs.Ytlebppjldoodgaa
/-
  The schemas and the types of the law, as data. No conditions beyond those that each names.
-/
namespace Go.Proofs.Ytlebppjldoodgaa
open Go.RowKit
def bMode : List UInt8 := [77, 111, 100, 101]
def bTag : List UInt8 := [84, 97, 103]
def bTop : List UInt8 := [84, 111, 112]
def enMode : En := ⟨bMode, [[105, 100, 108, 101], [114, 117, 110]], [0, 3]⟩
def stTag : St := ⟨bTag, [⟨1, [107, 101, 121], false, .mk 4 4 [] []⟩, ⟨5, [110], true, .mk 3 8 [] []⟩]⟩
def stTop : St := ⟨bTop, [⟨2, [120], false, .mk 2 16 [] []⟩, ⟨3, [116, 97, 103, 115], false, .mk 5 3 [] [.mk 6 0 bTag []]⟩, ⟨7, [109, 111, 100, 101], true, .mk 7 0 bMode []⟩, ⟨9, [111, 107], false, .mk 1 0 [] []⟩]⟩
def schA : Sch := ⟨1, [enMode], [stTag, stTop]⟩
def schB : Sch := ⟨2, [], [stTag]⟩
def ScP (S : Sch) (w : World) (e : Ending) (w' : World) : Prop := ∃ v, e = .returned v ∧ ScV w' S v ∧ Below w.heap.size w w'
def TyP (t : Ty) (w : World) (e : Ending) (w' : World) : Prop := ∃ v, e = .returned v ∧ TyV w' t v ∧ Below w.heap.size w w'
theorem heap_alloc_size (w : World) (o : Obj) : (w.alloc o).heap.size = w.heap.size + 1 := by simp
theorem heap_new (w : World) (o : Obj) : (w.alloc o).heap[w.heap.size]? = some o := by
  rw [show (w.alloc o).heap = w.heap.push o from rfl]
  exact Array.getElem?_push_size
theorem Bx.newA (w : World) (t : TypeId) (a : Array Value) : Bx (w.alloc (Obj.cells a t)) w.heap.size a.toList :=
  ⟨by simp, fun j v e => by
    have e2 : a[j]? = some v := by simpa using e
    have h1 := heap_new w (Obj.cells a t)
    refine ⟨?_, ?_⟩
    · unfold World.cell?
      simp only [h1]
      exact e2
    · unfold World.frozen?
      simp only [h1]
      simp⟩
set_option maxRecDepth 100000 in
set_option maxHeartbeats 8000000 in
theorem schemaB_any (n : Int) (w : World) (h0 : 0 ≤ n) (h1 : n ≤ 255) (h : n % 2 = 1) : Calls Try.prog 10 #[.int .u8 n] w (ScP schB w) := by
  go_enter Try.func10, Try.ntmps10
  go_wp2_with fail
  have B0 := Bx.newA w 33 #[.int .i64 2, .slice none 0 0, .slice (some ⟨w.heap.size + 1 + 1 + 1 + 1 + 1 + 1 + 1 + 1 + 1, 0, none⟩) 1 1]
  have b0 := ab1 w (Obj.cells #[.int .i64 2, .slice none 0 0, .slice (some ⟨w.heap.size + 1 + 1 + 1 + 1 + 1 + 1 + 1 + 1 + 1, 0, none⟩) 1 1] 33)
  have z1 : (w.alloc (Obj.cells #[.int .i64 2, .slice none 0 0, .slice (some ⟨w.heap.size + 1 + 1 + 1 + 1 + 1 + 1 + 1 + 1 + 1, 0, none⟩) 1 1] 33)).heap.size = w.heap.size + 1 := by rw [heap_alloc_size]
  have hab := b0
  clear b0
  generalize w.alloc (Obj.cells #[.int .i64 2, .slice none 0 0, .slice (some ⟨w.heap.size + 1 + 1 + 1 + 1 + 1 + 1 + 1 + 1 + 1, 0, none⟩) 1 1] 33) = w1 at *
  have B1 := Bx.newA w1 9 #[.string ⟨#[105, 100, 108, 101]⟩, .string ⟨#[114, 117, 110]⟩]
  have b1 := ab1 w1 (Obj.cells #[.string ⟨#[105, 100, 108, 101]⟩, .string ⟨#[114, 117, 110]⟩] 9)
  have z2 : (w1.alloc (Obj.cells #[.string ⟨#[105, 100, 108, 101]⟩, .string ⟨#[114, 117, 110]⟩] 9)).heap.size = w.heap.size + 1 + 1 := by rw [heap_alloc_size, z1]
  rw [z1] at B1
  replace B0 := B0.next b1
  replace hab := Below.next hab b1
  clear b1
  generalize w1.alloc (Obj.cells #[.string ⟨#[105, 100, 108, 101]⟩, .string ⟨#[114, 117, 110]⟩] 9) = w2 at *
  have B2 := Bx.newA w2 3 #[.int .i64 0, .int .i64 3]
  have b2 := ab1 w2 (Obj.cells #[.int .i64 0, .int .i64 3] 3)
  have z3 : (w2.alloc (Obj.cells #[.int .i64 0, .int .i64 3] 3)).heap.size = w.heap.size + 1 + 1 + 1 := by rw [heap_alloc_size, z2]
  rw [z2] at B2
  replace B0 := B0.next b2
  replace B1 := B1.next b2
  replace hab := Below.next hab b2
  clear b2
  generalize w2.alloc (Obj.cells #[.int .i64 0, .int .i64 3] 3) = w3 at *
  have B3 := Bx.newA w3 59 #[.string ⟨#[77, 111, 100, 101]⟩, .slice (some ⟨w.heap.size + 1, 0, none⟩) 2 2, .slice (some ⟨w.heap.size + 1 + 1, 0, none⟩) 2 2]
  have b3 := ab1 w3 (Obj.cells #[.string ⟨#[77, 111, 100, 101]⟩, .slice (some ⟨w.heap.size + 1, 0, none⟩) 2 2, .slice (some ⟨w.heap.size + 1 + 1, 0, none⟩) 2 2] 59)
  have z4 : (w3.alloc (Obj.cells #[.string ⟨#[77, 111, 100, 101]⟩, .slice (some ⟨w.heap.size + 1, 0, none⟩) 2 2, .slice (some ⟨w.heap.size + 1 + 1, 0, none⟩) 2 2] 59)).heap.size = w.heap.size + 1 + 1 + 1 + 1 := by rw [heap_alloc_size, z3]
  rw [z3] at B3
  replace B0 := B0.next b3
  replace B1 := B1.next b3
  replace B2 := B2.next b3
  replace hab := Below.next hab b3
  clear b3
  generalize w3.alloc (Obj.cells #[.string ⟨#[77, 111, 100, 101]⟩, .slice (some ⟨w.heap.size + 1, 0, none⟩) 2 2, .slice (some ⟨w.heap.size + 1 + 1, 0, none⟩) 2 2] 59) = w4 at *
  have B4 := Bx.newA w4 61 #[.int .i64 1, .string ⟨#[107, 101, 121]⟩, .int .i64 4, .int .i64 4, .string ⟨#[]⟩, .slice none 0 0, .bool false, .int .i64 5, .string ⟨#[110]⟩, .int .i64 3, .int .i64 8, .string ⟨#[]⟩, .slice none 0 0, .bool true]
  have b4 := ab1 w4 (Obj.cells #[.int .i64 1, .string ⟨#[107, 101, 121]⟩, .int .i64 4, .int .i64 4, .string ⟨#[]⟩, .slice none 0 0, .bool false, .int .i64 5, .string ⟨#[110]⟩, .int .i64 3, .int .i64 8, .string ⟨#[]⟩, .slice none 0 0, .bool true] 61)
  have z5 : (w4.alloc (Obj.cells #[.int .i64 1, .string ⟨#[107, 101, 121]⟩, .int .i64 4, .int .i64 4, .string ⟨#[]⟩, .slice none 0 0, .bool false, .int .i64 5, .string ⟨#[110]⟩, .int .i64 3, .int .i64 8, .string ⟨#[]⟩, .slice none 0 0, .bool true] 61)).heap.size = w.heap.size + 1 + 1 + 1 + 1 + 1 := by rw [heap_alloc_size, z4]
  rw [z4] at B4
  replace B0 := B0.next b4
  replace B1 := B1.next b4
  replace B2 := B2.next b4
  replace B3 := B3.next b4
  replace hab := Below.next hab b4
  clear b4
  generalize w4.alloc (Obj.cells #[.int .i64 1, .string ⟨#[107, 101, 121]⟩, .int .i64 4, .int .i64 4, .string ⟨#[]⟩, .slice none 0 0, .bool false, .int .i64 5, .string ⟨#[110]⟩, .int .i64 3, .int .i64 8, .string ⟨#[]⟩, .slice none 0 0, .bool true] 61) = w5 at *
  have B5 := Bx.newA w5 64 #[.string ⟨#[84, 97, 103]⟩, .slice (some ⟨w.heap.size + 1 + 1 + 1 + 1, 0, none⟩) 2 2]
  have b5 := ab1 w5 (Obj.cells #[.string ⟨#[84, 97, 103]⟩, .slice (some ⟨w.heap.size + 1 + 1 + 1 + 1, 0, none⟩) 2 2] 64)
  have z6 : (w5.alloc (Obj.cells #[.string ⟨#[84, 97, 103]⟩, .slice (some ⟨w.heap.size + 1 + 1 + 1 + 1, 0, none⟩) 2 2] 64)).heap.size = w.heap.size + 1 + 1 + 1 + 1 + 1 + 1 := by rw [heap_alloc_size, z5]
  rw [z5] at B5
  replace B0 := B0.next b5
  replace B1 := B1.next b5
  replace B2 := B2.next b5
  replace B3 := B3.next b5
  replace B4 := B4.next b5
  replace hab := Below.next hab b5
  clear b5
  generalize w5.alloc (Obj.cells #[.string ⟨#[84, 97, 103]⟩, .slice (some ⟨w.heap.size + 1 + 1 + 1 + 1, 0, none⟩) 2 2] 64) = w6 at *
  have B6 := Bx.newA w6 37 #[.int .i64 6, .int .i64 0, .string ⟨#[84, 97, 103]⟩, .slice none 0 0]
  have b6 := ab1 w6 (Obj.cells #[.int .i64 6, .int .i64 0, .string ⟨#[84, 97, 103]⟩, .slice none 0 0] 37)
  have z7 : (w6.alloc (Obj.cells #[.int .i64 6, .int .i64 0, .string ⟨#[84, 97, 103]⟩, .slice none 0 0] 37)).heap.size = w.heap.size + 1 + 1 + 1 + 1 + 1 + 1 + 1 := by rw [heap_alloc_size, z6]
  rw [z6] at B6
  replace B0 := B0.next b6
  replace B1 := B1.next b6
  replace B2 := B2.next b6
  replace B3 := B3.next b6
  replace B4 := B4.next b6
  replace B5 := B5.next b6
  replace hab := Below.next hab b6
  clear b6
  generalize w6.alloc (Obj.cells #[.int .i64 6, .int .i64 0, .string ⟨#[84, 97, 103]⟩, .slice none 0 0] 37) = w7 at *
  have B7 := Bx.newA w7 61 #[.int .i64 2, .string ⟨#[120]⟩, .int .i64 2, .int .i64 16, .string ⟨#[]⟩, .slice none 0 0, .bool false, .int .i64 3, .string ⟨#[116, 97, 103, 115]⟩, .int .i64 5, .int .i64 3, .string ⟨#[]⟩, .slice (some ⟨w.heap.size + 1 + 1 + 1 + 1 + 1 + 1, 0, none⟩) 1 1, .bool false, .int .i64 7, .string ⟨#[109, 111, 100, 101]⟩, .int .i64 7, .int .i64 0, .string ⟨#[77, 111, 100, 101]⟩, .slice none 0 0, .bool true, .int .i64 9, .string ⟨#[111, 107]⟩, .int .i64 1, .int .i64 0, .string ⟨#[]⟩, .slice none 0 0, .bool false]
  have b7 := ab1 w7 (Obj.cells #[.int .i64 2, .string ⟨#[120]⟩, .int .i64 2, .int .i64 16, .string ⟨#[]⟩, .slice none 0 0, .bool false, .int .i64 3, .string ⟨#[116, 97, 103, 115]⟩, .int .i64 5, .int .i64 3, .string ⟨#[]⟩, .slice (some ⟨w.heap.size + 1 + 1 + 1 + 1 + 1 + 1, 0, none⟩) 1 1, .bool false, .int .i64 7, .string ⟨#[109, 111, 100, 101]⟩, .int .i64 7, .int .i64 0, .string ⟨#[77, 111, 100, 101]⟩, .slice none 0 0, .bool true, .int .i64 9, .string ⟨#[111, 107]⟩, .int .i64 1, .int .i64 0, .string ⟨#[]⟩, .slice none 0 0, .bool false] 61)
  have z8 : (w7.alloc (Obj.cells #[.int .i64 2, .string ⟨#[120]⟩, .int .i64 2, .int .i64 16, .string ⟨#[]⟩, .slice none 0 0, .bool false, .int .i64 3, .string ⟨#[116, 97, 103, 115]⟩, .int .i64 5, .int .i64 3, .string ⟨#[]⟩, .slice (some ⟨w.heap.size + 1 + 1 + 1 + 1 + 1 + 1, 0, none⟩) 1 1, .bool false, .int .i64 7, .string ⟨#[109, 111, 100, 101]⟩, .int .i64 7, .int .i64 0, .string ⟨#[77, 111, 100, 101]⟩, .slice none 0 0, .bool true, .int .i64 9, .string ⟨#[111, 107]⟩, .int .i64 1, .int .i64 0, .string ⟨#[]⟩, .slice none 0 0, .bool false] 61)).heap.size = w.heap.size + 1 + 1 + 1 + 1 + 1 + 1 + 1 + 1 := by rw [heap_alloc_size, z7]
  rw [z7] at B7
  replace B0 := B0.next b7
  replace B1 := B1.next b7
  replace B2 := B2.next b7
  replace B3 := B3.next b7
  replace B4 := B4.next b7
  replace B5 := B5.next b7
  replace B6 := B6.next b7
  replace hab := Below.next hab b7
  clear b7
  generalize w7.alloc (Obj.cells #[.int .i64 2, .string ⟨#[120]⟩, .int .i64 2, .int .i64 16, .string ⟨#[]⟩, .slice none 0 0, .bool false, .int .i64 3, .string ⟨#[116, 97, 103, 115]⟩, .int .i64 5, .int .i64 3, .string ⟨#[]⟩, .slice (some ⟨w.heap.size + 1 + 1 + 1 + 1 + 1 + 1, 0, none⟩) 1 1, .bool false, .int .i64 7, .string ⟨#[109, 111, 100, 101]⟩, .int .i64 7, .int .i64 0, .string ⟨#[77, 111, 100, 101]⟩, .slice none 0 0, .bool true, .int .i64 9, .string ⟨#[111, 107]⟩, .int .i64 1, .int .i64 0, .string ⟨#[]⟩, .slice none 0 0, .bool false] 61) = w8 at *
  have B8 := Bx.newA w8 64 #[.string ⟨#[84, 111, 112]⟩, .slice (some ⟨w.heap.size + 1 + 1 + 1 + 1 + 1 + 1 + 1, 0, none⟩) 4 4]
  have b8 := ab1 w8 (Obj.cells #[.string ⟨#[84, 111, 112]⟩, .slice (some ⟨w.heap.size + 1 + 1 + 1 + 1 + 1 + 1 + 1, 0, none⟩) 4 4] 64)
  have z9 : (w8.alloc (Obj.cells #[.string ⟨#[84, 111, 112]⟩, .slice (some ⟨w.heap.size + 1 + 1 + 1 + 1 + 1 + 1 + 1, 0, none⟩) 4 4] 64)).heap.size = w.heap.size + 1 + 1 + 1 + 1 + 1 + 1 + 1 + 1 + 1 := by rw [heap_alloc_size, z8]
  rw [z8] at B8
  replace B0 := B0.next b8
  replace B1 := B1.next b8
  replace B2 := B2.next b8
  replace B3 := B3.next b8
  replace B4 := B4.next b8
  replace B5 := B5.next b8
  replace B6 := B6.next b8
  replace B7 := B7.next b8
  replace hab := Below.next hab b8
  clear b8
  generalize w8.alloc (Obj.cells #[.string ⟨#[84, 111, 112]⟩, .slice (some ⟨w.heap.size + 1 + 1 + 1 + 1 + 1 + 1 + 1, 0, none⟩) 4 4] 64) = w9 at *
  have B9 := Bx.newA w9 64 #[.string ⟨#[84, 97, 103]⟩, .slice (some ⟨w.heap.size + 1 + 1 + 1 + 1, 0, none⟩) 2 2]
  have b9 := ab1 w9 (Obj.cells #[.string ⟨#[84, 97, 103]⟩, .slice (some ⟨w.heap.size + 1 + 1 + 1 + 1, 0, none⟩) 2 2] 64)
  have z10 : (w9.alloc (Obj.cells #[.string ⟨#[84, 97, 103]⟩, .slice (some ⟨w.heap.size + 1 + 1 + 1 + 1, 0, none⟩) 2 2] 64)).heap.size = w.heap.size + 1 + 1 + 1 + 1 + 1 + 1 + 1 + 1 + 1 + 1 := by rw [heap_alloc_size, z9]
  rw [z9] at B9
  replace B0 := B0.next b9
  replace B1 := B1.next b9
  replace B2 := B2.next b9
  replace B3 := B3.next b9
  replace B4 := B4.next b9
  replace B5 := B5.next b9
  replace B6 := B6.next b9
  replace B7 := B7.next b9
  replace B8 := B8.next b9
  replace hab := Below.next hab b9
  clear b9
  generalize w9.alloc (Obj.cells #[.string ⟨#[84, 97, 103]⟩, .slice (some ⟨w.heap.size + 1 + 1 + 1 + 1, 0, none⟩) 2 2] 64) = w10 at *
  have r0 := B0.c 0 rfl
  have r1 := B0.c 1 rfl
  have r2 := B0.c 2 rfl
  refine bodyPost_ret (v := .agg #[.int .i64 2, .slice none 0 0, .slice (some ⟨w.heap.size + 1 + 1 + 1 + 1 + 1 + 1 + 1 + 1 + 1, 0, none⟩) 1 1]) (by simp [results, Try.results10, go_sem, r0, r1, r2]) rfl ⟨_, rfl, ⟨none, 0, some ⟨w.heap.size + 1 + 1 + 1 + 1 + 1 + 1 + 1 + 1 + 1, 0, none⟩, 1, rfl, ⟨.inl rfl, rw_cons.2 ⟨_, rfl, ⟨B9.c 0 rfl, some ⟨w.heap.size + 1 + 1 + 1 + 1, 0, none⟩, 2, B9.c 1 rfl, rw_cons.2 ⟨_, rfl, ⟨B4.c 0 rfl, B4.c 1 rfl, B4.c 2 rfl, B4.c 3 rfl, B4.c 4 rfl, ⟨none, 0, B4.c 5 rfl, .inl rfl⟩, B4.c 6 rfl⟩, rw_cons.2 ⟨_, rfl, ⟨B4.c 7 rfl, B4.c 8 rfl, B4.c 9 rfl, B4.c 10 rfl, B4.c 11 rfl, ⟨none, 0, B4.c 12 rfl, .inl rfl⟩, B4.c 13 rfl⟩, .inl rfl⟩⟩⟩, .inl rfl⟩⟩⟩, hab⟩
set_option maxRecDepth 100000 in
set_option maxHeartbeats 8000000 in
theorem schemaA_any (n : Int) (w : World) (h0 : 0 ≤ n) (h1 : n ≤ 255) (h : n % 2 = 0) : Calls Try.prog 10 #[.int .u8 n] w (ScP schA w) := by
  go_enter Try.func10, Try.ntmps10
  go_wp2_with fail
  have B0 := Bx.newA w 33 #[.int .i64 1, .slice (some ⟨w.heap.size + 1 + 1 + 1 + 1 + 1 + 1 + 1 + 1 + 1, 0, none⟩) 1 1, .slice (some ⟨w.heap.size + 1 + 1 + 1 + 1 + 1 + 1 + 1 + 1 + 1 + 1, 0, none⟩) 2 2]
  have b0 := ab1 w (Obj.cells #[.int .i64 1, .slice (some ⟨w.heap.size + 1 + 1 + 1 + 1 + 1 + 1 + 1 + 1 + 1, 0, none⟩) 1 1, .slice (some ⟨w.heap.size + 1 + 1 + 1 + 1 + 1 + 1 + 1 + 1 + 1 + 1, 0, none⟩) 2 2] 33)
  have z1 : (w.alloc (Obj.cells #[.int .i64 1, .slice (some ⟨w.heap.size + 1 + 1 + 1 + 1 + 1 + 1 + 1 + 1 + 1, 0, none⟩) 1 1, .slice (some ⟨w.heap.size + 1 + 1 + 1 + 1 + 1 + 1 + 1 + 1 + 1 + 1, 0, none⟩) 2 2] 33)).heap.size = w.heap.size + 1 := by rw [heap_alloc_size]
  have hab := b0
  clear b0
  generalize w.alloc (Obj.cells #[.int .i64 1, .slice (some ⟨w.heap.size + 1 + 1 + 1 + 1 + 1 + 1 + 1 + 1 + 1, 0, none⟩) 1 1, .slice (some ⟨w.heap.size + 1 + 1 + 1 + 1 + 1 + 1 + 1 + 1 + 1 + 1, 0, none⟩) 2 2] 33) = w1 at *
  have B1 := Bx.newA w1 9 #[.string ⟨#[105, 100, 108, 101]⟩, .string ⟨#[114, 117, 110]⟩]
  have b1 := ab1 w1 (Obj.cells #[.string ⟨#[105, 100, 108, 101]⟩, .string ⟨#[114, 117, 110]⟩] 9)
  have z2 : (w1.alloc (Obj.cells #[.string ⟨#[105, 100, 108, 101]⟩, .string ⟨#[114, 117, 110]⟩] 9)).heap.size = w.heap.size + 1 + 1 := by rw [heap_alloc_size, z1]
  rw [z1] at B1
  replace B0 := B0.next b1
  replace hab := Below.next hab b1
  clear b1
  generalize w1.alloc (Obj.cells #[.string ⟨#[105, 100, 108, 101]⟩, .string ⟨#[114, 117, 110]⟩] 9) = w2 at *
  have B2 := Bx.newA w2 3 #[.int .i64 0, .int .i64 3]
  have b2 := ab1 w2 (Obj.cells #[.int .i64 0, .int .i64 3] 3)
  have z3 : (w2.alloc (Obj.cells #[.int .i64 0, .int .i64 3] 3)).heap.size = w.heap.size + 1 + 1 + 1 := by rw [heap_alloc_size, z2]
  rw [z2] at B2
  replace B0 := B0.next b2
  replace B1 := B1.next b2
  replace hab := Below.next hab b2
  clear b2
  generalize w2.alloc (Obj.cells #[.int .i64 0, .int .i64 3] 3) = w3 at *
  have B3 := Bx.newA w3 59 #[.string ⟨#[77, 111, 100, 101]⟩, .slice (some ⟨w.heap.size + 1, 0, none⟩) 2 2, .slice (some ⟨w.heap.size + 1 + 1, 0, none⟩) 2 2]
  have b3 := ab1 w3 (Obj.cells #[.string ⟨#[77, 111, 100, 101]⟩, .slice (some ⟨w.heap.size + 1, 0, none⟩) 2 2, .slice (some ⟨w.heap.size + 1 + 1, 0, none⟩) 2 2] 59)
  have z4 : (w3.alloc (Obj.cells #[.string ⟨#[77, 111, 100, 101]⟩, .slice (some ⟨w.heap.size + 1, 0, none⟩) 2 2, .slice (some ⟨w.heap.size + 1 + 1, 0, none⟩) 2 2] 59)).heap.size = w.heap.size + 1 + 1 + 1 + 1 := by rw [heap_alloc_size, z3]
  rw [z3] at B3
  replace B0 := B0.next b3
  replace B1 := B1.next b3
  replace B2 := B2.next b3
  replace hab := Below.next hab b3
  clear b3
  generalize w3.alloc (Obj.cells #[.string ⟨#[77, 111, 100, 101]⟩, .slice (some ⟨w.heap.size + 1, 0, none⟩) 2 2, .slice (some ⟨w.heap.size + 1 + 1, 0, none⟩) 2 2] 59) = w4 at *
  have B4 := Bx.newA w4 61 #[.int .i64 1, .string ⟨#[107, 101, 121]⟩, .int .i64 4, .int .i64 4, .string ⟨#[]⟩, .slice none 0 0, .bool false, .int .i64 5, .string ⟨#[110]⟩, .int .i64 3, .int .i64 8, .string ⟨#[]⟩, .slice none 0 0, .bool true]
  have b4 := ab1 w4 (Obj.cells #[.int .i64 1, .string ⟨#[107, 101, 121]⟩, .int .i64 4, .int .i64 4, .string ⟨#[]⟩, .slice none 0 0, .bool false, .int .i64 5, .string ⟨#[110]⟩, .int .i64 3, .int .i64 8, .string ⟨#[]⟩, .slice none 0 0, .bool true] 61)
  have z5 : (w4.alloc (Obj.cells #[.int .i64 1, .string ⟨#[107, 101, 121]⟩, .int .i64 4, .int .i64 4, .string ⟨#[]⟩, .slice none 0 0, .bool false, .int .i64 5, .string ⟨#[110]⟩, .int .i64 3, .int .i64 8, .string ⟨#[]⟩, .slice none 0 0, .bool true] 61)).heap.size = w.heap.size + 1 + 1 + 1 + 1 + 1 := by rw [heap_alloc_size, z4]
  rw [z4] at B4
  replace B0 := B0.next b4
  replace B1 := B1.next b4
  replace B2 := B2.next b4
  replace B3 := B3.next b4
  replace hab := Below.next hab b4
  clear b4
  generalize w4.alloc (Obj.cells #[.int .i64 1, .string ⟨#[107, 101, 121]⟩, .int .i64 4, .int .i64 4, .string ⟨#[]⟩, .slice none 0 0, .bool false, .int .i64 5, .string ⟨#[110]⟩, .int .i64 3, .int .i64 8, .string ⟨#[]⟩, .slice none 0 0, .bool true] 61) = w5 at *
  have B5 := Bx.newA w5 64 #[.string ⟨#[84, 97, 103]⟩, .slice (some ⟨w.heap.size + 1 + 1 + 1 + 1, 0, none⟩) 2 2]
  have b5 := ab1 w5 (Obj.cells #[.string ⟨#[84, 97, 103]⟩, .slice (some ⟨w.heap.size + 1 + 1 + 1 + 1, 0, none⟩) 2 2] 64)
  have z6 : (w5.alloc (Obj.cells #[.string ⟨#[84, 97, 103]⟩, .slice (some ⟨w.heap.size + 1 + 1 + 1 + 1, 0, none⟩) 2 2] 64)).heap.size = w.heap.size + 1 + 1 + 1 + 1 + 1 + 1 := by rw [heap_alloc_size, z5]
  rw [z5] at B5
  replace B0 := B0.next b5
  replace B1 := B1.next b5
  replace B2 := B2.next b5
  replace B3 := B3.next b5
  replace B4 := B4.next b5
  replace hab := Below.next hab b5
  clear b5
  generalize w5.alloc (Obj.cells #[.string ⟨#[84, 97, 103]⟩, .slice (some ⟨w.heap.size + 1 + 1 + 1 + 1, 0, none⟩) 2 2] 64) = w6 at *
  have B6 := Bx.newA w6 37 #[.int .i64 6, .int .i64 0, .string ⟨#[84, 97, 103]⟩, .slice none 0 0]
  have b6 := ab1 w6 (Obj.cells #[.int .i64 6, .int .i64 0, .string ⟨#[84, 97, 103]⟩, .slice none 0 0] 37)
  have z7 : (w6.alloc (Obj.cells #[.int .i64 6, .int .i64 0, .string ⟨#[84, 97, 103]⟩, .slice none 0 0] 37)).heap.size = w.heap.size + 1 + 1 + 1 + 1 + 1 + 1 + 1 := by rw [heap_alloc_size, z6]
  rw [z6] at B6
  replace B0 := B0.next b6
  replace B1 := B1.next b6
  replace B2 := B2.next b6
  replace B3 := B3.next b6
  replace B4 := B4.next b6
  replace B5 := B5.next b6
  replace hab := Below.next hab b6
  clear b6
  generalize w6.alloc (Obj.cells #[.int .i64 6, .int .i64 0, .string ⟨#[84, 97, 103]⟩, .slice none 0 0] 37) = w7 at *
  have B7 := Bx.newA w7 61 #[.int .i64 2, .string ⟨#[120]⟩, .int .i64 2, .int .i64 16, .string ⟨#[]⟩, .slice none 0 0, .bool false, .int .i64 3, .string ⟨#[116, 97, 103, 115]⟩, .int .i64 5, .int .i64 3, .string ⟨#[]⟩, .slice (some ⟨w.heap.size + 1 + 1 + 1 + 1 + 1 + 1, 0, none⟩) 1 1, .bool false, .int .i64 7, .string ⟨#[109, 111, 100, 101]⟩, .int .i64 7, .int .i64 0, .string ⟨#[77, 111, 100, 101]⟩, .slice none 0 0, .bool true, .int .i64 9, .string ⟨#[111, 107]⟩, .int .i64 1, .int .i64 0, .string ⟨#[]⟩, .slice none 0 0, .bool false]
  have b7 := ab1 w7 (Obj.cells #[.int .i64 2, .string ⟨#[120]⟩, .int .i64 2, .int .i64 16, .string ⟨#[]⟩, .slice none 0 0, .bool false, .int .i64 3, .string ⟨#[116, 97, 103, 115]⟩, .int .i64 5, .int .i64 3, .string ⟨#[]⟩, .slice (some ⟨w.heap.size + 1 + 1 + 1 + 1 + 1 + 1, 0, none⟩) 1 1, .bool false, .int .i64 7, .string ⟨#[109, 111, 100, 101]⟩, .int .i64 7, .int .i64 0, .string ⟨#[77, 111, 100, 101]⟩, .slice none 0 0, .bool true, .int .i64 9, .string ⟨#[111, 107]⟩, .int .i64 1, .int .i64 0, .string ⟨#[]⟩, .slice none 0 0, .bool false] 61)
  have z8 : (w7.alloc (Obj.cells #[.int .i64 2, .string ⟨#[120]⟩, .int .i64 2, .int .i64 16, .string ⟨#[]⟩, .slice none 0 0, .bool false, .int .i64 3, .string ⟨#[116, 97, 103, 115]⟩, .int .i64 5, .int .i64 3, .string ⟨#[]⟩, .slice (some ⟨w.heap.size + 1 + 1 + 1 + 1 + 1 + 1, 0, none⟩) 1 1, .bool false, .int .i64 7, .string ⟨#[109, 111, 100, 101]⟩, .int .i64 7, .int .i64 0, .string ⟨#[77, 111, 100, 101]⟩, .slice none 0 0, .bool true, .int .i64 9, .string ⟨#[111, 107]⟩, .int .i64 1, .int .i64 0, .string ⟨#[]⟩, .slice none 0 0, .bool false] 61)).heap.size = w.heap.size + 1 + 1 + 1 + 1 + 1 + 1 + 1 + 1 := by rw [heap_alloc_size, z7]
  rw [z7] at B7
  replace B0 := B0.next b7
  replace B1 := B1.next b7
  replace B2 := B2.next b7
  replace B3 := B3.next b7
  replace B4 := B4.next b7
  replace B5 := B5.next b7
  replace B6 := B6.next b7
  replace hab := Below.next hab b7
  clear b7
  generalize w7.alloc (Obj.cells #[.int .i64 2, .string ⟨#[120]⟩, .int .i64 2, .int .i64 16, .string ⟨#[]⟩, .slice none 0 0, .bool false, .int .i64 3, .string ⟨#[116, 97, 103, 115]⟩, .int .i64 5, .int .i64 3, .string ⟨#[]⟩, .slice (some ⟨w.heap.size + 1 + 1 + 1 + 1 + 1 + 1, 0, none⟩) 1 1, .bool false, .int .i64 7, .string ⟨#[109, 111, 100, 101]⟩, .int .i64 7, .int .i64 0, .string ⟨#[77, 111, 100, 101]⟩, .slice none 0 0, .bool true, .int .i64 9, .string ⟨#[111, 107]⟩, .int .i64 1, .int .i64 0, .string ⟨#[]⟩, .slice none 0 0, .bool false] 61) = w8 at *
  have B8 := Bx.newA w8 64 #[.string ⟨#[84, 111, 112]⟩, .slice (some ⟨w.heap.size + 1 + 1 + 1 + 1 + 1 + 1 + 1, 0, none⟩) 4 4]
  have b8 := ab1 w8 (Obj.cells #[.string ⟨#[84, 111, 112]⟩, .slice (some ⟨w.heap.size + 1 + 1 + 1 + 1 + 1 + 1 + 1, 0, none⟩) 4 4] 64)
  have z9 : (w8.alloc (Obj.cells #[.string ⟨#[84, 111, 112]⟩, .slice (some ⟨w.heap.size + 1 + 1 + 1 + 1 + 1 + 1 + 1, 0, none⟩) 4 4] 64)).heap.size = w.heap.size + 1 + 1 + 1 + 1 + 1 + 1 + 1 + 1 + 1 := by rw [heap_alloc_size, z8]
  rw [z8] at B8
  replace B0 := B0.next b8
  replace B1 := B1.next b8
  replace B2 := B2.next b8
  replace B3 := B3.next b8
  replace B4 := B4.next b8
  replace B5 := B5.next b8
  replace B6 := B6.next b8
  replace B7 := B7.next b8
  replace hab := Below.next hab b8
  clear b8
  generalize w8.alloc (Obj.cells #[.string ⟨#[84, 111, 112]⟩, .slice (some ⟨w.heap.size + 1 + 1 + 1 + 1 + 1 + 1 + 1, 0, none⟩) 4 4] 64) = w9 at *
  have B9 := Bx.newA w9 59 #[.string ⟨#[77, 111, 100, 101]⟩, .slice (some ⟨w.heap.size + 1, 0, none⟩) 2 2, .slice (some ⟨w.heap.size + 1 + 1, 0, none⟩) 2 2]
  have b9 := ab1 w9 (Obj.cells #[.string ⟨#[77, 111, 100, 101]⟩, .slice (some ⟨w.heap.size + 1, 0, none⟩) 2 2, .slice (some ⟨w.heap.size + 1 + 1, 0, none⟩) 2 2] 59)
  have z10 : (w9.alloc (Obj.cells #[.string ⟨#[77, 111, 100, 101]⟩, .slice (some ⟨w.heap.size + 1, 0, none⟩) 2 2, .slice (some ⟨w.heap.size + 1 + 1, 0, none⟩) 2 2] 59)).heap.size = w.heap.size + 1 + 1 + 1 + 1 + 1 + 1 + 1 + 1 + 1 + 1 := by rw [heap_alloc_size, z9]
  rw [z9] at B9
  replace B0 := B0.next b9
  replace B1 := B1.next b9
  replace B2 := B2.next b9
  replace B3 := B3.next b9
  replace B4 := B4.next b9
  replace B5 := B5.next b9
  replace B6 := B6.next b9
  replace B7 := B7.next b9
  replace B8 := B8.next b9
  replace hab := Below.next hab b9
  clear b9
  generalize w9.alloc (Obj.cells #[.string ⟨#[77, 111, 100, 101]⟩, .slice (some ⟨w.heap.size + 1, 0, none⟩) 2 2, .slice (some ⟨w.heap.size + 1 + 1, 0, none⟩) 2 2] 59) = w10 at *
  have B10 := Bx.newA w10 64 #[.string ⟨#[84, 97, 103]⟩, .slice (some ⟨w.heap.size + 1 + 1 + 1 + 1, 0, none⟩) 2 2, .string ⟨#[84, 111, 112]⟩, .slice (some ⟨w.heap.size + 1 + 1 + 1 + 1 + 1 + 1 + 1, 0, none⟩) 4 4]
  have b10 := ab1 w10 (Obj.cells #[.string ⟨#[84, 97, 103]⟩, .slice (some ⟨w.heap.size + 1 + 1 + 1 + 1, 0, none⟩) 2 2, .string ⟨#[84, 111, 112]⟩, .slice (some ⟨w.heap.size + 1 + 1 + 1 + 1 + 1 + 1 + 1, 0, none⟩) 4 4] 64)
  have z11 : (w10.alloc (Obj.cells #[.string ⟨#[84, 97, 103]⟩, .slice (some ⟨w.heap.size + 1 + 1 + 1 + 1, 0, none⟩) 2 2, .string ⟨#[84, 111, 112]⟩, .slice (some ⟨w.heap.size + 1 + 1 + 1 + 1 + 1 + 1 + 1, 0, none⟩) 4 4] 64)).heap.size = w.heap.size + 1 + 1 + 1 + 1 + 1 + 1 + 1 + 1 + 1 + 1 + 1 := by rw [heap_alloc_size, z10]
  rw [z10] at B10
  replace B0 := B0.next b10
  replace B1 := B1.next b10
  replace B2 := B2.next b10
  replace B3 := B3.next b10
  replace B4 := B4.next b10
  replace B5 := B5.next b10
  replace B6 := B6.next b10
  replace B7 := B7.next b10
  replace B8 := B8.next b10
  replace B9 := B9.next b10
  replace hab := Below.next hab b10
  clear b10
  generalize w10.alloc (Obj.cells #[.string ⟨#[84, 97, 103]⟩, .slice (some ⟨w.heap.size + 1 + 1 + 1 + 1, 0, none⟩) 2 2, .string ⟨#[84, 111, 112]⟩, .slice (some ⟨w.heap.size + 1 + 1 + 1 + 1 + 1 + 1 + 1, 0, none⟩) 4 4] 64) = w11 at *
  have r0 := B0.c 0 rfl
  have r1 := B0.c 1 rfl
  have r2 := B0.c 2 rfl
  refine bodyPost_ret (v := .agg #[.int .i64 1, .slice (some ⟨w.heap.size + 1 + 1 + 1 + 1 + 1 + 1 + 1 + 1 + 1, 0, none⟩) 1 1, .slice (some ⟨w.heap.size + 1 + 1 + 1 + 1 + 1 + 1 + 1 + 1 + 1 + 1, 0, none⟩) 2 2]) (by simp [results, Try.results10, go_sem, r0, r1, r2]) rfl ⟨_, rfl, ⟨some ⟨w.heap.size + 1 + 1 + 1 + 1 + 1 + 1 + 1 + 1 + 1, 0, none⟩, 1, some ⟨w.heap.size + 1 + 1 + 1 + 1 + 1 + 1 + 1 + 1 + 1 + 1, 0, none⟩, 2, rfl, ⟨rw_cons.2 ⟨_, rfl, ⟨B9.c 0 rfl, ⟨some ⟨w.heap.size + 1, 0, none⟩, 2, B9.c 1 rfl, rw_cons.2 ⟨_, rfl, B1.c 0 rfl, rw_cons.2 ⟨_, rfl, B1.c 1 rfl, .inl rfl⟩⟩⟩, some ⟨w.heap.size + 1 + 1, 0, none⟩, 2, B9.c 2 rfl, rw_cons.2 ⟨_, rfl, B2.c 0 rfl, rw_cons.2 ⟨_, rfl, B2.c 1 rfl, .inl rfl⟩⟩⟩, .inl rfl⟩, rw_cons.2 ⟨_, rfl, ⟨B10.c 0 rfl, some ⟨w.heap.size + 1 + 1 + 1 + 1, 0, none⟩, 2, B10.c 1 rfl, rw_cons.2 ⟨_, rfl, ⟨B4.c 0 rfl, B4.c 1 rfl, B4.c 2 rfl, B4.c 3 rfl, B4.c 4 rfl, ⟨none, 0, B4.c 5 rfl, .inl rfl⟩, B4.c 6 rfl⟩, rw_cons.2 ⟨_, rfl, ⟨B4.c 7 rfl, B4.c 8 rfl, B4.c 9 rfl, B4.c 10 rfl, B4.c 11 rfl, ⟨none, 0, B4.c 12 rfl, .inl rfl⟩, B4.c 13 rfl⟩, .inl rfl⟩⟩⟩, rw_cons.2 ⟨_, rfl, ⟨B10.c 2 rfl, some ⟨w.heap.size + 1 + 1 + 1 + 1 + 1 + 1 + 1, 0, none⟩, 4, B10.c 3 rfl, rw_cons.2 ⟨_, rfl, ⟨B7.c 0 rfl, B7.c 1 rfl, B7.c 2 rfl, B7.c 3 rfl, B7.c 4 rfl, ⟨none, 0, B7.c 5 rfl, .inl rfl⟩, B7.c 6 rfl⟩, rw_cons.2 ⟨_, rfl, ⟨B7.c 7 rfl, B7.c 8 rfl, B7.c 9 rfl, B7.c 10 rfl, B7.c 11 rfl, ⟨some ⟨w.heap.size + 1 + 1 + 1 + 1 + 1 + 1, 0, none⟩, 1, B7.c 12 rfl, rw_cons.2 ⟨_, rfl, TyA.of (B6.c 0 rfl) (B6.c 1 rfl) (B6.c 2 rfl) (B6.c 3 rfl) (.inl rfl), .inl rfl⟩⟩, B7.c 13 rfl⟩, rw_cons.2 ⟨_, rfl, ⟨B7.c 14 rfl, B7.c 15 rfl, B7.c 16 rfl, B7.c 17 rfl, B7.c 18 rfl, ⟨none, 0, B7.c 19 rfl, .inl rfl⟩, B7.c 20 rfl⟩, rw_cons.2 ⟨_, rfl, ⟨B7.c 21 rfl, B7.c 22 rfl, B7.c 23 rfl, B7.c 24 rfl, B7.c 25 rfl, ⟨none, 0, B7.c 26 rfl, .inl rfl⟩, B7.c 27 rfl⟩, .inl rfl⟩⟩⟩⟩⟩, .inl rfl⟩⟩⟩⟩, hab⟩
end Go.Proofs.Ytlebppjldoodgaa

import Derived.Test.YtlebppjldoodgaaYj
/-
  The developers' part and At. No conditions beyond those that each names.
-/
namespace Go.Proofs.Ytlebppjldoodgaa
open Go.RowKit Go.Sort
/-- The value to which a step leads. -/
def partV (t : Vl) (z : Int) : Option Vl := if t.kind = 5 then (if 0 ≤ z then t.l[z.toNat]? else none) else fvl t z
def atV : Vl → List Int → Option Vl
  | t, [] => some t
  | t, z :: zs => (partV t z).bind fun u => atV u zs
theorem part_sz {t u : Vl} {z : Int} (h : partV t z = some u) : sz u ≤ sz t := by
  unfold partV at h
  split at h
  · split at h
    · obtain ⟨hi, rfl⟩ := List.getElem?_eq_some_iff.1 h
      exact Nat.le_of_lt (sz_l hi)
    · cases h
  · have := fvl_sz t z
    rw [h] at this
    exact this
theorem part_ok {t u : Vl} {z : Int} (ht : vok t) (h : partV t z = some u) : vok u := by
  obtain ⟨-, ⟨-, hl⟩, -, hf⟩ := vok_iff.1 ht
  unfold partV at h
  split at h
  · split at h
    · obtain ⟨hi, rfl⟩ := List.getElem?_eq_some_iff.1 h
      exact hl _ (List.getElem_mem hi)
    · cases h
  · obtain ⟨x, hx, rfl⟩ := fvl_mem h
    exact hf x hx
set_option maxRecDepth 100000 in
set_option maxHeartbeats 4000000 in
theorem part_any (t : Vl) (z : Int) (v : Value) (W0 w : World) (hb0 : Below W0.heap.size W0 w) (hsz : sz t ≤ 2000000) (hv : VlV W0 t v) :
    Calls Try.prog 48 #[v, .int .i64 z] w (FdQ W0 (partV t z) w) := by
  have cF := fun W h => field_any t z v W0 W (Below.next hb0 h) (by have := sz_fl t; omega) hv
  have hll : t.l.length ≤ 2000000 := by have := sz_ll t; omega
  obtain ⟨A, c, B, d, rfl, hR, hR2⟩ := hv
  obtain ⟨m, hm⟩ : ∃ m, t.l.length = m := ⟨_, rfl⟩
  obtain ⟨n, hn⟩ : ∃ n, t.f.length = n := ⟨_, rfl⟩
  have z1 : (w.alloc (Obj.cells #[.int .i64 t.kind, .int .i64 t.n, .string (bs t.s), .slice A m c, .slice B n d] 25)).heap.size = w.heap.size + 1 := by simp
  have hab := ab2 w (Obj.cells #[.int .i64 t.kind, .int .i64 t.n, .string (bs t.s), .slice A m c, .slice B n d] 25) (Obj.cells #[.int .i64 0, .int .i64 0, .string ⟨#[]⟩, .slice none 0 0, .slice none 0 0] 25)
  have C1 := (Bx.new5 w 25 (.int .i64 t.kind) (.int .i64 t.n) (.string (bs t.s)) (.slice A m c) (.slice B n d)).next (ab1 _ (Obj.cells #[.int .i64 0, .int .i64 0, .string ⟨#[]⟩, .slice none 0 0, .slice none 0 0] 25))
  have C2 := Bx.new5 (w.alloc (Obj.cells #[.int .i64 t.kind, .int .i64 t.n, .string (bs t.s), .slice A m c, .slice B n d] 25)) 25 (.int .i64 0) (.int .i64 0) (.string ⟨#[]⟩) (.slice none 0 0) (.slice none 0 0)
  rw [z1] at C2
  have cF2 := cF _ hab
  rw [hm] at hll
  rw [hm, hn] at cF2 ⊢
  have HM := Lib.hid hm
  clear cF hm hn hR2 z1
  have r0 := C2.c 0 rfl
  have r1 := C2.c 1 rfl
  have r2 := C2.c 2 rfl
  have r3 := C2.c 3 rfl
  have r4 := C2.c 4 rfl
  have q0 := C2.f 0 rfl
  have q1 := C2.f 1 rfl
  have q2 := C2.f 2 rfl
  have q3 := C2.f 3 rfl
  have q4 := C2.f 4 rfl
  have l2 := C2.lt
  by_cases h5 : t.kind = 5
  case neg =>
    have d5 : (t.kind != 5) = true := by simpa using h5
    have hp : partV t z = fvl t z := by unfold partV; rw [if_neg h5]
    rw [hp]
    obtain ⟨o, ho⟩ : ∃ o, fvl t z = o := ⟨_, rfl⟩
    rw [ho] at cF2 ⊢
    clear hp ho h5 hR
    go_enter Try.func48, Try.ntmps48
    go_wp2_with fail
    refine cF2.mono ?_
    rintro e w2 ⟨s, rfl, hrd, hb2⟩
    obtain ⟨u, hu⟩ : ∃ u, o.getD vl0 = u := ⟨_, rfl⟩
    obtain ⟨b, hbb⟩ : ∃ b, o.isSome = b := ⟨_, rfl⟩
    have HU := Lib.hid hu
    have HB := Lib.hid hbb
    rw [hu] at hrd
    simp only [hu, hbb]
    have E2 := C2.next hb2
    have hab2 := Below.next hab hb2
    clear cF2 r0 r1 r2 r3 r4 q0 q1 q2 q3 q4 hu hbb
    have r0 := E2.c 0 rfl
    have r1 := E2.c 1 rfl
    have r2 := E2.c 2 rfl
    have r3 := E2.c 3 rfl
    have r4 := E2.c 4 rfl
    have q0 := E2.f 0 rfl
    have q1 := E2.f 1 rfl
    have q2 := E2.f 2 rfl
    have q3 := E2.f 3 rfl
    have q4 := E2.f 4 rfl
    have l3 := E2.lt
    go_wp2_with fail
    have hfin := gb5 hab2 (b := w.heap.size + 1) (Nat.le_succ _) (.int .i64 u.kind) (.int .i64 u.n) (.string (bs u.s)) (.slice s.A u.l.length s.c) (.slice s.B u.f.length s.d)
    exact bodyPost_ret (v := .tuple #[.agg #[.int .i64 u.kind, .int .i64 u.n, .string (bs u.s), .slice s.A u.l.length s.c, .slice s.B u.f.length s.d], .bool b]) (by simp [results, Try.results48, go_sem, r0, r1, r2, r3, r4]) rfl ⟨s, by rw [HU.out, HB.out], by rw [HU.out]; exact hrd, hfin⟩
  case pos =>
  have d5 : (t.kind != 5) = false := by simpa using h5
  clear cF2
  by_cases hz : 0 ≤ z ∧ z < (m : Int)
  case neg =>
    have hp : partV t z = none := by
      unfold partV
      rw [if_pos h5]
      split
      · rw [List.getElem?_eq_none_iff, HM.out]; omega
      · rfl
    rw [hp]
    clear hp h5 hR
    by_cases h0 : z < 0
    · have d1 : decide (z < 0) = true := decide_eq_true h0
      go_enter Try.func48, Try.ntmps48
      go_wp2_with fail
      exact bodyPost_ret (v := .tuple #[.agg #[.int .i64 0, .int .i64 0, .string ⟨#[]⟩, .slice none 0 0, .slice none 0 0], .bool false]) (by simp [results, Try.results48, go_sem, r0, r1, r2, r3, r4]) rfl (FdQ.none_ hab)
    · have d1 : decide (z < 0) = false := decide_eq_false h0
      have d2 : decide ((m : Int) ≤ z) = true := decide_eq_true (by omega)
      go_enter Try.func48, Try.ntmps48
      go_wp2_with fail
      exact bodyPost_ret (v := .tuple #[.agg #[.int .i64 0, .int .i64 0, .string ⟨#[]⟩, .slice none 0 0, .slice none 0 0], .bool false]) (by simp [results, Try.results48, go_sem, r0, r1, r2, r3, r4]) rfl (FdQ.none_ hab)
  case pos =>
    obtain ⟨k, rfl⟩ := Int.eq_ofNat_of_zero_le hz.1
    have hk : k < m := by omega
    have hkl : k < t.l.length := by rw [HM.out]; exact hk
    have hp : partV t (k : Int) = some (t.l[k]'hkl) := by
      unfold partV
      rw [if_pos h5, if_pos (by omega), Int.toNat_natCast, List.getElem?_eq_getElem hkl]
    rw [hp]
    obtain ⟨a, rfl, hA⟩ := hR.get hkl
    obtain ⟨s, x0, x1, x2, x3, x4, hrd⟩ := hA.sb
    obtain ⟨u, hu⟩ : ∃ u, t.l[k]'hkl = u := ⟨_, rfl⟩
    rw [hu] at x0 x1 x2 x3 x4 hrd ⊢
    clear hp h5 hR hA hu hz
    have hbW := Below.next hb0 hab
    replace x0 := cell_next hbW x0
    replace x1 := cell_next hbW x1
    replace x2 := cell_next hbW x2
    replace x3 := cell_next hbW x3
    replace x4 := cell_next hbW x4
    have d1 : decide ((k : Int) < 0) = false := decide_eq_false (by omega)
    have d2 : decide ((m : Int) ≤ (k : Int)) = false := decide_eq_false (by omega)
    generalize hWW : (w.alloc (Obj.cells #[.int .i64 t.kind, .int .i64 t.n, .string (bs t.s), .slice (some a) m c, .slice B n d] 25)).alloc (Obj.cells #[.int .i64 0, .int .i64 0, .string ⟨#[]⟩, .slice none 0 0, .slice none 0 0] 25) = WW at *
    have hblk : (a.add (k * 5)).block < WW.heap.size := blk_lt x0
    have c3 := C1.c 3 rfl
    have c0 := C1.c 0 rfl
    go_enter Try.func48, Try.ntmps48
    go_upto_region 1 with (fail)
    clear hWW
    go_wp2_with fail
    have hfin := gb5 hab (b := w.heap.size + 1) (Nat.le_succ _) (.int .i64 u.kind) (.int .i64 u.n) (.string (bs u.s)) (.slice s.A u.l.length s.c) (.slice s.B u.f.length s.d)
    exact bodyPost_ret (v := .tuple #[.agg #[.int .i64 u.kind, .int .i64 u.n, .string (bs u.s), .slice s.A u.l.length s.c, .slice s.B u.f.length s.d], .bool true]) (by simp [results, Try.results48, go_sem, r0, r1, r2, r3, r4]) rfl (FdQ.some_ hrd hfin)
end Go.Proofs.Ytlebppjldoodgaa

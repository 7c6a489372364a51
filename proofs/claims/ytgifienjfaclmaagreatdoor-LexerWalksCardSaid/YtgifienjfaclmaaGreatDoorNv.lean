/-
  The developers' scanner: NewScanner, Peek, Next. No conditions but Go's own bounds.
-/
import Derived.Test.YtgifienjfaclmaaGreatDoorNp
import Derived.Test.YtgifienjfaclmaaGreatDoorLw
namespace Go.Proofs.YtgifienjfaclmaaGreatDoor
open Go.RowKit
/-- The developers' scanner at block g: its tokens lie at block b; the next one is number j. -/
structure Dn (w : World) (g b c : Nat) (l : List Tk) (j : Nat) : Prop where
  lt : g < w.heap.size
  bt : b < w.heap.size
  ne : b ≠ g
  c0 : w.cell? ⟨g, 0, none⟩ = some (.slice (some ⟨b, j * 4, none⟩) (l.length - j) (c - j))
  f0 : w.frozen? ⟨g, 0, none⟩ = false
  cl : l.length ≤ c
  tk : ∀ i u, (tcells l)[i]? = some u → w.cell? ⟨b, i, none⟩ = some u
theorem Dn.next {w w' : World} {g b c : Nat} {l : List Tk} {j : Nat} (h : Dn w g b c l j) (hb : Below w.heap.size w w') : Dn w' g b c l j :=
  ⟨Nat.lt_of_lt_of_le h.lt hb.size, Nat.lt_of_lt_of_le h.bt hb.size, h.ne, (hb.cell h.lt).trans h.c0, (hb.frozen h.lt).trans h.f0, h.cl, fun i u hu => (hb.cell h.bt).trans (h.tk i u hu)⟩
theorem Dn.off {w w' : World} {g b c k : Nat} {l : List Tk} {j : Nat} (h : Dn w g b c l j) (hg : w.grownBy w' (some k)) (h1 : g ≠ k) (h2 : b ≠ k) : Dn w' g b c l j := by
  have e1 := hg.block g h.lt (fun e => h1 (Option.some.inj e))
  have e2 := hg.block b h.bt (fun e => h2 (Option.some.inj e))
  exact ⟨Nat.lt_of_lt_of_le h.lt hg.size, Nat.lt_of_lt_of_le h.bt hg.size, h.ne, (World.cell?_of_block (a := ⟨g, 0, none⟩) e1).trans h.c0, (World.frozen?_of_block (a := ⟨g, 0, none⟩) e1).trans h.f0, h.cl, fun i u hu => (World.cell?_of_block (a := ⟨b, i, none⟩) e2).trans (h.tk i u hu)⟩
/-- The scanner moved on. -/
theorem Dn.adv {w : World} {g b c : Nat} {l : List Tk} {j : Nat} (h : Dn w g b c l j) (k : Nat) : Dn (w.setCell ⟨g, 0, none⟩ (.slice (some ⟨b, k * 4, none⟩) (l.length - k) (c - k))) g b c l k := by
  refine ⟨by simpa [World.setCell] using h.lt, by simpa [World.setCell] using h.bt, h.ne, World.cell?_setCell_same _ _ _ h.c0, by simp [h.f0], h.cl, fun i u hu => ?_⟩
  exact (World.cell?_setCell_other _ _ _ _ (by intro e; injection e with e _; have := h.ne; omega)).trans (h.tk i u hu)
set_option maxRecDepth 100000 in
set_option maxHeartbeats 2000000 in
theorem peekD_any (g b c : Nat) (l : List Tk) (j : Nat) (w : World) (hj : j < l.length) (h : Dn w g b c l j) :
    Calls Tryz.prog 9 #[.pointer (some ⟨g, 0, none⟩)] w (Ib (l[j]'hj).val w) := by
  have hg1 := grown1 (w := w) (Obj.cells #[.int .i64 0, .string ⟨#[]⟩, .int .i64 0, .int .i64 0] 34)
  have V0 := V4.new w (.int .i64 0) (.string ⟨#[]⟩) (.int .i64 0) (.int .i64 0) 34
  have h1 := h.next hg1
  have t0 := h1.tk _ _ (tcells_at l j 0 hj (by decide))
  have t1 := h1.tk _ _ (tcells_at l j 1 hj (by decide))
  have t2 := h1.tk _ _ (tcells_at l j 2 hj (by decide))
  have t3 := h1.tk _ _ (tcells_at l j 3 hj (by decide))
  obtain ⟨lt, bt, ne, c0, f0, cl, -⟩ := h1
  generalize l[j]'hj = x at *
  obtain ⟨K, T, N, P⟩ := x
  have t0 : (w.alloc (Obj.cells #[.int .i64 0, .string ⟨#[]⟩, .int .i64 0, .int .i64 0] 34)).cell? ⟨b, j * 4, none⟩ = some (.int .i64 (K : Int)) := t0
  have t1 : (w.alloc (Obj.cells #[.int .i64 0, .string ⟨#[]⟩, .int .i64 0, .int .i64 0] 34)).cell? ⟨b, j * 4 + 1, none⟩ = some (.string (bs T)) := t1
  have t2 : (w.alloc (Obj.cells #[.int .i64 0, .string ⟨#[]⟩, .int .i64 0, .int .i64 0] 34)).cell? ⟨b, j * 4 + 2, none⟩ = some (.int .i64 N) := t2
  have t3 : (w.alloc (Obj.cells #[.int .i64 0, .string ⟨#[]⟩, .int .i64 0, .int .i64 0] 34)).cell? ⟨b, j * 4 + 3, none⟩ = some (.int .i64 (P : Int)) := t3
  obtain ⟨m, hm⟩ : ∃ m, l.length - j = m := ⟨_, rfl⟩
  have hm0 : 0 < m := by omega
  rw [hm] at c0
  generalize c - j = c' at *
  have d0 : ((m : Int) == 0) = false := by simp; omega
  go_enter Tryz.func9, Tryz.ntmps9
  go_upto_region 1 with (fail)
  generalize w.alloc (Obj.cells #[.int .i64 0, .string ⟨#[]⟩, .int .i64 0, .int .i64 0] 34) = W0 at *
  obtain ⟨v0, v1, v2, v3, v4, v5, v6, v7, v8⟩ := V0
  go_wp2_with fail
  refine bodyPost_ret (v := .agg #[.int .i64 (K : Int), .string (bs T), .int .i64 N, .int .i64 (P : Int)]) (by simp [results, Tryz.results9, go_sem, v1, v2, v3, v4]) rfl ⟨rfl, ?_⟩
  exact (((hg1.setCell (by simp) _).setCell (by simp) _).setCell (by simp) _).setCell (by simp) _
/-- The call returns v; of old memory it wrote to the scanner alone, which then stands at place j. -/
def Jn (v : Value) (g b c : Nat) (l : List Tk) (j : Nat) (w : World) (e : Ending) (w' : World) : Prop := e = .returned v ∧ w.grownBy w' (some g) ∧ Dn w' g b c l j
set_option maxRecDepth 100000 in
set_option maxHeartbeats 2000000 in
theorem nextD_any (g b c : Nat) (l : List Tk) (j : Nat) (w : World) (hj : j < l.length) (hl : (l[j]'hj).kind ≠ 0 → j + 1 < l.length) (h : Dn w g b c l j) :
    Calls Tryz.prog 7 #[.pointer (some ⟨g, 0, none⟩)] w (Jn (l[j]'hj).val g b c l (if (l[j]'hj).kind = 0 then j else j + 1) w) := by
  have cP := fun W h => peekD_any g b c l j W hj h
  have hcl := h.cl
  generalize l[j]'hj = x at *
  obtain ⟨K, T, N, P⟩ := x
  have cP : ∀ W, Dn W g b c l j → Calls Tryz.prog 9 #[.pointer (some ⟨g, 0, none⟩)] W (Ib (.agg #[.int .i64 (K : Int), .string (bs T), .int .i64 N, .int .i64 (P : Int)]) W) := cP
  show Calls Tryz.prog 7 #[.pointer (some ⟨g, 0, none⟩)] w (Jn (.agg #[.int .i64 (K : Int), .string (bs T), .int .i64 N, .int .i64 (P : Int)]) g b c l (if K = 0 then j else j + 1) w)
  have hl : K ≠ 0 → j + 1 < l.length := hl
  obtain ⟨z, hz0⟩ : ∃ z, (if K = 0 then j else j + 1) = z := ⟨_, rfl⟩
  rw [hz0]
  have HM := Lib.hid hz0
  clear hz0
  have V0 := V4.new w (.int .i64 0) (.string ⟨#[]⟩) (.int .i64 0) (.int .i64 0) 34
  have hg1 := grown1 (w := w) (Obj.cells #[.int .i64 0, .string ⟨#[]⟩, .int .i64 0, .int .i64 0] 34)
  go_enter Tryz.func7, Tryz.ntmps7
  go_wp2_with fail
  refine (cP _ (h.next hg1)).mono ?_
  rintro e w2 ⟨rfl, h2⟩
  have hb2 := Below.next hg1 h2
  go_upto_region 2 with (fail)
  have V1 := V4.new w2 (.int .i64 (K : Int)) (.string (bs T)) (.int .i64 N) (.int .i64 (P : Int)) 34
  have hg3 := grown1 (w := w2) (Obj.cells #[.int .i64 (K : Int), .string (bs T), .int .i64 N, .int .i64 (P : Int)] 34)
  have V0 := (V0.next h2).next hg3
  have Bel := Below.next hb2 hg3
  have S3 := h.next Bel
  have h01 : w.heap.size < w2.heap.size := by have h5 := h2.size; have h6 : (w.alloc (Obj.cells #[.int .i64 0, .string ⟨#[]⟩, .int .i64 0, .int .i64 0] 34)).heap.size = w.heap.size + 1 := by simp
                                              omega
  have hlt := h.lt
  have hbt := h.bt
  clear hg3 hg1 h2 hb2 cP h
  generalize w2.alloc (Obj.cells #[.int .i64 (K : Int), .string (bs T), .int .i64 N, .int .i64 (P : Int)] 34) = W3 at *
  generalize w2.heap.size = B1 at *
  obtain ⟨B0, hB0⟩ : ∃ B0, w.heap.size = B0 := ⟨_, rfl⟩
  have hB0' : w.heap.size ≤ B0 := by omega
  rw [hB0] at V0 h01 hlt hbt ⊢
  have n0 : g ≠ B0 := by omega
  have n1 : g ≠ B1 := by omega
  have nb0 : b ≠ B0 := by omega
  have n01 : B0 ≠ B1 := by omega
  by_cases hK : K = 0
  · have hzj : j = z := by have := HM.out; rw [if_pos hK] at this; exact this
    clear HM
    subst hzj hK
    have G := gb_new (gb_new (gb_new (gb_new (gb_below (g := g) Bel) hB0' 0 (.int .i64 (0 : Int))) hB0' 1 (.string (bs T))) hB0' 2 (.int .i64 N)) hB0' 3 (.int .i64 (P : Int))
    have S4 := S3.off (gb_set (gb_set (gb_set (gb_set (gb_refl W3 B0) 0 (.int .i64 (0 : Int))) 1 (.string (bs T))) 2 (.int .i64 N)) 3 (.int .i64 (P : Int))) n0 nb0
    obtain ⟨a0, a1, a2, a3, a4, a5, a6, a7, a8⟩ := V0
    obtain ⟨b0, b1, b2, b3, b4, b5, b6, b7, b8⟩ := V1
    have b1 : W3.cell? ⟨B1, 0, none⟩ = some (.int .i64 0) := b1
    clear S3 Bel
    go_wp2_with fail
    refine bodyPost_ret (v := .agg #[.int .i64 (0 : Int), .string (bs T), .int .i64 N, .int .i64 (P : Int)]) (by simp [results, Tryz.results7, go_sem, a1, a2, a3, a4]) rfl ⟨rfl, G, S4⟩
  · have hzj : j + 1 = z := by have := HM.out; rw [if_neg hK] at this; exact this
    clear HM
    have g0 : ((K : Int) == 0) = false := by simpa using hK
    have g1 : ((K : Int) != 0) = true := by simpa using hK
    obtain ⟨m, hm⟩ : ∃ m, l.length - j = m := ⟨_, rfl⟩
    obtain ⟨m1, hm1⟩ : ∃ m1, l.length - z = m1 := ⟨_, rfl⟩
    obtain ⟨c', hc'⟩ : ∃ c', c - j = c' := ⟨_, rfl⟩
    have hm2 : 1 ≤ m := by omega
    have hc2 : 1 ≤ c' := by omega
    have hc1 : (c' = 1) = False := by have := hl hK; simp; omega
    have e1 : m - 1 = m1 := by omega
    obtain ⟨c2, hc2'⟩ : ∃ c2, c - z = c2 := ⟨_, rfl⟩
    have e2 : c' - 1 = c2 := by omega
    have e3 : j * 4 + 4 = z * 4 := by omega
    have VA := fun x => V0.off (gb_set (gb_refl W3 g) 0 x) n0.symm
    have VB := fun x => V1.off (gb_set (gb_refl W3 g) 0 x) n1.symm
    have SA := S3.adv z
    rw [hm1, hc2'] at SA
    have GA := fun x => gb_set (gb_below (g := g) Bel) 0 x
    obtain ⟨_, _, _, c0, f0, _, _⟩ := S3
    rw [hm, hc'] at c0
    obtain ⟨b0, b1, b2, b3, b4, b5, b6, b7, b8⟩ := V1
    clear hl
    go_upto_region 4 with (fail)
    have VA := VA (.slice (some ⟨b, z * 4, none⟩) m1 c2)
    have VB := VB (.slice (some ⟨b, z * 4, none⟩) m1 c2)
    have GA := GA (.slice (some ⟨b, z * 4, none⟩) m1 c2)
    generalize W3.setCell ⟨g, 0, none⟩ (.slice (some ⟨b, z * 4, none⟩) m1 c2) = W4 at *
    clear b0 b1 b2 b3 b4 b5 b6 b7 b8 c0 f0
    have G := gb_new (gb_new (gb_new (gb_new GA hB0' 0 (.int .i64 (K : Int))) hB0' 1 (.string (bs T))) hB0' 2 (.int .i64 N)) hB0' 3 (.int .i64 (P : Int))
    have S4 := SA.off (gb_set (gb_set (gb_set (gb_set (gb_refl W4 B0) 0 (.int .i64 (K : Int))) 1 (.string (bs T))) 2 (.int .i64 N)) 3 (.int .i64 (P : Int))) n0 nb0
    obtain ⟨a0, a1, a2, a3, a4, a5, a6, a7, a8⟩ := VA
    obtain ⟨b0, b1, b2, b3, b4, b5, b6, b7, b8⟩ := VB
    clear SA GA
    go_wp2_with fail
    refine bodyPost_ret (v := .agg #[.int .i64 (K : Int), .string (bs T), .int .i64 N, .int .i64 (P : Int)]) (by simp [results, Tryz.results7, go_sem, a1, a2, a3, a4]) rfl ⟨rfl, G, S4⟩
theorem gb_after {w w1 w2 : World} {g : Nat} (h : Below w.heap.size w w1) (k : w1.grownBy w2 (some g)) : w.grownBy w2 (some g) :=
  ⟨k.os.trans h.os, k.tape.trans h.tape, k.output.trans h.output, Nat.le_trans h.size k.size, fun i hi hne => (k.block i (Nat.lt_of_lt_of_le hi h.size) hne).trans (h.block i hi)⟩
/-- Is the token of this kind and text? -/
def isKT (t : Tk) (k : Nat) (s : List UInt8) : Bool := decide (t.kind = k) && (t.text == s)
set_option maxRecDepth 100000 in
set_option maxHeartbeats 2000000 in
theorem takeD_any (g b c : Nat) (l : List Tk) (j k : Nat) (s : List UInt8) (w : World) (hk : k ≠ 0) (hj : j < l.length) (hl : (l[j]'hj).kind ≠ 0 → j + 1 < l.length) (h : Dn w g b c l j) :
    Calls Tryz.prog 18 #[.pointer (some ⟨g, 0, none⟩), .int .i64 (k : Int), .string (bs s)] w (Jn (.bool (isKT (l[j]'hj) k s)) g b c l (if isKT (l[j]'hj) k s then j + 1 else j) w) := by
  have cP := fun W h => peekD_any g b c l j W hj h
  have cN := fun W h => nextD_any g b c l j W hj hl h
  generalize l[j]'hj = x at *
  obtain ⟨K, T, N, P⟩ := x
  have cP : ∀ W, Dn W g b c l j → Calls Tryz.prog 9 #[.pointer (some ⟨g, 0, none⟩)] W (Ib (.agg #[.int .i64 (K : Int), .string (bs T), .int .i64 N, .int .i64 (P : Int)]) W) := cP
  have cN : ∀ W, Dn W g b c l j → Calls Tryz.prog 7 #[.pointer (some ⟨g, 0, none⟩)] W (Jn (.agg #[.int .i64 (K : Int), .string (bs T), .int .i64 N, .int .i64 (P : Int)]) g b c l (if K = 0 then j else j + 1) W) := cN
  obtain ⟨bo, hbo⟩ : ∃ bo, isKT ⟨K, T, N, P⟩ k s = bo := ⟨_, rfl⟩
  obtain ⟨m, hm0⟩ : ∃ m, (if bo then j + 1 else j) = m := ⟨_, rfl⟩
  rw [hbo, hm0]
  have hbo : (decide (K = k) && (T == s)) = bo := hbo
  have hq := str_beq T s
  obtain ⟨b1, e1, e1'⟩ : ∃ b1, ((K : Int) == (k : Int)) = b1 ∧ decide (K = k) = b1 := ⟨_, rfl, by rw [Bool.eq_iff_iff]; simp; omega⟩
  have e1'' : ((K : Int) != (k : Int)) = !b1 := by rw [← e1]; rfl
  obtain ⟨b2, e2⟩ : ∃ b2, (T == s) = b2 := ⟨_, rfl⟩
  rw [e1', e2] at hbo
  rw [e2] at hq
  have hq2 : ((bs T).toList != (bs s).toList) = !b2 := by rw [← hq]; rfl
  have HM := Lib.hid hm0
  have HK : Hid (b1 = true → K ≠ 0) := Lib.hid (fun e => by rw [e] at e1'; have := of_decide_eq_true e1'; omega)
  clear hm0 hl e1' e2
  cases b1 <;> cases b2
  all_goals
    go_enter Tryz.func18, Tryz.ntmps18
    go_wp2_with fail
    refine (cP _ h).mono ?_
    rintro e w2 ⟨rfl, h2⟩
    have hg3 := grown1 (w := w2) (Obj.cells #[.int .i64 (K : Int), .string (bs T), .int .i64 N, .int .i64 (P : Int)] 34)
    have Bel := Below.next h2 hg3
    have S3 := h.next Bel
    have V1 := V4.new w2 (.int .i64 (K : Int)) (.string (bs T)) (.int .i64 N) (.int .i64 (P : Int)) 34
    go_upto_region 2 with (fail)
    clear hg3 h2
    generalize w2.alloc (Obj.cells #[.int .i64 (K : Int), .string (bs T), .int .i64 N, .int .i64 (P : Int)] 34) = W3 at *
    generalize w2.heap.size = B1 at *
    obtain ⟨v0, v1, v2, v3, v4, v5, v6, v7, v8⟩ := V1
    clear v5 v6 v7 v8
    subst hbo
  · obtain rfl : j = m := HM.out
    go_wp2_with fail
    go_ret
    exact ⟨rfl, gb_below Bel, S3⟩
  · obtain rfl : j = m := HM.out
    go_wp2_with fail
    go_ret
    exact ⟨rfl, gb_below Bel, S3⟩
  · obtain rfl : j = m := HM.out
    go_wp2_with fail
    go_ret
    exact ⟨rfl, gb_below Bel, S3⟩
  · obtain rfl : j + 1 = m := HM.out
    have hK : K ≠ 0 := by first | exact HK.out rfl | exact HK.out trivial
    have cN := cN _ S3
    rw [if_neg hK] at cN
    clear HK HM
    go_wp2_with fail
    refine cN.mono ?_
    rintro e w4 ⟨rfl, G, S4⟩
    go_wp2_with fail
    go_ret
    exact ⟨rfl, gb_after Bel G, S4⟩
set_option maxRecDepth 100000 in
theorem markD_any (g b c : Nat) (l : List Tk) (j : Nat) (s : List UInt8) (w : World) (hj : j < l.length) (hl : (l[j]'hj).kind ≠ 0 → j + 1 < l.length) (h : Dn w g b c l j) :
    Calls Tryz.prog 11 #[.pointer (some ⟨g, 0, none⟩), .string (bs s)] w (Jn (.bool (isKT (l[j]'hj) 4 s)) g b c l (if isKT (l[j]'hj) 4 s then j + 1 else j) w) := by
  have cT := takeD_any g b c l j 4 s w (by decide) hj hl h
  obtain ⟨m, hm⟩ : ∃ m, (if isKT (l[j]'hj) 4 s then j + 1 else j) = m := ⟨_, rfl⟩
  rw [hm] at cT ⊢
  clear hm
  generalize isKT (l[j]'hj) 4 s = b at *
  have cT : Calls Tryz.prog 18 #[.pointer (some ⟨g, 0, none⟩), .int .i64 4, .string (bs s)] w _ := cT
  go_enter Tryz.func11, Tryz.ntmps11
  go_wp2_with fail
  refine cT.mono ?_
  rintro e w4 ⟨rfl, G, S4⟩
  go_wp2_with fail
  go_ret
  exact ⟨rfl, G, S4⟩
set_option maxRecDepth 100000 in
theorem wordD_any (g b c : Nat) (l : List Tk) (j : Nat) (s : List UInt8) (w : World) (hj : j < l.length) (hl : (l[j]'hj).kind ≠ 0 → j + 1 < l.length) (h : Dn w g b c l j) :
    Calls Tryz.prog 13 #[.pointer (some ⟨g, 0, none⟩), .string (bs s)] w (Jn (.bool (isKT (l[j]'hj) 1 s)) g b c l (if isKT (l[j]'hj) 1 s then j + 1 else j) w) := by
  have cT := takeD_any g b c l j 1 s w (by decide) hj hl h
  obtain ⟨m, hm⟩ : ∃ m, (if isKT (l[j]'hj) 1 s then j + 1 else j) = m := ⟨_, rfl⟩
  rw [hm] at cT ⊢
  clear hm
  generalize isKT (l[j]'hj) 1 s = b at *
  have cT : Calls Tryz.prog 18 #[.pointer (some ⟨g, 0, none⟩), .int .i64 1, .string (bs s)] w _ := cT
  go_enter Tryz.func13, Tryz.ntmps13
  go_wp2_with fail
  refine cT.mono ?_
  rintro e w4 ⟨rfl, G, S4⟩
  go_wp2_with fail
  go_ret
  exact ⟨rfl, G, S4⟩
/-- What NewScanner leaves. -/
def NewD (R : Except (Nat × Nat) (List Tk)) (w : World) (e : Ending) (w' : World) : Prop := Below w.heap.size w w' ∧ match R with
  | .error (x, p) => e = .returned (.tuple #[.pointer none, .int .i64 (x : Int), .int .i64 (p : Int)])
  | .ok ts => ∃ g b c, e = .returned (.tuple #[.pointer (some ⟨g, 0, none⟩), .int .i64 0, .int .i64 0]) ∧ w.heap.size ≤ g ∧ w.heap.size ≤ b ∧ Dn w' g b c ts 0
theorem NewD.err {R : Except (Nat × Nat) (List Tk)} {w w' : World} {x p : Nat} (h : R = .error (x, p)) (hb : Below w.heap.size w w') : NewD R w (.returned (.tuple #[.pointer none, .int .i64 (x : Int), .int .i64 (p : Int)])) w' := by
  subst h
  exact ⟨hb, rfl⟩
theorem NewD.ok {R : Except (Nat × Nat) (List Tk)} {w w' : World} {ts : List Tk} {g b c : Nat} (h : R = .ok ts) (hb : Below w.heap.size w w') (h1 : w.heap.size ≤ g) (h2 : w.heap.size ≤ b) (h3 : Dn w' g b c ts 0) : NewD R w (.returned (.tuple #[.pointer (some ⟨g, 0, none⟩), .int .i64 0, .int .i64 0])) w' := by
  subst h
  exact ⟨hb, g, b, c, rfl, h1, h2, h3⟩
theorem Ot.cap {B : Nat} {w : World} {g n c : Nat} {l : List Tk} (h : Ot B w (.slice (some ⟨g, 0, none⟩) n c) l) : n ≤ c := by
  rcases h.2 with ⟨h, -⟩ | ⟨g', cap, cur, h, -, -, h2, -⟩
  · cases h
  · injection h with h1 h3 h4
    omega
set_option maxRecDepth 100000 in
set_option maxHeartbeats 2000000 in
theorem newD_any (l : List UInt8) (w : World) (hl : l.length ≤ 9223372036854775807) (hE : Env w) :
    Calls Tryz.prog 5 #[.string (bs l)] w (NewD (scan l) w) := by
  have cS := scanD_any l w hl hE
  have hl0 : ∀ ts, scan l = .ok ts → 0 < ts.length := fun ts h => (scan_len h).2.1
  have hle : ∀ x p, scan l = .error (x, p) → x ≠ 0 := fun x p h => (scan_error h).1
  obtain ⟨R, hR⟩ : ∃ R, scan l = R := ⟨_, rfl⟩
  rw [hR] at cS hl0 hle ⊢
  clear hR hl
  go_enter Tryz.func5, Tryz.ntmps5
  go_wp2_with fail
  refine cS.mono ?_
  rintro e w2 ⟨hb, h2⟩
  rcases R with ⟨x, p⟩ | ts
  · replace h2 : e = .returned (.tuple #[.slice none 0 0, .int .i64 (x : Int), .int .i64 (p : Int)]) := h2
    subst h2
    have hx := hle x p rfl
    have dx : ((x : Int) == 0) = false := by simp; omega
    have dx2 : ((x : Int) != 0) = true := by simp; omega
    clear hle hl0 hx
    go_wp2_with fail
    go_ret3
    exact NewD.err rfl hb
  · obtain ⟨v, rfl, ho⟩ := h2
    have h0 := hl0 ts rfl
    obtain ⟨g, cap, rfl, hg, hc⟩ := ho.get h0
    have hcap := ho.cap
    have hB := (ho.lt g rfl).1
    have hg1 := grown1 (w := w2) (Obj.cells #[.slice (some ⟨g, 0, none⟩) ts.length cap] 41)
    have hbn := Below.next hb hg1
    have D : Dn (w2.alloc (Obj.cells #[.slice (some ⟨g, 0, none⟩) ts.length cap] 41)) w2.heap.size g cap ts 0 :=
      ⟨by simp, by simp; omega, by omega, by simp, by simp, hcap, fun i u hu => (hg1.cell (p := ⟨g, i, none⟩) hg).trans (hc i u hu)⟩
    clear hle hl0 hc ho
    go_wp2_with fail
    go_ret3
    exact NewD.ok rfl hbn hb.size hB D
end Go.Proofs.YtgifienjfaclmaaGreatDoor

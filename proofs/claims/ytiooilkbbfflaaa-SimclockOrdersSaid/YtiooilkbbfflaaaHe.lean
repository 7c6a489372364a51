import Derived.Test.YtiooilkbbfflaaaHd
import Derived.Deep.LoopGhost
/-
  Where a timer belongs in a row of timers that is in order. No conditions beyond those that each names.
-/
namespace Go.Proofs.Ytiooilkbbfflaaa
open Go.RowKit Go.Sort Go.Lib
/-- What the comparison of two timers says. -/
def cT (x y : Tm) : Int := orI (sg x.at_ y.at_) (sg x.id y.id)
theorem cmp_any (x y : Tm) (w : World) : Calls Try.prog 65 #[(.agg #[.int .i64 (x.id : Int), .int .i64 (x.at_ : Int), .int .i64 (x.per : Int)]), (.agg #[.int .i64 (y.id : Int), .int .i64 (y.at_ : Int), .int .i64 (y.per : Int)])] w (Ib (.int .i64 (cT x y)) w) := compare_any x y w
theorem meth_cmp (x : Tm) (w : World) : (method 218 74 (.agg #[.int .i64 (x.id : Int), .int .i64 (x.at_ : Int), .int .i64 (x.per : Int)]) "robotics/simclock.compare").run Try.prog w = .ok (65, (.agg #[.int .i64 (x.id : Int), .int .i64 (x.at_ : Int), .int .i64 (x.per : Int)])) w := by kernel_rfl
set_option maxRecDepth 100000 in
set_option maxHeartbeats 2000000 in
theorem add1_any (x y : Tm) (w : World) : Calls Try.prog 43 #[(.agg #[.int .i64 (x.id : Int), .int .i64 (x.at_ : Int), .int .i64 (x.per : Int)]), (.agg #[.int .i64 (y.id : Int), .int .i64 (y.at_ : Int), .int .i64 (y.per : Int)])] w (Ib (.int .i64 (cT x y)) w) := by
  have mm := meth_cmp x
  have hab := ab2 w (Obj.cells #[.int .i64 (x.id : Int), .int .i64 (x.at_ : Int), .int .i64 (x.per : Int)] 74) (Obj.cells #[.int .i64 (y.id : Int), .int .i64 (y.at_ : Int), .int .i64 (y.per : Int)] 74)
  go_enter Try.func43, Try.ntmps43
  go_wp2_with (refine (cmp_any x y _).mono ?_; rintro e w' ⟨rfl, hb⟩)
  go_ret
  exact ⟨rfl, Below.next hab hb⟩
/-- How many timers at the head precede a timer. -/
def ps (t : Tm) : List Tm → Nat
  | [] => 0
  | x :: l => if cT x t < 0 then ps t l + 1 else 0
/-- Whether the timer there is told equal. -/
def fB (t : Tm) : List Tm → Bool
  | [] => false
  | x :: _ => cT x t == 0
theorem ps_le (t : Tm) : ∀ l : List Tm, ps t l ≤ l.length
  | [] => Nat.le_refl _
  | x :: l => by
    unfold ps
    have := ps_le t l
    rw [List.length_cons]
    split <;> omega
theorem ps_at (t : Tm) : ∀ (l : List Tm) (i : Nat), i ≤ l.length → (∀ j (h : j < l.length), j < i → cT (l[j]'h) t < 0) → (∀ j (h : j < l.length), i ≤ j → 0 ≤ cT (l[j]'h) t) → i = ps t l
  | [], i, hi, _, _ => Nat.le_zero.1 hi
  | x :: l, 0, _, _, h2 => by
    have := h2 0 (Nat.succ_pos _) (Nat.le_refl _)
    simp only [List.getElem_cons_zero] at this
    unfold ps
    rw [if_neg (by omega)]
  | x :: l, i + 1, hi, h1, h2 => by
    have h0 := h1 0 (Nat.succ_pos _) (Nat.succ_pos _)
    simp only [List.getElem_cons_zero] at h0
    unfold ps
    rw [if_pos h0, ← ps_at t l i (by simpa using hi) (fun j h hj => by have := h1 (j + 1) (by simpa using h) (by omega); simpa using this) (fun j h hj => by have := h2 (j + 1) (by simpa using h) (by omega); simpa using this)]
set_option maxRecDepth 100000 in
set_option maxHeartbeats 4000000 in
theorem bsearch_any (B : Nat) (l : List Tm) (t : Tm) (v : Value) (w : World) (hn : l.length ≤ 1000000) (ho : OwT B w v l) (hmono : ∀ a b (ha : a < l.length) (hb : b < l.length), a ≤ b → cT (l[b]'hb) t < 0 → cT (l[a]'ha) t < 0) :
    Calls Try.prog 42 #[v, (.agg #[.int .i64 (t.id : Int), .int .i64 (t.at_ : Int), .int .i64 (t.per : Int)]), .func (.func 43) #[] #[]] w (Ib (.tuple #[.int .i64 (ps t l : Int), .bool (fB t (l.drop (ps t l)))]) w) := by
  obtain ⟨A, c, rfl, hA⟩ := own_nil_or ho
  obtain ⟨n, hln⟩ : ∃ n, l.length = n := ⟨_, rfl⟩
  have HN := Lib.hid hln
  rw [hln] at hn hA ⊢
  have B1 := Bx.new3 w 74 (.int .i64 (t.id : Int)) (.int .i64 (t.at_ : Int)) (.int .i64 (t.per : Int))
  have hab := ab1 w (Obj.cells #[.int .i64 (t.id : Int), .int .i64 (t.at_ : Int), .int .i64 (t.per : Int)] 74)
  have CL : ∀ W, Below w.heap.size w W → ∀ m (hm : m < l.length), ∃ g, A = some ⟨g, 0, none⟩ ∧ g < W.heap.size ∧ W.cell? ⟨g, m * 3, none⟩ = some (.int .i64 ((l[m]'hm).id : Int)) ∧ W.cell? ⟨g, m * 3 + 1, none⟩ = some (.int .i64 ((l[m]'hm).at_ : Int)) ∧ W.cell? ⟨g, m * 3 + 2, none⟩ = some (.int .i64 ((l[m]'hm).per : Int)) := by
    intro W hW m hm
    rcases hA with ⟨-, -, h0⟩ | ⟨g, rfl, -, hg, -⟩
    · omega
    · rw [hln] at ho
      have ho2 : w.ownsRow B 74 3 (.slice (some ⟨g, 0, none⟩) l.length c) l.length (tc e3 l) := by rw [hln]; unfold OwT at *; rw [hln] at *; exact ho
      have k0 := own_cells e3_len ho2 m hm 0 _ rfl
      have k1 := own_cells e3_len ho2 m hm 1 _ rfl
      have k2 := own_cells e3_len ho2 m hm 2 _ rfl
      exact ⟨g, rfl, Nat.lt_of_lt_of_le hg hW.size, cell_next hW k0, cell_next hW k1, cell_next hW k2⟩
  have HM := Lib.hid hmono
  have HCL := Lib.hid CL
  clear hln hmono CL ho hA
  go_enter Try.func42, Try.ntmps42
  go_wp2_with fail
  generalize w.alloc (Obj.cells #[.int .i64 (t.id : Int), .int .i64 (t.at_ : Int), .int .i64 (t.per : Int)] 74) = w0 at *
  go_loopg [9, 10] n (fun kx s9 s10 wr => ∃ lo hi : Nat, s9 = .int .i64 (lo : Int) ∧ s10 = .int .i64 (hi : Int) ∧ lo ≤ hi ∧ hi ≤ n ∧ hi - lo ≤ kx ∧ Hid (Below w0.heap.size w0 wr) ∧ Hid ((∀ j (h : j < l.length), j < lo → cT (l[j]'h) t < 0) ∧ (∀ j (h : j < l.length), hi ≤ j → 0 ≤ cT (l[j]'h) t)))
  case atStart => exact ⟨0, n, rfl, rfl, Nat.zero_le _, Nat.le_refl _, by omega, Lib.hid (Below.refl _ _), Lib.hid ⟨fun j _ h => absurd h (Nat.not_lt_zero _), fun j h h2 => by rw [HN.out] at h; omega⟩⟩
  case round =>
    obtain ⟨lo, hi, rfl, rfl, hlh, hin, hg, S1, I⟩ := hrel
    by_cases hlt : lo < hi
    · have hm : (lo + hi) / 2 < l.length := by rw [HN.out]; omega
      have B2 := B1.next S1.out
      have b0 := B2.c 0 rfl
      have b1 := B2.c 1 rfl
      have b2 := B2.c 2 rfl
      have bl := B2.lt
      obtain ⟨gA, rfl, hgl, k0, k1, k2⟩ := HCL.out wr (Below.next hab S1.out) _ hm
      have cN := fun d os => Calls.regrown_of (add1_any (l[(lo + hi) / 2]'hm) t (grow (redrawn wr d) os))
      have rb0 := fun d os => cell_regrown b0 d os
      have rb1 := fun d os => cell_regrown b1 d os
      have rb2 := fun d os => cell_regrown b2 d os
      have rk0 := fun d os => cell_regrown k0 d os
      have rk1 := fun d os => cell_regrown k1 d os
      have rk2 := fun d os => cell_regrown k2 d os
      have HT := Lib.hid hab
      by_cases hc : cT (l[(lo + hi) / 2]'hm) t < 0
      · have dc : decide (cT (l[(lo + hi) / 2]'hm) t < 0) = true := decide_eq_true hc
        have I2 : Hid ((∀ j (h : j < l.length), j < (lo + hi) / 2 + 1 → cT (l[j]'h) t < 0) ∧ (∀ j (h : j < l.length), hi ≤ j → 0 ≤ cT (l[j]'h) t)) := Lib.hid ⟨fun j h hj => HM.out j _ h hm (by omega) hc, I.out.2⟩
        clear hc hab
        generalize l[(lo + hi) / 2]'hm = y at *
        go_wp2_with fail
        refine wp_region_quiet_below (by kernel_rfl) (by kernel_rfl) ?_
        repeat (go_big_quiet_step (exact cN _ _))
        refine wpQuiet_nil ?_
        intro _ hw'
        obtain ⟨⟨dq, osq⟩, hw''⟩ := hw'
        subst hw''
        go_wp2_with fail
        go_roundg (hi - ((lo + hi) / 2 + 1))
        case measure => omega
        case rel => exact ⟨(lo + hi) / 2 + 1, hi, by rw [show ((lo : Int) + (hi : Int)) / 2 + 1 = (((lo + hi) / 2 + 1 : Nat) : Int) by omega], rfl, by omega, hin, Nat.le_refl _, Lib.hid (Below.next S1.out (below_regrown _ _ _)), I2⟩
      · have dc : decide (cT (l[(lo + hi) / 2]'hm) t < 0) = false := decide_eq_false hc
        have I2 : Hid ((∀ j (h : j < l.length), j < lo → cT (l[j]'h) t < 0) ∧ (∀ j (h : j < l.length), (lo + hi) / 2 ≤ j → 0 ≤ cT (l[j]'h) t)) := Lib.hid ⟨I.out.1, fun j h hj => Int.not_lt.1 fun hx => hc (HM.out _ j hm h hj hx)⟩
        clear hc hab
        generalize l[(lo + hi) / 2]'hm = y at *
        go_wp2_with fail
        refine wp_region_quiet_below (by kernel_rfl) (by kernel_rfl) ?_
        repeat (go_big_quiet_step (exact cN _ _))
        refine wpQuiet_nil ?_
        intro _ hw'
        obtain ⟨⟨dq, osq⟩, hw''⟩ := hw'
        subst hw''
        go_wp2_with fail
        go_roundg ((lo + hi) / 2 - lo)
        case measure => omega
        case rel => exact ⟨lo, (lo + hi) / 2, rfl, by rw [show ((lo : Int) + (hi : Int)) / 2 = (((lo + hi) / 2 : Nat) : Int) by omega], by omega, by omega, Nat.le_refl _, Lib.hid (Below.next S1.out (below_regrown _ _ _)), I2⟩
    · obtain rfl : hi = lo := by omega
      have S2 := Lib.hid (Below.next hab S1.out)
      by_cases hn2 : hi < n
      · have hm : hi < l.length := by rw [HN.out]; exact hn2
        have B2 := B1.next S1.out
        have b0 := B2.c 0 rfl
        have b1 := B2.c 1 rfl
        have b2 := B2.c 2 rfl
        have bl := B2.lt
        obtain ⟨gA, rfl, hgl, k0, k1, k2⟩ := HCL.out wr (Below.next hab S1.out) _ hm
        have cN := fun d os => Calls.regrown_of (add1_any (l[hi]'hm) t (grow (redrawn wr d) os))
        have rb0 := fun d os => cell_regrown b0 d os
        have rb1 := fun d os => cell_regrown b1 d os
        have rb2 := fun d os => cell_regrown b2 d os
        have rk0 := fun d os => cell_regrown k0 d os
        have rk1 := fun d os => cell_regrown k1 d os
        have rk2 := fun d os => cell_regrown k2 d os
        have HT := Lib.hid hab
        have dn : decide ((hi : Int) < (n : Int)) = true := decide_eq_true (by omega)
        have dn2 : decide (hi < n) = true := decide_eq_true hn2
        have HP : Hid (hi = ps t l) := Lib.hid (ps_at t l hi (by rw [HN.out]; exact hin) I.out.1 I.out.2)
        have HF : Hid (fB t (l.drop (ps t l)) = (cT (l[hi]'hm) t == 0)) := Lib.hid (by rw [← HP.out, List.drop_eq_getElem_cons hm]; rfl)
        clear hab
        generalize l[hi]'hm = y at *
        go_wp2_with fail
        refine wp_region_quiet_below (by kernel_rfl) (by kernel_rfl) ?_
        repeat (go_big_quiet_step (exact cN _ _))
        refine wpQuiet_nil ?_
        intro _ hw'
        obtain ⟨⟨dq, osq⟩, hw''⟩ := hw'
        subst hw''
        go_wp2_with fail
        go_ret2
        rw [HF.out, ← HP.out]
        exact ⟨rfl, Below.next S2.out (below_regrown _ _ _)⟩
      · have dn : decide ((hi : Int) < (n : Int)) = false := decide_eq_false (by omega)
        have dn2 : decide (hi < n) = false := decide_eq_false hn2
        have HT := Lib.hid hab
        have HP : Hid (hi = ps t l) := Lib.hid (ps_at t l hi (by rw [HN.out]; exact hin) I.out.1 I.out.2)
        have HF : Hid (fB t (l.drop (ps t l)) = false) := Lib.hid (by rw [List.drop_eq_nil_of_le (by rw [← HP.out, HN.out]; omega)]; rfl)
        clear hab
        go_wp2_with fail
        refine wp_region_quiet_below (by kernel_rfl) (by kernel_rfl) ?_
        repeat (go_big_quiet_step (fail))
        refine wpQuiet_nil ?_
        intro _ hw'
        obtain ⟨⟨dq, osq⟩, hw''⟩ := hw'
        subst hw''
        go_wp2_with fail
        go_ret2
        rw [HF.out, ← HP.out]
        exact ⟨rfl, Below.next S2.out (below_regrown _ _ _)⟩
end Go.Proofs.Ytiooilkbbfflaaa

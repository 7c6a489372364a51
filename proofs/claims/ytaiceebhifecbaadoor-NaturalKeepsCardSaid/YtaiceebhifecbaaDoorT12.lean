/-
  Contract of divide by a divisor of one digit, or one that is longer. Conditions: slices of at most 900 digits.
-/
import Derived.Test.YtaiceebhifecbaaDoorT11
namespace Go.Proofs.YtaiceebhifecbaaDoor
open Go.RowKit
theorem divideByDigit_n (g off n c y : Nat) (zs : List Nat) (w : World) (ho : Own w g off zs) (hzd : Nm.Dig zs) (hzn : zs.length = n) (hm : n ≤ 1000) (hy0 : 0 < y) (hy : y < 4294967296) :
    Calls Tryd.prog 54 #[.slice (some ⟨g, off, none⟩) n c, .int .u32 y] w fun e w' => ∃ (rs : List Nat) (r : Nat), e = .returned (.int .u32 r) ∧ Hid (rs.length = n) ∧ Nm.Dig rs ∧ r < y ∧ Hid (Nm.val rs * y + r = Nm.val zs) ∧ Wr w w' g off rs := by
  subst hzn
  exact divideByDigit_any g off c y zs w ho hzd hm hy0 hy
/-- What divide leaves: the quotient and the remainder, in new memory. -/
def DivPost (w : World) (X Y : List Nat) (e : Ending) (w' : World) : Prop :=
  ∃ (A1 A2 : Option Addr) (c1 c2 : Nat) (qs rs : List Nat), e = .returned (.tuple #[.slice A1 qs.length c1, .slice A2 rs.length c2]) ∧ qs.length ≤ c1 ∧ rs.length ≤ c2 ∧ qs.length ≤ X.length ∧ rs.length ≤ max X.length Y.length ∧
    Nm.Dig qs ∧ Nm.Dig rs ∧ Fr w.heap.size w' A1 qs ∧ Fr w.heap.size w' A2 rs ∧ Hid (Nm.val X = Nm.val qs * Nm.val Y + Nm.val rs ∧ Nm.val rs < Nm.val Y) ∧ Below w.heap.size w w'
/-- divide does as it should, at divisors of at most L digits. -/
def DivOk (L : Nat) : Prop := ∀ (A B : Option Addr) (X Y : List Nat) (n m : Nat) (w : World), Rd w A X → Rd w B Y → Nm.Dig X → Nm.Dig Y → X.length = n → Y.length = m → n ≤ 900 → 0 < m → m ≤ L → Nm.tlen Y = m →
  Calls Tryd.prog 48 #[.slice A n n, .slice B m m] w (DivPost w X Y)
theorem val_pos_of_top {Y : List Nat} {m : Nat} (hl : Nm.tlen Y = m) (hm : 0 < m) : 4294967296 ^ (m - 1) ≤ Nm.val Y := by
  have := Nm.tlen_pos_val (zs := Y) (by omega)
  rwa [hl] at this
set_option maxHeartbeats 400000 in
theorem divide_less (A B : Option Addr) (X Y : List Nat) (n m : Nat) (w : World) (hx : Rd w A X) (hxd : Nm.Dig X) (hXl : X.length = n) (hYl : Y.length = m) (hn : n ≤ 900) (ht : Nm.tlen Y = m) (hlt : n < m) :
    Calls Tryd.prog 48 #[.slice A n n, .slice B m m] w (DivPost w X Y) := by
  have hfin : Nm.val X = Nm.val [] * Nm.val Y + Nm.val X ∧ Nm.val X < Nm.val Y := by
    refine ⟨by simp [Nm.val], ?_⟩
    have h1 := Nm.val_lt hxd
    have h2 := val_pos_of_top ht (by omega)
    have h3 : 4294967296 ^ n ≤ 4294967296 ^ (m - 1) := Nat.pow_le_pow_right (by omega) (by omega)
    rw [hXl] at h1
    omega
  have Hf := Lib.hid hfin
  have HXl := Lib.hid hXl
  have HYl := Lib.hid hYl
  clear hfin hXl hYl ht
  go_enter Tryd.func48, Tryd.ntmps48
  go_wp2_with fail
  refine (clone_any A n X _ hx HXl.out (by rw [HXl.out]; omega)).mono ?_
  rintro e w1 ⟨A2, c2, rfl, hc2, hf2, hb2⟩
  go_wp2_with fail
  go_ret2
  refine ⟨none, A2, 0, c2, [], X, ?_, by simp, by rw [HXl.out]; exact hc2, Nat.zero_le _, by omega, Nm.Dig.nil, hxd, Fr.nil _ _ _, hf2, Hf, hb2⟩
  rw [HXl.out]
  rfl
set_option maxHeartbeats 400000 in
theorem divide_one (A B : Option Addr) (X Y : List Nat) (n m : Nat) (w : World) (hx : Rd w A X) (hy : Rd w B Y) (hxd : Nm.Dig X) (hyd : Nm.Dig Y) (hXl : X.length = n) (hYl : Y.length = m) (hn : n ≤ 900) (hm : m = 1) (ht : Nm.tlen Y = m) (hge : 1 ≤ n) :
    Calls Tryd.prog 48 #[.slice A n n, .slice B m m] w (DivPost w X Y) := by
  subst hm
  obtain ⟨y, rfl⟩ : ∃ y, Y = [y] := List.length_eq_one_iff.1 hYl
  have hylt := hyd.cons.1
  have hy0 : 0 < y := by
    have := Nm.tlen_last [y] 0 ht (by simp)
    simp at this; omega
  have HXl := Lib.hid hXl
  obtain ⟨g', off', hB, hr⟩ := hy.at_ (i := 0) (by simp)
  have c1 : w.cell? ⟨g', off', none⟩ = some (.int .u32 (y : Int)) := hr 0 (by simp)
  subst hB
  clear hr hXl hYl ht
  go_enter Tryd.func48, Tryd.ntmps48
  go_wp2_with fail
  refine (clone_any A n X _ hx HXl.out (by rw [HXl.out]; omega)).mono ?_
  rintro e w1 ⟨A2, c2, rfl, hc2, hf2, hb2⟩
  obtain ⟨g, off, rfl, hg, ho⟩ := hf2.own (by intro e; have := HXl.out; rw [e] at this; simp at this; omega)
  have c3 : w1.cell? ⟨g', off', none⟩ = some (.int .u32 (y : Int)) := by
    rw [hb2.cell (p := ⟨g', off', none⟩) (World.block_lt_of_cell? _ _ c1)]; exact c1
  go_wp2_with fail
  refine (divideByDigit_n g off n c2 y X w1 ho hxd HXl.out (by omega) hy0 hylt).mono ?_
  rintro e w2 ⟨qs, r, rfl, hql, hqd, hr, hv, hwr⟩
  have hb3 : Below w.heap.size w w2 := hwr.below hb2 hg hb2.size
  go_wp2_with fail
  go_ret2
  refine ⟨some ⟨g, off, none⟩, some ⟨w2.heap.size, 0, none⟩, c2, 1, qs, [r], ?_, by rw [hql.out]; exact hc2, by simp, by rw [hql.out, HXl.out]; omega, by simp; omega, hqd, Nm.Dig.mk (by omega) Nm.Dig.nil, ?_, ?_, ?_, ?_⟩
  · rw [hql.out]
    rfl
  · exact Fr.alloc (.inr ⟨g, off, rfl, hg, hwr.own⟩) _
  · refine .inr ⟨_, _, rfl, hb3.size, Row.new w2 35 #[.int .u32 (r : Int)] [r] fun i hi => ?_⟩
    obtain rfl : i = 0 := by simpa using hi
    simp
  · show _ ∧ _
    simp only [Nm.val, Nat.mul_zero, Nat.add_zero]
    have := hv.out
    omega
  · exact hb3.alloc hb3.size _
theorem divOk_one : DivOk 1 := by
  intro A B X Y n m w hx hy hxd hyd hXl hYl hn hm0 hm ht
  rcases Nat.lt_or_ge n m with h | h
  · exact divide_less A B X Y n m w hx hxd hXl hYl hn ht h
  · exact divide_one A B X Y n m w hx hy hxd hyd hXl hYl hn (by omega) ht (by omega)
end Go.Proofs.YtaiceebhifecbaaDoor

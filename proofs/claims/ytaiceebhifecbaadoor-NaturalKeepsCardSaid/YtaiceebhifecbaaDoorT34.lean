/-
  Contract of the reference's small. Conditions: numbers of at most 390 digits, a factor and a summand below 2^32.
-/
import Derived.Test.YtaiceebhifecbaaDoorT33
import Derived.Test.YtaiceebhifecbaaDoorReg2
namespace Go.Proofs.YtaiceebhifecbaaDoor
open Go.RowKit
theorem c_refOf (n : Nat) (hn : n < 18446744073709551616) : ∀ v w, (Fact.eq (.int .u64 (n : Int))).holds v w → Calls Tryd.prog 62 #[v] w (Ret (Fact.num (Nm.nat n)) w) := by
  rintro v w rfl
  exact (refOf_any n w hn).mono fun e w' ⟨A, c, he, hc, hf, hb⟩ => ⟨_, he, hb, num_of_fr hf hc (Nm.dig_nat _) (Nat.le_trans (Nm.nat_len (k := 2) (by omega)) (by decide))⟩
/-- What is known of a region's slots. -/
def smallF (xs : List Nat) (k d : Nat) (t : Nat) : Fact := (([(1, Fact.eq (.int .u64 (k : Int))), (2, Fact.eq (.int .u64 (d : Int))), (3, Fact.var xs), (7, Fact.num xs), (8, Fact.eq (.int .u64 (k : Int))), (9, Fact.num (Nm.nat k)), (10, Fact.num (Nm.nat (Nm.val xs * k))), (11, Fact.eq (.int .u64 (d : Int))), (12, Fact.num (Nm.nat d)), (13, Fact.num (Nm.nat (Nm.val xs * k + d)))] : List (Nat × Fact)).lookup t).getD Fact.any
theorem small_len {xs : List Nat} {k d n : Nat} (hx : Nm.Dig xs) (hn : xs.length ≤ n) (hk : k < 4294967296) (hd : d < 4294967296) : (Nm.nat (Nm.val xs * k)).length ≤ n + 1 ∧ (Nm.nat (Nm.val xs * k + d)).length ≤ n + 1 := by
  have h1 : Nm.val xs < 4294967296 ^ n := Nat.lt_of_lt_of_le (Nm.val_lt hx) (Nat.pow_le_pow_right (by omega) hn)
  have h2 : Nm.val xs * k + d < 4294967296 ^ (n + 1) := by
    have h3 : Nm.val xs * k ≤ Nm.val xs * 4294967295 := Nat.mul_le_mul_left _ (by omega)
    rw [Nat.pow_succ]
    omega
  exact ⟨Nm.nat_len (by omega), Nm.nat_len h2⟩
set_option maxRecDepth 100000 in
set_option maxHeartbeats 1000000 in
theorem small_n {w : World} {A : Option Addr} {n c : Nat} {xs : List Nat} (hx : Num w A n c xs) (hn : n ≤ 390) (k d : Nat) (hk : Hid (k < 4294967296)) (hd : Hid (d < 4294967296)) (rs : List Nat) (hr : Nm.nat (Nm.val xs * k + d) = rs) :
    Calls Tryd.prog 53 #[nt A n c, .int .u64 (k : Int), .int .u64 (d : Int)] w fun e w' => ∃ A' c', e = .returned (nt A' rs.length c') ∧ Num w' A' rs.length c' rs ∧ Below w.heap.size w w' := by
  subst hr
  obtain rfl := hx.len
  have h1 := Lib.hid (small_len (d := d) hx.dig hn hk.out hd.out).1
  have h2 := Lib.hid (small_len hx.dig hn hk.out hd.out).2
  go_enter Tryd.func53, Tryd.ntmps53
  go_wp2_with fail
  have vx := (Var.new hx).below (one _ (Obj.cells #[Value.slice none 0 0] 24))
  have hb1 := two w (Obj.cells #[Value.slice A xs.length c] 24) (Obj.cells #[Value.slice none 0 0] 24)
  generalize hw1 : (w.alloc (Obj.cells #[Value.slice A xs.length c] 24)).alloc (Obj.cells #[Value.slice none 0 0] 24) = w1 at vx hb1 ⊢
  have hs1 : w1.heap.size = w.heap.size + 1 + 1 := by rw [← hw1]; simp
  have hcell1 : w1.cell? ⟨w.heap.size + 1, 0, none⟩ = some (.slice none 0 0) := by rw [← hw1]; exact new_cell _ _ _ _ (by simp)
  have hfz1 : w1.frozen? ⟨w.heap.size + 1, 0, none⟩ = false := by rw [← hw1]; exact new_soft _ _ _ _ (by simp)
  clear hw1
  refine wp_region_then (by kernel_rfl) (smallF xs k d) [3, 1, 2] 14 7 [7, 8, 9, 10, 11, 12, 13] rfl (by kernel_rfl) (by kernel_rfl) (by decide) (by kernel_rfl) ?_ ?_ ?_
  · intro t ht
    simp only [List.mem_cons, List.not_mem_nil, or_false] at ht
    rcases ht with rfl | rfl | rfl
    · exact ⟨_, _, _, rfl, vx⟩
    · rfl
    · rfl
  · refine List.forall_mem_cons.2 ⟨ob_load 3 7 xs rfl rfl (by first | exact .inl rfl | exact .inr ⟨_, _, _, rfl, rfl, by kernel_rfl, by decide, rfl⟩) (by kernel_rfl) rfl rfl, ?_⟩
    refine List.forall_mem_cons.2 ⟨ob_copy 1 8 (.inl rfl) rfl (by first | exact .inl rfl | exact .inr ⟨_, _, _, rfl, rfl, by kernel_rfl, by decide, rfl⟩) (by kernel_rfl) rfl, ?_⟩
    refine List.forall_mem_cons.2 ⟨ob_call1 62 8 9 _ rfl rfl (by first | exact .inl rfl | exact .inr ⟨_, _, _, rfl, rfl, by kernel_rfl, by decide, rfl⟩) (by kernel_rfl) (by kernel_rfl) (c_refOf k (by have := hk.out; omega)), ?_⟩
    refine List.forall_mem_cons.2 ⟨ob_call2 22 7 9 10 _ rfl rfl (by first | exact .inl rfl | exact .inr ⟨_, _, _, rfl, rfl, by kernel_rfl, by decide, rfl⟩) (by kernel_rfl) (by kernel_rfl) (by kernel_rfl) (c_refMul xs (Nm.nat k) (Nm.nat (Nm.val xs * k)) (by rw [Nm.val_nat]) (by have := h1.out; omega)), ?_⟩
    refine List.forall_mem_cons.2 ⟨ob_copy 2 11 (.inl rfl) rfl (by first | exact .inl rfl | exact .inr ⟨_, _, _, rfl, rfl, by kernel_rfl, by decide, rfl⟩) (by kernel_rfl) rfl, ?_⟩
    refine List.forall_mem_cons.2 ⟨ob_call1 62 11 12 _ rfl rfl (by first | exact .inl rfl | exact .inr ⟨_, _, _, rfl, rfl, by kernel_rfl, by decide, rfl⟩) (by kernel_rfl) (by kernel_rfl) (c_refOf d (by have := hd.out; omega)), ?_⟩
    refine List.forall_mem_cons.2 ⟨ob_call2 20 10 12 13 _ rfl rfl (by first | exact .inl rfl | exact .inr ⟨_, _, _, rfl, rfl, by kernel_rfl, by decide, rfl⟩) (by kernel_rfl) (by kernel_rfl) (by kernel_rfl) (c_refAdd (Nm.nat (Nm.val xs * k)) (Nm.nat d) (Nm.nat (Nm.val xs * k + d)) (by rw [Nm.val_nat, Nm.val_nat]) (by have := h2.out; omega)), ?_⟩
    exact fun _ h => absurd h List.not_mem_nil
  intro vv wv hvv hbv
  obtain ⟨Ar, cr, hv13, nr⟩ := hvv 13 (by decide)
  simp only [lay, List.foldl_cons, List.foldl_nil, List.setIfInBounds_toArray, List.set_cons_succ, List.set_cons_zero, List.drop_succ_cons, List.drop_zero, hv13]
  obtain ⟨k1, k2⟩ := seen hbv
  have hcr : wv.cell? ⟨w.heap.size + 1, 0, none⟩ = some (.slice none 0 0) := by rw [k1 _ _ (by omega)]; exact hcell1
  have hfr : wv.frozen? ⟨w.heap.size + 1, 0, none⟩ = false := by rw [k2 _ _ (by omega)]; exact hfz1
  clear k1 k2
  go_wp2_with fail
  refine bodyPost_ret (v := nt Ar (Nm.nat (Nm.val xs * k + d)).length cr) (by simp [results, Tryd.results53, go_sem, hcr]) rfl ⟨Ar, cr, rfl, ⟨nr.rd.setCell hcr (by simp), rfl, nr.cap, nr.dig, nr.small⟩, ?_⟩
  exact (up hb1 hbv).setCell (by show w.heap.size ≤ w.heap.size + 1; omega) _
end Go.Proofs.YtaiceebhifecbaaDoor

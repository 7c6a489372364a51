/-
  What was written is read as it was: the mathematics, and what an item is written as. No conditions but Go's own bounds.
-/
import Derived.Test.YtclbdlbdnnhfmaaWm
import Derived.Deep.Slices
import Derived.Deep.RegionWith
namespace Go.Proofs.Ytclbdlbdnnhfmaa
open Go.RowKit
theorem pow_le19 {i j : Nat} (h : i ≤ j) : 128 ^ i ≤ 128 ^ j := Nat.pow_le_pow_right (by decide) h
theorem dv_app (r : List UInt8) : ∀ (n i m : Nat), n * 128 ^ i + m < 18446744073709551616 → m < 128 ^ i → i ≤ 9 → (0 < i → n ≠ 0) → dv i m (uv n ++ r) = (m + n * 128 ^ i, i + (uv n).length, 0) := by
  intro n
  induction n using Nat.strongRecOn with
  | _ n ih =>
    intro i m h1 h2 h3 h4
    by_cases hn : n < 128
    · rw [uv_small hn, List.singleton_append, dv, of_toNat (by omega)]
      have h9 : ¬ (i = 9 ∧ 1 < n) := by
        rintro ⟨rfl, h⟩
        have := Nat.mul_le_mul_right (128 ^ 9) (show 2 ≤ n by omega)
        omega
      rw [if_neg h9, if_neg (by omega), if_neg (fun h => h4 h.2 h.1), Nat.mod_eq_of_lt hn]
      rfl
    · have h8 : i ≤ 8 := by
        rcases Nat.lt_or_ge i 9 with h | h
        · omega
        · obtain rfl : i = 9 := by omega
          have := Nat.mul_le_mul_right (128 ^ 9) (show 128 ≤ n by omega)
          omega
      rw [uv_big hn, List.cons_append, dv, of_toNat (by omega), if_neg (by omega), if_pos (by omega), show (128 + n % 128) % 128 = n % 128 by omega]
      have e : n / 128 * 128 ^ (i + 1) + (m + n % 128 * 128 ^ i) = m + n * 128 ^ i := by
        rw [Nat.pow_succ, Nat.mul_comm (128 ^ i) 128, ← Nat.mul_assoc]
        have : n * 128 ^ i = n / 128 * 128 * 128 ^ i + n % 128 * 128 ^ i := by rw [← Nat.add_mul]; congr 1; omega
        omega
      rw [ih (n / 128) (by omega) (i + 1) _ (by rw [e]; omega) (or_lt2 m _ i h2 (by omega)) (by omega) (fun _ => by omega), List.length_cons]
      congr 1
      · omega
      · congr 1; omega
theorem dv_front (n : Nat) (r : List UInt8) (h : n ≤ 18446744073709551615) : dv 0 0 (uv n ++ r) = (n, (uv n).length, 0) := by
  have := dv_app r n 0 0 (by omega) (by decide) (by decide) (fun h => absurd h (by decide))
  rw [this]
  simp
theorem front_U {n : Nat} {r : List UInt8} (h : n ≤ 18446744073709551615) : nU (uv n ++ r) = n ∧ eU (uv n ++ r) = 0 ∧ rU (uv n ++ r) = r := by
  have d := dv_front n r h
  have e : eU (uv n ++ r) = 0 := by unfold eU; rw [d]
  refine ⟨by unfold nU; rw [d], e, ?_⟩
  unfold rU
  rw [if_pos e, d]
  simp
theorem front_S {M : Int} {n : Nat} {r : List UInt8} (h : n ≤ 18446744073709551615) (hM : (n : Int) ≤ M) (c : Nat) : nS M (uv n ++ r) = n ∧ eS M c (uv n ++ r) = 0 ∧ rS M (uv n ++ r) = r := by
  obtain ⟨h1, h2, h3⟩ := front_U (r := r) h
  have e : ∀ c, eS M c (uv n ++ r) = 0 := fun c => by unfold eS; rw [if_neg (by omega), if_neg (by omega)]
  exact ⟨by unfold nS; rw [if_pos (e 1), h1], e c, by unfold rS; rw [if_pos (e 1), h3]⟩
theorem front_T {M : Int} {s r : List UInt8} (h : s.length ≤ 100000) (hM : (s.length : Int) ≤ M) : tT M (tv s ++ r) = s ∧ eT M (tv s ++ r) = 0 ∧ rT M (tv s ++ r) = r := by
  have ht : tv s ++ r = uv s.length ++ (s ++ r) := by unfold tv; rw [List.append_assoc]
  rw [ht]
  obtain ⟨h1, h2, h3⟩ := front_U (n := s.length) (r := s ++ r) (by omega)
  obtain ⟨_, h4, _⟩ := front_S (M := M) (n := s.length) (r := s ++ r) (by omega) hM 3
  have e : eT M (uv s.length ++ (s ++ r)) = 0 := by unfold eT; rw [if_neg (by omega), if_neg (by rw [h3, h1, List.length_append]; omega)]
  refine ⟨?_, e, ?_⟩
  · unfold tT; rw [if_pos e, h3, h1]; simp
  · unfold rT; rw [if_pos e, h3, h1]; simp
/-- An item: its kind, number, integer, string. -/
structure It where
  k : Int
  n : Nat
  m : Int
  s : List UInt8
def It.ok (x : It) : Prop := x.n ≤ 18446744073709551615 ∧ -9223372036854775808 ≤ x.m ∧ x.m ≤ 9223372036854775807 ∧ x.s.length ≤ 9223372036854775807
/-- What it is written as. -/
def It.enc (x : It) : List UInt8 := if x.k = 0 then uv x.n else if x.k = 1 then uv (zz x.m) else if x.k = 2 then uv (x.n % 1000) else tv x.s
def It.val (x : It) : Value := .agg #[.int .i64 x.k, .int .u64 (x.n : Int), .int .i64 x.m, .string (bs x.s)]
/-- What the first i items are written as. -/
def cat (q : Nat → It) : Nat → List UInt8
  | 0 => []
  | i + 1 => cat q i ++ (q i).enc
theorem cat_split (q : Nat → It) (n : Nat) : ∀ j, j ≤ n → ∃ r, cat q n = cat q j ++ r := by
  induction n with
  | zero => intro j hj; obtain rfl : j = 0 := (by omega); exact ⟨[], by simp⟩
  | succ n ih =>
    intro j hj
    by_cases h : j = n + 1
    · subst h; exact ⟨[], by simp⟩
    · obtain ⟨r, hr⟩ := ih j (by omega)
      exact ⟨r ++ (q n).enc, by rw [cat, hr, List.append_assoc]⟩
theorem cat_next {q : Nat → It} {n j : Nat} {r : List UInt8} (hj : j < n) (h : cat q n = cat q j ++ r) : ∃ r', r = (q j).enc ++ r' ∧ cat q n = cat q (j + 1) ++ r' := by
  obtain ⟨r', hr⟩ := cat_split q n (j + 1) hj
  refine ⟨r', ?_, hr⟩
  have h2 := h.symm.trans hr
  rw [cat, List.append_assoc] at h2
  exact List.append_cancel_left h2
theorem cat_done {q : Nat → It} {n : Nat} {r : List UInt8} (h : cat q n = cat q n ++ r) : r = [] := by
  have : cat q n ++ [] = cat q n ++ r := by rw [List.append_nil]; exact h
  exact (List.append_cancel_left this).symm
theorem enc_len {x : It} (h : x.ok) (hs : x.s.length ≤ 100) : x.enc.length ≤ 110 := by
  have hz := zz_le h.2.1 h.2.2.1
  unfold It.enc
  split
  · exact Nat.le_trans (uv_len10 h.1) (by decide)
  split
  · exact Nat.le_trans (uv_len10 hz) (by decide)
  split
  · exact Nat.le_trans (uv_len10 (by omega)) (by decide)
  · unfold tv
    rw [List.length_append]
    have := uv_len10 (n := x.s.length) (by omega)
    omega
set_option maxRecDepth 100000 in
set_option maxHeartbeats 1000000 in
theorem written_any (x : It) (w : World) (h : x.ok) (hs : x.s.length ≤ 100) :
    Calls Try.prog 31 #[x.val] w (Ib (.string (bs x.enc)) w) := by
  obtain ⟨K, N, M, S⟩ := x
  obtain ⟨h1, h2, h3, h4⟩ := h
  have h1 : N ≤ 18446744073709551615 := h1
  have h2 : -9223372036854775808 ≤ M := h2
  have h3 : M ≤ 9223372036854775807 := h3
  have hs : S.length ≤ 100 := hs
  show Calls Try.prog 31 #[.agg #[.int .i64 K, .int .u64 (N : Int), .int .i64 M, .string (bs S)]] w _
  have c0 := fun w => uint_any N w h1
  have c1 := fun w => int_any M w h2 h3
  have c2 : ∀ w, Calls Try.prog 11 #[.int .u64 ((N : Int) % 1000)] w (Ib (.string (bs (uv (N % 1000)))) w) := fun w => by
    have := uint_any (N % 1000) w (by omega)
    rwa [show ((N % 1000 : Nat) : Int) = (N : Int) % 1000 by omega] at this
  have c3 := fun w => text_any S w (by omega)
  by_cases k0 : K = 0
  · subst k0
    rw [show It.enc ⟨0, N, M, S⟩ = uv N by rfl]
    generalize bs (uv N) = y at *
    clear c1 c2 c3 h2 h3 h4 hs
    go_enter Try.func31, Try.ntmps31
    go_wp2_with fail
    refine (c0 _).mono ?_
    rintro e w1 ⟨rfl, hb⟩
    go_wp2_with fail
    go_ret
    exact ⟨rfl, Below.next (one _ _) hb⟩
  by_cases k1 : K = 1
  · subst k1
    rw [show It.enc ⟨1, N, M, S⟩ = uv (zz M) by rfl]
    generalize bs (uv (zz M)) = y at *
    clear c0 c2 c3 h2 h3 h4 hs h1 k0
    go_enter Try.func31, Try.ntmps31
    go_wp2_with fail
    refine (c1 _).mono ?_
    rintro e w1 ⟨rfl, hb⟩
    go_wp2_with fail
    go_ret
    exact ⟨rfl, Below.next (one _ _) hb⟩
  by_cases k2 : K = 2
  · subst k2
    rw [show It.enc ⟨2, N, M, S⟩ = uv (N % 1000) by rfl]
    generalize bs (uv (N % 1000)) = y at *
    clear c0 c1 c3 h2 h3 h4 hs k0 k1
    go_enter Try.func31, Try.ntmps31
    go_wp2_with fail
    refine (c2 _).mono ?_
    rintro e w1 ⟨rfl, hb⟩
    go_wp2_with fail
    go_ret
    exact ⟨rfl, Below.next (one _ _) hb⟩
  · rw [show It.enc ⟨K, N, M, S⟩ = tv S by unfold It.enc; rw [if_neg k0, if_neg k1, if_neg k2]]
    have d0 : (K == 0) = false := by simpa using k0
    have d1 : (K == 1) = false := by simpa using k1
    have d2 : (K == 2) = false := by simpa using k2
    generalize bs (tv S) = y at *
    generalize bs S = z at *
    clear c0 c1 c2 h1 h2 h3 h4 hs k0 k1 k2
    go_enter Try.func31, Try.ntmps31
    go_wp2_with fail
    refine (c3 _).mono ?_
    rintro e w1 ⟨rfl, hb⟩
    go_wp2_with fail
    go_ret
    exact ⟨rfl, Below.next (one _ _) hb⟩
/-- The elements of the slice at A are the items q. -/
def Its (w : World) (A : Option Addr) (n : Nat) (q : Nat → It) : Prop := n = 0 ∨ ∃ a : Addr, A = some a ∧ a.block < w.heap.size ∧ ∀ i, i < n → (q i).ok ∧
  w.cell? ((a.add (i * 4)).add 0) = some (.int .i64 (q i).k) ∧ w.cell? ((a.add (i * 4)).add 1) = some (.int .u64 ((q i).n : Int)) ∧ w.cell? ((a.add (i * 4)).add 2) = some (.int .i64 (q i).m) ∧ w.cell? ((a.add (i * 4)).add 3) = some (.string (bs (q i).s))
theorem add_block (a : Addr) (i : Nat) : (a.add i).block = a.block := by unfold Addr.add; split <;> rfl
theorem keepCell {w w' : World} {g b o : Nat} {v : Value} (hg : w.grownBy w' (some g)) (hlt : b < w.heap.size) (hne : b ≠ g) (h : w.cell? ⟨b, o, none⟩ = some v) : w'.cell? ⟨b, o, none⟩ = some v :=
  (World.cell?_of_block (a := ⟨b, o, none⟩) (hg.block b hlt (fun k => hne (Option.some.inj k)))).trans h
set_option maxRecDepth 100000 in
set_option maxHeartbeats 2000000 in
theorem law_roundtrip (A : Option Addr) (n c : Nat) (q : Nat → It) (w : World) (hn2 : n ≤ 9223372036854775807) (hA : Its w A n q) :
    Calls Try.prog 5 #[.slice A n c] w (Ib (.bool true) w) := by
  by_cases hn : 40 < n
  · clear hA
    go_enter Try.func5, Try.ntmps5
    go_wp2_with (go_at_call 10; refine (awake_any _).mono ?_; rintro e w5 ⟨rfl, h5⟩)
    go_ret
    exact ⟨by rfl, h5⟩
  have hn : n ≤ 40 := by omega
  clear hn2
  have HA := Lib.hid hA
  clear hA
  have hz : (⟨#[]⟩ : ByteArray) = bs [] := rfl
  go_enter Try.func5, Try.ntmps5
  go_wp2_with fail
  go_loopw [3, 4] (fun u v wr => ∃ i : Nat, i ≤ n ∧ v = .int .i64 (i : Int) ∧ u = .string (bs (cat q i)) ∧ Below w.heap.size w wr ∧ Hid ((cat q i).length ≤ 110 * i ∧ ∀ j, j < i → (q j).s.length ≤ 100)) (fun _ v _ => n - (intOf v).toNat)
  case atStart => exact ⟨0, by omega, rfl, rfl, Below.refl _ _, Lib.hid ⟨by simp [cat], fun j hj => by omega⟩⟩
  case round =>
    obtain ⟨i, hi, rfl, rfl, hb, hI⟩ := hrel
    clear hz
    by_cases hin : i < n
    · rcases HA.out with h0 | ⟨a, rfl, hab, hc⟩
      · omega
      obtain ⟨ok, c0, c1, c2, c3⟩ := hc i hin
      have ad : ∀ j, ((a.add (i * 4)).add j).block = a.block := fun j => by rw [add_block, add_block]
      have c0 := (hb.cell (p := (a.add (i * 4)).add 0) (by rw [ad]; exact hab)).trans c0
      have c1 := (hb.cell (p := (a.add (i * 4)).add 1) (by rw [ad]; exact hab)).trans c1
      have c2 := (hb.cell (p := (a.add (i * 4)).add 2) (by rw [ad]; exact hab)).trans c2
      have c3 := (hb.cell (p := (a.add (i * 4)).add 3) (by rw [ad]; exact hab)).trans c3
      have c0 : wr.cell? (a.add (i * 4)) = some (.int .i64 (q i).k) := c0
      have c1 : wr.cell? ⟨(a.add (i * 4)).block, (a.add (i * 4)).off + 1, none⟩ = some (.int .u64 ((q i).n : Int)) := c1
      have c2 : wr.cell? ⟨(a.add (i * 4)).block, (a.add (i * 4)).off + 2, none⟩ = some (.int .i64 (q i).m) := c2
      have c3 : wr.cell? ⟨(a.add (i * 4)).block, (a.add (i * 4)).off + 3, none⟩ = some (.string (bs (q i).s)) := c3
      have hsz : (bs (q i).s).size = (q i).s.length := rfl
      by_cases hs : 100 < (q i).s.length
      · clear hc HA ok hI
        go_wp2_with (go_at_call 10; refine (awake_any _).mono ?_; rintro e w5 ⟨rfl, h5⟩)
        go_ret
        exact ⟨by rfl, Below.next hb h5⟩
      · have hs : (q i).s.length ≤ 100 := by omega
        have cW := fun w => written_any (q i) w ok hs
        have hel := enc_len ok hs
        have hcl := hI.out.1
        have E := Lib.hid (show (cat q (i + 1)).length ≤ 110 * (i + 1) ∧ ∀ j, j < i + 1 → (q j).s.length ≤ 100 from ⟨by rw [cat, List.length_append]; omega, fun j hj => by
          by_cases h : j = i
          · rw [h]; exact hs
          · exact hI.out.2 j (by omega)⟩)
        have k1 : bs (cat q i) ++ bs (q i).enc = bs (cat q (i + 1)) := bs_append _ _
        have k2 : (bs (cat q i)).size = (cat q i).length := rfl
        have k3 : (bs (q i).enc).size = (q i).enc.length := rfl
        unfold It.val at cW
        clear hc ok hI
        go_wp2_with fail
        refine (cW _).mono ?_
        rintro e w2 ⟨rfl, h2⟩
        have hb2 := Below.next hb h2
        go_wp2_with fail
        go_roundw
        case rel => exact ⟨i + 1, by omega, by go_num, rfl, hb2, E⟩
        case measure => simp [intOf]; omega
    · obtain rfl : i = n := by omega
      have hcl := hI.out.1
      have hsm := hI.out.2
      have cN := fun w => new_any (cat q i) w
      clear hI hin
      go_wp2_with fail
      refine (cN _).mono ?_
      rintro e w1 ⟨g, rfl, hg, hb1, R1⟩
      have hg : w.heap.size ≤ g := by have := hb.size; omega
      have hb1 := Below.next hb hb1
      clear hb cN
      have HS := Lib.hid hsm
      clear hsm
      go_wp2_with fail
      go_loopw [6] (fun v wr => ∃ (j : Nat) (r : List UInt8), j ≤ i ∧ v = .int .i64 (j : Int) ∧ Rdr wr g r 0 ∧ Below w.heap.size w wr ∧ r.length ≤ 110 * i ∧ Hid (cat q i = cat q j ++ r)) (fun v _ => i - (intOf v).toNat)
      case atStart => exact ⟨0, cat q i, by omega, rfl, R1, hb1, hcl, Lib.hid rfl⟩
      case round =>
        clear R1 hb1 hcl
        obtain ⟨j, r, hj, rfl, R, hb, hrl, hI⟩ := hrel
        by_cases hji : j < i
        · rcases HA.out with h0 | ⟨a, rfl, hab, hc⟩
          · omega
          obtain ⟨ok, b0, b1, b2, b3⟩ := hc j hji
          have ad : ∀ k, ((a.add (j * 4)).add k).block = a.block := fun k => by rw [add_block, add_block]
          replace b0 := (hb.cell (p := (a.add (j * 4)).add 0) (by rw [ad]; exact hab)).trans b0
          replace b1 := (hb.cell (p := (a.add (j * 4)).add 1) (by rw [ad]; exact hab)).trans b1
          replace b2 := (hb.cell (p := (a.add (j * 4)).add 2) (by rw [ad]; exact hab)).trans b2
          replace b3 := (hb.cell (p := (a.add (j * 4)).add 3) (by rw [ad]; exact hab)).trans b3
          have c0 : wr.cell? (a.add (j * 4)) = some (.int .i64 (q j).k) := b0
          have c1 : wr.cell? ⟨(a.add (j * 4)).block, (a.add (j * 4)).off + 1, none⟩ = some (.int .u64 ((q j).n : Int)) := b1
          have c2 : wr.cell? ⟨(a.add (j * 4)).block, (a.add (j * 4)).off + 2, none⟩ = some (.int .i64 (q j).m) := b2
          have c3 : wr.cell? ⟨(a.add (j * 4)).block, (a.add (j * 4)).off + 3, none⟩ = some (.string (bs (q j).s)) := b3
          clear b0 b1 b2 b3
          obtain ⟨r', hr, hcat⟩ := cat_next hji hI.out
          have hs := HS.out j hji
          have E := Lib.hid hcat
          have hrl2 : r'.length ≤ 110 * i := by rw [hr, List.length_append] at hrl; omega
          generalize q j = x at c0 c1 c2 c3 hr hs ok
          obtain ⟨K, N, M, S⟩ := x
          obtain ⟨o1, o2, o3, o4⟩ := ok
          have o1 : N ≤ 18446744073709551615 := o1
          have o2 : -9223372036854775808 ≤ M := o2
          have o3 : M ≤ 9223372036854775807 := o3
          have hs : S.length ≤ 100 := hs
          have c0 : wr.cell? (a.add (j * 4)) = some (.int .i64 K) := c0
          have c1 : wr.cell? ⟨(a.add (j * 4)).block, (a.add (j * 4)).off + 1, none⟩ = some (.int .u64 (N : Int)) := c1
          have c2 : wr.cell? ⟨(a.add (j * 4)).block, (a.add (j * 4)).off + 2, none⟩ = some (.int .i64 M) := c2
          have c3 : wr.cell? ⟨(a.add (j * 4)).block, (a.add (j * 4)).off + 3, none⟩ = some (.string (bs S)) := c3
          have hrl3 : r.length ≤ 9223372036854775000 := by omega
          clear hI hcat hc HA o4 ad hrl
          by_cases k0 : K = 0
          · subst k0
            replace hr : r = uv N ++ r' := hr
            obtain ⟨f1, f2, f3⟩ := front_U (r := r') o1
            have cR := fun w h => ir_cast (v' := .int .u64 (N : Int)) (rUint_any g r 0 w hrl3 h) (by rw [if_pos rfl, hr, f1]) (show aL 0 (eU r) r (rU r) = r' by rw [hr, f2, f3]; rfl) (show aE 0 (eU r) = 0 by rw [hr, f2]; rfl)
            go_wp2_with fail
            have R1 := R.next (one wr (Obj.cells #[.int .i64 0, .int .u64 (N : Int), .int .i64 M, .string (bs S)] 55))
            have hbW := Below.next hb (one wr (Obj.cells #[.int .i64 0, .int .u64 (N : Int), .int .i64 M, .string (bs S)] 55))
            have X1 : (wr.alloc (Obj.cells #[.int .i64 0, .int .u64 (N : Int), .int .i64 M, .string (bs S)] 55)).cell? ⟨wr.heap.size, 1, none⟩ = some (.int .u64 (N : Int)) := by simp
            have hlt : wr.heap.size < (wr.alloc (Obj.cells #[.int .i64 0, .int .u64 (N : Int), .int .i64 M, .string (bs S)] 55)).heap.size := by simp
            have hne : wr.heap.size ≠ g := by have := R.lt; omega
            generalize wr.alloc (Obj.cells #[.int .i64 0, .int .u64 (N : Int), .int .i64 M, .string (bs S)] 55) = W at *
            generalize wr.heap.size = b at *
            clear R hb c0 c1 c2 c3 f1 f2 f3 hrl3
            have Rd : Rdr W.drew g r 0 := R1.drewN 1
            have Xd : W.drew.cell? ⟨b, 1, none⟩ = some (.int .u64 (N : Int)) := X1
            have hld : b < W.drew.heap.size := hlt
            have hbd : Below w.heap.size w W.drew := below_drewN hbW 1
            clear R1 X1 hlt hbW
            go_region_with (go_at_call 19; refine (cR _ Rd).mono ?_; rintro e w2 ⟨rfl, hg2, R2⟩; have X2 := keepCell hg2 hld hne Xd)
            all_goals
              have hb2 := Below.read hbd hg2 hg
              go_wp2_with (first | (go_at_call 26; refine (left_any _ _ _ _ (by assumption)).mono ?_; rintro e w' ⟨rfl, rfl⟩) | (go_at_call 28; refine (err_any _ _ _ _ (by assumption)).mono ?_; rintro e w' ⟨rfl, rfl⟩))
              go_roundw
              case rel => exact ⟨j + 1, r', by omega, by go_num, R2, hb2, hrl2, E⟩
              case measure => simp [intOf]; omega
          by_cases k1 : K = 1
          · subst k1
            replace hr : r = uv (zz M) ++ r' := hr
            obtain ⟨f1, f2, f3⟩ := front_U (r := r') (zz_le o2 o3)
            have cR := fun w h => ir_cast (v' := .int .i64 M) (rInt_any g r 0 w hrl3 h) (by rw [if_pos rfl, hr, f1, uz_zz]) (show aL 0 (eU r) r (rU r) = r' by rw [hr, f2, f3]; rfl) (show aE 0 (eU r) = 0 by rw [hr, f2]; rfl)
            go_wp2_with fail
            have R1 := R.next (one wr (Obj.cells #[.int .i64 1, .int .u64 (N : Int), .int .i64 M, .string (bs S)] 55))
            have hbW := Below.next hb (one wr (Obj.cells #[.int .i64 1, .int .u64 (N : Int), .int .i64 M, .string (bs S)] 55))
            have X1 : (wr.alloc (Obj.cells #[.int .i64 1, .int .u64 (N : Int), .int .i64 M, .string (bs S)] 55)).cell? ⟨wr.heap.size, 2, none⟩ = some (.int .i64 M) := by simp
            have hlt : wr.heap.size < (wr.alloc (Obj.cells #[.int .i64 1, .int .u64 (N : Int), .int .i64 M, .string (bs S)] 55)).heap.size := by simp
            have hne : wr.heap.size ≠ g := by have := R.lt; omega
            generalize wr.alloc (Obj.cells #[.int .i64 1, .int .u64 (N : Int), .int .i64 M, .string (bs S)] 55) = W at *
            generalize wr.heap.size = b at *
            clear R hb c0 c1 c2 c3 f1 f2 f3 hrl3
            have Rd : Rdr W.drew g r 0 := R1.drewN 1
            have Xd : W.drew.cell? ⟨b, 2, none⟩ = some (.int .i64 M) := X1
            have hld : b < W.drew.heap.size := hlt
            have hbd : Below w.heap.size w W.drew := below_drewN hbW 1
            clear R1 X1 hlt hbW
            go_region_with (go_at_call 21; refine (cR _ Rd).mono ?_; rintro e w2 ⟨rfl, hg2, R2⟩; have X2 := keepCell hg2 hld hne Xd)
            all_goals
              have hb2 := Below.read hbd hg2 hg
              go_wp2_with (first | (go_at_call 26; refine (left_any _ _ _ _ (by assumption)).mono ?_; rintro e w' ⟨rfl, rfl⟩) | (go_at_call 28; refine (err_any _ _ _ _ (by assumption)).mono ?_; rintro e w' ⟨rfl, rfl⟩))
              go_roundw
              case rel => exact ⟨j + 1, r', by omega, by go_num, R2, hb2, hrl2, E⟩
              case measure => simp [intOf]; omega
          by_cases k2 : K = 2
          · subst k2
            replace hr : r = uv (N % 1000) ++ r' := hr
            obtain ⟨m1, hm1⟩ : ∃ m1, N % 1000 = m1 := ⟨_, rfl⟩
            have km : (N : Int) % 1000 = (m1 : Int) := by omega
            have kw : IntKind.i64.wrap (m1 : Int) = (m1 : Int) := IntWalk.i64_in _ (by omega)
            rw [hm1] at hr
            obtain ⟨f1, f2, f3⟩ := front_S (M := 999) (n := m1) (r := r') (by omega) (by omega) 4
            clear hm1
            have cR := fun w h => ir_cast (v' := .int .i64 (m1 : Int)) (rSmall_any g r 0 999 w hrl3 (by decide) (by decide) h) (by rw [if_pos rfl, hr, f1]) (show aL 0 (eS 999 4 r) r (rS 999 r) = r' by rw [hr, f2, f3]; rfl) (show aE 0 (eS 999 4 r) = 0 by rw [hr, f2]; rfl)
            clear hr
            go_wp2_with fail
            have R1 := R.next (one wr (Obj.cells #[.int .i64 2, .int .u64 (N : Int), .int .i64 M, .string (bs S)] 55))
            have hbW := Below.next hb (one wr (Obj.cells #[.int .i64 2, .int .u64 (N : Int), .int .i64 M, .string (bs S)] 55))
            have X1 : (wr.alloc (Obj.cells #[.int .i64 2, .int .u64 (N : Int), .int .i64 M, .string (bs S)] 55)).cell? ⟨wr.heap.size, 1, none⟩ = some (.int .u64 (N : Int)) := by simp
            have hlt : wr.heap.size < (wr.alloc (Obj.cells #[.int .i64 2, .int .u64 (N : Int), .int .i64 M, .string (bs S)] 55)).heap.size := by simp
            have hne : wr.heap.size ≠ g := by have := R.lt; omega
            generalize wr.alloc (Obj.cells #[.int .i64 2, .int .u64 (N : Int), .int .i64 M, .string (bs S)] 55) = W at *
            generalize wr.heap.size = b at *
            clear R hb c0 c1 c2 c3 f1 f2 f3 hrl3
            have Rd : Rdr W.drew g r 0 := R1.drewN 1
            have Xd : W.drew.cell? ⟨b, 1, none⟩ = some (.int .u64 (N : Int)) := X1
            have hld : b < W.drew.heap.size := hlt
            have hbd : Below w.heap.size w W.drew := below_drewN hbW 1
            clear R1 X1 hlt hbW
            go_region_with (go_at_call 23; refine (cR _ Rd).mono ?_; rintro e w2 ⟨rfl, hg2, R2⟩; have X2 := keepCell hg2 hld hne Xd)
            all_goals
              have hb2 := Below.read hbd hg2 hg
              go_wp2_with (first | (go_at_call 26; refine (left_any _ _ _ _ (by assumption)).mono ?_; rintro e w' ⟨rfl, rfl⟩) | (go_at_call 28; refine (err_any _ _ _ _ (by assumption)).mono ?_; rintro e w' ⟨rfl, rfl⟩))
              go_roundw
              case rel => exact ⟨j + 1, r', by omega, by go_num, R2, hb2, hrl2, E⟩
              case measure => simp [intOf]; omega
          · have hr2 : It.enc ⟨K, N, M, S⟩ = tv S := by unfold It.enc; rw [if_neg k0, if_neg k1, if_neg k2]
            have d0 : (K == 0) = false := by simpa using k0
            have d1 : (K == 1) = false := by simpa using k1
            have d2 : (K == 2) = false := by simpa using k2
            rw [hr2] at hr
            obtain ⟨f1, f2, f3⟩ := front_T (M := 100) (s := S) (r := r') (by omega) (by omega)
            clear k0 k1 k2 hr2
            have cR := fun w h => ir_cast (v' := .string (bs S)) (rText_any g r 0 100 w hrl3 (by decide) (by decide) h) (by rw [if_pos rfl, hr, f1]) (show aL 0 (eT 100 r) r (rT 100 r) = r' by rw [hr, f2, f3]; rfl) (show aE 0 (eT 100 r) = 0 by rw [hr, f2]; rfl)
            go_wp2_with fail
            have R1 := R.next (one wr (Obj.cells #[.int .i64 K, .int .u64 (N : Int), .int .i64 M, .string (bs S)] 55))
            have hbW := Below.next hb (one wr (Obj.cells #[.int .i64 K, .int .u64 (N : Int), .int .i64 M, .string (bs S)] 55))
            have X1 : (wr.alloc (Obj.cells #[.int .i64 K, .int .u64 (N : Int), .int .i64 M, .string (bs S)] 55)).cell? ⟨wr.heap.size, 3, none⟩ = some (.string (bs S)) := by simp
            have hlt : wr.heap.size < (wr.alloc (Obj.cells #[.int .i64 K, .int .u64 (N : Int), .int .i64 M, .string (bs S)] 55)).heap.size := by simp
            have hne : wr.heap.size ≠ g := by have := R.lt; omega
            generalize wr.alloc (Obj.cells #[.int .i64 K, .int .u64 (N : Int), .int .i64 M, .string (bs S)] 55) = W at *
            generalize wr.heap.size = b at *
            clear R hb c0 c1 c2 c3 f1 f2 f3 hrl3
            have Rd : Rdr W.drew g r 0 := R1.drewN 1
            have Xd : W.drew.cell? ⟨b, 3, none⟩ = some (.string (bs S)) := X1
            have hld : b < W.drew.heap.size := hlt
            have hbd : Below w.heap.size w W.drew := below_drewN hbW 1
            clear R1 X1 hlt hbW
            go_region_with (go_at_call 25; refine (cR _ Rd).mono ?_; rintro e w2 ⟨rfl, hg2, R2⟩; have X2 := keepCell hg2 hld hne Xd)
            all_goals
              have hb2 := Below.read hbd hg2 hg
              go_wp2_with (first | (go_at_call 26; refine (left_any _ _ _ _ (by assumption)).mono ?_; rintro e w' ⟨rfl, rfl⟩) | (go_at_call 28; refine (err_any _ _ _ _ (by assumption)).mono ?_; rintro e w' ⟨rfl, rfl⟩))
              go_roundw
              case rel => exact ⟨j + 1, r', by omega, by go_num, R2, hb2, hrl2, E⟩
              case measure => simp [intOf]; omega
        · obtain rfl : j = i := by omega
          obtain rfl := cat_done hI.out
          have hl0 : ([] : List UInt8).length = 0 := rfl
          clear hI HS HA
          have qN : ∀ w, Rdr w g [] 0 → Calls Try.prog 29 #[.pointer (some ⟨g, 0, none⟩)] w (Is (.int .i64 0) w) := fun w h => end_any g [] 0 w h
          have qL : ∀ w, Rdr w g [] 0 → Calls Try.prog 26 #[.pointer (some ⟨g, 0, none⟩)] w (Is (.int .i64 0) w) := fun w h => left_any g [] 0 w h
          go_wp2_with fail
          refine (qL _ R).mono ?_
          rintro e w' ⟨rfl, rfl⟩
          go_wp2_with fail
          refine (qN _ R).mono ?_
          rintro e w' ⟨rfl, rfl⟩
          go_wp2_with (go_at_call 10; refine (awake_any _).mono ?_; rintro e w5 ⟨rfl, h5⟩)
          go_ret
          exact ⟨by rfl, Below.next hb h5⟩
end Go.Proofs.Ytclbdlbdnnhfmaa

/-
  Contract of the reference's Bits. Conditions: numbers without leading zeros, of at most 400 digits.
-/
import Derived.Test.YtaiceebhifecbaaDoorT31
namespace Go.Proofs.YtaiceebhifecbaaDoor
open Go.RowKit
theorem Nm.blen_step {x b : Nat} (h : 0 < x) (hb : Nm.blen x = b) : Nm.blen (x / 2) + 1 = b := by rw [← hb, Nm.blen_half h]
set_option maxRecDepth 100000 in
set_option maxHeartbeats 1000000 in
theorem refBits_n {w : World} {A : Option Addr} {n c : Nat} {xs : List Nat} (hx : Num w A n c xs) (ht : Nm.tlen xs = n) (v : Nat) (hv : Nm.blen (Nm.val xs) = v) :
    Calls Tryd.prog 24 #[nt A n c] w fun e w' => e = .returned (.int .i64 (v : Int)) ∧ Below w.heap.size w w' := by
  have hl := hx.len
  have hsm := hx.small
  rcases Nat.eq_zero_or_pos n with h0 | h0
  · have hx0 : xs = [] := List.eq_nil_of_length_eq_zero (by omega)
    have hv0 : v = 0 := by rw [← hv, hx0]; decide
    subst hv0
    subst h0
    clear hv ht
    go_enter Tryd.func24, Tryd.ntmps24
    go_wp2_with fail
    go_ret
    exact ⟨rfl, one _ _⟩
  · obtain ⟨m, rfl⟩ : ∃ m, n = m + 1 := ⟨n - 1, by omega⟩
    obtain ⟨g, off, rfl, hr⟩ := (hx.rd.alloc (Obj.cells #[Value.slice A (m + 1) c] 24)).at_ (i := m) (by omega)
    have hck := hr m (by omega)
    have hnz := Nm.tlen_last xs m ht (by omega)
    obtain ⟨x, hxx⟩ : ∃ x, xs[m]'(by omega) = x := ⟨_, rfl⟩
    rw [hxx] at hck hnz
    have hxlt : x < 4294967296 := by rw [← hxx]; exact hx.dig.at_ (by omega)
    have hval : 32 * m + Nm.blen x = v := by
      have h1 := Nm.val_take_succ xs m (by omega)
      rw [List.take_of_length_le (by omega), hxx] at h1
      have h2 : Nm.val (xs.take m) < 4294967296 ^ m := by
        have := Nm.val_lt (hx.dig.take m)
        rwa [List.length_take, Nat.min_eq_left (by omega)] at this
      rw [← hv, h1, Nm.blen_top h2 (by omega)]
    have hbl := Nm.blen_lt (x := x) (k := 32) (by omega)
    have hv3 : v ≤ 13000 := by omega
    have Hval := Lib.hid hval
    have Hxlt := Lib.hid hxlt
    clear hr hxx hnz ht hv hval hx hl hxlt
    go_enter Tryd.func24, Tryd.ntmps24
    go_wp2_with fail
    go_loop [3, 4] (fun nv xv => ∃ y k : Nat, xv = .int .u32 (y : Int) ∧ nv = .int .i64 (k : Int) ∧ Hid (y < 4294967296) ∧ Hid (k + Nm.blen y = v) ∧ k ≤ 13000) (fun _ x => (intOf x).toNat)
    case atStart => exact ⟨x, 32 * m, rfl, by go_num, Hxlt, Hval, by omega⟩
    case round =>
      obtain ⟨y, k, rfl, rfl, hy, hk, hk3⟩ := hrel
      rcases Nat.eq_zero_or_pos y with hy0 | hy0
      · subst hy0
        have hfin : k = v := by have := hk.out; rwa [show Nm.blen 0 = 0 from rfl, Nat.add_zero] at this
        subst hfin
        clear hk
        go_wp2_with fail
        go_ret
        exact ⟨rfl, one _ _⟩
      · have hs := Nm.blen_step hy0 rfl
        have hk4 := hk.out
        have hk5 : k + 1 + Nm.blen (y / 2) = v := by omega
        have Hk5 := Lib.hid hk5
        clear hk4 hk5 hs
        go_wp2_with fail
        have hmod : (y : Int) / 2 % 4294967296 = ((y / 2 : Nat) : Int) := by have := hy.out; omega
        rw [hmod]
        refine ⟨⟨y / 2, k + 1, rfl, by go_num, ?_, Hk5, by have := Hk5.out; omega⟩, by simp [intOf]; omega⟩
        show _ < _
        have := hy.out
        omega
end Go.Proofs.YtaiceebhifecbaaDoor

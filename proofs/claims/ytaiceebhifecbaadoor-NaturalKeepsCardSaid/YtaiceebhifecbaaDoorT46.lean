/-
  Plain mathematics of long division, and what divideLong needs of memory. No conditions beyond those that each names.
-/
import Derived.Test.YtaiceebhifecbaaDoorT45
namespace Go.Proofs.YtaiceebhifecbaaDoor
open Go.RowKit
namespace Nm
theorem val_small {zs : List Nat} {n : Nat} (h : val zs < 4294967296 ^ n) : val (zs.take n) = val zs ∧ val (zs.drop n) = 0 := by
  rcases Nat.lt_or_ge zs.length n with h1 | h1
  · rw [List.take_of_length_le (by omega), List.drop_of_length_le (by omega)]
    exact ⟨rfl, rfl⟩
  · have h2 := val_split zs n h1
    rcases Nat.eq_zero_or_pos (val (zs.drop n)) with h3 | h3
    · rw [h3] at h2
      exact ⟨by omega, h3⟩
    · exfalso
      have h4 := Nat.mul_le_mul_left (4294967296 ^ n) h3
      omega
/-- The normalized divisor: its leading digit. -/
theorem top_norm {ys vs : List Nat} {n s x : Nat} (hyl : ys.length = n + 1) (hvl : vs.length = n + 1) (hvd : Dig vs) (hx : ys[n]'(by omega) = x) (hs : 2147483648 ≤ x * 2 ^ s) (hv : val vs = val ys * 2 ^ s) : 2147483648 ≤ vs[n]'(by omega) := by
  have h1 := val_take_succ ys n (by omega)
  have h2 := val_take_succ vs n (by omega)
  rw [List.take_of_length_le (by omega), hx] at h1
  rw [List.take_of_length_le (by omega)] at h2
  have h3 := val_lt (hvd.take n)
  rw [List.length_take, Nat.min_eq_left (by omega)] at h3
  obtain ⟨t, ht⟩ : ∃ t, vs[n]'(by omega) = t := ⟨_, rfl⟩
  rw [ht] at h2 ⊢
  rcases Nat.lt_or_ge t 2147483648 with h4 | h4
  · exfalso
    have h5 : val vs < 4294967296 ^ n * 2147483648 := by
      have h6 : 4294967296 ^ n * (t + 1) ≤ 4294967296 ^ n * 2147483648 := Nat.mul_le_mul_left _ h4
      rw [Nat.mul_succ] at h6
      omega
    have h7 : 4294967296 ^ n * x * 2 ^ s ≤ val ys * 2 ^ s := Nat.mul_le_mul_right _ (by omega)
    have h8 : 4294967296 ^ n * 2147483648 ≤ 4294967296 ^ n * (x * 2 ^ s) := Nat.mul_le_mul_left _ hs
    rw [← Nat.mul_assoc] at h8
    omega
  · exact h4
theorem zeros_norm {x : Nat} (h0 : 0 < x) (hx : x < 4294967296) : 32 - blen x < 32 ∧ 2147483648 ≤ x * 2 ^ (32 - blen x) ∧ (x + 1) * 2 ^ (32 - blen x) ≤ 4294967296 := by
  have h1 : blen x = Nat.log2 x + 1 := by unfold blen; rw [if_neg (by omega)]
  have h2 : 2 ^ Nat.log2 x ≤ x := Nat.log2_self_le (by omega)
  have h3 : x < 2 ^ (Nat.log2 x + 1) := Nat.lt_log2_self
  have h4 := blen_lt (x := x) (k := 32) (by omega)
  obtain ⟨b, hb⟩ : ∃ b, Nat.log2 x = b := ⟨_, rfl⟩
  rw [hb] at h1 h2 h3
  rw [h1] at h4 ⊢
  refine ⟨by omega, ?_, ?_⟩
  · have h5 : 2 ^ b * 2 ^ (32 - (b + 1)) ≤ x * 2 ^ (32 - (b + 1)) := Nat.mul_le_mul_right _ h2
    rw [← Nat.pow_add, show b + (32 - (b + 1)) = 31 from by omega] at h5
    exact h5
  · have h5 : (x + 1) * 2 ^ (32 - (b + 1)) ≤ 2 ^ (b + 1) * 2 ^ (32 - (b + 1)) := Nat.mul_le_mul_right _ h3
    rw [← Nat.pow_add, show b + 1 + (32 - (b + 1)) = 32 from by omega] at h5
    exact h5
theorem norm_fits {ys : List Nat} {n s x : Nat} (hyd : Dig ys) (hyl : ys.length = n + 1) (hx : ys[n]'(by omega) = x) (h : (x + 1) * 2 ^ s ≤ 4294967296) : val ys * 2 ^ s < 4294967296 ^ (n + 1) := by
  have h1 := val_take_succ ys n (by omega)
  rw [List.take_of_length_le (by omega), hx] at h1
  have h3 := val_lt (hyd.take n)
  rw [List.length_take, Nat.min_eq_left (by omega)] at h3
  have h0 : 0 < 2 ^ s := Nat.pow_pos (by omega)
  have h4 : val ys < 4294967296 ^ n * (x + 1) := by rw [Nat.mul_succ]; omega
  have h5 : val ys * 2 ^ s < 4294967296 ^ n * (x + 1) * 2 ^ s := Nat.mul_lt_mul_of_pos_right h4 h0
  have h6 : 4294967296 ^ n * ((x + 1) * 2 ^ s) ≤ 4294967296 ^ n * 4294967296 := Nat.mul_le_mul_left _ h
  rw [← Nat.mul_assoc] at h6
  rw [Nat.pow_succ]
  omega
theorem long_start {us vs xs : List Nat} {L n s : Nat} (hxd : Dig xs) (hxl : xs.length + 1 = L + (n + 1)) (hul : us.length = L + (n + 1)) (hu : val us = val xs * 2 ^ s) (hs : s < 32) (hvl : vs.length = n + 1) (htop : 2147483648 ≤ vs[n]'(by omega)) : val (us.drop L) < val vs := by
  have h1 := val_split us L (by omega)
  have h2 := val_take_succ vs n (by omega)
  rw [List.take_of_length_le (by omega)] at h2
  have h3 : 4294967296 ^ n * 2147483648 ≤ val vs := by
    have := Nat.mul_le_mul_left (4294967296 ^ n) htop
    omega
  have h4 := val_lt hxd
  rw [show xs.length = L + n from by omega, Nat.pow_add] at h4
  have h0 : 0 < 2 ^ s := Nat.pow_pos (by omega)
  have h5 : val xs * 2 ^ s < 4294967296 ^ L * 4294967296 ^ n * 2 ^ s := Nat.mul_lt_mul_of_pos_right h4 h0
  have h6 : 2 ^ s ≤ 2147483648 := by
    have : 2 ^ s ≤ 2 ^ 31 := Nat.pow_le_pow_right (by omega) (by omega)
    exact this
  have h7 : 4294967296 ^ n * 2 ^ s ≤ 4294967296 ^ n * 2147483648 := Nat.mul_le_mul_left _ h6
  rw [← hu, Nat.mul_assoc] at h5
  have h8 : 4294967296 ^ L * val (us.drop L) < 4294967296 ^ L * (4294967296 ^ n * 2 ^ s) := by omega
  have h9 := Nat.lt_of_mul_lt_mul_left h8
  omega
theorem drop_put (qs : List Nat) (j d : Nat) (h : j < qs.length) : val ((qs.set j d).drop j) = d + 4294967296 * val (qs.drop (j + 1)) := by
  rw [List.drop_eq_getElem_cons (by simpa using h), List.getElem_set_self, List.drop_set_of_lt (by omega)]
  rfl
/-- One round of long division. -/
theorem long_step {rs qs part rs' : List Nat} {i n Q V U : Nat} (hi : i < qs.length) (hir : i + n + 1 ≤ rs.length) (hpart : part = (rs.drop i).take (n + 1)) (hl' : rs'.length = n + 1) (hrd : Dig rs)
    (hV : V ≤ 4294967296 ^ n) (hlt : val (rs.drop (i + 1)) < V) (hU : U = 4294967296 ^ (i + 1) * val (qs.drop (i + 1)) * V + val rs) (hQ : Q = val part / V) (hR : val rs' = val part % V) :
    val part < 4294967296 * V ∧ val ((rs.take i ++ rs' ++ rs.drop (i + rs'.length)).drop i) < V ∧ U = 4294967296 ^ i * val ((qs.set i Q).drop i) * V + val (rs.take i ++ rs' ++ rs.drop (i + rs'.length)) := by
  have h1 := val_small (n := n) (Nat.lt_of_lt_of_le hlt hV)
  have hV0 : 0 < V := by omega
  have hir' : i < rs.length := by omega
  have hd : val (rs.drop i) = rs[i] + 4294967296 * val (rs.drop (i + 1)) := val_drop rs i hir'
  have hpv : val part = val (rs.drop i) := by
    rw [hpart, List.drop_eq_getElem_cons hir', List.take_succ_cons]
    show rs[i] + 4294967296 * val ((rs.drop (i + 1)).take n) = rs[i] + 4294967296 * val (rs.drop (i + 1))
    rw [h1.1]
  have hrl := hrd.at_ hir'
  have hplt : val part < 4294967296 * V := by
    rw [hpv, hd]
    omega
  have hz : val (rs.drop (i + rs'.length)) = 0 := by
    have := h1.2
    rw [List.drop_drop] at this
    rw [hl', show i + (n + 1) = i + 1 + n from by omega]
    exact this
  have hlen : (rs.take i).length = i := by rw [List.length_take]; omega
  have hdrop : (rs.take i ++ rs' ++ rs.drop (i + rs'.length)).drop i = rs' ++ rs.drop (i + rs'.length) := by
    rw [List.append_assoc, List.drop_append, hlen, Nat.sub_self, List.drop_of_length_le (by omega)]
    rfl
  have hv2 : val (rs' ++ rs.drop (i + rs'.length)) = val rs' := by rw [val_append, hz, Nat.mul_zero, Nat.add_zero]
  refine ⟨hplt, ?_, ?_⟩
  · rw [hdrop, hv2, hR]
    exact Nat.mod_lt _ hV0
  · have h3 : val rs = val (rs.take i) + 4294967296 ^ i * val part := by rw [hpv]; exact val_split rs i (by omega)
    have h4 : val (rs.take i ++ rs' ++ rs.drop (i + rs'.length)) = val (rs.take i) + 4294967296 ^ i * val rs' := by
      rw [List.append_assoc, val_append, hv2, hlen]
    have h5 := Nat.div_add_mod (val part) V
    rw [← hQ, ← hR] at h5
    rw [h4, drop_put qs i Q hi, hU, h3, ← h5]
    rw [Nat.mul_add (4294967296 ^ i) (V * Q), Nat.mul_add (4294967296 ^ i) Q, Nat.add_mul, Nat.pow_succ, Nat.mul_comm V Q]
    rw [Nat.mul_assoc (4294967296 ^ i) 4294967296, Nat.mul_assoc (4294967296 ^ i) Q V]
    omega
theorem long_end {X Y Q R s : Nat} (h : X * 2 ^ s = Q * (Y * 2 ^ s) + R) (hR : R < Y * 2 ^ s) : X = Q * Y + R / 2 ^ s ∧ R / 2 ^ s < Y := by
  have h0 : 0 < 2 ^ s := Nat.pow_pos (by omega)
  refine ⟨?_, by rw [Nat.div_lt_iff_lt_mul h0]; exact hR⟩
  rw [← Nat.mul_assoc] at h
  have h1 : R = (X - Q * Y) * 2 ^ s := by rw [Nat.sub_mul]; omega
  have h2 : Q * Y ≤ X := by
    rcases Nat.lt_or_ge X (Q * Y) with h3 | h3
    · exfalso
      have h4 : (X + 1) * 2 ^ s ≤ Q * Y * 2 ^ s := Nat.mul_le_mul_right _ h3
      rw [Nat.succ_mul] at h4
      omega
    · exact h3
  rw [h1, Nat.mul_div_cancel _ h0]
  omega
end Nm
theorem slice_hm (g off N C j k : Nat) (a b : Int) (ha : a = (j : Int)) (hb : b = (k : Int)) (h1 : j ≤ k) (h2 : k ≤ C) (h3 : 0 < k) (W : World) :
    (Instr.sliceAt 22 (.slice (some ⟨g, off, none⟩) N C) none (some (.int .i64 a)) (some (.int .i64 b))).run Tryd.prog W = .ok (.slice (some ⟨g, off, none⟩) j k) W := by
  obtain ⟨t, ht, _, hs, _⟩ := info35_parts
  subst ha hb
  have hu : Tryd.prog.underlying 22 = some (.slice (Tryd.prog.elem 22)) := by kernel_rfl
  have he : Tryd.prog.elem 22 = 35 := by kernel_rfl
  rw [run_sliceAt_slice (h := hu), run_slice_hm (ht := hu) (h0 := by omega) (h2 := by omega) (h3 := by omega), he]
  simp [sliced, sizeOf, typeInfo, ht, hs, Addr.add_lit, show k ≠ 0 from by omega]
end Go.Proofs.YtaiceebhifecbaaDoor

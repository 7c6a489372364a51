/-
  Plain mathematics of long multiplication, and rows of memory that are spliced. No conditions.
-/
import Derived.Test.YtaiceebhifecbaaDoorT8
namespace Go.Proofs.YtaiceebhifecbaaDoor
open Go.RowKit
namespace Nm
theorem val_zeros {T : List Nat} (h : ∀ x ∈ T, x = 0) : val T = 0 := by
  induction T with
  | nil => rfl
  | cons t T ih =>
    have h1 := h t (by simp)
    have h2 := ih (fun x hx => h x (by simp [hx]))
    simp only [val]; omega
theorem val_replicate (n : Nat) : val (List.replicate n 0) = 0 := val_zeros (fun _ hx => (List.mem_replicate.1 hx).2)
theorem dig_replicate (n : Nat) : Dig (List.replicate n 0) := fun _ hx => by rw [(List.mem_replicate.1 hx).2]; omega
theorem mul_step {ps rs : List Nat} {k n N o x y : Nat} (hl : ps.length = N) (hk : k + n + 1 ≤ N) (hrl : rs.length = n) (hz : ∀ j, k + n ≤ j → j < N → ps[j]? = some 0)
    (hv : val rs + 4294967296 ^ n * o = val ((ps.drop k).take n) + y * x) :
    val ((ps.take k ++ rs ++ ps.drop (k + n)).set (k + n) o) = val ps + 4294967296 ^ k * (x * y) := by
  have hz0 : ∀ z ∈ ps.drop (k + n), z = 0 := by
    intro z hz1
    obtain ⟨j, hj, rfl⟩ := List.mem_iff_getElem.1 hz1
    have hj' : j < ps.length - (k + n) := by simpa using hj
    have := hz (k + n + j) (by omega) (by omega)
    rw [List.getElem?_eq_getElem (by omega)] at this
    rw [List.getElem_drop]
    exact Option.some.inj this
  have h1 : (ps.take k ++ rs).length = k + n := by rw [List.length_append, List.length_take, hrl]; omega
  have h2 : (ps.take k ++ rs ++ ps.drop (k + n)).set (k + n) o = ps.take k ++ rs ++ (ps.drop (k + n)).set 0 o := by
    rw [List.set_append_right _ _ (by rw [h1]; exact Nat.le_refl _), h1, Nat.sub_self]
  have h3 : val ((ps.drop (k + n)).set 0 o) = o := by
    have hne : ps.drop (k + n) ≠ [] := by intro e; have := congrArg List.length e; simp at this; omega
    obtain ⟨t, T, hT⟩ := List.exists_cons_of_ne_nil hne
    rw [hT]
    simp only [List.set_cons_zero, val]
    rw [val_zeros (T := T) (fun z hz => hz0 z (by rw [hT]; simp [hz]))]
    omega
  have h4 : val ps = val (ps.take k) + 4294967296 ^ k * val ((ps.drop k).take n) := by
    conv => lhs; rw [← List.take_append_drop k ps]
    rw [val_append, List.length_take, Nat.min_eq_left (by omega)]
    congr 2
    conv => lhs; rw [← List.take_append_drop n (ps.drop k)]
    rw [val_append, List.drop_drop, val_zeros (T := ps.drop (k + n)) hz0, Nat.mul_zero, Nat.add_zero]
  rw [h2, val_append, h1, h3, val_append, List.length_take, Nat.min_eq_left (by omega), h4, Nat.pow_add, Nat.mul_assoc]
  have h5 := congrArg (fun t => 4294967296 ^ k * t) hv
  simp only [Nat.mul_add] at h5
  rw [Nat.mul_comm x y]
  omega
end Nm
theorem Own.splice {w w' : World} {g off k : Nat} {ps rs : List Nat} (h : Own w g off ps) (hw : Wr w w' g (off + k) rs) (hk : k + rs.length ≤ ps.length) : Own w' g off (ps.take k ++ rs ++ ps.drop (k + rs.length)) := by
  have hlen : (ps.take k ++ rs ++ ps.drop (k + rs.length)).length = ps.length := by simp; omega
  refine ⟨fun i hi => ?_, fun i hi => by rw [hw.soft]; exact h.2 i (by omega)⟩
  have hi' : i < ps.length := by omega
  rcases Nat.lt_or_ge i k with h1 | h1
  · rw [hw.rest _ (.inl (by omega)), h.1 i hi']
    congr 3
    rw [List.getElem_append_left (by simp; omega), List.getElem_append_left (by simp; omega), List.getElem_take]
  · rcases Nat.lt_or_ge i (k + rs.length) with h2 | h2
    · have := hw.own.1 (i - k) (by omega)
      rw [show off + k + (i - k) = off + i from by omega] at this
      rw [this]
      congr 3
      rw [List.getElem_append_left (by simp; omega), List.getElem_append_right (by simp; omega)]
      congr 1
      simp; omega
    · rw [hw.rest _ (.inr (by omega)), h.1 i hi']
      congr 3
      rw [List.getElem_append_right (by simp; omega), List.getElem_drop]
      congr 1
      simp; omega
theorem Own.part {w : World} {g off : Nat} {ps : List Nat} (h : Own w g off ps) (k n : Nat) : Own w g (off + k) ((ps.drop k).take n) := by
  refine ⟨fun i hi => ?_, fun i hi => ?_⟩
  · have hi' : i < n ∧ i < ps.length - k := by simp at hi; omega
    have := h.1 (k + i) (by omega)
    rw [Nat.add_assoc, this]
    congr 3
    rw [List.getElem_take, List.getElem_drop]
  · have hi' : i < n ∧ i < ps.length - k := by simp at hi; omega
    rw [Nat.add_assoc]
    exact h.2 (k + i) (by omega)
theorem make32 (n c : Nat) (hnc : n ≤ c) (hc : c ≤ 100000) (z y : Int) (hz : z = (n : Int)) (hy : y = (c : Int)) (W : World) :
    (Instr.makeSlice 22 (.int .i64 z) (.int .i64 y)).run Tryd.prog W = .ok (.slice (some ⟨W.heap.size, 0, none⟩) n c) (W.alloc (.cells (madeCells #[Value.int .u32 0] c) 35)) := by
  obtain ⟨i, hi, hz0, hs, hby⟩ := info35_parts
  subst hz hy
  have hr := run_make (P := Tryd.prog) W 22 35 i _ Tryd.underlying22 hi hz0 .i64 .i64 n c (by omega) (by omega) (by rw [hby]; omega) (by omega)
  simp only [Int.toNat_natCast, hs, Nat.mul_one] at hr
  exact hr
theorem slice32 (g off N C i j : Nat) (a b : Int) (ha : a = (i : Int)) (hb : b = (j : Int)) (h1 : i ≤ j) (h2 : j ≤ C) (h3 : i < C) (W : World) :
    (Instr.sliceAt 22 (.slice (some ⟨g, off, none⟩) N C) (some (.int .i64 a)) (some (.int .i64 b)) none).run Tryd.prog W = .ok (.slice (some ⟨g, off + i, none⟩) (j - i) (C - i)) W := by
  obtain ⟨t, ht, _, hs, _⟩ := info35_parts
  subst ha hb
  have hu : Tryd.prog.underlying 22 = some (.slice (Tryd.prog.elem 22)) := by kernel_rfl
  have he : Tryd.prog.elem 22 = 35 := by kernel_rfl
  rw [run_sliceAt_slice (h := hu), run_slice_lh (ht := hu) (h0 := by omega) (h1 := by omega) (h2 := by omega), he]
  simp [sliced, sizeOf, typeInfo, ht, hs, Addr.add_lit, show C ≠ i from by omega]
theorem own_made (W : World) (c : Nat) : Own (W.alloc (.cells (madeCells #[Value.int .u32 0] c) 35)) W.heap.size 0 (List.replicate c 0) :=
  Row.new W 35 _ _ fun i hi => by
    have hi' : i < c := by simpa using hi
    have h1 := toList_madeCells_one (Value.int .u32 0) c
    rw [← Array.getElem?_toList, h1, List.getElem?_replicate, if_pos hi']
    simp
end Go.Proofs.YtaiceebhifecbaaDoor

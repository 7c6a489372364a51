/-
  Tokens as they come in, with what the bound of the second form says of their texts; the law of printing and reading back over values as they come in. No conditions beyond the row's own.
-/
import Derived.Test.YtgifienjfaclmaaDoorNr
import Derived.Test.YtgifienjfaclmaaDoorNq
import Derived.Test.YtgifienjfaclmaaDoorLx
namespace Go.Proofs.YtgifienjfaclmaaDoor
open Go.ChangeShapes Go.WideShapes Go.ChangeAt Go.RowKit
theorem bulk_mem {H : Type} {d : DataW H} {l : List (DataW H)} (h : d ∈ l) : Rows.uptoBulk d ≤ Rows.uptoBulkAll l := by
  induction l with
  | nil => cases h
  | cons x r ih =>
    simp only [Rows.uptoBulkAll]
    rcases List.mem_cons.1 h with e | e
    · subst e; omega
    · have := ih e; omega
theorem mx_shaped {w : World} (h : w.ShapedOpen Tryd.prog) : Mx w :=
  cell_of_shapedOpen_int (zero := #[.int .i64 0]) (t := 3) h (of_decide_eq_true (by kernel_rfl)) (by kernel_rfl) rfl (by kernel_rfl) (by kernel_rfl) Tryd.underlying3
section
variable {H : Type} {enc : TypeId × Value → H}
set_option maxRecDepth 100000 in
theorem open_tvs2 {W : World} {r : Reach} {b0 : Nat} {v : Value} {d : DataW H} {p : List MemPlace} (hv : Value.okWide Tryd.prog W r b0 22 v) (h : DataW.Trod enc Tryd.prog W 0 (fun _ => true) true 22 v d p) (hk : Rows.uptoBulk d ≤ 1048576) :
    ∃ A n c q, v = .slice A n c ∧ n ≤ 9223372036854775807 ∧ Tvs W A n q ∧ ∀ i, i < n → (q i).text.length ≤ 1048576 := by
  obtain ⟨A, n, c, rfl⟩ := okWide_slice Tryd.underlying22 hv
  obtain ⟨fuel, hf⟩ := h
  rcases Go.Deep.open_slice Tryd.underlying22 hf with ⟨hc, _⟩ | ⟨a, len, cap, m, k, D, Pl, hc, _, hl, hm, hmm, hx, hi⟩
  · simp [Value.cells] at hc
    obtain ⟨rfl, rfl, rfl⟩ := hc
    exact ⟨none, 0, 0, fun _ => ⟨0, [], 0, 0⟩, rfl, by decide, .inl rfl, fun i hi => by omega⟩
  · simp [Value.cells] at hc
    obtain ⟨rfl, rfl, rfl⟩ := hc
    have hd : d = .slice ((List.range n).map D) ((List.range (m - n)).map fun j => D (n + j)) := congrArg Prod.fst hx
    have hz : Tryd.prog.cellsOf 32 = 4 := by kernel_rfl
    have e3 : Tryd.prog.cellsOf 3 = 1 := by kernel_rfl
    have e2 : Tryd.prog.cellsOf 2 = 1 := by kernel_rfl
    have e9 : Tryd.prog.cellsOf 9 = 1 := by kernel_rfl
    have key : ∀ i, ∃ x : Tv, i < n → (x.ok ∧ W.cell? ((a.add (i * 4)).add 0) = some (.int .i64 x.kind) ∧ W.cell? ((a.add (i * 4)).add 1) = some (.string (bs x.text)) ∧ W.cell? ((a.add (i * 4)).add 2) = some (.int .i64 x.num) ∧ W.cell? ((a.add (i * 4)).add 3) = some (.int .i64 x.at_)) ∧ x.text.length ≤ 1048576 := by
      intro i
      by_cases hin : i < n
      · obtain ⟨cs, hcells, htr⟩ := hi i (by simp at hmm; omega)
        rw [hz] at hcells
        obtain ⟨ys, k', _, hy, hlen, hyl, hg⟩ := DataW.trod_struct Tryd.underlying32 htr
        obtain ⟨_, hcl, hat⟩ := World.cells?_some hcells
        have hD : D i = .agg (ys.map (·.1)) := congrArg Prod.fst hy
        match cs, hcl with
        | [c0, c1, c2, c3], _ =>
          have h0 : DataW.trod enc Tryd.prog W 0 (fun _ => true) true k' 3 (([c0, c1, c2, c3].drop 0).take (Tryd.prog.cellsOf 3)) = ys[0]? := hg 0 _ rfl
          have h1 : DataW.trod enc Tryd.prog W 0 (fun _ => true) true k' 9 (([c0, c1, c2, c3].drop 1).take (Tryd.prog.cellsOf 9)) = ys[1]? := hg 1 _ rfl
          have h2 : DataW.trod enc Tryd.prog W 0 (fun _ => true) true k' 2 (([c0, c1, c2, c3].drop 2).take (Tryd.prog.cellsOf 2)) = ys[2]? := hg 2 _ rfl
          have h3 : DataW.trod enc Tryd.prog W 0 (fun _ => true) true k' 3 (([c0, c1, c2, c3].drop 3).take (Tryd.prog.cellsOf 3)) = ys[3]? := hg 3 _ rfl
          rw [e3] at h0 h3
          rw [e2] at h2
          rw [e9] at h1
          have h0 : DataW.trod enc Tryd.prog W 0 (fun _ => true) true k' 3 [c0] = ys[0]? := h0
          have h1 : DataW.trod enc Tryd.prog W 0 (fun _ => true) true k' 9 [c1] = ys[1]? := h1
          have h2 : DataW.trod enc Tryd.prog W 0 (fun _ => true) true k' 2 [c2] = ys[2]? := h2
          have h3 : DataW.trod enc Tryd.prog W 0 (fun _ => true) true k' 3 [c3] = ys[3]? := h3
          have l4 : ys.length = 4 := hyl
          rw [List.getElem?_eq_getElem (by omega)] at h0 h1 h2 h3
          obtain ⟨K, rfl, _⟩ := int_cell Tryd.underlying3 h0
          obtain ⟨S, hcS, hyS, ws⟩ := DataW.trod_string Tryd.underlying9 h1
          obtain rfl : c1 = .string S := by simpa using hcS
          obtain ⟨M, rfl, wm⟩ := int_cell Tryd.underlying2 h2
          obtain ⟨P, rfl, _⟩ := int_cell Tryd.underlying3 h3
          have bm := i64_wf wm
          have q1 : Rows.uptoBulk (ys[1]'(by omega)).1 ≤ Rows.uptoBulkAll (ys.map (·.1)) := bulk_mem (List.mem_map_of_mem (List.getElem_mem _))
          have q2 : Rows.uptoBulk (D i) ≤ Rows.uptoBulkAll ((List.range n).map D) := bulk_mem (List.mem_map_of_mem (List.mem_range.2 hin))
          rw [hyS] at q1
          rw [hD] at q2
          rw [hd] at hk
          simp only [Rows.uptoBulk] at q1 q2 hk
          refine ⟨⟨K, S.data.toList, M, P⟩, fun _ => ⟨⟨⟨by show S.data.toList.length ≤ _; omega, bm.1, bm.2⟩, hat 0 (by decide), ?_, hat 2 (by decide), hat 3 (by decide)⟩, by show S.data.toList.length ≤ _; omega⟩⟩
          rw [hat 1 (by decide)]
          show some (Value.string S) = some (.string (bs S.data.toList))
          rw [← bs_of]
      · exact ⟨⟨0, [], 0, 0⟩, fun h => absurd h hin⟩
    obtain ⟨q, hq⟩ := Classical.skolem.1 key
    refine ⟨some a, n, c, q, rfl, by simp only [maxLen] at hm; omega, ?_, fun i hi => (hq i hi).2⟩
    rcases Nat.eq_zero_or_pos n with h0 | h0
    · exact .inl h0
    have hb := World.block_lt_of_cell? W _ (hq 0 h0).1.2.1
    rw [add_block, add_block] at hb
    exact .inr ⟨a, rfl, hb, fun i hi => (hq i hi).1⟩
end
end Go.Proofs.YtgifienjfaclmaaDoor

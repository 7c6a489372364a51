/-
  An argument that is a slice of items, opened. No conditions.
-/
import Derived.Test.YtclbdlbdnnhfmaaWo
import Derived.Test.YtclbdlbdnnhfmaaWq
namespace Go.Proofs.Ytclbdlbdnnhfmaa
open Go.ChangeShapes Go.WideShapes Go.ChangeAt Go.RowKit
section
variable {H : Type} {enc : TypeId × Value → H}
theorem open_its {W : World} {r : Reach} {b0 : Nat} {v : Value} {d : DataW H} {p : List MemPlace} (hv : Value.okWide Try.prog W r b0 53 v) (h : DataW.Trod enc Try.prog W 0 (fun _ => true) true 53 v d p) :
    ∃ A n c q, v = .slice A n c ∧ n ≤ 9223372036854775807 ∧ Its W A n q := by
  obtain ⟨A, n, c, hv, hn, hA⟩ := open_elems (z := 4) Try.underlying53 Try.underlying55 (by kernel_rfl) hv h
  rcases hA with h0 | ⟨a, hA, hel⟩
  · exact ⟨A, n, c, fun _ => ⟨0, 0, 0, []⟩, hv, hn, .inl h0⟩
  · rcases Nat.eq_zero_or_pos n with h0 | h0
    · exact ⟨A, n, c, fun _ => ⟨0, 0, 0, []⟩, hv, hn, .inl h0⟩
    have key : ∀ i, ∃ x : It, i < n → x.ok ∧ W.cell? ((a.add (i * 4)).add 0) = some (.int .i64 x.k) ∧ W.cell? ((a.add (i * 4)).add 1) = some (.int .u64 (x.n : Int)) ∧ W.cell? ((a.add (i * 4)).add 2) = some (.int .i64 x.m) ∧ W.cell? ((a.add (i * 4)).add 3) = some (.string (bs x.s)) := by
      intro i
      by_cases hi : i < n
      · obtain ⟨cs, ys, k, hcl, hyl, hat, hg⟩ := hel i hi
        match cs, hcl with
        | [c0, c1, c2, c3], _ =>
          have e3 : Try.prog.cellsOf 3 = 1 := by kernel_rfl
          have e22 : Try.prog.cellsOf 22 = 1 := by kernel_rfl
          have e2 : Try.prog.cellsOf 2 = 1 := by kernel_rfl
          have e9 : Try.prog.cellsOf 9 = 1 := by kernel_rfl
          have h0 : DataW.trod enc Try.prog W 0 (fun _ => true) true k 3 (([c0, c1, c2, c3].drop 0).take (Try.prog.cellsOf 3)) = ys[0]? := hg 0 _ rfl
          have h1 : DataW.trod enc Try.prog W 0 (fun _ => true) true k 22 (([c0, c1, c2, c3].drop 1).take (Try.prog.cellsOf 22)) = ys[1]? := hg 1 _ rfl
          have h2 : DataW.trod enc Try.prog W 0 (fun _ => true) true k 2 (([c0, c1, c2, c3].drop 2).take (Try.prog.cellsOf 2)) = ys[2]? := hg 2 _ rfl
          have h3 : DataW.trod enc Try.prog W 0 (fun _ => true) true k 9 (([c0, c1, c2, c3].drop 3).take (Try.prog.cellsOf 9)) = ys[3]? := hg 3 _ rfl
          rw [e3] at h0
          rw [e22] at h1
          rw [e2] at h2
          rw [e9] at h3
          have h0 : DataW.trod enc Try.prog W 0 (fun _ => true) true k 3 [c0] = ys[0]? := h0
          have h1 : DataW.trod enc Try.prog W 0 (fun _ => true) true k 22 [c1] = ys[1]? := h1
          have h2 : DataW.trod enc Try.prog W 0 (fun _ => true) true k 2 [c2] = ys[2]? := h2
          have h3 : DataW.trod enc Try.prog W 0 (fun _ => true) true k 9 [c3] = ys[3]? := h3
          have l4 : ys.length = 4 := hyl
          rw [List.getElem?_eq_getElem (by omega)] at h0 h1 h2 h3
          obtain ⟨K, rfl, _⟩ := int_cell Try.underlying3 h0
          obtain ⟨N, rfl, wn⟩ := int_cell Try.underlying22 h1
          obtain ⟨M, rfl, wm⟩ := int_cell Try.underlying2 h2
          obtain ⟨S, rfl, ws⟩ := str_cell Try.underlying9 h3
          have bn := u64_wf wn
          have bm := i64_wf wm
          refine ⟨⟨K, N.toNat, M, S.data.toList⟩, fun _ => ⟨⟨by show N.toNat ≤ _; omega, bm.1, bm.2, by show S.data.toList.length ≤ _; simp only [maxLen] at ws; rw [show S.data.toList.length = S.size by simp]; omega⟩, hat 0 (by decide), ?_, hat 2 (by decide), ?_⟩⟩
          · rw [hat 1 (by decide)]
            show some (Value.int .u64 N) = some (.int .u64 ((N.toNat : Nat) : Int))
            rw [Int.toNat_of_nonneg bn.1]
          · rw [hat 3 (by decide)]
            show some (Value.string S) = some (.string (bs S.data.toList))
            rw [← bs_of]
      · exact ⟨⟨0, 0, 0, []⟩, fun h => absurd h hi⟩
    obtain ⟨q, hq⟩ := Classical.skolem.1 key
    have hb := World.block_lt_of_cell? W _ (hq 0 h0).2.1
    rw [add_block, add_block] at hb
    exact ⟨A, n, c, q, hv, hn, .inr ⟨a, hA, hb, hq⟩⟩
end
end Go.Proofs.Ytclbdlbdnnhfmaa

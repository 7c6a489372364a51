/-
  An argument that is a slice of pairs of integers, opened. No conditions.
-/
import Derived.Test.YtclbdlbdnnhfmaaWn
import Derived.Test.YtclbdlbdnnhfmaaWq
namespace Go.Proofs.Ytclbdlbdnnhfmaa
open Go.ChangeShapes Go.WideShapes Go.ChangeAt Go.RowKit
section
variable {H : Type} {enc : TypeId × Value → H}
theorem open_prs {W : World} {r : Reach} {b0 : Nat} {v : Value} {d : DataW H} {p : List MemPlace} (hv : Value.okWide Try.prog W r b0 28 v) (h : DataW.Trod enc Try.prog W 0 (fun _ => true) true 28 v d p) :
    ∃ A n c, v = .slice A n c ∧ n ≤ 9223372036854775807 ∧ Prs W A n := by
  obtain ⟨A, n, c, hv, hn, hA⟩ := open_elems (z := 2) Try.underlying28 Try.underlying35 (by kernel_rfl) hv h
  refine ⟨A, n, c, hv, hn, ?_⟩
  rcases hA with h0 | ⟨a, hA, hel⟩
  · exact .inl h0
  · rcases Nat.eq_zero_or_pos n with h0 | h0
    · exact .inl h0
    have key : ∀ i, i < n → ∃ K m : Int, -9223372036854775808 ≤ m ∧ m ≤ 9223372036854775807 ∧ W.cell? (a.add (i * 2)) = some (.int .i64 K) ∧ W.cell? (a.add (i * 2 + 1)) = some (.int .i64 m) := by
      intro i hi
      obtain ⟨cs, ys, k, hcl, hyl, hat, hg⟩ := hel i hi
      match cs, hcl with
      | [c0, c1], _ =>
        have e3 : Try.prog.cellsOf 3 = 1 := by kernel_rfl
        have h0 : DataW.trod enc Try.prog W 0 (fun _ => true) true k 3 (([c0, c1].drop 0).take (Try.prog.cellsOf 3)) = ys[0]? := hg 0 _ rfl
        have h1 : DataW.trod enc Try.prog W 0 (fun _ => true) true k 3 (([c0, c1].drop 1).take (Try.prog.cellsOf 3)) = ys[1]? := hg 1 _ rfl
        rw [e3] at h0 h1
        have h0 : DataW.trod enc Try.prog W 0 (fun _ => true) true k 3 [c0] = ys[0]? := h0
        have h1 : DataW.trod enc Try.prog W 0 (fun _ => true) true k 3 [c1] = ys[1]? := h1
        have l2 : ys.length = 2 := hyl
        rw [List.getElem?_eq_getElem (by omega)] at h0 h1
        obtain ⟨K, rfl, _⟩ := int_cell Try.underlying3 h0
        obtain ⟨m, rfl, wm⟩ := int_cell Try.underlying3 h1
        refine ⟨K, m, (i64_wf wm).1, (i64_wf wm).2, ?_, ?_⟩
        · exact hat 0 (by decide)
        · rw [← Go.Deep.add_add]; exact hat 1 (by decide)
    obtain ⟨K, m, _, _, hc, _⟩ := key 0 h0
    have hb := World.block_lt_of_cell? W _ hc
    rw [add_block] at hb
    exact .inr ⟨a, hA, hb, key⟩
end
end Go.Proofs.Ytclbdlbdnnhfmaa

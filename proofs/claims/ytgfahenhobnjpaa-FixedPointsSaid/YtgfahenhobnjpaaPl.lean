/-
  An argument that is an array of two numbers, opened and shut. No conditions.
-/
import Derived.Test.YtgfahenhobnjpaaPk
namespace Go.Proofs.Ytgfahenhobnjpaa
open Go.ChangeShapes Go.WideShapes Go.ChangeAt Go.RowKit
section
variable {H : Type} {enc : TypeId × Value → H}
theorem cellsPair : Try.prog.cellsOf 37 = 2 := by kernel_rfl
theorem cellsOne : Try.prog.cellsOf 21 = 1 := by kernel_rfl
theorem pair_in {n : Int} (h : (Lit.int .i32 n).wf = true) : -2147483648 ≤ n ∧ n ≤ 2147483647 := by
  simp [Lit.wf, IntKind.min, IntKind.max, IntKind.signed, IntKind.bits] at h
  omega
theorem open_pair {W : World} {r : Reach} {b0 : Nat} {v : Value} {d : DataW H} {p : List MemPlace} (hv : Value.okWide Try.prog W r b0 37 v) (h : DataW.Trod enc Try.prog W 0 (fun _ => true) true 37 v d p) :
    ∃ a b, v = .agg #[.int .i32 a, .int .i32 b] ∧ d = DataW.agg [.lit (.int .i32 a), .lit (.int .i32 b)] ∧ p = [] ∧ (Lit.int .i32 a).wf = true ∧ (Lit.int .i32 b).wf = true := by
  obtain ⟨cs, rfl, hsz, _⟩ : ∃ cs, v = .agg cs ∧ cs.size = Try.prog.cellsOf 37 ∧ Row.okWide Try.prog W r b0 37 cs := by
    simpa [Value.okWide, Try.underlying37] using hv
  rw [cellsPair] at hsz
  obtain ⟨l⟩ := cs
  match l, hsz with
  | [c0, c1], _ =>
    obtain ⟨fuel, hf⟩ := h
    obtain ⟨xs, m, _, hx, _, hlen, hg⟩ := DataW.trod_array Try.underlying37 hf
    match xs, hlen with
    | [y0, y1], _ =>
      have h0 := hg 0 (by decide)
      have h1 := hg 1 (by decide)
      simp only [cellsOne, Value.cells] at h0 h1
      obtain ⟨a, e0, rfl, w0⟩ := DataW.trod_int Try.underlying21 h0
      obtain ⟨b, e1, rfl, w1⟩ := DataW.trod_int Try.underlying21 h1
      simp at e0 e1
      subst e0 e1
      simp only [Prod.mk.injEq] at hx
      obtain ⟨rfl, rfl⟩ := hx
      exact ⟨a, b, rfl, rfl, rfl, w0, w1⟩
theorem shut_pair {W : World} {sp : Nat → Bool} {a b : Int} (wa : (Lit.int .i32 a).wf = true) (wb : (Lit.int .i32 b).wf = true) :
    DataW.Trod enc Try.prog W 0 sp true 37 (.agg #[.int .i32 a, .int .i32 b]) (DataW.agg [.lit (.int .i32 a), .lit (.int .i32 b)]) [] :=
  ⟨2, by simp [DataW.trod, Value.cells, Try.underlying37, Try.underlying21, cellsPair, cellsOne, wa, wb, show List.range 2 = [0, 1] from rfl]⟩
end
end Go.Proofs.Ytgfahenhobnjpaa

/-
  The two tables read as they were laid, out of the row's own condition. No conditions beyond it.
-/
import Derived.Test.YtgfahenhobnjpaaDoorFo
import Derived.Lib.LaidU8
import Derived.MakeChecks
namespace Go.Proofs.YtgfahenhobnjpaaDoor
open Go.RowKit Go.Lib
/-- A variable that is a table of n integers of kind k. -/
def tabOk (P : Program) (name : String) (n : Nat) (k : IntKind) : Bool :=
  match P.globalNamed name with
  | none => false
  | some g => match (P.globals[g]?).map (·.type) with
    | none => false
    | some t => match P.underlying t with
      | some (.array m e) => decide (m = n) && decide (P.cellsOf e = 1) && decide (P.cellsOf t = n) && (match P.underlying e with
        | some (.int j) => decide (j = k)
        | _ => false)
      | _ => false
theorem tabIs_met {P : Program} {W : World} {name : String} {k : IntKind} {zs : List Int} {l : List (String × DataW Unit)} {n : Nat} (h : tabOk P name n k = true)
    (hl : laidMet P l W) (hm : (name, tabData k zs) ∈ l) : TabIs P W name k zs := by
  obtain ⟨ps, hv, -⟩ := hl
  have key : ∀ {l : List (String × DataW Unit)} {ps : List MemPlace}, DataW.LaidVars P W l ps → (name, tabData k zs) ∈ l →
      ∃ g t cs fuel p, P.globalNamed name = some g ∧ (P.globals[g]?).map (·.type) = some t ∧ W.var? P name = some cs ∧ DataW.trod (fun _ => ()) P W 0 (fun _ => true) false fuel t cs.toList = some (tabData k zs, p) := by
    intro l
    induction l with
    | nil => intro _ _ hm; cases hm
    | cons x l ih =>
      intro ps h hm
      obtain ⟨g, t, cs, fuel, p, q, h1, h2, h3, h4, h5, _⟩ := h
      rcases List.mem_cons.1 hm with e | e
      · cases e
        exact ⟨g, t, cs, fuel, p, h1, h2, h3, h4⟩
      · exact ih h5 e
  obtain ⟨g, t, cs, fuel, p, h1, h2, h3, h4⟩ := key hv hm
  unfold tabOk at h
  rw [h1] at h
  simp only [h2] at h
  split at h
  · rename_i m e hu
    simp only [Bool.and_eq_true, decide_eq_true_eq] at h
    obtain ⟨⟨⟨rfl, hce⟩, hct⟩, hk⟩ := h
    split at hk
    · rename_i j hj
      obtain rfl : j = k := by simpa using hk
      unfold TabIs
      rw [h3, ← cells_of_tab hu hj hce hct h4]
    · cases hk
  · cases h
theorem law_parses_laid (a : Int) (s : ByteArray) (w : World) (a1 : -9223372036854775808 ≤ a) (a2 : a ≤ 9223372036854775807) (hs : s.size ≤ 9223372036854775807) (hl : laidMetH Tryd.prog Rows.fixedParsesRow.laid w) :
    Calls Tryd.prog 3 #[.int .i64 a, .string s] w (Ib (.bool true) w) := by
  rw [MakeChecks.laidMetH_plain _ _ _ (by kernel_rfl)] at hl
  refine law_parses a s w a1 a2 hs ?_ ?_
  · exact tabIs_met (n := 20) (by kernel_rfl) hl (List.Mem.tail _ (List.Mem.tail _ (List.Mem.head _)))
  · exact tabIs_met (n := 6) (by kernel_rfl) hl (List.Mem.tail _ (List.Mem.tail _ (List.Mem.tail _ (List.Mem.head _))))
end Go.Proofs.YtgfahenhobnjpaaDoor

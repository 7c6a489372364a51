/-
  A new reader; the check of the chapter's examples returns true. No conditions.
-/
import Derived.Test.YtcjaaijohapeaaaDoorWj
namespace Go.Proofs.YtcjaaijohapeaaaDoor
open Go.RowKit
/-- The call returns a new reader of l. -/
def Inew (l : List UInt8) (w : World) (e : Ending) (w' : World) : Prop := ∃ g, e = .returned (.pointer (some ⟨g, 0, none⟩)) ∧ w.heap.size ≤ g ∧ Below w.heap.size w w' ∧ Rdr w' g l 0
theorem new_any (l : List UInt8) (w : World) : Calls Tryd.prog 24 #[.string (bs l)] w (Inew l w) := by
  go_enter Tryd.func24, Tryd.ntmps24
  go_wp2_with fail
  go_ret
  exact ⟨w.heap.size, rfl, Nat.le_refl _, one _ _, by simp, by simp, by simp, by simp, by simp⟩
theorem Rdr.off {w w' : World} {g g' : Nat} {l : List UInt8} {e : Nat} (h : Rdr w g l e) (hg : w.grownBy w' (some g')) (hne : g ≠ g') : Rdr w' g l e := by
  have hb := hg.block g h.lt (fun k => hne (Option.some.inj k))
  exact ⟨Nat.lt_of_lt_of_le h.lt hg.size, (World.cell?_of_block (a := ⟨g, 0, none⟩) hb).trans h.c0, (World.cell?_of_block (a := ⟨g, 1, none⟩) hb).trans h.c1, (World.frozen?_of_block (a := ⟨g, 0, none⟩) hb).trans h.f0, (World.frozen?_of_block (a := ⟨g, 1, none⟩) hb).trans h.f1⟩
theorem Below.read {w w1 w' : World} {g : Nat} (h : Below w.heap.size w w1) (hg : w1.grownBy w' (some g)) (hw : w.heap.size ≤ g) : Below w.heap.size w w' :=
  h.grown hg h.size fun k hk => by cases hk; exact hw
theorem ir_cast {v v' : Value} {g : Nat} {l l' : List UInt8} {e e' : Nat} {w : World} {P : Program} {f : FuncId} {args : Array Value} (h : Calls P f args w (Ir v g l e w)) (h1 : v = v') (h2 : l = l') (h3 : e = e') : Calls P f args w (Ir v' g l' e' w) := by
  subst h1; subst h2; subst h3; exact h
end Go.Proofs.YtcjaaijohapeaaaDoor

/-
  Maps keyed by names, with whatever elements. No conditions beyond those that each names.
-/
import Derived.Test.YthfodpbecddheaaGreatDoorQM07
namespace Go.Proofs.YthfodpbecddheaaGreatDoor
open Go.RowKit Go.Maps
/-- How an element reads: as itself. -/
def Rv (v : Value) : Option (DataW Value × List MemPlace) := some (.held v, [])
theorem strK : Keyed Tryz.prog 9 := string_keyed Tryz.underlying9
/-- Block b is a map of at most n names, in which f finds. -/
structure Mp (w : World) (b n : Nat) (f : List UInt8 → Option Value) (D : DataW Value) : Prop where
  own : w.ownsMap Tryz.prog 9 Rv b n D
  has_ : ∀ x, Maps.has D (.string x) = (f x).isSome
  at_ : ∀ x z, D.atKey (.string x) z = match f x with | some v => .held v | none => z
theorem Mp.lt {w : World} {b n : Nat} {f : List UInt8 → Option Value} {D : DataW Value} (h : Mp w b n f D) : b < w.heap.size := h.own.lt
theorem Mp.next {w w' : World} {b n : Nat} {f : List UInt8 → Option Value} {D : DataW Value} (h : Mp w b n f D) (hb : Below w.heap.size w w') : Mp w' b n f D := by
  refine ⟨?_, h.has_, h.at_⟩
  obtain ⟨es, clock, e, r⟩ := h.own
  exact ⟨es, clock, (hb.block b h.lt).trans e, r⟩
theorem Mp.kept {w w' : World} {b n : Nat} {f : List UInt8 → Option Value} {D : DataW Value} {row : Option Nat} (h : Mp w b n f D) (hg : w.grownBy w' row) (hne : some b ≠ row) : Mp w' b n f D := ⟨h.own.kept hg hne, h.has_, h.at_⟩
theorem Mp.made (w : World) : Mp (w.alloc (.map #[] 0)) w.heap.size 0 (fun _ => none) (.map []) :=
  ⟨World.ownsMap_made _ _ _ _, fun _ => rfl, fun _ _ => rfl⟩
theorem key_of {x : List UInt8} (hx : x.length ≤ 9223372036854775807) : keyOf Tryz.prog 9 (.string (bs x)) = some (.string x) :=
  Go.WideMaps.keyOf_string_mk Tryz.underlying9 (s := bs x) (by show x.length ≤ maxLen; simp only [maxLen]; omega)
/-- The map with one name more. -/
def putF (f : List UInt8 → Option Value) (x : List UInt8) (v : Value) : List UInt8 → Option Value := fun y => if y = x then some v else f y
theorem Mp.put_ {w w' : World} {b n : Nat} {f : List UInt8 → Option Value} {D : DataW Value} (h : Mp w b n f D) {x : List UInt8} (hx : x.length ≤ 9223372036854775807) {v : Value} (ho : w'.ownsMap Tryz.prog 9 Rv b (n + 1) (D.put (.string x) (.held v))) : Mp w' b (n + 1) (putF f x v) (D.put (.string x) (.held v)) := by
  have hk : WideAt.IsKeyLit (.string x) := by
    have := strK.key (key_of hx)
    exact this
  have hm : IsMap D := h.own.isMap
  refine ⟨ho, fun y => ?_, fun y z => ?_⟩
  · unfold putF
    by_cases e : y = x
    · subst e; rw [if_pos rfl, has_put_same hm hk]; rfl
    · rw [if_neg e, has_put_other (by intro h; cases h; exact e rfl), h.has_]
  · unfold putF
    by_cases e : y = x
    · subst e; rw [if_pos rfl, atKey_put_same hm hk]
    · rw [if_neg e, atKey_put_other (by intro h; cases h; exact e rfl), h.at_]
section
variable (w : World) {ops : Array Oper} {rest : List Oper} {o : Oper} {a : Act} {Q : Exit → Act → World → Prop}
/-- m[x]. -/
theorem wpList_look (hg : o.guard = none) (m x : Operand) (t e : TypeId) (hop : o.op = Op.lookup t m x false) (ht : Tryz.prog.underlying t = some (.map 9 e)) {z : Value} (hz : (zeroValue e).run Tryz.prog w = .ok z w) {b n : Nat} {f : List UInt8 → Option Value} {D : DataW Value}
    (hM : Mp w b n f D) (hm : a.eval m = .map (some b)) {k : List UInt8} (hk : k.length ≤ 9223372036854775807) (hx : a.eval x = .string (bs k))
    (hK : wpList Tryz.prog ops Q rest (a.put o.dst ((f k).getD z)) w) : wpList Tryz.prog ops Q (o :: rest) a w := by
  refine wpList_plain hg fun K' hK' => ?_
  obtain ⟨v, ps, hrun, hv⟩ := hM.own.lookup strK ht hz (zd := .held z) (zp := []) rfl (key_of hk)
  have e : v = (f k).getD z := by
    rw [hM.at_] at hv
    cases h : f k with
    | none => rw [h] at hv; cases hv; rfl
    | some u => rw [h] at hv; cases hv; rfl
  unfold Oper.wp
  simp [execOp, hop, hm, hx, hrun, Result.andThen]
  rw [e]
  exact hK' _ _ hK
/-- v, ok := m[x]. -/
theorem wpList_look_ok (hg : o.guard = none) (m x : Operand) (t e : TypeId) (hop : o.op = Op.lookup t m x true) (ht : Tryz.prog.underlying t = some (.map 9 e)) {z : Value} (hz : (zeroValue e).run Tryz.prog w = .ok z w) {b n : Nat} {f : List UInt8 → Option Value} {D : DataW Value}
    (hM : Mp w b n f D) (hm : a.eval m = .map (some b)) {k : List UInt8} (hk : k.length ≤ 9223372036854775807) (hx : a.eval x = .string (bs k))
    (hK : wpList Tryz.prog ops Q rest (a.put o.dst (.tuple #[(f k).getD z, .bool (f k).isSome])) w) : wpList Tryz.prog ops Q (o :: rest) a w := by
  refine wpList_lookup_own_ok w hg m x t hop 9 e strK ht Rv hz (.held z) [] rfl b n D hm hM.own _ _ hx (key_of hk) fun v ps hv => ?_
  have e : v = (f k).getD z := by
    rw [hM.at_] at hv
    cases h : f k with
    | none => rw [h] at hv; cases hv; rfl
    | some u => rw [h] at hv; cases hv; rfl
  rw [e, hM.has_]
  exact hK
/-- m[x] = v. -/
theorem wpList_put (hg : o.guard = none) (m x v : Operand) (t e : TypeId) (hop : o.op = Op.mapUpdate t m x v) (ht : Tryz.prog.underlying t = some (.map 9 e)) {b n : Nat} {f : List UInt8 → Option Value} {D : DataW Value}
    (hM : Mp w b n f D) (hn : n ≤ 1000000) (hm : a.eval m = .map (some b)) {k : List UInt8} (hk : k.length ≤ 9223372036854775807) (hx : a.eval x = .string (bs k)) {u : Value} (hv : a.eval v = u)
    (hK : ∀ w', Mp w' b (n + 1) (putF f k u) (D.put (.string k) (.held u)) → w.grownBy w' (some b) → wpList Tryz.prog ops Q rest (a.put o.dst undef) w') : wpList Tryz.prog ops Q (o :: rest) a w :=
  wpList_mapUpdate_own w hg m x v t hop 9 e strK ht Rv b n D hm hM.own (by simp only [maxLen]; omega) _ _ _ hx hv (key_of hk) (.held u) [] rfl fun w' h1 h2 => hK w' (hM.put_ hk h1) h2
end
theorem Below.ofGrown {B : Nat} {w w' : World} {b : Nat} (hg : w.grownBy w' (some b)) (hB : B ≤ b) (hs : B ≤ w.heap.size) : Below B w w' := (Below.refl _ _).grown hg hs (fun k hk => by cases hk; exact hB)
end Go.Proofs.YthfodpbecddheaaGreatDoor


/-
  Laws for append on slices of uint32 whose capacity is their length, and for make. Conditions: at most 100000 digits.
-/
import Derived.Test.YtaiceebhifecbaaDoorBase
namespace Go.Proofs.YtaiceebhifecbaaDoor
open Go.RowKit
theorem info35 : (Tryd.prog.info? 35).map (fun i => (i.zero, i.size, i.bytes)) = some (some (.int .u32 0), 1, 4) := by kernel_rfl

theorem info35_parts : ∃ i, Tryd.prog.info? 35 = some i ∧ i.zero = some (.int .u32 0) ∧ i.size = 1 ∧ i.bytes = 4 := by
  have h := info35
  cases hi : Tryd.prog.info? 35 with
  | none => rw [hi] at h; cases h
  | some i =>
    rw [hi] at h
    simp at h
    exact ⟨i, rfl, h⟩

/-- The cells of a list of digits. -/
def dcells (zs : List Nat) : List Value := zs.map fun z : Nat => .int .u32 (z : Int)
theorem dcells_length (zs : List Nat) : (dcells zs).length = zs.length := by simp [dcells]
theorem dcells_row {w : World} {g off : Nat} {zs : List Nat} (h : Row w g off zs) : ∀ j v, (dcells zs)[j]? = some v → w.cell? ((⟨g, off, none⟩ : Addr).add j) = some v := by
  intro j v hv
  rw [Addr.add_lit]
  have hj : j < zs.length := by
    rcases Nat.lt_or_ge j zs.length with h1 | h1
    · exact h1
    · rw [List.getElem?_eq_none (by rw [dcells_length]; exact h1)] at hv; cases hv
  rw [h j hj]
  simp [dcells, List.getElem?_eq_getElem hj] at hv
  rw [hv]

theorem own_new (w : World) (zs : List Nat) (rest : Array Value) : Own (w.alloc (.cells ((dcells zs).toArray ++ rest) 35)) w.heap.size 0 zs :=
  Row.new w 35 _ zs fun i hi => by
    rw [Array.getElem?_append_left (by simpa [dcells_length] using hi)]
    simp [dcells, List.getElem?_eq_getElem hi]

theorem own_drew {w : World} {g off : Nat} {zs : List Nat} (h : Own w g off zs) : Own w.drew g off zs := h

theorem below_drew_alloc (w : World) (o : Obj) : Below w.heap.size w (w.drew.alloc o) := ((Below.refl _ _).drew).alloc (Nat.le_refl _) o

theorem run_append_tight (ty : TypeId) (w : World) (A B : Option Addr) (xs ys : List Nat) (n d : Nat) (hx : Rd w A xs) (hn : xs.length = n) (hA : n = 0 ∨ 0 < n) (hy : Rd w B ys) (hx1 : xs.length ≤ 100000) (hy1 : ys.length ≤ 100000) (hne : ys ≠ [] ∨ xs = []) :
    ∃ A' c' w', (Builtin.append_ #[22, 22] ty #[.slice A n n, .slice B ys.length d]).run Tryd.prog w = .ok (.slice A' (n + ys.length) c') w' ∧ n + ys.length ≤ c' ∧ Fr w.heap.size w' A' (xs ++ ys) ∧ Below w.heap.size w w' := by
  obtain ⟨i, hi, hz, hs, hby⟩ := info35_parts
  subst hn
  rcases Nat.eq_zero_or_pos ys.length with h0 | h0
  · have hys := List.eq_nil_of_length_eq_zero h0
    subst hys
    rcases hne with h | rfl
    · exact absurd rfl h
    · refine ⟨A, 0, w, ?_, by simp, by simpa using Fr.nil _ _ _, Below.refl _ _⟩
      cases A <;> cases B <;> simp [Builtin.append_, run_underlying Tryd.underlying22, sizeOf, typeInfo, hi, Builtin.lenOf, Builtin.firstCells, storeCells, loadCells, loadCellsFrom]
  · obtain ⟨gy, oy, rfl, ry⟩ := hy.at_ h0
    have hlen := dcells_length ys
    have hlx := dcells_length xs
    cases A with
    | none =>
      have hx0 : xs = [] := by
        rcases hx with h | ⟨g, off, h, _⟩
        · exact h
        · cases h
      subst hx0
      have hr := run_append_nil (P := Tryd.prog) (w := w) 22 ty 35 i _ Tryd.underlying22 hi hz ⟨gy, oy, none⟩ ys.length d (dcells ys) (by rw [hs]; omega) (dcells_row ry) h0 (by omega) (by rw [hby]; omega)
      refine ⟨_, _, _, by simpa using hr, by simpa using grownCap_ge w ys.length 0 35, .inr ⟨_, _, rfl, Nat.le_refl _, ?_⟩, below_drew_alloc _ _⟩
      exact own_new w.drew ys _
    | some a =>
      rcases hx with rfl | ⟨gx, ox, e, rx⟩
      · have hr := run_append_grow (P := Tryd.prog) (w := w) 22 ty 35 i _ Tryd.underlying22 hi hz a 0 0 [] (by simp) (by simp) ⟨gy, oy, none⟩ ys.length d (dcells ys) (by rw [hs]; omega) (dcells_row ry) (by omega) (by omega)
          (by rw [hby]; exact growslice_fits (by omega) (by omega))
        refine ⟨_, _, _, by simpa using hr, by simpa using grownCap_ge w (0 + ys.length) 0 35, .inr ⟨_, _, rfl, Nat.le_refl _, ?_⟩, below_drew_alloc _ _⟩
        simpa using own_new w.drew ys _
      · injection e with e
        subst e
        have hr := run_append_grow (P := Tryd.prog) (w := w) 22 ty 35 i _ Tryd.underlying22 hi hz ⟨gx, ox, none⟩ xs.length xs.length (dcells xs) (by rw [hs]; omega) (dcells_row rx) ⟨gy, oy, none⟩ ys.length d (dcells ys) (by rw [hs]; omega) (dcells_row ry) (by omega) (by omega)
          (by rw [hby]; exact growslice_fits (by omega) (by omega))
        refine ⟨_, _, _, hr, grownCap_ge w _ _ 35, .inr ⟨_, _, rfl, Nat.le_refl _, ?_⟩, below_drew_alloc _ _⟩
        have := own_new w.drew (xs ++ ys) (Builtin.zeroCells (Value.int IntKind.u32 0).cells (grownCap w (xs.length + ys.length) xs.length 35 - (xs.length + ys.length)))
        simpa [dcells] using this

theorem wpList_append32 {P : Program} {w w' : World} {ops : Array Oper} {rest : List Oper} {o : Oper} {a : Act} {Q : Exit → Act → World → Prop} {t : TypeId} {u v v' : Value} (hgd : o.guard = none) (s x : Operand)
    (ho : o.op = .call { callee := .builtin .append, args := #[s, x], argTypes := #[t, t] }) (hs : a.eval s = v) (hx : a.eval x = u) (hrun : (Builtin.append_ #[t, t] o.type #[v, u]).run P w = .ok v' w')
    (h : wpList P ops Q rest (a.put o.dst v') w') : wpList P ops Q (o :: rest) a w :=
  wpList_plain hgd fun _ hK => by
    unfold Oper.wp execOp
    simp only [ho, resolve, invoke, builtin, Sem.run_bind, Sem.run_pure, Result.andThen_ok, List.map_toArray, List.map_cons, List.map_nil, hs, hx, hrun]
    exact hK _ _ h

theorem wpList_tight {w : World} {ops : Array Oper} {rest : List Oper} {o : Oper} {a : Act} {Q : Exit → Act → World → Prop} (hgd : o.guard = none) (s x : Operand)
    (ho : o.op = .call { callee := .builtin .append, args := #[s, x], argTypes := #[22, 22] }) (A B : Option Addr) (xs ys : List Nat) (n d : Nat) (hs : a.eval s = .slice A n n) (hx : a.eval x = .slice B ys.length d)
    (h1 : Rd w A xs) (hn : xs.length = n) (h2 : Rd w B ys) (hx1 : xs.length ≤ 100000) (hy1 : ys.length ≤ 100000) (hne : ys ≠ [] ∨ xs = [])
    (h : ∀ A' c' w', n + ys.length ≤ c' → Fr w.heap.size w' A' (xs ++ ys) → Below w.heap.size w w' → wpList Tryd.prog ops Q rest (a.put o.dst (.slice A' (n + ys.length) c')) w') : wpList Tryd.prog ops Q (o :: rest) a w := by
  obtain ⟨A', c', w', hrun, hc, hf, hb⟩ := run_append_tight o.type w A B xs ys n d h1 hn (Nat.eq_zero_or_pos n) h2 hx1 hy1 hne
  exact wpList_append32 hgd s x ho hs hx hrun (h A' c' w' hc hf hb)
end Go.Proofs.YtaiceebhifecbaaDoor

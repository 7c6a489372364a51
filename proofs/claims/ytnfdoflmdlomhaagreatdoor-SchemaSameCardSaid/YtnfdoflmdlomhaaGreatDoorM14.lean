import Derived.Test.YtnfdoflmdlomhaaGreatDoorM10
import Derived.Test.YtnfdoflmdlomhaaGreatDoorM09
/-
  Maps keyed by names, with whatever elements. No conditions beyond those that each names.
-/
namespace Go.Proofs.YtnfdoflmdlomhaaGreatDoor
open Go.RowKit Go.Maps
/-- How an element reads: as itself. -/
def Rv (v : Value) : Option (DataW Value × List MemPlace) := some (.held v, [])
theorem strK : Keyed Tryz.prog 9 := string_keyed Tryz.underlying9
/-- Block b is a map of at most n names, in which f finds. -/
structure Mp (w : World) (b n : Nat) (f : List UInt8 → Option Value) (D : DataW Value) : Prop where
  own : w.ownsMap Tryz.prog 9 Rv b n D
  has_ : ∀ x, Maps.has D (.string x) = (f x).isSome
  at_ : ∀ x z, D.atKey (.string x) z = match f x with | some v => .held v | none => z
theorem Mp.lt {w : World} {b n : Nat} {f : List UInt8 → Option Value} {D : DataW Value} (h : Mp w b n f D) : b < w.heap.size := h.own.lt
theorem Mp.next {w w' : World} {b n : Nat} {f : List UInt8 → Option Value} {D : DataW Value} (h : Mp w b n f D) (hb : Below w.heap.size w w') : Mp w' b n f D := by
  refine ⟨?_, h.has_, h.at_⟩
  obtain ⟨es, clock, e, r⟩ := h.own
  exact ⟨es, clock, (hb.block b h.lt).trans e, r⟩
theorem Mp.kept {w w' : World} {b n : Nat} {f : List UInt8 → Option Value} {D : DataW Value} {row : Option Nat} (h : Mp w b n f D) (hg : w.grownBy w' row) (hne : some b ≠ row) : Mp w' b n f D := ⟨h.own.kept hg hne, h.has_, h.at_⟩
theorem Mp.made (w : World) : Mp (w.alloc (.map #[] 0)) w.heap.size 0 (fun _ => none) (.map []) :=
  ⟨World.ownsMap_made _ _ _ _, fun _ => rfl, fun _ _ => rfl⟩
theorem key_of {x : List UInt8} (hx : x.length ≤ 9223372036854775807) : keyOf Tryz.prog 9 (.string (bs x)) = some (.string x) :=
  Go.WideMaps.keyOf_string_mk Tryz.underlying9 (s := bs x) (by show x.length ≤ maxLen; simp only [maxLen]; omega)
/-- The map with one name more. -/
def putF (f : List UInt8 → Option Value) (x : List UInt8) (v : Value) : List UInt8 → Option Value := fun y => if y = x then some v else f y
theorem Mp.put_ {w w' : World} {b n : Nat} {f : List UInt8 → Option Value} {D : DataW Value} (h : Mp w b n f D) {x : List UInt8} (hx : x.length ≤ 9223372036854775807) {v : Value} (ho : w'.ownsMap Tryz.prog 9 Rv b (n + 1) (D.put (.string x) (.held v))) : Mp w' b (n + 1) (putF f x v) (D.put (.string x) (.held v)) := by
  have hk : WideAt.IsKeyLit (.string x) := by
    have := strK.key (key_of hx)
    exact this
  have hm : IsMap D := h.own.isMap
  refine ⟨ho, fun y => ?_, fun y z => ?_⟩
  · unfold putF
    by_cases e : y = x
    · subst e; rw [if_pos rfl, has_put_same hm hk]; rfl
    · rw [if_neg e, has_put_other (by intro h; cases h; exact e rfl), h.has_]
  · unfold putF
    by_cases e : y = x
    · subst e; rw [if_pos rfl, atKey_put_same hm hk]
    · rw [if_neg e, atKey_put_other (by intro h; cases h; exact e rfl), h.at_]
section
variable (w : World) {ops : Array Oper} {rest : List Oper} {o : Oper} {a : Act} {Q : Exit → Act → World → Prop}
/-- m[x]. -/
theorem wpList_look (hg : o.guard = none) (m x : Operand) (t e : TypeId) (hop : o.op = Op.lookup t m x false) (ht : Tryz.prog.underlying t = some (.map 9 e)) {z : Value} (hz : (zeroValue e).run Tryz.prog w = .ok z w) {b n : Nat} {f : List UInt8 → Option Value} {D : DataW Value}
    (hM : Mp w b n f D) (hm : a.eval m = .map (some b)) {k : List UInt8} (hk : k.length ≤ 9223372036854775807) (hx : a.eval x = .string (bs k))
    (hK : wpList Tryz.prog ops Q rest (a.put o.dst ((f k).getD z)) w) : wpList Tryz.prog ops Q (o :: rest) a w := by
  refine wpList_plain hg fun K' hK' => ?_
  obtain ⟨v, ps, hrun, hv⟩ := hM.own.lookup strK ht hz (zd := .held z) (zp := []) rfl (key_of hk)
  have e : v = (f k).getD z := by
    rw [hM.at_] at hv
    cases h : f k with
    | none => rw [h] at hv; cases hv; rfl
    | some u => rw [h] at hv; cases hv; rfl
  unfold Oper.wp
  simp [execOp, hop, hm, hx, hrun, Result.andThen]
  rw [e]
  exact hK' _ _ hK
/-- v, ok := m[x]. -/
theorem wpList_look_ok (hg : o.guard = none) (m x : Operand) (t e : TypeId) (hop : o.op = Op.lookup t m x true) (ht : Tryz.prog.underlying t = some (.map 9 e)) {z : Value} (hz : (zeroValue e).run Tryz.prog w = .ok z w) {b n : Nat} {f : List UInt8 → Option Value} {D : DataW Value}
    (hM : Mp w b n f D) (hm : a.eval m = .map (some b)) {k : List UInt8} (hk : k.length ≤ 9223372036854775807) (hx : a.eval x = .string (bs k))
    (hK : wpList Tryz.prog ops Q rest (a.put o.dst (.tuple #[(f k).getD z, .bool (f k).isSome])) w) : wpList Tryz.prog ops Q (o :: rest) a w := by
  refine wpList_lookup_own_ok w hg m x t hop 9 e strK ht Rv hz (.held z) [] rfl b n D hm hM.own _ _ hx (key_of hk) fun v ps hv => ?_
  have e : v = (f k).getD z := by
    rw [hM.at_] at hv
    cases h : f k with
    | none => rw [h] at hv; cases hv; rfl
    | some u => rw [h] at hv; cases hv; rfl
  rw [e, hM.has_]
  exact hK
/-- m[x] = v. -/
theorem wpList_put (hg : o.guard = none) (m x v : Operand) (t e : TypeId) (hop : o.op = Op.mapUpdate t m x v) (ht : Tryz.prog.underlying t = some (.map 9 e)) {b n : Nat} {f : List UInt8 → Option Value} {D : DataW Value}
    (hM : Mp w b n f D) (hn : n ≤ 1000000) (hm : a.eval m = .map (some b)) {k : List UInt8} (hk : k.length ≤ 9223372036854775807) (hx : a.eval x = .string (bs k)) {u : Value} (hv : a.eval v = u)
    (hK : ∀ w', Mp w' b (n + 1) (putF f k u) (D.put (.string k) (.held u)) → w.grownBy w' (some b) → wpList Tryz.prog ops Q rest (a.put o.dst undef) w') : wpList Tryz.prog ops Q (o :: rest) a w :=
  wpList_mapUpdate_own w hg m x v t hop 9 e strK ht Rv b n D hm hM.own (by simp only [maxLen]; omega) _ _ _ hx hv (key_of hk) (.held u) [] rfl fun w' h1 h2 => hK w' (hM.put_ hk h1) h2
end
theorem Below.ofGrown {B : Nat} {w w' : World} {b : Nat} (hg : w.grownBy w' (some b)) (hB : B ≤ b) (hs : B ≤ w.heap.size) : Below B w w' := (Below.refl _ _).grown hg hs (fun k hk => by cases hk; exact hB)
end Go.Proofs.YtnfdoflmdlomhaaGreatDoor
/-
  The developers' names of types, and names that are admitted. No conditions beyond those that each names, and what the library's variables hold.
-/
namespace Go.Proofs.YtnfdoflmdlomhaaGreatDoor
open Go.RowKit Go.Maps
set_option maxRecDepth 100000 in
theorem isTypeName_any (l : List UInt8) (w : World) (hl : l.length ≤ 140737488355328) (hE : Env w) :
    Calls Tryz.prog 65 #[.string (bs l)] w (Ib (.bool (isTn l)) w) := by
  have hsz : (bs l).size = l.length := rfl
  have c1 := isNameD_any l w hl hE
  cases h : isN l
  · rw [h] at c1
    rw [show isTn l = false by unfold isTn; rw [h]; rfl]
    go_enter Tryz.func65, Tryz.ntmps65
    go_wp2_with fail
    refine c1.mono ?_
    rintro e w' ⟨rfl, hb⟩
    go_wp2_with fail
    go_ret
    exact ⟨rfl, hb⟩
  · obtain ⟨c, h0, hc, e⟩ : ∃ (c : UInt8) (h0 : 0 < l.length), l[0]'h0 = c ∧ isTn l = (decide (65 ≤ c.toNat) && decide (c.toNat ≤ 90)) := by
      match l, isN_ne h with
      | c :: r, _ => exact ⟨c, by simp, rfl, by unfold isTn; rw [h, Bool.true_and]⟩
    rw [h] at c1
    obtain ⟨r, hr⟩ : ∃ r, isTn l = r := ⟨_, rfl⟩
    rw [hr]
    rw [e] at hr
    have h00 : 0 < (bs l).size := h0
    have hb : ((bs l)[0]'h00).toNat = c.toNat := by rw [← hc]; rfl
    generalize c.toNat = n at *
    have HR := Lib.hid hr
    clear hc e h hr
    by_cases g1 : 65 ≤ n
    · have d1 : decide ((65 : Int) ≤ (n : Int)) = true := by rw [decide_eq_true_eq]; omega
      by_cases g2 : n ≤ 90
      · have d2 : decide ((n : Int) ≤ 90) = true := by rw [decide_eq_true_eq]; omega
        obtain rfl : r = true := by rw [← HR.out, decide_eq_true g1, decide_eq_true g2]; rfl
        clear HR g1 g2
        go_enter Tryz.func65, Tryz.ntmps65
        go_wp2_with fail
        refine c1.mono ?_
        rintro e w' ⟨rfl, hb⟩
        go_wp2_with fail
        go_ret
        exact ⟨rfl, hb⟩
      · have d2 : decide ((n : Int) ≤ 90) = false := by rw [decide_eq_false_iff_not]; omega
        obtain rfl : r = false := by rw [← HR.out, decide_eq_false g2, Bool.and_false]
        clear HR g1 g2
        go_enter Tryz.func65, Tryz.ntmps65
        go_wp2_with fail
        refine c1.mono ?_
        rintro e w' ⟨rfl, hb⟩
        go_wp2_with fail
        go_ret
        exact ⟨rfl, hb⟩
    · have d1 : decide ((65 : Int) ≤ (n : Int)) = false := by rw [decide_eq_false_iff_not]; omega
      obtain rfl : r = false := by rw [← HR.out, decide_eq_false g1, Bool.false_and]
      clear HR g1
      go_enter Tryz.func65, Tryz.ntmps65
      go_wp2_with fail
      refine c1.mono ?_
      rintro e w' ⟨rfl, hb⟩
      go_wp2_with fail
      go_ret
      exact ⟨rfl, hb⟩
/-- The names of a list, as a map to true. -/
def setF (l : List (List UInt8)) (x : List UInt8) : Option Value := if l.contains x = true then some (.bool true) else none
theorem setF_nil : setF [] = fun _ => none := by funext x; rfl
theorem setF_put (l : List (List UInt8)) (x : List UInt8) : putF (setF l) x (.bool true) = setF (l ++ [x]) := by
  funext y
  unfold putF setF
  by_cases e : y = x
  · subst e; simp
  · simp [e]
theorem setF_getD (l : List (List UInt8)) (x : List UInt8) : (setF l x).getD (.bool false) = .bool (l.contains x) := by
  unfold setF
  cases h : l.contains x <;> simp
def Ms (w : World) (b n : Nat) (l : List (List UInt8)) : Prop := ∃ D, Mp w b n (setF l) D
theorem Ms.made (w : World) : Ms (w.alloc (.map #[] 0)) w.heap.size 0 [] := ⟨_, by rw [setF_nil]; exact Mp.made w⟩
theorem Ms.next {w w' : World} {b n : Nat} {l : List (List UInt8)} (h : Ms w b n l) (hb : Below w.heap.size w w') : Ms w' b n l := by obtain ⟨D, h⟩ := h; exact ⟨D, h.next hb⟩
theorem Ms.kept {w w' : World} {b n : Nat} {l : List (List UInt8)} {row : Option Nat} (h : Ms w b n l) (hg : w.grownBy w' row) (hne : some b ≠ row) : Ms w' b n l := by obtain ⟨D, h⟩ := h; exact ⟨D, h.kept hg hne⟩
theorem Ms.lt {w : World} {b n : Nat} {l : List (List UInt8)} (h : Ms w b n l) : b < w.heap.size := by obtain ⟨D, h⟩ := h; exact h.lt
theorem gb_of {w w' : World} (hb : Below w.heap.size w w') (row : Option Nat) : w.grownBy w' row := ⟨hb.os, hb.tape, hb.output, hb.size, fun i hi _ => hb.block i hi⟩
theorem gb_next {w w1 w2 : World} {b : Nat} (h : w.grownBy w1 (some b)) (k : Below w1.heap.size w1 w2) : w.grownBy w2 (some b) := h.trans (gb_of k _)
theorem Bx.kept {w w' : World} {c b : Nat} {vs : List Value} (h : Bx w c vs) (hg : w.grownBy w' (some b)) (hne : c ≠ b) : Bx w' c vs := by
  have e : w'.heap[c]? = w.heap[c]? := hg.block c h.lt (fun h => hne (by cases h; rfl))
  refine ⟨Nat.lt_of_lt_of_le h.lt hg.size, fun j v hv => ⟨?_, ?_⟩⟩
  · exact (World.cell?_of_block (w := w) e).trans (h.at_ j v hv).1
  · exact (World.frozen?_of_block (w := w) e).trans (h.at_ j v hv).2
/-- The error of a name that is admitted. -/
def adE (p : Bool) (l : List (List UInt8)) (x : List UInt8) : Nat := if p = false then 5 else if l.contains x = true then 7 else 0
/-- What admit leaves. -/
def AdP (p : Bool) (l : List (List UInt8)) (x : List UInt8) (b n : Nat) (w : World) (e : Ending) (w' : World) : Prop :=
  e = .returned (.int .i64 (adE p l x : Int)) ∧ w.grownBy w' (some b) ∧ (adE p l x ≠ 0 → Below w.heap.size w w') ∧ (adE p l x = 0 → Ms w' b (n + 1) (l ++ [x]))
theorem zeroBool (w : World) : (zeroValue 4).run Tryz.prog w = .ok (.bool false) w := by kernel_rfl
set_option maxRecDepth 100000 in
set_option maxHeartbeats 1000000 in
theorem admitT_any (x : List UInt8) (b n : Nat) (l : List (List UInt8)) (w : World) (hx : x.length ≤ 140737488355328) (hE : Env w) (hM : Ms w b n l) (hn : n ≤ 1000) :
    Calls Tryz.prog 64 #[.string (bs x), .func (.func 65) #[] #[], .map (some b)] w (AdP (isTn x) l x b n w) := by
  have c1 := isTypeName_any x w hx hE
  have hx2 : x.length ≤ 9223372036854775807 := by omega
  cases hp : isTn x
  · rw [hp] at c1
    have HA : AdP false l x b n w = fun e w' => e = .returned (.int .i64 5) ∧ w.grownBy w' (some b) ∧ (5 ≠ 0 → Below w.heap.size w w') ∧ (5 = 0 → Ms w' b (n + 1) (l ++ [x])) := rfl
    clear HA hp
    go_enter Tryz.func64, Tryz.ntmps64
    go_wp2_with fail
    refine c1.mono ?_
    rintro e w1 ⟨rfl, hb⟩
    go_wp2_with fail
    go_ret
    exact ⟨rfl, gb_of hb _, fun _ => hb, fun h => absurd (show (5 : Nat) = 0 from h) (by decide)⟩
  · rw [hp] at c1
    clear hp
    obtain ⟨D, hM⟩ := hM
    have hv := setF_getD l x
    cases hc : l.contains x
    · rw [hc] at hv
      have he : adE true l x = 0 := by unfold adE; rw [hc]; rfl
      have HQ := Lib.hid he
      clear he hc
      go_enter Tryz.func64, Tryz.ntmps64
      go_wp2_with fail
      refine c1.mono ?_
      rintro e w1 ⟨rfl, hb⟩
      have hM1 := hM.next hb
      go_wp2_with (first | (at_lookup; refine wpList_look _ rfl (.tmp 11) (.tmp 12) 69 4 rfl Tryz.underlying69 (zeroBool _) hM1 rfl hx2 rfl ?_; rw [hv]) | (at_mapUpdate; refine wpList_put (u := .bool true) (k := x) _ rfl (.tmp 14) (.tmp 15) (.const (.bool true)) 69 4 rfl Tryz.underlying69 hM1 (by omega) rfl hx2 rfl rfl ?_; intro w2 hM2 hg2))
      go_ret
      refine ⟨by rw [HQ.out]; rfl, (gb_of hb _).trans hg2, fun h => absurd HQ.out h, fun _ => ⟨D.put (.string x) (.held (.bool true)), ?_⟩⟩
      rw [← setF_put]
      exact hM2
    · rw [hc] at hv
      have he : adE true l x = 7 := by unfold adE; rw [hc]; rfl
      have HQ := Lib.hid he
      clear he hc
      go_enter Tryz.func64, Tryz.ntmps64
      go_wp2_with fail
      refine c1.mono ?_
      rintro e w1 ⟨rfl, hb⟩
      have hM1 := hM.next hb
      go_wp2_with (at_lookup; refine wpList_look _ rfl (.tmp 11) (.tmp 12) 69 4 rfl Tryz.underlying69 (zeroBool _) hM1 rfl hx2 rfl ?_; rw [hv])
      go_ret
      exact ⟨by rw [HQ.out]; rfl, gb_of hb _, fun _ => hb, fun h => by rw [HQ.out] at h; cases h⟩
set_option maxRecDepth 100000 in
set_option maxHeartbeats 1000000 in
theorem admitN_any (x : List UInt8) (b n : Nat) (l : List (List UInt8)) (w : World) (hx : x.length ≤ 140737488355328) (hE : Env w) (hM : Ms w b n l) (hn : n ≤ 1000) :
    Calls Tryz.prog 64 #[.string (bs x), .func (.func 66) #[] #[], .map (some b)] w (AdP (isN x) l x b n w) := by
  have c1 := isNameD_any x w hx hE
  have hx2 : x.length ≤ 9223372036854775807 := by omega
  cases hp : isN x
  · rw [hp] at c1
    have HA : AdP false l x b n w = fun e w' => e = .returned (.int .i64 5) ∧ w.grownBy w' (some b) ∧ (5 ≠ 0 → Below w.heap.size w w') ∧ (5 = 0 → Ms w' b (n + 1) (l ++ [x])) := rfl
    clear HA hp
    go_enter Tryz.func64, Tryz.ntmps64
    go_wp2_with fail
    refine c1.mono ?_
    rintro e w1 ⟨rfl, hb⟩
    go_wp2_with fail
    go_ret
    exact ⟨rfl, gb_of hb _, fun _ => hb, fun h => absurd (show (5 : Nat) = 0 from h) (by decide)⟩
  · rw [hp] at c1
    clear hp
    obtain ⟨D, hM⟩ := hM
    have hv := setF_getD l x
    cases hc : l.contains x
    · rw [hc] at hv
      have he : adE true l x = 0 := by unfold adE; rw [hc]; rfl
      have HQ := Lib.hid he
      clear he hc
      go_enter Tryz.func64, Tryz.ntmps64
      go_wp2_with fail
      refine c1.mono ?_
      rintro e w1 ⟨rfl, hb⟩
      have hM1 := hM.next hb
      go_wp2_with (first | (at_lookup; refine wpList_look _ rfl (.tmp 11) (.tmp 12) 69 4 rfl Tryz.underlying69 (zeroBool _) hM1 rfl hx2 rfl ?_; rw [hv]) | (at_mapUpdate; refine wpList_put (u := .bool true) (k := x) _ rfl (.tmp 14) (.tmp 15) (.const (.bool true)) 69 4 rfl Tryz.underlying69 hM1 (by omega) rfl hx2 rfl rfl ?_; intro w2 hM2 hg2))
      go_ret
      refine ⟨by rw [HQ.out]; rfl, (gb_of hb _).trans hg2, fun h => absurd HQ.out h, fun _ => ⟨D.put (.string x) (.held (.bool true)), ?_⟩⟩
      rw [← setF_put]
      exact hM2
    · rw [hc] at hv
      have he : adE true l x = 7 := by unfold adE; rw [hc]; rfl
      have HQ := Lib.hid he
      clear he hc
      go_enter Tryz.func64, Tryz.ntmps64
      go_wp2_with fail
      refine c1.mono ?_
      rintro e w1 ⟨rfl, hb⟩
      have hM1 := hM.next hb
      go_wp2_with (at_lookup; refine wpList_look _ rfl (.tmp 11) (.tmp 12) 69 4 rfl Tryz.underlying69 (zeroBool _) hM1 rfl hx2 rfl ?_; rw [hv])
      go_ret
      exact ⟨by rw [HQ.out]; rfl, gb_of hb _, fun _ => hb, fun h => by rw [HQ.out] at h; cases h⟩
end Go.Proofs.YtnfdoflmdlomhaaGreatDoor
/-
  The developers' test of an enumeration. No conditions beyond those that each names, and what the library's variables hold.
-/
namespace Go.Proofs.YtnfdoflmdlomhaaGreatDoor
open Go.RowKit Go.Maps
/-- What a test of a definition leaves. -/
def CkP (r : Nat) (x : List UInt8) (l : List (List UInt8)) (b n : Nat) (w : World) (e : Ending) (w' : World) : Prop :=
  e = .returned (.int .i64 (r : Int)) ∧ w.grownBy w' (some b) ∧ (r = 0 → Ms w' b (n + 1) (l ++ [x]))
theorem CkP.bad {r : Nat} {x : List UInt8} {l : List (List UInt8)} {b n : Nat} {w w' : World} {i : Int} (h0 : r ≠ 0) (hi : i = (r : Int)) (hg : w.grownBy w' (some b)) : CkP r x l b n w (.returned (.int .i64 i)) w' := ⟨by rw [hi], hg, fun h => absurd h h0⟩
theorem CkP.ok {r : Nat} {x : List UInt8} {l : List (List UInt8)} {b n : Nat} {w w' : World} (h0 : r = 0) (hg : w.grownBy w' (some b)) (hM : Ms w' b (n + 1) (l ++ [x])) : CkP r x l b n w (.returned (.int .i64 0)) w' := ⟨by rw [h0]; rfl, hg, fun _ => hM⟩
theorem gb_alloc (w : World) (o : Obj) (row : Option Nat) : w.grownBy (w.alloc o) row := gb_of (ab1 w o) row
theorem getD_of {α : Type} {l : List α} {k : Nat} (h : k < l.length) (d : α) : l.getD k d = l[k]'h := by simp [List.getD_eq_getElem?_getD, h]
set_option maxRecDepth 100000 in
set_option maxHeartbeats 4000000 in
theorem checkEnum_any (W0 : World) (x : En) (v : Value) (b n : Nat) (l : List (List UInt8)) (w : World) (hv : EnV W0 x v) (hb0 : Below W0.heap.size W0 w) (hlow : W0.heap.size ≤ b) (hM : Ms w b n l) (hE : Env W0) (hn : n ≤ 1000)
    (h40 : x.name.length ≤ 40) (hq : x.names.length ≤ 18) (hs : ∀ y ∈ x.names, y.length ≤ 40) :
    Calls Tryz.prog 39 #[v, .map (some b)] w (CkP (enErr l x) x.name l b n w) := by
  have hmm := @run_makeMap Tryz.prog
  obtain ⟨A, c, A2, c2, rfl, hVn, hVi⟩ := hv
  have hbne : w.heap.size ≠ b := by have := hM.lt; omega
  obtain ⟨m, hm⟩ : ∃ m, x.names.length = m := ⟨_, rfl⟩
  obtain ⟨q, hq2⟩ : ∃ q, x.nums.length = q := ⟨_, rfl⟩
  have HM := Lib.hid hm
  have HQ := Lib.hid hq2
  rw [hm] at hq ⊢
  rw [hq2]
  have hB0 := Bx.new3 w 38 (.string (bs x.name)) (.slice A m c) (.slice A2 q c2)
  have cA := admitT_any x.name b n l (w.alloc (Obj.cells #[.string (bs x.name), .slice A m c, .slice A2 q c2] 38)) (by omega) (hE.next (hb0.alloc hb0.size _)) (hM.next (ab1 _ _)) hn
  have hga := gb_alloc w (Obj.cells #[.string (bs x.name), .slice A m c, .slice A2 q c2] 38) (some b)
  have hba := hb0.alloc hb0.size (Obj.cells #[.string (bs x.name), .slice A m c, .slice A2 q c2] 38)
  obtain ⟨r, hr⟩ : ∃ r, enErr l x = r := ⟨_, rfl⟩
  rw [hr]
  unfold enErr at hr
  rw [hm, hq2] at hr
  clear hm hq2 hM
  cases g1 : isTn x.name
  · rw [g1] at cA hr
    rw [if_pos rfl] at hr
    subst hr
    clear g1
    go_enter Tryz.func39, Tryz.ntmps39
    go_wp2_with fail
    refine cA.mono ?_
    rintro e w1 ⟨rfl, hg, -, -⟩
    rw [show adE false l x.name = 5 from rfl]
    go_wp2_with fail
    go_ret
    exact CkP.bad (by decide) rfl (hga.trans hg)
  · rw [g1] at cA hr
    rw [if_neg (by decide)] at hr
    cases g2 : l.contains x.name
    · rw [g2, if_neg (by decide)] at hr
      have ha : adE true l x.name = 0 := by unfold adE; rw [g2]; rfl
      clear g1 g2
      by_cases g3 : m = 0
      · rw [if_pos (.inl g3)] at hr
        subst hr
        subst g3
        go_enter Tryz.func39, Tryz.ntmps39
        go_wp2_with fail
        refine cA.mono ?_
        rintro e w1 ⟨rfl, hg, -, -⟩
        rw [ha]
        have hB1 := hB0.kept hg hbne
        have b0 := hB1.c 0 rfl
        have b1 := hB1.c 1 rfl
        have b2 := hB1.c 2 rfl
        go_wp2_with fail
        go_ret
        exact CkP.bad (by decide) rfl (hga.trans hg)
      · have d3 : ((m : Int) == 0) = false := by rw [beq_eq_false_iff_ne]; omega
        by_cases g4 : q = m
        · subst g4
          have d4 : ((q : Int) != (q : Int)) = false := by simp
          rw [if_neg (by rintro (h | h); exact g3 h; exact h rfl)] at hr
          have HR := Lib.hid hr
          have ha := Lib.hid ha
          clear hr g3
          go_enter Tryz.func39, Tryz.ntmps39
          go_wp2_with fail
          refine cA.mono ?_
          rintro e w1 ⟨rfl, hg, -, hz⟩
          rw [ha.out]
          have hM1 := hz ha.out
          have hB1 := hB0.kept hg hbne
          have b0 := hB1.c 0 rfl
          have b1 := hB1.c 1 rfl
          have b2 := hB1.c 2 rfl
          have hb1 := hba.grown hg hba.size (fun k hk => by cases hk; exact hlow)
          have hE1 : Env w1 := hE.next hb1
          have hgw := hga.trans hg
          have hN0 := Ms.made w1
          have hB2 := hB1.next (ab1 w1 (.map #[] 0))
          have hlt0 := hB1.lt
          clear hz hB0 cA hga hba
          go_wp2_with fail
          clear b0 b1 b2 d3 d4
          go_loopw [35] (fun i wr => ∃ k : Nat, k ≤ q ∧ i = .int .i64 (k : Int) ∧ Hid (∀ j, j < k → nmErr x j = 0) ∧ Bx wr w.heap.size [.string (bs x.name), .slice A q c, .slice A2 q c2] ∧ Ms wr w1.heap.size k (x.names.take k) ∧ Below w1.heap.size w1 wr) (fun i _ => q - (intOf i).toNat)
          case atStart => exact ⟨0, by omega, rfl, Lib.hid fun j h => by omega, hB2, hN0, ab1 _ _⟩
          case round =>
            obtain ⟨k, hk, rfl, hI, hBr, hN, hbr⟩ := hrel
            have b0 := hBr.c 0 rfl
            have b1 := hBr.c 1 rfl
            have b2 := hBr.c 2 rfl
            have hbW := Below.next hb1 hbr
            have hlt1 : w1.heap.size < wr.heap.size := hN.lt
            have hw1 : w.heap.size < w1.heap.size := hB1.lt
            clear hN0 hB2
            by_cases hlt : k < q
            · obtain ⟨a, rfl, hA⟩ := hVn.get (i := k) (by rw [HM.out]; exact hlt)
              obtain ⟨a2, rfl, hA2⟩ := hVi.get (i := k) (by rw [HQ.out]; exact hlt)
              rw [Nat.mul_one] at hA hA2
              have hkm : k < x.names.length := by rw [HM.out]; exact hlt
              have hkq : k < x.nums.length := by rw [HQ.out]; exact hlt
              have hnx : x.names.take (k + 1) = x.names.take k ++ [x.names[k]'hkm] := List.take_succ_eq_append_getElem hkm
              have hcs := nmErr_cases x k
              rw [getD_of hkm, getD_of hkq] at hcs
              have hsk := hs _ (List.getElem_mem hkm)
              have hcell : ∀ W, Below W0.heap.size W0 W → W.cell? (a2.add k) = some (.int .i64 (x.nums[k]'hkq)) ∧ True := fun W hW => ⟨cell_next hW hA2, trivial⟩
              have e0 : wr.cell? (a.add k) = some (.string (bs (x.names[k]'hkm))) := cell_next hbW hA
              have i0 : wr.cell? (a2.add k) = some (.int .i64 (x.nums[k]'hkq)) := cell_next hbW hA2
              have cN := admitN_any (x.names[k]'hkm) w1.heap.size k (x.names.take k) wr (by omega) (hE1.next hbr) hN (by omega)
              have hprev : ∀ W, Below W0.heap.size W0 W → ∀ f, k - 1 = f → 0 < k → W.cell? (a2.add f) = some (.int .i64 (x.nums.getD (k - 1) 0)) := fun W hW f hf h0 => by
                subst hf
                obtain ⟨a3, h3, hA3⟩ := hVi.get (i := k - 1) (by rw [HQ.out]; omega)
                cases h3
                rw [Nat.mul_one] at hA3
                rw [getD_of (by rw [HQ.out]; omega)]
                exact cell_next hW hA3
              generalize x.names[k]'hkm = y at *
              generalize x.nums[k]'hkq = z at *
              have hfe : ∀ e, nmErr x k = e → e ≠ 0 → r = e := fun e he h0 => by rw [← HR.out]; exact fe_at hlt hI.out he h0
              have hnxt := fun h => before_succ (p := fun j => nmErr x j = 0) hI.out (k := k) h
              clear hA hA2
              rcases hcs with ⟨p1, p2⟩ | ⟨p1, p2, p3⟩ | ⟨p1, p2, p3, p4⟩ | ⟨p1, p2, p3, p4, p5, p6⟩ | ⟨p1, p2, p3, p4, p5, p6, p7⟩
              · obtain rfl := hfe _ p2 (by decide)
                have ha2 : adE (isN y) (x.names.take k) y = 5 := by unfold adE; rw [p1]; rfl
                have HA2 := Lib.hid ha2
                clear hfe hnxt hprev p1 p2 ha2
                go_wp2_with fail
                refine cN.mono ?_
                rintro e w2 ⟨rfl, hg2, -, -⟩
                rw [HA2.out]
                go_wp2_with fail
                go_ret
                exact CkP.bad (by decide) rfl (gb_next hgw (hbr.grown hg2 hbr.size (fun k hk => by cases hk; exact Nat.le_refl _)))
              · obtain rfl := hfe _ p3 (by decide)
                have ha2 : adE (isN y) (x.names.take k) y = 7 := by unfold adE; rw [p1, p2]; rfl
                have HA2 := Lib.hid ha2
                clear hfe hnxt hprev p1 p2 p3 ha2
                go_wp2_with fail
                refine cN.mono ?_
                rintro e w2 ⟨rfl, hg2, -, -⟩
                rw [HA2.out]
                go_wp2_with fail
                go_ret
                exact CkP.bad (by decide) rfl (gb_next hgw (hbr.grown hg2 hbr.size (fun k hk => by cases hk; exact Nat.le_refl _)))
              · obtain rfl := hfe _ p4 (by decide)
                clear hfe hnxt hprev p4
                have ha2 : adE (isN y) (x.names.take k) y = 0 := by unfold adE; rw [p1, p2]; rfl
                have HA2 := Lib.hid ha2
                clear p1 p2 ha2
                go_wp2_with fail
                refine cN.mono ?_
                rintro e w2 ⟨rfl, hg2, -, hz2⟩
                rw [HA2.out]
                have hN2 := hz2 HA2.out
                have hBr2 := hBr.kept hg2 (by omega)
                have b0 := hBr2.c 0 rfl
                have b1 := hBr2.c 1 rfl
                have b2 := hBr2.c 2 rfl
                have hbr2 := hbr.grown hg2 hbr.size (fun k hk => by cases hk; exact Nat.le_refl _)
                have hbW2 := hbW.grown hg2 hbW.size (fun k hk => by cases hk; exact hb1.size)
                replace i0 : w2.cell? (a2.add k) = some (.int .i64 z) := (hcell w2 hbW2).1
                clear hcell
                by_cases g5 : z < 0
                · have d5 : decide (z < 0) = true := decide_eq_true g5
                  clear p3 g5
                  go_wp2_with fail
                  go_ret
                  exact CkP.bad (by decide) rfl (gb_next hgw hbr2)
                · have d5 : decide (z < 0) = false := decide_eq_false g5
                  have d6 : decide (127 < z) = true := by rw [decide_eq_true_eq]; omega
                  clear p3 g5
                  go_wp2_with fail
                  go_ret
                  exact CkP.bad (by decide) rfl (gb_next hgw hbr2)
              · obtain rfl := hfe _ p6 (by decide)
                clear hfe hnxt p6
                have ha2 : adE (isN y) (x.names.take k) y = 0 := by unfold adE; rw [p1, p2]; rfl
                have HA2 := Lib.hid ha2
                have d5 : decide (z < 0) = false := by rw [decide_eq_false_iff_not]; omega
                have d6 : decide (127 < z) = false := by rw [decide_eq_false_iff_not]; omega
                clear p1 p2 ha2
                go_wp2_with fail
                refine cN.mono ?_
                rintro e w2 ⟨rfl, hg2, -, hz2⟩
                rw [HA2.out]
                have hN2 := hz2 HA2.out
                have hBr2 := hBr.kept hg2 (by omega)
                have b0 := hBr2.c 0 rfl
                have b1 := hBr2.c 1 rfl
                have b2 := hBr2.c 2 rfl
                have hbr2 := hbr.grown hg2 hbr.size (fun k hk => by cases hk; exact Nat.le_refl _)
                have hbW2 := hbW.grown hg2 hbW.size (fun k hk => by cases hk; exact hb1.size)
                replace i0 : w2.cell? (a2.add k) = some (.int .i64 z) := (hcell w2 hbW2).1
                clear hcell
                clear p3 p4
                by_cases g5 : k = 0
                · subst g5
                  have i0 : w2.cell? a2 = some (.int .i64 z) := i0
                  have d7 : (z == 0) = false := by rw [beq_eq_false_iff_ne]; rcases p5 with h | h; exact h.2; omega
                  have d8 : (z != 0) = true := by rw [bne, d7]; rfl
                  clear p5 hprev
                  go_wp2_with fail
                  go_ret
                  exact CkP.bad (by decide) rfl (gb_next hgw hbr2)
                · have d7 : ((k : Int) == 0) = false := by rw [beq_eq_false_iff_ne]; omega
                  obtain ⟨f, hf⟩ : ∃ f, k - 1 = f := ⟨_, rfl⟩
                  have l11 : (k : Int) - 1 = (f : Int) := by omega
                  have j0 := hprev _ hbW2 f hf (by omega)
                  have hk0 : 0 < k := by omega
                  have hfk : f < q := by omega
                  obtain ⟨zp, hzp⟩ : ∃ zp, x.nums.getD (k - 1) 0 = zp := ⟨_, rfl⟩
                  rw [hzp] at p5 j0
                  have d8 : decide (z ≤ zp) = true := by rw [decide_eq_true_eq]; rcases p5 with h | h; exact absurd h.1 g5; exact h.2
                  clear p5 hprev hzp hf g5
                  go_wp2_with fail
                  go_ret
                  exact CkP.bad (by decide) rfl (gb_next hgw hbr2)
              · have HX := Lib.hid (hnxt p7)
                have HT := Lib.hid hnx
                clear hfe hnxt p7 hnx
                have ha2 : adE (isN y) (x.names.take k) y = 0 := by unfold adE; rw [p1, p2]; rfl
                have HA2 := Lib.hid ha2
                have d5 : decide (z < 0) = false := by rw [decide_eq_false_iff_not]; omega
                have d6 : decide (127 < z) = false := by rw [decide_eq_false_iff_not]; omega
                clear p1 p2 ha2
                go_wp2_with fail
                refine cN.mono ?_
                rintro e w2 ⟨rfl, hg2, -, hz2⟩
                rw [HA2.out]
                have hN2 := hz2 HA2.out
                have hBr2 := hBr.kept hg2 (by omega)
                have b0 := hBr2.c 0 rfl
                have b1 := hBr2.c 1 rfl
                have b2 := hBr2.c 2 rfl
                have hbr2 := hbr.grown hg2 hbr.size (fun k hk => by cases hk; exact Nat.le_refl _)
                have hbW2 := hbW.grown hg2 hbW.size (fun k hk => by cases hk; exact hb1.size)
                replace i0 : w2.cell? (a2.add k) = some (.int .i64 z) := (hcell w2 hbW2).1
                clear hcell
                clear p3 p4
                by_cases g5 : k = 0
                · subst g5
                  have d7 : z = 0 := p5 rfl
                  subst d7
                  have i0 : w2.cell? a2 = some (.int .i64 0) := i0
                  clear p5 p6 hprev
                  go_wp2_with fail
                  go_roundw
                  case rel => exact ⟨1, by omega, by go_num, HX, hBr2, HT.out ▸ hN2, hbr2⟩
                  case measure => simp [intOf]; omega
                · have d7 : ((k : Int) == 0) = false := by rw [beq_eq_false_iff_ne]; omega
                  obtain ⟨f, hf⟩ : ∃ f, k - 1 = f := ⟨_, rfl⟩
                  have l11 : (k : Int) - 1 = (f : Int) := by omega
                  have j0 := hprev _ hbW2 f hf (by omega)
                  have hk0 : 0 < k := by omega
                  have hfk : f < q := by omega
                  obtain ⟨zp, hzp⟩ : ∃ zp, x.nums.getD (k - 1) 0 = zp := ⟨_, rfl⟩
                  rw [hzp] at p6 j0
                  have d8 : decide (z ≤ zp) = false := by rw [decide_eq_false_iff_not]; have := p6 hk0; omega
                  clear p5 p6 hprev hzp hf g5
                  go_wp2_with fail
                  go_roundw
                  case rel => exact ⟨k + 1, by omega, by go_num, HX, hBr2, HT.out ▸ hN2, hbr2⟩
                  case measure => simp [intOf]; omega
            · obtain rfl : k = q := by omega
              have H0 := Lib.hid (show r = 0 by rw [← HR.out]; exact fe_zero hI.out)
              clear hI
              go_wp2_with fail
              go_ret
              exact CkP.ok H0.out (gb_next hgw hbr) (hM1.next hbr)
        · have d4 : ((q : Int) != (m : Int)) = true := by rw [bne_iff_ne]; omega
          rw [if_pos (.inr g4)] at hr
          subst hr
          clear g3 g4
          go_enter Tryz.func39, Tryz.ntmps39
          go_wp2_with fail
          refine cA.mono ?_
          rintro e w1 ⟨rfl, hg, -, -⟩
          rw [ha]
          have hB1 := hB0.kept hg hbne
          have b0 := hB1.c 0 rfl
          have b1 := hB1.c 1 rfl
          have b2 := hB1.c 2 rfl
          go_wp2_with fail
          go_ret
          exact CkP.bad (by decide) rfl (hga.trans hg)
    · rw [g2, if_pos rfl] at hr
      subst hr
      have ha : adE true l x.name = 7 := by unfold adE; rw [g2]; rfl
      clear g1 g2
      go_enter Tryz.func39, Tryz.ntmps39
      go_wp2_with fail
      refine cA.mono ?_
      rintro e w1 ⟨rfl, hg, -, -⟩
      rw [ha]
      go_wp2_with fail
      go_ret
      exact CkP.bad (by decide) rfl (hga.trans hg)
end Go.Proofs.YtnfdoflmdlomhaaGreatDoor

import Derived.Test.YtcjaaijohapeaaaDoorVa
import Derived.Test.YtcjaaijohapeaaaDoorBb
import Derived.DeepKeys4
/-
  A map of slices whose keys are pairs of numbers. No conditions beyond those that each names.
-/
namespace Go.Proofs.YtcjaaijohapeaaaDoor
open Go.RowKit Go.Sort Go.Lib Go.Shelf
open Go.Maps (Keyed)
/-- A sender and an Id. -/
abbrev Kp := Int × Int
def kv (t : Kp) : Value := .agg #[.int .i64 t.1, .int .i64 t.2]
def kl (t : Kp) : Lit := .string (keyBytes [.int .i64 t.1, .int .i64 t.2])
def K64 (t : Kp) : Prop := I64 t.1 ∧ I64 t.2
theorem laidOut : laidOutB Tryd.prog = true := by kernel_rfl
theorem cellsK : Tryd.prog.cellsOf 116 = 2 := by kernel_rfl
theorem cellsI : Tryd.prog.cellsOf 3 = 1 := by kernel_rfl
theorem keyTyK : Tryd.prog.keyType 116 = true := by kernel_rfl
theorem rowK : (116 : TypeId) < Tryd.prog.types.size := of_decide_eq_true (by kernel_rfl)
theorem keyedK : Keyed Tryd.prog 116 := Keyed.of_law (deep_law_laid laidOut (m := 2) (by omega) rowK (by kernel_rfl) (by rw [Tryd.underlying116]))
theorem tySize : ∃ n, Tryd.prog.types.size + 1 = n + 2 := ⟨Tryd.prog.types.size - 1, by have h : (116 : Nat) < Tryd.prog.types.size := rowK; omega⟩
theorem keyK {t : Kp} (h : K64 t) : keyOf Tryd.prog 116 (kv t) = some (kl t) := by
  have h1 := h.1.wf
  have h2 := h.2.wf
  have hf : (kv t).formed Tryd.prog 116 = true := by simp [kv, Value.formed, Tryd.underlying116, cellsK]
  obtain ⟨n, hn⟩ := tySize
  have e1 : Tryd.prog.keyLits (n + 1) 3 [.int .i64 t.1] = some [.int .i64 t.1] := by unfold Program.keyLits; rw [Tryd.underlying3]; simp [h1]
  have e2 : Tryd.prog.keyLits (n + 1) 3 [.int .i64 t.2] = some [.int .i64 t.2] := by unfold Program.keyLits; rw [Tryd.underlying3]; simp [h2]
  have hl : Tryd.prog.keyLits (n + 2) 116 [.int .i64 t.1, .int .i64 t.2] = some [.int .i64 t.1, .int .i64 t.2] := by
    unfold Program.keyLits
    rw [Tryd.underlying116]
    simp [cellsK, cellsI, List.range_succ, e1, e2]
  unfold keyOf
  rw [Tryd.underlying116]
  simp only [keyTyK, hf, Bool.and_self, if_true, hn]
  rw [show (kv t).cells.toList = [.int .i64 t.1, .int .i64 t.2] from rfl, hl]
  rfl
theorem kl_ne {t u : Kp} (ht : K64 t) (hu : K64 u) (h : t ≠ u) : kl t ≠ kl u := by
  intro e
  have := keyedK.inj (keyK ht) (by rw [e]; exact keyK hu)
  unfold kv at this
  injection this with this
  simp at this
  exact h (Prod.ext this.1 this.2)
/-- Block m is a map whose keys are T, with the slices V. -/
def Mk (w : World) (m : Nat) (T : List Kp) (V : Kp → Value) : Prop := ∃ D, w.ownsMap Tryd.prog 116 rSl m T.length D ∧ Go.Maps.Tidy D ∧ Go.Maps.size D = T.length ∧ (∀ t, K64 t → D.atKey (kl t) (.held (.slice none 0 0)) = .held (V t)) ∧ (∀ t, K64 t → Go.Maps.has D (kl t) = decide (t ∈ T)) ∧ (∀ t ∈ T, K64 t)
theorem Mk.lt {w : World} {m : Nat} {T : List Kp} {V : Kp → Value} (h : Mk w m T V) : m < w.heap.size := by obtain ⟨D, h, -⟩ := h; exact h.lt
theorem Mk.blk {w w' : World} {m : Nat} {T : List Kp} {V : Kp → Value} (h : Mk w m T V) (hb : w'.heap[m]? = w.heap[m]?) : Mk w' m T V := by
  obtain ⟨D, ⟨es, clock, h1, h2⟩, h3⟩ := h
  exact ⟨D, ⟨es, clock, hb.trans h1, h2⟩, h3⟩
theorem Mk.next {w w' : World} {m : Nat} {T : List Kp} {V : Kp → Value} (h : Mk w m T V) (hb : Below w.heap.size w w') : Mk w' m T V := h.blk (hb.block m h.lt)
theorem Mk.made (w : World) : Mk (w.alloc (.map #[] 0)) w.heap.size [] (fun _ => .slice none 0 0) :=
  ⟨.map [], World.ownsMap_made w Tryd.prog 116 rSl, Go.Maps.tidy_empty, rfl, fun _ _ => rfl, fun _ _ => rfl, fun _ h => by cases h⟩
theorem zeroSF (w : World) : (zeroValue 37).run Tryd.prog w = .ok (.slice none 0 0) w := by kernel_rfl
theorem Mk.look {w : World} {m : Nat} {T : List Kp} {V : Kp → Value} (h : Mk w m T V) {t : Kp} (ht : K64 t) : (Instr.lookup 107 (.map (some m)) (kv t) false).run Tryd.prog w = .ok (V t) w := by
  obtain ⟨D, h1, h2, h3, h4, h5, h6⟩ := h
  obtain ⟨v, ps, hr, hv⟩ := h1.lookup keyedK Tryd.underlying107 (zeroSF w) (zd := .held (.slice none 0 0)) (zp := []) rfl (keyK ht)
  rw [h4 t ht] at hv
  rw [hr, rSl_inv hv]
theorem Mk.put {w : World} {m : Nat} {T T' : List Kp} {V : Kp → Value} (h : Mk w m T V) {t : Kp} (ht : K64 t) (A : Option Addr) (n c : Nat) (hT : ∀ u, u ∈ T' ↔ u = t ∨ u ∈ T) (hl : T'.length = if t ∈ T then T.length else T.length + 1) (hn : T.length < maxLen) :
    ∃ w', (Instr.mapUpdate 107 (.map (some m)) (kv t) (.slice A n c)).run Tryd.prog w = .ok () w' ∧ Mk w' m T' (fun u => if u = t then .slice A n c else V u) ∧ w.grownBy w' (some m) := by
  obtain ⟨D, h1, h2, h3, h4, h5, h6⟩ := h
  obtain ⟨w', hr, ho, hg⟩ := h1.update keyedK Tryd.underlying107 hn (val := .slice A n c) (d := .held (.slice A n c)) (ps := []) (keyK ht) rfl
  have hsz : Go.Maps.size (D.put (kl t) (.held (.slice A n c))) = T'.length := by
    rw [Go.Maps.size_put h2, h5 t ht, h3, hl]
    by_cases h : t ∈ T <;> simp [h]
  refine ⟨w', hr, ⟨_, by rw [← hsz]; exact owns_fit ho, h2.put (keyedK.key (keyK ht)) _, hsz, fun u hu => ?_, fun u hu => ?_, fun u hu => ?_⟩, hg⟩
  · by_cases e : u = t
    · subst e; rw [Go.Maps.atKey_put_same h2.isMap (keyedK.key (keyK ht))]; simp
    · rw [Go.Maps.atKey_put_other (kl_ne hu ht e)]; simp only [if_neg e]; exact h4 u hu
  · by_cases e : u = t
    · subst e; rw [Go.Maps.has_put_same h2.isMap (keyedK.key (keyK ht))]
      exact (decide_eq_true ((hT u).2 (.inl rfl))).symm
    · rw [Go.Maps.has_put_other (kl_ne hu ht e), h5 u hu]
      have : (u ∈ T) ↔ (u ∈ T') := by rw [hT]; exact ⟨.inr, fun h => h.resolve_left e⟩
      exact decide_eq_decide.2 this
  · rcases (hT u).1 hu with rfl | h
    · exact ht
    · exact h6 u h
theorem Mk.drop {w : World} {m : Nat} {T : List Kp} {t : Kp} {V : Kp → Value} (h : Mk w m (t :: T) V) (hT : t ∉ T) (ty : TypeId) :
    ∃ w', (Builtin.delete_ #[107, 116] ty #[.map (some m), kv t]).run Tryd.prog w = .ok (.tuple #[]) w' ∧ Mk w' m T (fun u => if u = t then .slice none 0 0 else V u) ∧ w.grownBy w' (some m) := by
  obtain ⟨D, h1, h2, h3, h4, h5, h6⟩ := h
  have ht : K64 t := h6 t (List.mem_cons_self ..)
  obtain ⟨w', hr, ho, hg⟩ := h1.drop keyedK Tryd.underlying107 (keyK ht) ty
  have hsz : Go.Maps.size (D.del (kl t)) = T.length := by
    have := Go.Maps.size_del (k := kl t) h2
    rw [h5 t ht, h3, decide_eq_true (List.mem_cons_self ..), if_pos rfl, List.length_cons] at this
    omega
  refine ⟨w', hr, ⟨_, by rw [← hsz]; exact owns_fit ho, h2.del _, hsz, fun u hu => ?_, fun u hu => ?_, fun u hu => h6 u (List.mem_cons_of_mem _ hu)⟩, hg.grown⟩
  · by_cases e : u = t
    · subst e; rw [Go.Maps.atKey_del_same]; simp
    · rw [Go.Maps.atKey_del_other (kl_ne hu ht e)]; simp only [if_neg e]; exact h4 u hu
  · by_cases e : u = t
    · subst e; rw [Go.Maps.has_del_same]
      exact (decide_eq_false hT).symm
    · rw [Go.Maps.has_del_other (kl_ne hu ht e), h5 u hu]
      exact decide_eq_decide.2 ⟨fun h => (List.mem_cons.1 h).resolve_left e, List.mem_cons_of_mem _⟩
end Go.Proofs.YtcjaaijohapeaaaDoor

/-
  Fragments: which are valid. No conditions beyond those that each names.
-/
import Derived.Test.YtcjaaijohapeaaaDoorK13
import Derived.Test.YtcjaaijohapeaaaDoorK10
import Derived.DeepKeys4
namespace Go.Proofs.YtcjaaijohapeaaaDoor
open Go.RowKit Go.Sort Go.Lib Go.Shelf
/-- A fragment. -/
structure Fg where
  id : Int
  ix : Int
  ct : Int
  dat : List UInt8
def eF (x : Fg) : List Value := [.int .i64 x.id, .int .i64 x.ix, .int .i64 x.ct, .string (bs x.dat)]
theorem eF_len (x : Fg) : (eF x).length = 4 := rfl
theorem eF_one (x : Fg) (u : Value) (h : u ∈ eF x) : u.oneCell' = true := by
  simp only [eF, List.mem_cons, List.not_mem_nil, or_false] at h
  rcases h with rfl | rfl | rfl | rfl <;> rfl
theorem infoFg : (Tryd.prog.info? 32).map (fun i => (i.zero, i.size, i.bytes)) = some (some (.agg #[.int .i64 0, .int .i64 0, .int .i64 0, .string ByteArray.empty]), 4, 40) := by kernel_rfl
def OwF (B : Nat) (w : World) (v : Value) (l : List Fg) : Prop := w.ownsRow B 32 4 v l.length (tc eF l)
/-- Is a fragment valid? -/
def fvB (x : Fg) : Bool := inB x.id 0 1099511627776 && (inB x.ct 1 64 && (inB x.ix 0 (x.ct - 1) && decide (x.dat.length ≤ 4000)))
def Fg.val (x : Fg) : Value := .agg #[.int .i64 x.id, .int .i64 x.ix, .int .i64 x.ct, .string (bs x.dat)]
set_option maxRecDepth 100000 in
set_option maxHeartbeats 4000000 in
theorem isValid_any (x : Fg) (w : World) (hd : x.dat.length ≤ 1000000000000000) : Calls Tryd.prog 37 #[x.val] w (Ib (.bool (fvB x)) w) := by
  obtain ⟨id, ix, ct, dat⟩ := x
  have hsz : (bs dat).size = dat.length := rfl
  have hb := ab1 w (Obj.cells #[.int .i64 id, .int .i64 ix, .int .i64 ct, .string (bs dat)] 32)
  have HE : Hid (fvB ⟨id, ix, ct, dat⟩ = (inB id 0 1099511627776 && (inB ct 1 64 && (inB ix 0 (ct - 1) && decide (dat.length ≤ 4000))))) := Lib.hid rfl
  have q4 : decide ((dat.length : Int) ≤ 4000) = decide (dat.length ≤ 4000) := decide_eq_decide.2 (by omega)
  show Calls _ _ #[.agg #[.int .i64 id, .int .i64 ix, .int .i64 ct, .string (bs dat)]] w _
  cases b1 : inB id 0 1099511627776
  · rw [HE.out, b1]
    clear HE
    go_enter Tryd.func37, Tryd.ntmps37
    go_wp2_with (go_at_call 39; refine (isIn_any _ _ _ _).mono ?_; (first | (rw [b1])); rintro e w9 ⟨rfl, rfl⟩)
    go_ret
    exact ⟨rfl, hb⟩
  · cases b2 : inB ct 1 64
    · rw [HE.out, b1, b2]
      clear HE
      go_enter Tryd.func37, Tryd.ntmps37
      go_wp2_with (go_at_call 39; refine (isIn_any _ _ _ _).mono ?_; (first | (rw [b1]) | (rw [b2])); rintro e w9 ⟨rfl, rfl⟩)
      go_ret
      exact ⟨rfl, hb⟩
    · cases b3 : inB ix 0 (ct - 1)
      · have hw : IntKind.i64.wrap (ct - 1) = ct - 1 := by have h : 1 ≤ ct ∧ ct ≤ 64 := of_decide_eq_true b2; exact IntWalk.i64_in _ (by omega)
        rw [HE.out, b1, b2, b3]
        clear HE
        go_enter Tryd.func37, Tryd.ntmps37
        go_wp2_with (go_at_call 39; refine (isIn_any _ _ _ _).mono ?_; (first | (rw [b1]) | (rw [b2]) | (rw [b3])); rintro e w9 ⟨rfl, rfl⟩)
        go_ret
        exact ⟨rfl, hb⟩
      · cases b4 : decide (dat.length ≤ 4000)
        · have hw : IntKind.i64.wrap (ct - 1) = ct - 1 := by have h : 1 ≤ ct ∧ ct ≤ 64 := of_decide_eq_true b2; exact IntWalk.i64_in _ (by omega)
          rw [b4] at q4
          rw [HE.out, b1, b2, b3, b4]
          clear HE
          go_enter Tryd.func37, Tryd.ntmps37
          go_wp2_with (go_at_call 39; refine (isIn_any _ _ _ _).mono ?_; (first | (rw [b1]) | (rw [b2]) | (rw [b3])); rintro e w9 ⟨rfl, rfl⟩)
          go_ret
          exact ⟨rfl, hb⟩
        · have hw : IntKind.i64.wrap (ct - 1) = ct - 1 := by have h : 1 ≤ ct ∧ ct ≤ 64 := of_decide_eq_true b2; exact IntWalk.i64_in _ (by omega)
          rw [b4] at q4
          rw [HE.out, b1, b2, b3, b4]
          clear HE
          go_enter Tryd.func37, Tryd.ntmps37
          go_wp2_with (go_at_call 39; refine (isIn_any _ _ _ _).mono ?_; (first | (rw [b1]) | (rw [b2]) | (rw [b3])); rintro e w9 ⟨rfl, rfl⟩)
          go_ret
          exact ⟨rfl, hb⟩
set_option maxRecDepth 100000 in
set_option maxHeartbeats 4000000 in
theorem refValid_any (x : Fg) (w : World) (hd : x.dat.length ≤ 1000000000000000) : Calls Tryd.prog 16 #[x.val] w (Ib (.bool (fvB x)) w) := by
  obtain ⟨id, ix, ct, dat⟩ := x
  have hsz : (bs dat).size = dat.length := rfl
  have hb := ab1 w (Obj.cells #[.int .i64 id, .int .i64 ix, .int .i64 ct, .string (bs dat)] 32)
  have HE : Hid (fvB ⟨id, ix, ct, dat⟩ = (decide (0 ≤ id) && (decide (id ≤ 1099511627776) && (decide (1 ≤ ct) && (decide (ct ≤ 64) && (decide (0 ≤ ix) && (decide (ix < ct) && decide (dat.length ≤ 4000)))))))) := Lib.hid (by
    unfold fvB inB
    rw [Bool.eq_iff_iff]
    simp only [Bool.and_eq_true, decide_eq_true_eq]
    constructor <;> (intro h; omega))
  have q4 : decide ((dat.length : Int) ≤ 4000) = decide (dat.length ≤ 4000) := decide_eq_decide.2 (by omega)
  show Calls _ _ #[.agg #[.int .i64 id, .int .i64 ix, .int .i64 ct, .string (bs dat)]] w _
  cases b1 : decide (0 ≤ id)
  · rw [HE.out, b1]
    clear HE
    go_enter Tryd.func16, Tryd.ntmps16
    go_wp2_with fail
    go_ret
    exact ⟨rfl, hb⟩
  · cases b2 : decide (id ≤ 1099511627776)
    · rw [HE.out, b1, b2]
      clear HE
      go_enter Tryd.func16, Tryd.ntmps16
      go_wp2_with fail
      go_ret
      exact ⟨rfl, hb⟩
    · cases b3 : decide (1 ≤ ct)
      · rw [HE.out, b1, b2, b3]
        clear HE
        go_enter Tryd.func16, Tryd.ntmps16
        go_wp2_with fail
        go_ret
        exact ⟨rfl, hb⟩
      · cases b4 : decide (ct ≤ 64)
        · rw [HE.out, b1, b2, b3, b4]
          clear HE
          go_enter Tryd.func16, Tryd.ntmps16
          go_wp2_with fail
          go_ret
          exact ⟨rfl, hb⟩
        · cases b5 : decide (0 ≤ ix)
          · rw [HE.out, b1, b2, b3, b4, b5]
            clear HE
            go_enter Tryd.func16, Tryd.ntmps16
            go_wp2_with fail
            go_ret
            exact ⟨rfl, hb⟩
          · cases b6 : decide (ix < ct)
            · rw [HE.out, b1, b2, b3, b4, b5, b6]
              clear HE
              go_enter Tryd.func16, Tryd.ntmps16
              go_wp2_with fail
              go_ret
              exact ⟨rfl, hb⟩
            · cases b7 : decide (dat.length ≤ 4000)
              · rw [b7] at q4
                rw [HE.out, b1, b2, b3, b4, b5, b6, b7]
                clear HE
                go_enter Tryd.func16, Tryd.ntmps16
                go_wp2_with fail
                go_ret
                exact ⟨rfl, hb⟩
              · rw [b7] at q4
                rw [HE.out, b1, b2, b3, b4, b5, b6, b7]
                clear HE
                go_enter Tryd.func16, Tryd.ntmps16
                go_wp2_with fail
                go_ret
                exact ⟨rfl, hb⟩
end Go.Proofs.YtcjaaijohapeaaaDoor
/-
  A map of slices whose keys are pairs of numbers. No conditions beyond those that each names.
-/
namespace Go.Proofs.YtcjaaijohapeaaaDoor
open Go.RowKit Go.Sort Go.Lib Go.Shelf
open Go.Maps (Keyed)
/-- A sender and an Id. -/
abbrev Kp := Int × Int
def kv (t : Kp) : Value := .agg #[.int .i64 t.1, .int .i64 t.2]
def kl (t : Kp) : Lit := .string (keyBytes [.int .i64 t.1, .int .i64 t.2])
def K64 (t : Kp) : Prop := I64 t.1 ∧ I64 t.2
theorem laidOut : laidOutB Tryd.prog = true := by kernel_rfl
theorem cellsK : Tryd.prog.cellsOf 116 = 2 := by kernel_rfl
theorem cellsI : Tryd.prog.cellsOf 3 = 1 := by kernel_rfl
theorem keyTyK : Tryd.prog.keyType 116 = true := by kernel_rfl
theorem rowK : (116 : TypeId) < Tryd.prog.types.size := of_decide_eq_true (by kernel_rfl)
theorem keyedK : Keyed Tryd.prog 116 := Keyed.of_law (deep_law_laid laidOut (m := 2) (by omega) rowK (by kernel_rfl) (by rw [Tryd.underlying116]))
theorem tySize : ∃ n, Tryd.prog.types.size + 1 = n + 2 := ⟨Tryd.prog.types.size - 1, by have h : (116 : Nat) < Tryd.prog.types.size := rowK; omega⟩
theorem keyK {t : Kp} (h : K64 t) : keyOf Tryd.prog 116 (kv t) = some (kl t) := by
  have h1 := h.1.wf
  have h2 := h.2.wf
  have hf : (kv t).formed Tryd.prog 116 = true := by simp [kv, Value.formed, Tryd.underlying116, cellsK]
  obtain ⟨n, hn⟩ := tySize
  have e1 : Tryd.prog.keyLits (n + 1) 3 [.int .i64 t.1] = some [.int .i64 t.1] := by unfold Program.keyLits; rw [Tryd.underlying3]; simp [h1]
  have e2 : Tryd.prog.keyLits (n + 1) 3 [.int .i64 t.2] = some [.int .i64 t.2] := by unfold Program.keyLits; rw [Tryd.underlying3]; simp [h2]
  have hl : Tryd.prog.keyLits (n + 2) 116 [.int .i64 t.1, .int .i64 t.2] = some [.int .i64 t.1, .int .i64 t.2] := by
    unfold Program.keyLits
    rw [Tryd.underlying116]
    simp [cellsK, cellsI, List.range_succ, e1, e2]
  unfold keyOf
  rw [Tryd.underlying116]
  simp only [keyTyK, hf, Bool.and_self, if_true, hn]
  rw [show (kv t).cells.toList = [.int .i64 t.1, .int .i64 t.2] from rfl, hl]
  rfl
theorem kl_ne {t u : Kp} (ht : K64 t) (hu : K64 u) (h : t ≠ u) : kl t ≠ kl u := by
  intro e
  have := keyedK.inj (keyK ht) (by rw [e]; exact keyK hu)
  unfold kv at this
  injection this with this
  simp at this
  exact h (Prod.ext this.1 this.2)
/-- Block m is a map whose keys are T, with the slices V. -/
def Mk (w : World) (m : Nat) (T : List Kp) (V : Kp → Value) : Prop := ∃ D, w.ownsMap Tryd.prog 116 rSl m T.length D ∧ Go.Maps.Tidy D ∧ Go.Maps.size D = T.length ∧ (∀ t, K64 t → D.atKey (kl t) (.held (.slice none 0 0)) = .held (V t)) ∧ (∀ t, K64 t → Go.Maps.has D (kl t) = decide (t ∈ T)) ∧ (∀ t ∈ T, K64 t)
theorem Mk.lt {w : World} {m : Nat} {T : List Kp} {V : Kp → Value} (h : Mk w m T V) : m < w.heap.size := by obtain ⟨D, h, -⟩ := h; exact h.lt
theorem Mk.blk {w w' : World} {m : Nat} {T : List Kp} {V : Kp → Value} (h : Mk w m T V) (hb : w'.heap[m]? = w.heap[m]?) : Mk w' m T V := by
  obtain ⟨D, ⟨es, clock, h1, h2⟩, h3⟩ := h
  exact ⟨D, ⟨es, clock, hb.trans h1, h2⟩, h3⟩
theorem Mk.next {w w' : World} {m : Nat} {T : List Kp} {V : Kp → Value} (h : Mk w m T V) (hb : Below w.heap.size w w') : Mk w' m T V := h.blk (hb.block m h.lt)
theorem Mk.made (w : World) : Mk (w.alloc (.map #[] 0)) w.heap.size [] (fun _ => .slice none 0 0) :=
  ⟨.map [], World.ownsMap_made w Tryd.prog 116 rSl, Go.Maps.tidy_empty, rfl, fun _ _ => rfl, fun _ _ => rfl, fun _ h => by cases h⟩
theorem zeroSF (w : World) : (zeroValue 37).run Tryd.prog w = .ok (.slice none 0 0) w := by kernel_rfl
theorem Mk.look {w : World} {m : Nat} {T : List Kp} {V : Kp → Value} (h : Mk w m T V) {t : Kp} (ht : K64 t) : (Instr.lookup 107 (.map (some m)) (kv t) false).run Tryd.prog w = .ok (V t) w := by
  obtain ⟨D, h1, h2, h3, h4, h5, h6⟩ := h
  obtain ⟨v, ps, hr, hv⟩ := h1.lookup keyedK Tryd.underlying107 (zeroSF w) (zd := .held (.slice none 0 0)) (zp := []) rfl (keyK ht)
  rw [h4 t ht] at hv
  rw [hr, rSl_inv hv]
theorem Mk.put {w : World} {m : Nat} {T T' : List Kp} {V : Kp → Value} (h : Mk w m T V) {t : Kp} (ht : K64 t) (A : Option Addr) (n c : Nat) (hT : ∀ u, u ∈ T' ↔ u = t ∨ u ∈ T) (hl : T'.length = if t ∈ T then T.length else T.length + 1) (hn : T.length < maxLen) :
    ∃ w', (Instr.mapUpdate 107 (.map (some m)) (kv t) (.slice A n c)).run Tryd.prog w = .ok () w' ∧ Mk w' m T' (fun u => if u = t then .slice A n c else V u) ∧ w.grownBy w' (some m) := by
  obtain ⟨D, h1, h2, h3, h4, h5, h6⟩ := h
  obtain ⟨w', hr, ho, hg⟩ := h1.update keyedK Tryd.underlying107 hn (val := .slice A n c) (d := .held (.slice A n c)) (ps := []) (keyK ht) rfl
  have hsz : Go.Maps.size (D.put (kl t) (.held (.slice A n c))) = T'.length := by
    rw [Go.Maps.size_put h2, h5 t ht, h3, hl]
    by_cases h : t ∈ T <;> simp [h]
  refine ⟨w', hr, ⟨_, by rw [← hsz]; exact owns_fit ho, h2.put (keyedK.key (keyK ht)) _, hsz, fun u hu => ?_, fun u hu => ?_, fun u hu => ?_⟩, hg⟩
  · by_cases e : u = t
    · subst e; rw [Go.Maps.atKey_put_same h2.isMap (keyedK.key (keyK ht))]; simp
    · rw [Go.Maps.atKey_put_other (kl_ne hu ht e)]; simp only [if_neg e]; exact h4 u hu
  · by_cases e : u = t
    · subst e; rw [Go.Maps.has_put_same h2.isMap (keyedK.key (keyK ht))]
      exact (decide_eq_true ((hT u).2 (.inl rfl))).symm
    · rw [Go.Maps.has_put_other (kl_ne hu ht e), h5 u hu]
      have : (u ∈ T) ↔ (u ∈ T') := by rw [hT]; exact ⟨.inr, fun h => h.resolve_left e⟩
      exact decide_eq_decide.2 this
  · rcases (hT u).1 hu with rfl | h
    · exact ht
    · exact h6 u h
theorem Mk.drop {w : World} {m : Nat} {T : List Kp} {t : Kp} {V : Kp → Value} (h : Mk w m (t :: T) V) (hT : t ∉ T) (ty : TypeId) :
    ∃ w', (Builtin.delete_ #[107, 116] ty #[.map (some m), kv t]).run Tryd.prog w = .ok (.tuple #[]) w' ∧ Mk w' m T (fun u => if u = t then .slice none 0 0 else V u) ∧ w.grownBy w' (some m) := by
  obtain ⟨D, h1, h2, h3, h4, h5, h6⟩ := h
  have ht : K64 t := h6 t (List.mem_cons_self ..)
  obtain ⟨w', hr, ho, hg⟩ := h1.drop keyedK Tryd.underlying107 (keyK ht) ty
  have hsz : Go.Maps.size (D.del (kl t)) = T.length := by
    have := Go.Maps.size_del (k := kl t) h2
    rw [h5 t ht, h3, decide_eq_true (List.mem_cons_self ..), if_pos rfl, List.length_cons] at this
    omega
  refine ⟨w', hr, ⟨_, by rw [← hsz]; exact owns_fit ho, h2.del _, hsz, fun u hu => ?_, fun u hu => ?_, fun u hu => h6 u (List.mem_cons_of_mem _ hu)⟩, hg.grown⟩
  · by_cases e : u = t
    · subst e; rw [Go.Maps.atKey_del_same]; simp
    · rw [Go.Maps.atKey_del_other (kl_ne hu ht e)]; simp only [if_neg e]; exact h4 u hu
  · by_cases e : u = t
    · subst e; rw [Go.Maps.has_del_same]
      exact (decide_eq_false hT).symm
    · rw [Go.Maps.has_del_other (kl_ne hu ht e), h5 u hu]
      exact decide_eq_decide.2 ⟨fun h => (List.mem_cons.1 h).resolve_left e, List.mem_cons_of_mem _⟩
end Go.Proofs.YtcjaaijohapeaaaDoor
/-
  An assembler without strings; a fragment that is a whole string. No conditions beyond those that each names.
-/
namespace Go.Proofs.YtcjaaijohapeaaaDoor
open Go.RowKit Go.Sort Go.Lib Go.Shelf
theorem Mk.delK {w : World} {m : Nat} {T T' : List Kp} {t : Kp} {V : Kp → Value} (h : Mk w m T V) (ht : K64 t) (hT : ∀ u, u ∈ T' ↔ u ∈ T ∧ u ≠ t) (hl : T'.length = if t ∈ T then T.length - 1 else T.length) (ty : TypeId) :
    ∃ w', (Builtin.delete_ #[107, 116] ty #[.map (some m), kv t]).run Tryd.prog w = .ok (.tuple #[]) w' ∧ Mk w' m T' (fun u => if u = t then .slice none 0 0 else V u) ∧ w.grownBy w' (some m) := by
  obtain ⟨D, h1, h2, h3, h4, h5, h6⟩ := h
  obtain ⟨w', hr, ho, hg⟩ := h1.drop keyedK Tryd.underlying107 (keyK ht) ty
  have hsz : Go.Maps.size (D.del (kl t)) = T'.length := by
    have := Go.Maps.size_del (k := kl t) h2
    rw [h5 t ht, h3] at this
    rw [hl]
    by_cases e : t ∈ T
    · rw [decide_eq_true e, if_pos rfl] at this; rw [if_pos e]; omega
    · rw [decide_eq_false e, if_neg (by decide)] at this; rw [if_neg e]; exact this
  refine ⟨w', hr, ⟨_, by rw [← hsz]; exact owns_fit ho, h2.del _, hsz, fun u hu => ?_, fun u hu => ?_, fun u hu => h6 u ((hT u).1 hu).1⟩, hg.grown⟩
  · by_cases e : u = t
    · subst e; rw [Go.Maps.atKey_del_same]; simp
    · rw [Go.Maps.atKey_del_other (kl_ne hu ht e)]; simp only [if_neg e]; exact h4 u hu
  · by_cases e : u = t
    · subst e; rw [Go.Maps.has_del_same]
      exact (decide_eq_false fun h => ((hT u).1 h).2 rfl).symm
    · rw [Go.Maps.has_del_other (kl_ne hu ht e), h5 u hu]
      exact decide_eq_decide.2 ⟨fun h => (hT u).2 ⟨h, e⟩, fun h => ((hT u).1 h).1⟩
set_option maxRecDepth 100000 in
theorem bsNil_any (x : Int) (f : Value) (w : World) : Calls Tryd.prog 82 #[.slice none 0 0, .int .i64 x, f] w (Ib (.tuple #[.int .i64 0, .bool false]) w) := by
  go_enter Tryd.func82, Tryd.ntmps82
  go_wp2_with fail
  go_loopg [9, 10] 1 (fun kx s9 s10 wr => s9 = .int .i64 0 ∧ s10 = .int .i64 0 ∧ wr = w)
  case atStart => exact ⟨rfl, rfl, rfl⟩
  case round =>
    obtain ⟨rfl, rfl, rfl⟩ := hrel
    go_wp2_with fail
    go_ret2
    exact ⟨rfl, Below.refl _ _⟩
set_option maxRecDepth 100000 in
theorem findNil_any (x : Int) (w : World) : Calls Tryd.prog 56 #[.slice none 0 0, .int .i64 x] w (Ib (.tuple #[.int .i64 0, .bool false]) w) := by
  go_enter Tryd.func56, Tryd.ntmps56
  go_wp2_with (go_at_call 82; refine (bsNil_any _ _ _).mono ?_; rintro e w9 ⟨rfl, hb9⟩)
  go_ret2
  exact ⟨rfl, hb9⟩
set_option maxRecDepth 100000 in
theorem delNil_any (f : Value) (w : World) : Calls Tryd.prog 100 #[.slice none 0 0, f] w (Ib (.slice none 0 0) w) := by
  have cI : ∀ W, Calls Tryd.prog 105 #[.slice none 0 0, f] W (Ib (.int .i64 (-1)) W) := by
    intro W
    go_enter Tryd.func105, Tryd.ntmps105
    go_wp2_with fail
    go_loopg [8] 1 (fun kx s8 wr => s8 = .int .i64 0 ∧ wr = W)
    case atStart => exact ⟨rfl, rfl⟩
    case round =>
      obtain ⟨rfl, rfl⟩ := hrel
      go_wp2_with fail
      go_ret
      exact ⟨rfl, Below.refl _ _⟩
  go_enter Tryd.func100, Tryd.ntmps100
  go_wp2_with (go_at_call 105; refine (cI _).mono ?_; rintro e w9 ⟨rfl, hb9⟩)
  go_ret
  exact ⟨rfl, hb9⟩
/-- An assembler without strings. -/
structure A0 (B : Nat) (w : World) (c m : Nat) : Prop where
  b : Bx w c [.int .i64 2, .map (some m), .slice none 0 0, .slice none 0 0, .slice none 0 0, .slice none 0 0, .slice none 0 0, .slice none 0 0, .slice none 0 0, .slice none 0 0, .slice none 0 0]
  mp : Mk w m [] (fun _ => .slice none 0 0)
  ne : c ≠ m
  lo : B ≤ c ∧ B ≤ m
set_option maxRecDepth 100000 in
theorem newA_any (w : World) : Calls Tryd.prog 18 #[.int .i64 2] w (fun e w' => ∃ c m, e = .returned (.pointer (some ⟨c, 0, none⟩)) ∧ Below w.heap.size w w' ∧ A0 w.heap.size w' c m) := by
  have hmk : (Instr.makeMap 107 none).run Tryd.prog w = .ok (.map (some w.heap.size)) (w.alloc (.map #[] 0)) := by kernel_rfl
  have hmx : max (2 : Int) 1 = 2 := by decide
  have hmn : min (2 : Int) 256 = 2 := by decide
  go_enter Tryd.func18, Tryd.ntmps18
  go_wp2_with fail
  go_ret
  have hh : ∀ o, ((w.alloc (.map #[] 0)).alloc o).heap[w.heap.size + 1]? = some o := fun o => by have := heap_newI (w.alloc (.map #[] 0)) o; simpa using this
  exact ⟨w.heap.size + 1, w.heap.size, rfl, ab2 _ _ _, ⟨⟨by simp, fun j v hj => ⟨by rw [cell_lit (hh _), ← Array.getElem?_toList]; exact hj, frozen_lit (hh _)⟩⟩, (Mk.made w).next (ab1 _ _), by omega, by omega⟩⟩
theorem Bx.blk {w w' : World} {b : Nat} {vs : List Value} (h : Bx w b vs) (hs : w.heap.size ≤ w'.heap.size) (hb : w'.heap[b]? = w.heap[b]?) : Bx w' b vs :=
  ⟨Nat.lt_of_lt_of_le h.lt hs, fun j v e => ⟨(World.cell?_of_block (a := ⟨b, j, none⟩) hb).trans (h.at_ j v e).1, (World.frozen?_of_block (a := ⟨b, j, none⟩) hb).trans (h.at_ j v e).2⟩⟩
theorem A0.next {B : Nat} {w w' : World} {c m : Nat} (h : A0 B w c m) (hb : Below w.heap.size w w') : A0 B w' c m := ⟨h.b.next hb, h.mp.next hb, h.ne, h.lo⟩
set_option maxRecDepth 100000 in
set_option maxHeartbeats 2000000 in
theorem remove0_any (B : Nat) (w : World) (c m : Nat) (t : Kp) (h : A0 B w c m) (ht : K64 t) :
    Calls Tryd.prog 88 #[.pointer (some ⟨c, 0, none⟩), kv t] w (fun e w' => e = .returned (.tuple #[]) ∧ Fm (fun i => i = c ∨ i = m) w w' ∧ A0 B w' c m) := by
  show Calls _ _ #[.pointer (some ⟨c, 0, none⟩), .agg #[.int .i64 t.1, .int .i64 t.2]] w _
  have b1 := Bx.new2 w 116 (.int .i64 t.1) (.int .i64 t.2)
  have hab := ab1 w (Obj.cells #[.int .i64 t.1, .int .i64 t.2] 116)
  have H1 := Lib.hid (h.next hab)
  obtain ⟨w2, hD, hM, hG⟩ := ((h.next hab).mp.next (show Below _ _ (World.drew _) from below_drewN (Below.refl _ _) 1)).delK (T' := []) ht (fun u => by simp) rfl 0
  unfold kv at hD
  have hl := h.b.lt
  go_enter Tryd.func88, Tryd.ntmps88
  go_upto_region 1 with (fail)
  generalize w.alloc (Obj.cells #[.int .i64 t.1, .int .i64 t.2] 116) = w1 at *
  have k1 := H1.out.b.c 1 rfl
  have p0 := b1.c 0 rfl
  have p1 := b1.c 1 rfl
  go_region
  have hV : (fun u : Kp => if u = t then Value.slice none 0 0 else Value.slice none 0 0) = fun _ => .slice none 0 0 := by funext u; split <;> rfl
  have H2 := Lib.hid (show A0 B w2 c m from ⟨H1.out.b.blk hG.size (hG.block c H1.out.b.lt (fun e => H1.out.ne (Option.some.inj e))), by have := hM; rw [hV] at this; exact this, H1.out.ne, H1.out.lo⟩)
  have HB2 := Lib.hid (show Fm (fun i => i = c ∨ i = m) w w2 from ((Fm.of _ hab).trans (Fm.of (fun i => i = c ∨ i = m) (show Below _ w1 (World.drew w1) from below_drewN (Below.refl _ _) 1)) (fun _ _ h => h)).trans (Fm.gb hG (s := fun i => i = c ∨ i = m) (fun i e => by injection e with e; exact .inr e.symm)) (fun _ _ h => h))
  clear hD hM hG hV b1 p0 p1 k1
  have k2 := H2.out.b.c 2 rfl
  have f2 := H2.out.b.f 2 rfl
  go_wp2_with (go_at_call 100; refine (delNil_any _ _).mono ?_; clear k2 f2; rintro e w3 ⟨rfl, hb3⟩; have H3 := Lib.hid (H2.out.next hb3); have k2 := H3.out.b.c 2 rfl; have f2 := H3.out.b.f 2 rfl)
  go_end0
  refine ⟨rfl, (HB2.out.trans (Fm.of (fun i => i = c ∨ i = m) hb3) (fun _ _ h => h)).trans (Fm.gb (gb_set1 _ _ _) (s := fun i => i = c ∨ i = m) (fun i e => by injection e with e; exact .inl e.symm)) (fun _ _ h => h), ⟨?_, H3.out.mp.blk (Below.heap_setCell _ _ _ _ (fun e => H3.out.ne e.symm)), H3.out.ne, H3.out.lo⟩⟩
  have := H3.out.b.put1 2 (.slice none 0 0)
  exact this
set_option maxRecDepth 100000 in
set_option maxHeartbeats 2000000 in
theorem complete0_any (B : Nat) (w : World) (c m : Nat) (h : A0 B w c m) (hB : B ≤ w.heap.size) :
    Calls Tryd.prog 60 #[.pointer (some ⟨c, 0, none⟩), .int .i64 1, .int .i64 5] w (fun e w' => e = .returned (.tuple #[]) ∧ Fm (fun i => i = c ∨ i = m) w w') := by
  have cR := remove0_any B w c m (1, 5) h ⟨⟨by decide, by decide⟩, ⟨by decide, by decide⟩⟩
  unfold kv at cR
  obtain ⟨i, hi, hz, hs5, hby⟩ := info_parts infoI
  go_enter Tryd.func60, Tryd.ntmps60
  go_wp2_with (first
    | (go_at_call 88; refine cR.mono ?_; rintro e w1 ⟨rfl, hb1, h1⟩; have k4 := h1.b.c 4 rfl; have HB1 := Lib.hid (Nat.le_trans hB hb1.size))
    | (at_builtin; refine wpList_append_own_at _ rfl _ _ 23 rfl B 3 i _ 1 8 Tryd.underlying23 hi hz hs5 hby rfl (by decide) (.slice none 0 0) 0 [] rfl (World.ownsRow_nil _ _ _ _) ⟨w1.heap.size, 0, none⟩ 1 1 [.int .i64 5] rfl rfl (Go.cell_one_new _ _ _) (fun u hu => by simp at hu; subst hu; rfl) (by decide) (by decide) (Nat.le_trans HB1.out (by simp)) ?_; intro v9 w4 hown hgrow _ hat; obtain ⟨A9, c9, rfl, hA9⟩ := own_nil_or hown; obtain ⟨g9, rfl, hg1, hg2, hg3⟩ : ∃ g, A9 = some ⟨g, 0, none⟩ ∧ B ≤ g ∧ g < w4.heap.size ∧ 0 + 1 ≤ c9 := (by rcases hA9 with ⟨_, _, h⟩ | h; cases h; exact h)))
  have hb4 : Below w1.heap.size w1 w4 := (ab1 w1 _).grown hgrow (by simp) (fun i e => by cases e)
  have HB4 := Lib.hid (hb1.trans (Fm.of (fun i => i = c ∨ i = m) hb4) (fun _ _ h => h))
  have hbx := h1.b.next hb4
  have k4b := hbx.c 4 rfl
  have f4b := hbx.f 4 rfl
  have hcl := hbx.lt
  have hgc : g9 ≠ c := fun e => by
    have h9 := h1.b.lt
    rcases hat with h | h
    · cases h
    · injection h with h; simp at h; omega
  have HLO := Lib.hid h1.lo
  have hw : IntKind.i64.wrap (1 - 64) = -63 := by decide
  have hmx : max (0 : Int) (-63) = 0 := by decide
  clear hown hgrow hat hA9 cR k4 h1 h hb1 hb4 hbx
  go_region
  go_wp2_with fail
  go_end0
  exact ⟨rfl, (HB4.out.trans (Fm.gb (gb_set1 w4 ⟨c, 4, none⟩ (.slice (some ⟨g9, 0, none⟩) 1 c9)) (s := fun i => i = c ∨ i = m) (fun i e => by injection e with e; exact .inl e.symm)) (fun _ _ h => h)).trans (Fm.of (fun i => i = c ∨ i = m) (show Below _ _ (World.drew _) from below_drewN (Below.refl _ _) 1)) (fun _ _ h => h)⟩
/-- A row of fragments, where an insertion into nothing leaves it. -/
def InF (x : Fg) (w : World) (e : Ending) (w' : World) : Prop := ∃ g c, e = .returned (.slice (some ⟨g, 0, none⟩) 1 c) ∧ OwF w.heap.size w' (.slice (some ⟨g, 0, none⟩) 1 c) [x] ∧ Below w.heap.size w w'
set_option maxRecDepth 100000 in
set_option maxHeartbeats 4000000 in
theorem insNil_any (x : Fg) (g d : Nat) (w : World) (hg : Bx w g (eF x)) :
    Calls Tryd.prog 58 #[.slice none 0 0, .int .i64 0, .slice (some ⟨g, 0, none⟩) 1 d] w (InF x w) := by
  obtain ⟨i, hi, hz, hs5, hby⟩ := info_parts infoFg
  go_enter Tryd.func58, Tryd.ntmps58
  go_wp2_with (at_builtin; refine wpList_append_own_at _ rfl _ _ 37 rfl w.heap.size 32 i _ 4 40 Tryd.underlying37 hi hz hs5 hby rfl (by decide) (.slice none 0 0) 0 [] rfl (World.ownsRow_nil _ _ _ _) ⟨g, 0, none⟩ 1 d (eF x) rfl rfl (fun j u hj => (by rw [Addr.add_lit, Nat.zero_add]; exact (hg.at_ j u hj).1)) (eF_one x) (by decide) (by decide) (Nat.le_refl _) ?_; intro v9 w4 hown hgrow _ hat; obtain ⟨A9, c9, rfl, hA9⟩ := own_nil_or hown; obtain ⟨g9, rfl, hg1, hg2, hg3⟩ : ∃ g, A9 = some ⟨g, 0, none⟩ ∧ _ ≤ g ∧ g < w4.heap.size ∧ 0 + 1 ≤ c9 := (by rcases hA9 with ⟨_, _, h⟩ | h; cases h; exact h))
  go_ret
  refine ⟨g9, c9, rfl, ?_, (Below.refl _ w).grown hgrow (Nat.le_refl _) (fun i e => by cases e)⟩
  unfold OwF
  rw [tc_one]
  exact hown
/-- What fragments make up. -/
def jn (l : List Fg) : List UInt8 := l.flatMap Fg.dat
theorem jn_snoc (l : List Fg) (x : Fg) : jn (l ++ [x]) = jn l ++ x.dat := by simp [jn]
theorem jn_take_le (l : List Fg) (i : Nat) : (jn (l.take i)).length ≤ (jn l).length := by
  have : jn l = jn (l.take i) ++ jn (l.drop i) := by unfold jn; rw [← List.flatMap_append, List.take_append_drop]
  rw [this, List.length_append]; omega
theorem OwF.cell {B : Nat} {w : World} {g c n : Nat} {l : List Fg} (h : OwF B w (.slice (some ⟨g, 0, none⟩) n c) l) (hn : l.length = n) (i : Nat) (hi : i < l.length) (j : Nat) (v : Value) (hv : (eF (l[i]'hi))[j]? = some v) : w.cell? ⟨g, i * 4 + j, none⟩ = some v := by
  subst hn
  exact own_cells eF_len h i hi j v hv
theorem OwF.pos {B : Nat} {w : World} {A : Option Addr} {c n : Nat} {l : List Fg} (h : OwF B w (.slice A n c) l) (hn : 0 < n) (hl : l.length = n) : ∃ g, A = some ⟨g, 0, none⟩ ∧ B ≤ g ∧ g < w.heap.size := by
  subst hl
  obtain ⟨A', c', e, h1⟩ := own_nil_or h
  injection e with e1 e2 e3
  subst e1 e3
  rcases h1 with ⟨-, -, h0⟩ | ⟨g, rfl, h2, h3, -⟩
  · omega
  · exact ⟨g, rfl, h2, h3⟩
set_option maxRecDepth 100000 in
set_option maxHeartbeats 4000000 in
theorem join_any (B : Nat) (v : Value) (l : List Fg) (w : World) (ho : OwF B w v l) (hlen : l.length ≤ 1000000) (hj : (jn l).length ≤ 1000000000) :
    Calls Tryd.prog 61 #[v] w (Ib (.string (bs (jn l))) w) := by
  obtain ⟨A, c, rfl, -⟩ := own_nil_or ho
  obtain ⟨n, hn⟩ : ∃ n, l.length = n := ⟨_, rfl⟩
  rw [hn] at ho hlen ⊢
  have HN := Lib.hid hn
  have HO := Lib.hid ho
  have HJ := Lib.hid hj
  have HX : Hid (∀ i (hi : i < l.length), (l[i]'hi).dat.length ≤ 1000000000) := Lib.hid fun i hi => by
    have h1 : jn l = jn (l.take i) ++ ((l[i]'hi).dat ++ jn (l.drop (i + 1))) := by
      have : l = l.take i ++ (l[i]'hi :: l.drop (i + 1)) := by rw [← List.drop_eq_getElem_cons hi, List.take_append_drop]
      unfold jn
      rw [show (l.flatMap Fg.dat) = (l.take i ++ (l[i]'hi :: l.drop (i + 1))).flatMap Fg.dat by rw [← this], List.flatMap_append, List.flatMap_cons]
    rw [h1, List.length_append, List.length_append] at hj
    omega
  clear ho hn hj
  go_enter Tryd.func61, Tryd.ntmps61
  go_wp2_with fail
  go_loopg [8] n (fun kx s8 wr => ∃ i : Nat, s8 = .int .i64 (i : Int) ∧ i ≤ n ∧ n - i ≤ kx ∧ Hid (Below w.heap.size w wr ∧ Bd w.heap.size w.heap.size (jn (l.take i)) wr))
  case atStart => exact ⟨0, rfl, Nat.zero_le _, Nat.le_refl _, Lib.hid ⟨ab1 _ _, Bd.fresh w⟩⟩
  case round =>
    obtain ⟨i, rfl, hin, hkx, HI⟩ := hrel
    by_cases hi : i < n
    · have di : decide (i < n) = true := decide_eq_true hi
      have hil : i < l.length := by rw [HN.out]; exact hi
      have ow := own_next HO.out HI.out.1
      obtain ⟨g, rfl, -, hgl⟩ := OwF.pos (B := B) (l := l) ow (by omega) HN.out
      have cx := fun j v hv => OwF.cell (B := B) ow HN.out i hil j v hv
      have x0 := cx 0 _ rfl
      have x1 := cx 1 _ rfl
      have x2 := cx 2 _ rfl
      have x3 := cx 3 _ rfl
      have HD := Lib.hid (HX.out i hil)
      have HS : Hid (jn (l.take (i + 1)) = jn (l.take i) ++ (l[i]'hil).dat) := Lib.hid (by rw [List.take_succ_eq_append_getElem hil, jn_snoc])
      have HT := Lib.hid (Nat.le_trans (jn_take_le l i) HJ.out)
      have hi1 : i + 1 ≤ n := by omega
      generalize l[i]'hil = x at *
      obtain ⟨id, ix, ct, dat⟩ := x
      simp only [Nat.add_zero] at x0 x1 x2 x3
      have HB3 : ∀ o, Hid (Below w.heap.size w (wr.alloc o) ∧ Bd w.heap.size w.heap.size (jn (l.take i)) (wr.alloc o) ∧ w.heap.size ≤ (wr.alloc o).heap.size) := fun o => Lib.hid ⟨HI.out.1.alloc HI.out.1.size o, HI.out.2.next (ab1 _ _), Nat.le_trans HI.out.1.size (ab1 wr o).size⟩
      clear cx hil ow
      go_wp2_with (go_at_call 26; refine (wstr_any _ _ _ _ _ (HB3 _).out.2.1 (by have := HT.out; have := HD.out; simp only at this; omega) (HB3 _).out.2.2).mono ?_; rintro e w5 ⟨rfl, h5, hb5, -⟩)
      go_roundg (n - (i + 1))
      case measure => omega
      case rel => exact ⟨i + 1, rfl, hi1, Nat.le_refl _, Lib.hid ⟨(HB3 _).out.1.trans hb5, by rw [HS.out]; exact h5⟩⟩
    · obtain rfl : i = n := by omega
      have di : decide (i < i) = false := decide_eq_false hi
      have h1 := HI.out.2
      rw [List.take_of_length_le (Nat.le_of_eq HN.out)] at h1
      have H1 := Lib.hid h1
      have H2 := Lib.hid HI.out.1
      clear h1 hi hkx
      go_wp2_with (go_at_call 32; refine (bstr_any _ _ _ _ H1.out H2.out.size).mono ?_; rintro e w2 ⟨rfl, hb1⟩)
      go_ret
      exact ⟨rfl, H2.out.trans hb1⟩
end Go.Proofs.YtcjaaijohapeaaaDoor

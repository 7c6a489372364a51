import Derived.Test.YtndidbanbklonaaBd
import Derived.Test.YtndidbanbklonaaG6
/-
  Arrivals as data; a schedule in memory: which blocks it has, and how it stays. No conditions beyond those that each names.
-/
namespace Go.Proofs.Ytndidbanbklonaa
open Go.RowKit Go.Sort Go.Lib Go.Shelf
/-- An arrival. -/
structure Ar where
  at_ : Int
  fr : Int
  to_ : Int
  num : Nat
  dat : ByteArray
def e5 (x : Ar) : List Value := [.int .i64 x.at_, .int .i64 x.fr, .int .i64 x.to_, .int .i64 (x.num : Int), .string x.dat]
theorem e5_len (x : Ar) : (e5 x).length = 5 := rfl
theorem e5_one (x : Ar) (u : Value) (h : u ∈ e5 x) : u.oneCell' = true := by
  simp only [e5, List.mem_cons, List.not_mem_nil, or_false] at h
  rcases h with rfl | rfl | rfl | rfl | rfl <;> rfl
theorem infoA : (Try.prog.info? 34).map (fun i => (i.zero, i.size, i.bytes)) = some (some (.agg #[.int .i64 0, .int .i64 0, .int .i64 0, .int .i64 0, .string ByteArray.empty]), 5, 48) := by kernel_rfl
/-- The slice v owns the arrivals l. -/
def OwA (B : Nat) (w : World) (v : Value) (l : List Ar) : Prop := w.ownsRow B 34 5 v l.length (tc e5 l)
theorem OwA.blk {B : Nat} {w w' : World} {v : Value} {l : List Ar} (h : OwA B w v l) (hb : ∀ g, v.ownBlock = some g → w'.heap[g]? = w.heap[g]?) : OwA B w' v l := by
  obtain ⟨h1, h2⟩ := h
  refine ⟨h1, h2.imp id ?_⟩
  rintro ⟨g, cap, cur, rfl, h3, h4, h5⟩
  exact ⟨g, cap, cur, rfl, h3, (hb g rfl).trans h4, h5⟩
theorem Bx.new5 (w : World) (t : TypeId) (x y z u s : Value) : Bx (w.alloc (Obj.cells #[x, y, z, u, s] t)) w.heap.size [x, y, z, u, s] :=
  ⟨by simp, fun j v e => by
    match j, e with
    | 0, e => cases e; exact ⟨by simp, by simp⟩
    | 1, e => cases e; exact ⟨by simp, by simp⟩
    | 2, e => cases e; exact ⟨by simp, by simp⟩
    | 3, e => cases e; exact ⟨by simp, by simp⟩
    | 4, e => cases e; exact ⟨by simp, by simp⟩⟩
/-- The blocks of a schedule. -/
def Fp (p m : Nat) (V : Int → Value) (tv : Value) (i : Nat) : Prop := i = p ∨ i = m ∨ tv.ownBlock = some i ∨ ∃ u, (V u).ownBlock = some i
/-- A schedule in memory at place o of block p: its map is block m, the row of its times T is tv; TM are the map's keys. -/
structure Sb (p o : Nat) (w : World) (m : Nat) (V : Int → Value) (tv : Value) (T TM : List Int) (G : Int → List Ar) (n : Int) : Prop where
  c0 : w.cell? ⟨p, o, none⟩ = some (.map (some m))
  f0 : w.frozen? ⟨p, o, none⟩ = false
  c1 : w.cell? ⟨p, o + 1, none⟩ = some tv
  f1 : w.frozen? ⟨p, o + 1, none⟩ = false
  c2 : w.cell? ⟨p, o + 2, none⟩ = some (.int .i64 n)
  f2 : w.frozen? ⟨p, o + 2, none⟩ = false
  mi : Mi w m TM V
  ro : Ro w tv T
  ow : ∀ u, OwA 0 w (V u) (G u)
  mp : m ≠ p
  tp : tv.ownBlock ≠ some p
  tm : tv.ownBlock ≠ some m
  tl : ∀ g, tv.ownBlock = some g → g < w.heap.size
  vp : ∀ u, (V u).ownBlock ≠ some p
  vm : ∀ u, (V u).ownBlock ≠ some m
  vt : ∀ u g, (V u).ownBlock = some g → tv.ownBlock ≠ some g
  vv : ∀ u u' g, (V u).ownBlock = some g → (V u').ownBlock = some g → u = u'
section
variable {p o m : Nat} {w w' : World} {V : Int → Value} {tv : Value} {T TM : List Int} {G : Int → List Ar} {n : Int}
theorem Sb.lt (h : Sb p o w m V tv T TM G n) : p < w.heap.size := blk_lt h.c0
theorem Sb.fp_lt (h : Sb p o w m V tv T TM G n) (i : Nat) (hi : Fp p m V tv i) : i < w.heap.size := by
  rcases hi with rfl | rfl | hi | ⟨u, hi⟩
  · exact h.lt
  · exact h.mi.lt
  · exact h.tl i hi
  · exact ((h.ow u).lt i hi).2
/-- It stays where none of its blocks changes. -/
theorem Sb.blk (h : Sb p o w m V tv T TM G n) (hs : w.heap.size ≤ w'.heap.size) (hb : ∀ i, Fp p m V tv i → w'.heap[i]? = w.heap[i]?) : Sb p o w' m V tv T TM G n := by
  have hp := hb p (.inl rfl)
  have c_ := fun j => World.cell?_of_block (w := w) (w' := w') (a := ⟨p, j, none⟩) hp
  have f_ := fun j => World.frozen?_of_block (w := w) (w' := w') (a := ⟨p, j, none⟩) hp
  exact ⟨(c_ _).trans h.c0, (f_ _).trans h.f0, (c_ _).trans h.c1, (f_ _).trans h.f1, (c_ _).trans h.c2, (f_ _).trans h.f2, h.mi.blk (hb m (.inr (.inl rfl))), h.ro.blk fun g _ e => hb g (.inr (.inr (.inl e))), fun u => (h.ow u).blk fun g e => hb g (.inr (.inr (.inr ⟨u, e⟩))), h.mp, h.tp, h.tm, fun g e => Nat.lt_of_lt_of_le (h.tl g e) hs, h.vp, h.vm, h.vt, h.vv⟩
theorem Sb.next (h : Sb p o w m V tv T TM G n) (hb : Below w.heap.size w w') : Sb p o w' m V tv T TM G n := h.blk hb.size fun i hi => hb.block i (h.fp_lt i hi)
theorem Sb.fm {s : Nat → Prop} (h : Sb p o w m V tv T TM G n) (hb : Fm s w w') (hs : ∀ i, Fp p m V tv i → ¬ s i) : Sb p o w' m V tv T TM G n := h.blk hb.size fun i hi => hb.blk i (h.fp_lt i hi) (hs i hi)
/-- A cell of block p that is none of the schedule's is written. -/
theorem Sb.set (h : Sb p o w m V tv T TM G n) (j : Nat) (hj : j ≠ o ∧ j ≠ o + 1 ∧ j ≠ o + 2) (u : Value) : Sb p o (w.setCell ⟨p, j, none⟩ u) m V tv T TM G n := by
  have nn : ∀ i, j ≠ i → (⟨p, j, none⟩ : Addr) ≠ ⟨p, i, none⟩ := fun i hi e => hi (by injection e)
  have gb := gb_set1 w ⟨p, j, none⟩ u
  have hb : ∀ i, i ≠ p → i < w.heap.size → (w.setCell ⟨p, j, none⟩ u).heap[i]? = w.heap[i]? := fun i hi hl => gb.block i hl fun e => hi (by injection e)
  have hne : ∀ v : Value, v.ownBlock ≠ some p → ∀ g, v.ownBlock = some g → g ≠ p := fun v hv g e e2 => hv (by rw [e, e2])
  exact ⟨(World.cell?_setCell_other (h := nn _ hj.1) ..).trans h.c0, (fr_set ..).trans h.f0, (World.cell?_setCell_other (h := nn _ hj.2.1) ..).trans h.c1, (fr_set ..).trans h.f1, (World.cell?_setCell_other (h := nn _ hj.2.2) ..).trans h.c2, (fr_set ..).trans h.f2, h.mi.blk (hb m h.mp h.mi.lt), h.ro.blk fun g hg e => hb g (hne _ h.tp g e) hg, fun x => (h.ow x).blk fun g e => hb g (hne _ (h.vp x) g e) ((h.ow x).lt g e).2, h.mp, h.tp, h.tm, fun g e => Nat.lt_of_lt_of_le (h.tl g e) gb.size, h.vp, h.vm, h.vt, h.vv⟩
/-- The count is written. -/
theorem Sb.cnt (h : Sb p o w m V tv T TM G n) (n' : Int) : Sb p o (w.setCell ⟨p, o + 2, none⟩ (.int .i64 n')) m V tv T TM G n' := by
  have nn : ∀ i, o + 2 ≠ i → (⟨p, o + 2, none⟩ : Addr) ≠ ⟨p, i, none⟩ := fun i hi e => hi (by injection e)
  have gb := gb_set1 w ⟨p, o + 2, none⟩ (.int .i64 n')
  have hb : ∀ i, i ≠ p → i < w.heap.size → (w.setCell ⟨p, o + 2, none⟩ (.int .i64 n')).heap[i]? = w.heap[i]? := fun i hi hl => gb.block i hl fun e => hi (by injection e)
  have hne : ∀ v : Value, v.ownBlock ≠ some p → ∀ g, v.ownBlock = some g → g ≠ p := fun v hv g e e2 => hv (by rw [e, e2])
  exact ⟨(World.cell?_setCell_other (h := nn _ (by omega)) ..).trans h.c0, (fr_set ..).trans h.f0, (World.cell?_setCell_other (h := nn _ (by omega)) ..).trans h.c1, (fr_set ..).trans h.f1, World.cell?_setCell_same (h := h.c2) .., (fr_set ..).trans h.f2, h.mi.blk (hb m h.mp h.mi.lt), h.ro.blk fun g hg e => hb g (hne _ h.tp g e) hg, fun x => (h.ow x).blk fun g e => hb g (hne _ (h.vp x) g e) ((h.ow x).lt g e).2, h.mp, h.tp, h.tm, fun g e => Nat.lt_of_lt_of_le (h.tl g e) gb.size, h.vp, h.vm, h.vt, h.vv⟩
/-- The row of the times turns, and is written. -/
theorem Sb.row {tv' : Value} {T' : List Int} (h : Sb p o w m V tv T TM G n) (hg : w.grownBy w' tv.ownBlock) (hr : Ro w' tv' T') (hn : NB w tv tv') (hl : ∀ g, tv'.ownBlock = some g → g < w'.heap.size) : Sb p o (w'.setCell ⟨p, o + 1, none⟩ tv') m V tv' T' TM G n := by
  have hp : w'.heap[p]? = w.heap[p]? := hg.block p h.lt fun e => h.tp e.symm
  have c_ := fun j => World.cell?_of_block (w := w) (w' := w') (a := ⟨p, j, none⟩) hp
  have f_ := fun j => World.frozen?_of_block (w := w) (w' := w') (a := ⟨p, j, none⟩) hp
  have nn : ∀ i, o + 1 ≠ i → (⟨p, o + 1, none⟩ : Addr) ≠ ⟨p, i, none⟩ := fun i hi e => hi (by injection e)
  have gb := gb_set1 w' ⟨p, o + 1, none⟩ tv'
  have hb : ∀ i, i ≠ p → i < w'.heap.size → (w'.setCell ⟨p, o + 1, none⟩ tv').heap[i]? = w'.heap[i]? := fun i hi hl => gb.block i hl fun e => hi (by injection e)
  have old : ∀ q, q < w.heap.size → tv.ownBlock ≠ some q → tv'.ownBlock ≠ some q := fun q hq hne e => by
    rcases hn with hn | ⟨g, hn, hgw⟩
    · exact hne (hn ▸ e)
    · rw [hn] at e; injection e with e; omega
  have hne : ∀ v : Value, v.ownBlock ≠ some p → ∀ g, v.ownBlock = some g → g ≠ p := fun v hv g e e2 => hv (by rw [e, e2])
  have tp' := old p h.lt h.tp
  exact ⟨(World.cell?_setCell_other (h := nn _ (by omega)) ..).trans ((c_ _).trans h.c0), (fr_set ..).trans ((f_ _).trans h.f0), World.cell?_setCell_same (h := (c_ _).trans h.c1) .., (fr_set ..).trans ((f_ _).trans h.f1), (World.cell?_setCell_other (h := nn _ (by omega)) ..).trans ((c_ _).trans h.c2), (fr_set ..).trans ((f_ _).trans h.f2),
    h.mi.blk ((hb m h.mp (Nat.lt_of_lt_of_le h.mi.lt hg.size)).trans (hg.block m h.mi.lt fun e => h.tm e.symm)), hr.blk fun g hg' e => hb g (hne _ tp' g e) hg',
    fun u => (h.ow u).blk fun g e => (hb g (hne _ (h.vp u) g e) (Nat.lt_of_lt_of_le ((h.ow u).lt g e).2 hg.size)).trans (hg.block g ((h.ow u).lt g e).2 fun e2 => h.vt u g e e2.symm),
    h.mp, tp', old m h.mi.lt h.tm, fun g e => Nat.lt_of_lt_of_le (hl g e) gb.size, h.vp, h.vm, fun u g e => old g ((h.ow u).lt g e).2 (h.vt u g e), h.vv⟩
/-- A list turns, and is written into the map. -/
theorem Sb.app {w1 w2 : World} {t : Int} {v' : Value} {l' : List Ar} {TM' : List Int} (h : Sb p o w m V tv T TM G n) (hg : w.grownBy w1 (V t).ownBlock) (ha : OwA 0 w1 v' l') (hn : NB w (V t) v') (hm : Mi w2 m TM' (fun u => if u = t then v' else V u)) (hg2 : w1.grownBy w2 (some m)) :
    Sb p o w2 m (fun u => if u = t then v' else V u) tv T TM' (fun u => if u = t then l' else G u) n := by
  have keep : ∀ i, i < w.heap.size → (V t).ownBlock ≠ some i → i ≠ m → w2.heap[i]? = w.heap[i]? := fun i hi h1 h2 => (hg2.block i (Nat.lt_of_lt_of_le hi hg.size) fun e => h2 (by injection e)).trans (hg.block i hi fun e => h1 e.symm)
  have hp := keep p h.lt (h.vp t) (fun e => h.mp e.symm)
  have c_ := fun j => World.cell?_of_block (w := w) (w' := w2) (a := ⟨p, j, none⟩) hp
  have f_ := fun j => World.frozen?_of_block (w := w) (w' := w2) (a := ⟨p, j, none⟩) hp
  have old : ∀ q, q < w.heap.size → (V t).ownBlock ≠ some q → v'.ownBlock ≠ some q := fun q hq hne e => by
    rcases hn with hn | ⟨g, hn, hgw⟩
    · exact hne (hn ▸ e)
    · rw [hn] at e; injection e with e; omega
  have hvm := old m h.mi.lt (h.vm t)
  refine ⟨(c_ _).trans h.c0, (f_ _).trans h.f0, (c_ _).trans h.c1, (f_ _).trans h.f1, (c_ _).trans h.c2, (f_ _).trans h.f2, hm, h.ro.blk fun g hg' e => keep g hg' (fun e2 => h.vt t g e2 e) (fun e2 => h.tm (e2 ▸ e)), fun u => ?_, h.mp, h.tp, h.tm, fun g e => Nat.lt_of_lt_of_le (h.tl g e) (Nat.le_trans hg.size hg2.size), fun u => ?_, fun u => ?_, fun u g e => ?_, fun u u' g e e' => ?_⟩
  · by_cases hu : u = t
    · simp only [if_pos hu]
      exact ha.blk fun g e => hg2.block g (ha.lt g e).2 fun e2 => hvm (by rw [e]; exact e2)
    · simp only [if_neg hu]
      exact (h.ow u).blk fun g e => keep g ((h.ow u).lt g e).2 (fun e2 => hu (h.vv u t g e e2)) (fun e2 => h.vm u (e2 ▸ e))
  · by_cases hu : u = t
    · simp only [if_pos hu]; exact old p h.lt (h.vp t)
    · simp only [if_neg hu]; exact h.vp u
  · by_cases hu : u = t
    · simp only [if_pos hu]; exact hvm
    · simp only [if_neg hu]; exact h.vm u
  · by_cases hu : u = t
    · simp only [if_pos hu] at e
      exact fun e2 => old g (h.tl g e2) (fun e3 => h.vt t g e3 e2) e
    · simp only [if_neg hu] at e; exact h.vt u g e
  · have key : ∀ u, u ≠ t → (V u).ownBlock = some g → v'.ownBlock ≠ some g := fun u hu e => old g ((h.ow u).lt g e).2 fun e2 => hu (h.vv u t g e e2)
    by_cases hu : u = t
    · by_cases hu' : u' = t
      · rw [hu, hu']
      · simp only [if_pos hu] at e; simp only [if_neg hu'] at e'; exact absurd e (key u' hu' e')
    · by_cases hu' : u' = t
      · simp only [if_neg hu] at e; simp only [if_pos hu'] at e'; exact absurd e' (key u hu e)
      · simp only [if_neg hu] at e; simp only [if_neg hu'] at e'; exact h.vv u u' g e e'
/-- The first time's list is taken out of the map. -/
theorem Sb.drop {w2 : World} {t : Int} {TM' : List Int} (h : Sb p o w m V tv T TM G n) (hm : Mi w2 m TM' (fun u => if u = t then .slice none 0 0 else V u)) (hg2 : w.grownBy w2 (some m)) :
    Sb p o w2 m (fun u => if u = t then .slice none 0 0 else V u) tv T TM' (fun u => if u = t then [] else G u) n := by
  have keep : ∀ i, i < w.heap.size → i ≠ m → w2.heap[i]? = w.heap[i]? := fun i hi h2 => hg2.block i hi fun e => h2 (by injection e)
  have hp := keep p h.lt (fun e => h.mp e.symm)
  have c_ := fun j => World.cell?_of_block (w := w) (w' := w2) (a := ⟨p, j, none⟩) hp
  have f_ := fun j => World.frozen?_of_block (w := w) (w' := w2) (a := ⟨p, j, none⟩) hp
  have none_ : ∀ g, (Value.slice none 0 0).ownBlock ≠ some g := fun g e => by cases e
  refine ⟨(c_ _).trans h.c0, (f_ _).trans h.f0, (c_ _).trans h.c1, (f_ _).trans h.f1, (c_ _).trans h.c2, (f_ _).trans h.f2, hm, h.ro.blk fun g hg' e => keep g hg' (fun e2 => h.tm (e2 ▸ e)), fun u => ?_, h.mp, h.tp, h.tm, fun g e => Nat.lt_of_lt_of_le (h.tl g e) hg2.size, fun u => ?_, fun u => ?_, fun u g e => ?_, fun u u' g e e' => ?_⟩
  · by_cases hu : u = t
    · simp only [if_pos hu]; exact World.ownsRow_nil _ _ _ _
    · simp only [if_neg hu]
      exact (h.ow u).blk fun g e => keep g ((h.ow u).lt g e).2 (fun e2 => h.vm u (e2 ▸ e))
  · by_cases hu : u = t
    · simp only [if_pos hu]; exact none_ _
    · simp only [if_neg hu]; exact h.vp u
  · by_cases hu : u = t
    · simp only [if_pos hu]; exact none_ _
    · simp only [if_neg hu]; exact h.vm u
  · by_cases hu : u = t
    · simp only [if_pos hu] at e; exact absurd e (none_ _)
    · simp only [if_neg hu] at e; exact h.vt u g e
  · by_cases hu : u = t
    · simp only [if_pos hu] at e; exact absurd e (none_ _)
    · by_cases hu' : u' = t
      · simp only [if_pos hu'] at e'; exact absurd e' (none_ _)
      · simp only [if_neg hu] at e; simp only [if_neg hu'] at e'; exact h.vv u u' g e e'
end
/-- Which blocks a schedule may have behind a call. -/
def FpN (w : World) (s s' : Nat → Prop) : Prop := ∀ i, s' i → s i ∨ w.heap.size ≤ i
theorem FpN.refl (w : World) (s : Nat → Prop) : FpN w s s := fun _ h => .inl h
theorem FpN.trans {w w1 : World} {s s1 s2 : Nat → Prop} (h : FpN w s s1) (hs : w.heap.size ≤ w1.heap.size) (k : FpN w1 s1 s2) : FpN w s s2 := fun i hi => by
  rcases k i hi with hi | hi
  · exact h i hi
  · exact .inr (Nat.le_trans hs hi)
theorem FpN.row {w : World} {p m : Nat} {V : Int → Value} {tv tv' : Value} (hn : NB w tv tv') : FpN w (Fp p m V tv) (Fp p m V tv') := fun i hi => by
  rcases hi with rfl | rfl | hi | ⟨u, hi⟩
  · exact .inl (.inl rfl)
  · exact .inl (.inr (.inl rfl))
  · rcases hn with hn | ⟨g, hn, hg⟩
    · exact .inl (.inr (.inr (.inl (hn ▸ hi))))
    · rw [hn] at hi; injection hi with hi; exact .inr (by omega)
  · exact .inl (.inr (.inr (.inr ⟨u, hi⟩)))
theorem FpN.app {w : World} {p m : Nat} {V : Int → Value} {tv v' : Value} {t : Int} (hn : NB w (V t) v') : FpN w (Fp p m V tv) (Fp p m (fun u => if u = t then v' else V u) tv) := fun i hi => by
  rcases hi with rfl | rfl | hi | ⟨u, hi⟩
  · exact .inl (.inl rfl)
  · exact .inl (.inr (.inl rfl))
  · exact .inl (.inr (.inr (.inl hi)))
  · by_cases hu : u = t
    · simp only [if_pos hu] at hi
      rcases hn with hn | ⟨g, hn, hg⟩
      · exact .inl (.inr (.inr (.inr ⟨t, hn ▸ hi⟩)))
      · rw [hn] at hi; injection hi with hi; exact .inr (by omega)
    · simp only [if_neg hu] at hi; exact .inl (.inr (.inr (.inr ⟨u, hi⟩)))
theorem FpN.drop {w : World} {p m : Nat} {V : Int → Value} {tv : Value} {t : Int} : FpN w (Fp p m V tv) (Fp p m (fun u => if u = t then .slice none 0 0 else V u) tv) := fun i hi => by
  rcases hi with rfl | rfl | hi | ⟨u, hi⟩
  · exact .inl (.inl rfl)
  · exact .inl (.inr (.inl rfl))
  · exact .inl (.inr (.inr (.inl hi)))
  · by_cases hu : u = t
    · simp only [if_pos hu] at hi; cases hi
    · simp only [if_neg hu] at hi; exact .inl (.inr (.inr (.inr ⟨u, hi⟩)))
end Go.Proofs.Ytndidbanbklonaa

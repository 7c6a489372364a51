import Derived.Test.YtndidbanbklonaaCf
import Derived.Laws.MakeOwn
/-
  The law of conservation: its pieces. No conditions beyond those that each names.
-/
namespace Go.Proofs.Ytndidbanbklonaa
open Go.RowKit Go.Sort Go.Lib Go.Shelf
theorem infoI1 : (Try.prog.info? 3).map (fun i => (i.zero, i.size, i.bytes)) = some (some (.int .i64 0), 1, 8) := by kernel_rfl
/-- A row of noughts, made. -/
theorem make_ints (w : World) (m : Nat) (hm : m ≤ 1000) : ∃ W, (Instr.makeSlice 54 (.int .i64 (m : Int)) (.int .i64 (m : Int))).run Try.prog w = .ok (.slice (some ⟨w.heap.size, 0, none⟩) m m) W ∧ (∀ j, j < m → W.cell? ⟨w.heap.size, j, none⟩ = some (.int .i64 0) ∧ W.frozen? ⟨w.heap.size, j, none⟩ = false) ∧ Below w.heap.size w W ∧ w.heap.size < W.heap.size := by
  obtain ⟨i, hi, hz, hs, hb⟩ := info_parts infoI1
  have hr := run_make (P := Try.prog) w 54 3 i _ Try.underlying54 hi hz .i64 .i64 (m : Int) (m : Int) (by omega) (Int.le_refl _) (by rw [hb]; omega) (by omega)
  simp only [Int.toNat_natCast] at hr
  rw [hs, Nat.mul_one] at hr
  refine ⟨_, hr, fun j hj => ?_, ab1 _ _, by simp⟩
  have hh := heap_alloc_new w (Obj.cells (madeCells (Value.int .i64 0).cells m) 3)
  refine ⟨?_, frozen_of_row _ _ j _ _ hh⟩
  rw [cell_of_row _ _ j _ _ (0, 0) hh]
  simp only [madeCells]
  rw [Array.getElem?_map, Array.getElem?_range, if_pos hj]
  simp [Value.cells, Nat.mod_one]
/-- How the counting stands: behind a world, a row of counts. -/
structure Kt (w3 wr : World) (g : Nat) (l : List Ar) (i m : Nat) : Prop where
  bl : Below w3.heap.size w3 wr
  ge : w3.heap.size ≤ g
  lt : g < wr.heap.size
  c : ∀ k, k < m → wr.cell? ⟨g, k, none⟩ = some (.int .i64 (((l.take i).countP (fun a => a.num == k + 1) : Nat) : Int)) ∧ wr.frozen? ⟨g, k, none⟩ = false
theorem Kt.next {w3 wr w' : World} {g : Nat} {l : List Ar} {i m : Nat} (h : Kt w3 wr g l i m) (hb : Below wr.heap.size wr w') : Kt w3 w' g l i m :=
  ⟨Below.next h.bl hb, h.ge, Nat.lt_of_lt_of_le h.lt hb.size, fun k hk => ⟨cell_next hb (h.c k hk).1, (hb.frozen (p := ⟨g, k, none⟩) h.lt).trans (h.c k hk).2⟩⟩
theorem Kt.step {w3 wr : World} {g : Nat} {l : List Ar} {i m j : Nat} (h : Kt w3 wr g l i m) (hi : i < l.length) (hj : j < m) (hn : (l[i]'hi).num = j + 1) : Kt w3 (wr.setCell ⟨g, j, none⟩ (.int .i64 ((((l.take i).countP (fun a => a.num == j + 1) : Nat) : Int) + 1))) g l (i + 1) m := by
  refine ⟨((Fm.of (fun b => w3.heap.size ≤ b) h.bl).trans (Fm.gb (gb_set1 wr ⟨g, j, none⟩ _) (s := fun b => b = g) fun b e => by injection e with e; exact e.symm) fun b _ e => by have := h.ge; have e : b = g := e; omega).below (Nat.le_refl _) fun _ e => e, h.ge, by have := h.lt; simpa using this, fun k hk => ?_⟩
  rw [cnt_take i (k + 1) hi]
  refine ⟨?_, (fr_set wr g j k _).trans (h.c k hk).2⟩
  by_cases e : k = j
  · subst e
    rw [if_pos hn, Int.natCast_add]
    exact World.cell?_setCell_same (h := (h.c k hk).1) ..
  · rw [if_neg (by omega), Nat.add_zero]
    exact (World.cell?_setCell_other (h := fun k => e (by injection k with _ k; exact k.symm)) ..).trans (h.c k hk).1
/-- What the end of a script's conservation holds. -/
structure CvB (w0 w3 : World) (x y : Value) (fs : List Ft) (lat : Int) (l sl : List Ar) : Prop where
  lo : Below w0.heap.size w0 w3
  ox : OwA 0 w3 x sl
  oy : OwA 0 w3 y l
  cv : Cvs fs lat l sl
  bd : ∀ a ∈ sl, 0 ≤ a.at_ ∧ a.at_ ≤ 1099511627776
theorem cv_end {nd lat : Int} {fs : List Ft} {w0 w1 w2 w3 : World} {c m : Nat} {fv : Value} {q : Nat → Opn} {N : Nat} {x : Value} {V2 : Int → Value} {tv2 : Value} {e : Ending} (hl : 0 ≤ lat ∧ lat ≤ 1099511627776) (hf : fs.length ≤ 64) (hx : ∀ y ∈ fs, 0 ≤ y.x ∧ y.x ≤ 1099511627776) (hb1 : Below w0.heap.size w0 w1) (hge : ∀ i, Fp c m (fun _ => .slice none 0 0) (.slice none 0 0) i ∨ fv.ownBlock = some i → w0.heap.size ≤ i) (k : SeI c m (fun _ => .slice none 0 0) (.slice none 0 0) fv q (Ns.new nd lat fs) w1 N x V2 tv2 w2) (r : RcP c m V2 tv2 fv (sr q (Ns.new nd lat fs) N).1 1152921504606846976 w2 e w3) :
    ∃ y l, e = .returned y ∧ CvB w0 w3 x y fs lat l (sr q (Ns.new nd lat fs) N).2 := by
  obtain ⟨y, l, q3, V3, tv3, rfl, r1, r2, r3, r4, r5, r6, r7⟩ := r
  have h0 : 0 ≤ (Ns.new nd lat fs).rch ∧ (Ns.new nd lat fs).rch ≤ 1099511627776 := ⟨Int.le_refl _, by show (0 : Int) ≤ _; omega⟩
  have hc := cvs_of q (Ns.new nd lat fs) h0 Okq.nil rfl hl hf hx rfl N r3 r5
  have hlow : ∀ i, Fp c m V2 tv2 i → w0.heap.size ≤ i := fun i hi => (k.fp i hi).elim (fun h => hge i (.inl h)) (fun h => Nat.le_trans hb1.size h)
  have hb2 : Below w0.heap.size w0 w2 := ((Fm.of (fun i => w0.heap.size ≤ i) hb1).trans k.fm fun i _ e => hge i (.inl e)).below (Nat.le_refl _) fun _ e => e
  have hb3 : Below w0.heap.size w0 w3 := ((Fm.of (fun i => w0.heap.size ≤ i) hb2).trans r7 fun i _ e => hlow i e).below (Nat.le_refl _) fun _ e => e
  exact ⟨y, l, rfl, hb3, own_mono (k.ow.blk fun g e => r7.blk g (k.ow.lt g e).2 (k.ap g e).1) (Nat.zero_le _), own_mono r1 (Nat.zero_le _), hc, sr_bd q _ N⟩
/-- What one arrival says, against what was sent. -/
theorem Cvs.at_ {fs : List Ft} {lat : Int} {l sl : List Ar} (h : Cvs fs lat l sl) (i : Nat) (hi : i < l.length) : ∃ j, ∃ hj : j < sl.length, (l[i]'hi).num = j + 1 ∧ (l[i]'hi).fr = (sl[j]'hj).fr ∧ (l[i]'hi).to_ = (sl[j]'hj).to_ ∧ (l[i]'hi).dat = (sl[j]'hj).dat ∧ (sl[j]'hj).at_ + lat ≤ (l[i]'hi).at_ ∧ 0 ≤ (l[i]'hi).at_ ∧ (l[i]'hi).at_ ≤ 73667279060992 := h.mem _ (List.getElem_mem hi)
theorem Cvs.le {fs : List Ft} {lat : Int} {l sl : List Ar} (h : Cvs fs lat l sl) (i : Nat) (hi : i + 1 < l.length) : (l[i]'(Nat.lt_of_succ_lt hi)).at_ ≤ (l[i + 1]'hi).at_ := List.pairwise_iff_getElem.1 h.asc i (i + 1) _ hi (Nat.lt_succ_self i)
theorem Cvs.one {fs : List Ft} {lat : Int} {l sl : List Ar} (h : Cvs fs lat l sl) (i j : Nat) (hi : i < l.length) (hn : (l[i]'hi).num = j + 1) : (l.take i).countP (fun a => a.num == j + 1) + 1 ≤ 1 + dp fs := by
  have h1 := cnt_take i (j + 1) hi
  rw [if_pos hn] at h1
  have h2 := cnt_take_le (l := l) (i + 1) (j + 1)
  have h3 := h.cnt (j + 1)
  omega
end Go.Proofs.Ytndidbanbklonaa

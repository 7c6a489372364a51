import Derived.Test.YtndidbanbklonaaBs
import Derived.Test.YtndidbanbklonaaBk
/-
  The reference: a new network. No conditions beyond those that each names.
-/
namespace Go.Proofs.Ytndidbanbklonaa
open Go.RowKit Go.Sort Go.Lib Go.Shelf
/-- A row of faults that takes the place of another. -/
def FIy (B : Nat) (w : World) (v : Value) (l' : List Ft) : Fact := ⟨fun v' w' => OwY B w' v' l' ∧ NB w v v' ∧ w.grownBy w' v.ownBlock, fun _ _ _ ⟨h1, h2, h3⟩ hb => ⟨own_next h1 hb, h2, h3.trans (gbq_of hb _)⟩⟩
/-- The reference's new network at block p. -/
structure Rf0 (B p : Nat) (w : World) (fv : Value) (nodes lat : Int) (fs : List Ft) : Prop where
  c0 : w.cell? ⟨p, 0, none⟩ = some (.int .i64 nodes)
  c1 : w.cell? ⟨p, 1, none⟩ = some (.int .i64 lat)
  c2 : w.cell? ⟨p, 2, none⟩ = some fv
  f2 : w.frozen? ⟨p, 2, none⟩ = false
  c3 : w.cell? ⟨p, 3, none⟩ = some (.slice none 0 0)
  f3 : w.frozen? ⟨p, 3, none⟩ = false
  c4 : w.cell? ⟨p, 4, none⟩ = some (.int .i64 0)
  f4 : w.frozen? ⟨p, 4, none⟩ = false
  c5 : w.cell? ⟨p, 5, none⟩ = some (.int .i64 0)
  f5 : w.frozen? ⟨p, 5, none⟩ = false
  ow : OwY B w fv fs
  ne : fv.ownBlock ≠ some p
  ge : B ≤ p
theorem Rf0.next {B p : Nat} {w w' : World} {fv : Value} {nodes lat : Int} {fs : List Ft} (h : Rf0 B p w fv nodes lat fs) (hb : Below w.heap.size w w') : Rf0 B p w' fv nodes lat fs := by
  have hl := blk_lt h.c0
  have f_ := fun j => hb.frozen (p := ⟨p, j, none⟩) hl
  exact ⟨cell_next hb h.c0, cell_next hb h.c1, cell_next hb h.c2, (f_ 2).trans h.f2, cell_next hb h.c3, (f_ 3).trans h.f3, cell_next hb h.c4, (f_ 4).trans h.f4, cell_next hb h.c5, (f_ 5).trans h.f5, own_next h.ow hb, h.ne, h.ge⟩
/-- Its faults turn, and are written. -/
theorem Rf0.put {B p : Nat} {w w1 : World} {fv fv' : Value} {nodes lat : Int} {fs fs' : List Ft} (h : Rf0 B p w fv nodes lat fs) (hg : w.grownBy w1 fv.ownBlock) (ho : OwY B w1 fv' fs') (hn : NB w fv fv') : Rf0 B p (w1.setCell ⟨p, 2, none⟩ fv') fv' nodes lat fs' := by
  have hl := blk_lt h.c0
  have hp : w1.heap[p]? = w.heap[p]? := hg.block p hl fun e => h.ne e.symm
  have c_ := fun j => World.cell?_of_block (w := w) (w' := w1) (a := ⟨p, j, none⟩) hp
  have f_ := fun j => World.frozen?_of_block (w := w) (w' := w1) (a := ⟨p, j, none⟩) hp
  have nn : ∀ j, j ≠ 2 → (⟨p, 2, none⟩ : Addr) ≠ ⟨p, j, none⟩ := fun j hj e => hj (by injection e with _ e; exact e.symm)
  have hne : fv'.ownBlock ≠ some p := fun e => by
    rcases hn with hn | ⟨g, hn, hg⟩
    · exact h.ne (hn ▸ e)
    · rw [hn] at e; injection e with e
      have hl : p < w.heap.size := hl
      omega
  have o_ := fun j (hj : j ≠ 2) v (e : w.cell? ⟨p, j, none⟩ = some v) => (World.cell?_setCell_other (w := w1) (v := fv') (h := nn j hj) ..).trans ((c_ j).trans e)
  have g_ := fun j => (fr_set w1 p 2 j fv').trans (f_ j)
  exact ⟨o_ 0 (by decide) _ h.c0, o_ 1 (by decide) _ h.c1, World.cell?_setCell_same (h := (c_ 2).trans h.c2) .., (g_ 2).trans h.f2, o_ 3 (by decide) _ h.c3, (g_ 3).trans h.f3, o_ 4 (by decide) _ h.c4, (g_ 4).trans h.f4, o_ 5 (by decide) _ h.c5, (g_ 5).trans h.f5, ho.kept (gb_set1 w1 ⟨p, 2, none⟩ fv') (.inr hne), hne, h.ge⟩
/-- What the reference's New leaves. -/
def RnP (nodes lat : Int) (fs : List Ft) (w : World) (e : Ending) (w' : World) : Prop := Below w.heap.size w w' ∧ (nwE nodes lat fs ≠ 0 ∧ e = .returned (.tuple #[.pointer none, .int .i64 (nwE nodes lat fs)]) ∨
  nwE nodes lat fs = 0 ∧ ∃ p fv, e = .returned (.tuple #[(.pointer (some ⟨p, 0, none⟩)), .int .i64 0]) ∧ Rf0 w.heap.size p w' fv nodes lat fs)
set_option maxRecDepth 100000 in
set_option maxHeartbeats 8000000 in
theorem refNew_any (nodes lat : Int) (A : Option Addr) (cap n : Nat) (fs : List Ft) (w : World) (hn : fs.length = n) (hn9 : n ≤ 9223372036854775807) (h : FtS w A fs) :
    Calls Try.prog 15 #[.int .i64 nodes, .int .i64 lat, .slice A n cap] w (RnP nodes lat fs w) := by
  by_cases h1 : nodes < 1
  · have d1 : decide (nodes < 1) = true := decide_eq_true h1
    have HR : Hid (nwE nodes lat fs = 4) := Lib.hid (if_neg (fun h => by unfold ndB tmB at h; have h1 := of_decide_eq_true h.1; have h2 := of_decide_eq_true h.2; omega))
    clear h hn h1
    go_enter Try.func15, Try.ntmps15
    go_wp2_with fail
    go_ret2
    refine ⟨Below.refl _ _, .inl ?_⟩
    rw [HR.out]
    exact ⟨by decide, rfl⟩
  · have d1 : decide (nodes < 1) = false := decide_eq_false h1
    by_cases h2 : 8 < nodes
    · have d2 : decide (8 < nodes) = true := decide_eq_true h2
      have HR : Hid (nwE nodes lat fs = 4) := Lib.hid (if_neg (fun h => by unfold ndB tmB at h; have h1 := of_decide_eq_true h.1; have h2 := of_decide_eq_true h.2; omega))
      clear h hn h1 h2
      go_enter Try.func15, Try.ntmps15
      go_wp2_with fail
      go_ret2
      refine ⟨Below.refl _ _, .inl ?_⟩
      rw [HR.out]
      exact ⟨by decide, rfl⟩
    · have d2 : decide (8 < nodes) = false := decide_eq_false h2
      by_cases h3 : lat < 0
      · have d3 : decide (lat < 0) = true := decide_eq_true h3
        have HR : Hid (nwE nodes lat fs = 4) := Lib.hid (if_neg (fun h => by unfold ndB tmB at h; have h1 := of_decide_eq_true h.1; have h2 := of_decide_eq_true h.2; omega))
        clear h hn h1 h2 h3
        go_enter Try.func15, Try.ntmps15
        go_wp2_with fail
        go_ret2
        refine ⟨Below.refl _ _, .inl ?_⟩
        rw [HR.out]
        exact ⟨by decide, rfl⟩
      · have d3 : decide (lat < 0) = false := decide_eq_false h3
        by_cases h4 : 1099511627776 < lat
        · have d4 : decide (1099511627776 < lat) = true := decide_eq_true h4
          have HR : Hid (nwE nodes lat fs = 4) := Lib.hid (if_neg (fun h => by unfold ndB tmB at h; have h1 := of_decide_eq_true h.1; have h2 := of_decide_eq_true h.2; omega))
          clear h hn h1 h2 h3 h4
          go_enter Try.func15, Try.ntmps15
          go_wp2_with fail
          go_ret2
          refine ⟨Below.refl _ _, .inl ?_⟩
          rw [HR.out]
          exact ⟨by decide, rfl⟩
        · have d4 : decide (1099511627776 < lat) = false := decide_eq_false h4
          have hEq : nwE nodes lat fs = if 64 < fs.length then 3 else ckL nodes fs := if_pos ⟨decide_eq_true (by omega), decide_eq_true (by omega)⟩
          clear h1 h2 h3 h4
          by_cases hlong : 64 < n
          · have dl : decide ((64 : Int) < (n : Int)) = true := decide_eq_true (by omega)
            have dl2 : decide (64 < n) = true := decide_eq_true hlong
            have HR : Hid (nwE nodes lat fs = 3) := Lib.hid (by rw [hEq, if_pos (by omega)])
            clear h hn hlong hEq
            go_enter Try.func15, Try.ntmps15
            go_wp2_with fail
            go_ret2
            refine ⟨Below.refl _ _, .inl ?_⟩
            rw [HR.out]
            exact ⟨by decide, rfl⟩
          · have HEQ : Hid (nwE nodes lat fs = ckL nodes fs) := Lib.hid (by rw [hEq, if_neg (by omega)])
            have dl : decide ((64 : Int) < (n : Int)) = false := decide_eq_false (by omega)
            have dl2 : decide (64 < n) = false := decide_eq_false hlong
            have hn64 : n ≤ 64 := by omega
            have HN := Lib.hid hn
            have HA := Lib.hid h
            have B0 := Bx.newL w 51 [.int .i64 nodes, .int .i64 lat, .slice none 0 0, .slice none 0 0, .int .i64 0, .int .i64 0]
            have hb0 := ab1 w (Obj.cells [.int .i64 nodes, .int .i64 lat, .slice none 0 0, .slice none 0 0, .int .i64 0, .int .i64 0].toArray 51)
            have HST : Hid (Rf0 w.heap.size w.heap.size (w.alloc (Obj.cells [.int .i64 nodes, .int .i64 lat, .slice none 0 0, .slice none 0 0, .int .i64 0, .int .i64 0].toArray 51)) (.slice none 0 0) nodes lat [] ∧ Below w.heap.size w (w.alloc (Obj.cells [.int .i64 nodes, .int .i64 lat, .slice none 0 0, .slice none 0 0, .int .i64 0, .int .i64 0].toArray 51))) := Lib.hid ⟨⟨B0.c 0 rfl, B0.c 1 rfl, B0.c 2 rfl, B0.f 2 rfl, B0.c 3 rfl, B0.f 3 rfl, B0.c 4 rfl, B0.f 4 rfl, B0.c 5 rfl, B0.f 5 rfl, World.ownsRow_nil _ _ _ _, (fun e => by cases e), Nat.le_refl _⟩, hb0⟩
            obtain ⟨i0, hi0, hz, hs6, hby⟩ := info_parts infoY
            clear h hn hEq hlong hn9 B0 hb0
            go_enter Try.func15, Try.ntmps15
            go_wp2_with fail
            obtain ⟨p, hp⟩ : ∃ p, w.heap.size = p := ⟨_, rfl⟩
            have HST2 : Hid (Rf0 w.heap.size p (w.alloc (Obj.cells #[.int .i64 nodes, .int .i64 lat, .slice none 0 0, .slice none 0 0, .int .i64 0, .int .i64 0] 51)) (.slice none 0 0) nodes lat [] ∧ Below w.heap.size w (w.alloc (Obj.cells #[.int .i64 nodes, .int .i64 lat, .slice none 0 0, .slice none 0 0, .int .i64 0, .int .i64 0] 51))) := Lib.hid (by rw [← hp]; exact HST.out)
            rw [hp]
            clear HST hp
            generalize w.alloc (Obj.cells #[.int .i64 nodes, .int .i64 lat, .slice none 0 0, .slice none 0 0, .int .i64 0, .int .i64 0] 51) = w1 at *
            go_loopg [9] n (fun kx s9 wr => ∃ (i : Nat) (fv : Value), s9 = .int .i64 (i : Int) ∧ i ≤ n ∧ n - i ≤ kx ∧ Hid (Rf0 w.heap.size p wr fv nodes lat (fs.take i) ∧ Below w.heap.size w wr) ∧ Hid (ckL nodes fs = ckL nodes (fs.drop i)))
            case atStart => exact ⟨0, _, rfl, Nat.zero_le _, Nat.le_refl _, HST2, Lib.hid rfl⟩
            case round =>
              obtain ⟨i, fv, rfl, hin, hkx, HR, HD⟩ := hrel
              by_cases hi : i < n
              · have di : decide (i < n) = true := decide_eq_true hi
                have hi2 : i < fs.length := by rw [HN.out]; exact hi
                obtain ⟨gf, of, rfl, hgf, hcl⟩ : ∃ ab ao, A = some ⟨ab, ao, none⟩ ∧ ab < w.heap.size ∧ ∀ j v, (tc e6 fs)[j]? = some v → w.cell? ⟨ab, ao + j, none⟩ = some v := by
                  rcases HA.out with h | h
                  · rw [h] at hi2; cases hi2
                  · exact h
                obtain ⟨y, hy⟩ : ∃ y, fs[i]'hi2 = y := ⟨_, rfl⟩
                have HY : Hid (fs.drop i = y :: fs.drop (i + 1)) := Lib.hid (by rw [← hy]; exact List.drop_eq_getElem_cons hi2)
                have HTK : Hid (fs.take (i + 1) = fs.take i ++ [y]) := Lib.hid (by rw [List.take_succ_eq_append_getElem hi2, hy])
                have hc := fun j v (hj : j < 6) hv => hcl (i * 6 + j) v (by rw [tc_get e6_len fs i j hi2 hj]; exact hv)
                rw [hy] at hc
                have HC : Hid (∀ W, Below w.heap.size w W → W.cell? ⟨gf, of + i * 6, none⟩ = some (.int .i64 y.k) ∧ W.cell? ⟨gf, of + i * 6 + 1, none⟩ = some (.int .i64 y.a) ∧ W.cell? ⟨gf, of + i * 6 + 2, none⟩ = some (.int .i64 y.b) ∧ W.cell? ⟨gf, of + i * 6 + 3, none⟩ = some (.int .i64 y.f) ∧ W.cell? ⟨gf, of + i * 6 + 4, none⟩ = some (.int .i64 y.u) ∧ W.cell? ⟨gf, of + i * 6 + 5, none⟩ = some (.int .i64 y.x) ∧ gf < W.heap.size) := Lib.hid fun W hb => by
                  have k := fun j v hj hv => cell_next hb (hc j v hj hv)
                  exact ⟨k 0 _ (by decide) rfl, by rw [Nat.add_assoc]; exact k 1 _ (by decide) rfl, by rw [Nat.add_assoc]; exact k 2 _ (by decide) rfl, by rw [Nat.add_assoc]; exact k 3 _ (by decide) rfl, by rw [Nat.add_assoc]; exact k 4 _ (by decide) rfl, by rw [Nat.add_assoc]; exact k 5 _ (by decide) rfl, Nat.lt_of_lt_of_le hgf hb.size⟩
                have HGF := Lib.hid hgf
                obtain ⟨q0, q1, q2, q3, q4, q5, ql⟩ := HC.out wr HR.out.2
                have cC := refCheck_any nodes y wr
                have hi1 : i + 1 ≤ n := by omega
                clear hc hcl hy hgf hi2
                rcases ckI_or nodes y with hck | hck
                · rw [hck] at cC
                  have HD2 : Hid (ckL nodes fs = ckL nodes (fs.drop (i + 1))) := Lib.hid (by rw [HD.out, HY.out, ckL, if_pos hck])
                  obtain ⟨Av, dv, e, -⟩ := own_nil_or HR.out.1.ow
                  have hlt : (fs.take i).length = i := by rw [List.length_take, HN.out]; omega
                  have HLT := Lib.hid hlt
                  rw [hlt] at e
                  subst e
                  clear hck q0 q1 q2 q3 q4 q5 ql hlt
                  obtain ⟨q0, q1, q2, q3, q4, q5, ql⟩ := HC.out wr HR.out.2
                  go_wp2_with (refine cC.mono ?_; rintro e w2 ⟨rfl, hb2⟩; have HB2 := Lib.hid (Below.next HR.out.2 (hb2.mono (Nat.le_refl _))); have HR2 := Lib.hid (HR.out.1.next hb2))
                  obtain ⟨q0, q1, q2, q3, q4, q5, ql⟩ := HC.out w2 HB2.out
                  have hq2 : ∀ g, (Value.slice Av i dv).ownBlock = some g → g < w2.heap.size := fun g e => (HR2.out.ow.lt g e).2
                  have hq0 : some p ≠ (Value.slice Av i dv).ownBlock := fun e => HR2.out.ne e.symm
                  have hq1 : some gf ≠ (Value.slice Av i dv).ownBlock := fun e => by have := (HR2.out.ow.lt gf e.symm).1; have := HGF.out; omega
                  have k2 := HR2.out.c2
                  have j2 := HR2.out.f2
                  have pl : p < w2.heap.size := blk_lt k2
                  obtain ⟨v0, hv0⟩ : ∃ v0, (Value.slice Av i dv) = v0 := ⟨_, rfl⟩
                  obtain ⟨l2, hl2⟩ : ∃ l2, fs.take (i + 1) = l2 := ⟨_, rfl⟩
                  have HV0 := Lib.hid hv0
                  have HL2 := Lib.hid hl2
                  obtain ⟨S, hSd⟩ : ∃ S : World → Prop, (fun W : World => w2.grownBy W (Value.slice Av i dv).ownBlock) = S := ⟨_, rfl⟩
                  have hSi : ∀ W, S W ↔ w2.grownBy W (Value.slice Av i dv).ownBlock := fun W => by rw [← hSd]
                  have hS : Keeps S := fun W W' h hb => by rw [hSi] at h ⊢; exact h.trans (gbq_of hb _)
                  have hS0 : S w2 := by rw [hSi]; exact World.grownBy.refl _ _
                  obtain ⟨RR, hRd⟩ : ∃ RR : World → World → Prop, (fun W W' : World => W.grownBy W' (Value.slice Av i dv).ownBlock) = RR := ⟨_, rfl⟩
                  have hRB : ∀ W W' : World, Below W.heap.size W W' → RR W W' := fun W W' hb => by rw [← hRd]; exact gbq_of hb _
                  have hRt : ∀ W W1 W2 : World, RR W W1 → RR W1 W2 → RR W W2 := fun W W1 W2 h h8 => by rw [← hRd] at h h8 ⊢; exact h.trans h8
                  have hSR : ∀ W W' : World, S W → RR W W' → S W' := fun W W' h h8 => by rw [hSi] at h ⊢; rw [← hRd] at h8; exact h.trans h8
                  have hRg : ∀ W W' : World, RR W W' → W.grownBy W' (Value.slice Av i dv).ownBlock := fun W W' h => by rw [← hRd] at h; exact h
                  have hAP : ∀ (W : World) (g9 : Nat), Below w2.heap.size w2 W → W.heap[g9]? = some (.cells #[.int .i64 y.k, .int .i64 y.a, .int .i64 y.b, .int .i64 y.f, .int .i64 y.u, .int .i64 y.x] 41 (0, 0)) → w2.heap.size ≤ g9 → ∃ v' w', (Builtin.append_ #[36, 36] 36 #[.slice Av i dv, .slice (some ⟨g9, 0, none⟩) 1 1]).run Try.prog W = .ok v' w' ∧ (FIy w.heap.size w2 v0 l2).holds v' w' ∧ RR W w' := by
                    intro W g9 hlow hg9 hge9
                    have ho := own_next HR2.out.ow hlow
                    rw [HLT.out] at ho
                    obtain ⟨v', w', e1, e2, e3, -, e5⟩ := run_append_own_at (P := Try.prog) W w.heap.size 36 36 41 i0 _ 6 48 Try.underlying36 hi0 hz hs6 hby rfl (by omega) (.slice Av i dv) i (tc e6 (fs.take i)) ho ⟨g9, 0, none⟩ 1 1 (e6 y) rfl
                      (fun j u hj => by rw [Addr.add_lit, cell_lit hg9, Nat.zero_add, List.getElem?_toArray]; exact hj) (e6_one y) (by unfold maxLen; omega) (by omega) (Nat.le_trans HB2.out.size hlow.size)
                    refine ⟨v', w', e1, ⟨?_, ?_, ?_⟩, by rw [← hRd]; exact e3⟩
                    · rw [← HL2.out, HTK.out]
                      unfold OwY
                      rw [tc_app, tc_one, List.length_append, HLT.out]
                      exact e2
                    · rw [← HV0.out]
                      rcases e5 with e5 | e5
                      · exact .inl e5
                      · exact .inr ⟨_, e5, hlow.size⟩
                    · rw [← HV0.out]; exact (gbq_of hlow _).trans e3
                  refine wp_region_one (by kernel_rfl) (FF [(2, Fact.atS S hS (.slice (some ⟨gf, of, none⟩) n cap)), (8, Fact.atS S hS (.pointer (some ⟨p, 0, none⟩))), (9, Fact.atS S hS (.int .i64 (i : Int))), (47, Fact.atS S hS (.pointer (some ⟨p, 0, none⟩))), (48, Fact.atS S hS (.pointer (some ⟨p, 0, none⟩))), (49, Fact.atS S hS (.pointer (some ⟨p, 0, none⟩))), (50, Fact.atS S hS (.pointer (some ⟨p, 2, none⟩))), (51, Fact.atS S hS (.slice Av i dv)), (52, Fact.atS S hS (.slice (some ⟨gf, of, none⟩) n cap)), (53, Fact.atS S hS (.int .i64 (i : Int))), (54, Fact.atS S hS (.pointer (some ⟨gf, of + i * 6, none⟩))), (55, Fact.atS S hS (.agg #[.int .i64 y.k, .int .i64 y.a, .int .i64 y.b, .int .i64 y.f, .int .i64 y.u, .int .i64 y.x])), (56, FNS S hS #[.int .i64 y.k, .int .i64 y.a, .int .i64 y.b, .int .i64 y.f, .int .i64 y.u, .int .i64 y.x] 41 w2), (57, FIy w.heap.size w2 v0 l2)]) RR hRB hRt 10 57 rfl (FF_keep (fcs ⟨fun _ => atS_keep (hS := hS) hSR, fcs ⟨fun _ => atS_keep (hS := hS) hSR, fcs ⟨fun _ => atS_keep (hS := hS) hSR, fcs ⟨fun _ => atS_keep (hS := hS) hSR, fcs ⟨fun _ => atS_keep (hS := hS) hSR, fcs ⟨fun _ => atS_keep (hS := hS) hSR, fcs ⟨fun _ => atS_keep (hS := hS) hSR, fcs ⟨fun _ => atS_keep (hS := hS) hSR, fcs ⟨fun _ => atS_keep (hS := hS) hSR, fcs ⟨fun _ => atS_keep (hS := hS) hSR, fcs ⟨fun _ => atS_keep (hS := hS) hSR, fcs ⟨fun _ => atS_keep (hS := hS) hSR, fcs ⟨fun _ => FNS_keep (hS := hS) hSR hRg hq2, fcs ⟨fun h => absurd rfl h, fnl⟩⟩⟩⟩⟩⟩⟩⟩⟩⟩⟩⟩⟩⟩)) [2, 8, 9] 61 11 [47, 48, 49, 50, 51, 52, 53, 54, 55, 56, 57] rfl (by kernel_rfl) (by kernel_rfl) (by decide) (by kernel_rfl) ?_ ?_ ?_ ?_
                  · intro t9 ht9
                    simp only [List.mem_cons, List.not_mem_nil, or_false] at ht9
                    rcases ht9 with rfl | rfl | rfl
                    · exact ⟨rfl, hS0⟩
                    · exact ⟨rfl, hS0⟩
                    · exact ⟨rfl, hS0⟩
                  · intro i9 o9 hi9 hk9 ho9
                    match i9, hi9 with
                    | 0, _ => have e9 := Option.some.inj ho9; subst e9; exact atscopy (hS := hS) 8 47 (.pointer (some ⟨p, 0, none⟩)) (.inl rfl) rfl rfl (by kernel_rfl) rfl rfl
                    | 1, _ => have e9 := Option.some.inj ho9; subst e9; exact atscopy (hS := hS) 8 48 (.pointer (some ⟨p, 0, none⟩)) (.inl rfl) rfl rfl (by kernel_rfl) rfl rfl
                    | 2, _ => have e9 := Option.some.inj ho9; subst e9; exact ats1 (hS := hS) 48 49 (.pointer (some ⟨p, 0, none⟩)) (.pointer (some ⟨p, 0, none⟩)) rfl rfl (by kernel_rfl) rfl rfl (fun a9 W9 hb9 h9 => by simp [execOp, h9] <;> go_simp)
                    | 3, _ => have e9 := Option.some.inj ho9; subst e9; exact ats1 (hS := hS) 49 50 (.pointer (some ⟨p, 0, none⟩)) (.pointer (some ⟨p, 2, none⟩)) rfl rfl (by kernel_rfl) rfl rfl (fun a9 W9 hb9 h9 => by simp [execOp, h9] <;> go_simp)
                    | 4, _ => have e9 := Option.some.inj ho9; subst e9; exact ats1 (hS := hS) 50 51 (.pointer (some ⟨p, 2, none⟩)) (.slice Av i dv) rfl rfl (by kernel_rfl) rfl rfl (fun a9 W9 hb9 h9 => by have g0 := World.grownBy.cell ((hSi W9).1 hb9) k2 (by first | exact hq0 | exact hq1); simp [execOp, h9] <;> go_simp)
                    | 5, _ => have e9 := Option.some.inj ho9; subst e9; exact atscopy (hS := hS) 2 52 (.slice (some ⟨gf, of, none⟩) n cap) (.inl rfl) rfl rfl (by kernel_rfl) rfl rfl
                    | 6, _ => have e9 := Option.some.inj ho9; subst e9; exact atscopy (hS := hS) 9 53 (.int .i64 (i : Int)) (.inl rfl) rfl rfl (by kernel_rfl) rfl rfl
                    | 7, _ => have e9 := Option.some.inj ho9; subst e9; exact ats2 (hS := hS) 52 53 54 (.slice (some ⟨gf, of, none⟩) n cap) (.int .i64 (i : Int)) (.pointer (some ⟨gf, of + i * 6, none⟩)) rfl rfl (by kernel_rfl) (by kernel_rfl) rfl rfl rfl (fun a9 W9 hb9 h9 h8 => by simp [execOp, h9, h8] <;> go_simp)
                    | 8, _ => have e9 := Option.some.inj ho9; subst e9; exact ats1 (hS := hS) 54 55 (.pointer (some ⟨gf, of + i * 6, none⟩)) (.agg #[.int .i64 y.k, .int .i64 y.a, .int .i64 y.b, .int .i64 y.f, .int .i64 y.u, .int .i64 y.x]) rfl rfl (by kernel_rfl) rfl rfl (fun a9 W9 hb9 h9 => by have g0 := World.grownBy.cell ((hSi W9).1 hb9) q0 (by first | exact hq0 | exact hq1); have g1 := World.grownBy.cell ((hSi W9).1 hb9) q1 (by first | exact hq0 | exact hq1); have g2 := World.grownBy.cell ((hSi W9).1 hb9) q2 (by first | exact hq0 | exact hq1); have g3 := World.grownBy.cell ((hSi W9).1 hb9) q3 (by first | exact hq0 | exact hq1); have g4 := World.grownBy.cell ((hSi W9).1 hb9) q4 (by first | exact hq0 | exact hq1); have g5 := World.grownBy.cell ((hSi W9).1 hb9) q5 (by first | exact hq0 | exact hq1); simp [execOp, h9] <;> go_simp)
                    | 9, _ => have e9 := Option.some.inj ho9; subst e9; exact ats_val rfl (fun a9 W9 hf9 => by have p55 := hf9 55 (by kernel_rfl); have h9 : a9.eval (.tmp 55) = (.agg #[.int .i64 y.k, .int .i64 y.a, .int .i64 y.b, .int .i64 y.f, .int .i64 y.u, .int .i64 y.x]) := p55.1; exact ⟨.slice (some ⟨W9.heap.size, 0, none⟩) 1 1, W9.alloc (Obj.cells #[.int .i64 y.k, .int .i64 y.a, .int .i64 y.b, .int .i64 y.f, .int .i64 y.u, .int .i64 y.x] 41), by simp [execOp, h9] <;> go_simp, ab1 _ _, fun s hs => by injection hs with hs; subst hs; exact ⟨W9.heap.size, rfl, heap_newI _ _, ((hSi W9).1 p55.2).size, hS _ _ p55.2 (ab1 _ _)⟩⟩)
                    | 10, _ => exact absurd rfl hk9
                  · intro o9 ho9
                    have e9 := Option.some.inj ho9
                    subst e9
                    exact ats_valR rfl (fun a9 W9 hf9 hlow9 => by have p51 := hf9 51 (by kernel_rfl); obtain ⟨g9, p56, hg9, hge9, -⟩ := hf9 56 (by kernel_rfl); have q51 : a9.eval (.tmp 51) = (.slice Av i dv) := p51.1; have q56 : a9.eval (.tmp 56) = (.slice (some ⟨g9, 0, none⟩) 1 1) := p56; obtain ⟨v', w', e1, e2, e3⟩ := hAP W9 g9 hlow9 hg9 hge9; exact ⟨v', w', by simp [execOp, resolve, invoke, builtin, q51, q56, e1, Result.andThen], e3, fun s hs => by injection hs with hs; subst hs; exact e2⟩)
                  intro vv wv hvv hRv
                  have hv47 : vv 47 = (.pointer (some ⟨p, 0, none⟩)) := (hvv 47 (by decide)).1
                  have hv48 : vv 48 = (.pointer (some ⟨p, 0, none⟩)) := (hvv 48 (by decide)).1
                  have hv49 : vv 49 = (.pointer (some ⟨p, 0, none⟩)) := (hvv 49 (by decide)).1
                  have hv50 : vv 50 = (.pointer (some ⟨p, 2, none⟩)) := (hvv 50 (by decide)).1
                  have hv51 : vv 51 = (.slice Av i dv) := (hvv 51 (by decide)).1
                  have hv52 : vv 52 = (.slice (some ⟨gf, of, none⟩) n cap) := (hvv 52 (by decide)).1
                  have hv53 : vv 53 = (.int .i64 (i : Int)) := (hvv 53 (by decide)).1
                  have hv54 : vv 54 = (.pointer (some ⟨gf, of + i * 6, none⟩)) := (hvv 54 (by decide)).1
                  have hv55 : vv 55 = (.agg #[.int .i64 y.k, .int .i64 y.a, .int .i64 y.b, .int .i64 y.f, .int .i64 y.u, .int .i64 y.x]) := (hvv 55 (by decide)).1
                  obtain ⟨g9, hv56, -⟩ := hvv 56 (by decide)
                  have hF57 := hvv 57 (by decide)
                  obtain ⟨v', hv57⟩ : ∃ v', vv 57 = v' := ⟨_, rfl⟩
                  rw [hv57] at hF57
                  obtain ⟨A', n', c', rfl⟩ : ∃ A' n' c', v' = .slice A' n' c' := by
                    obtain ⟨A', c', rfl, -⟩ := own_nil_or hF57.1
                    exact ⟨_, _, _, rfl⟩
                  simp only [lay, List.foldl_cons, List.foldl_nil, List.setIfInBounds_toArray, List.set_cons_succ, List.set_cons_zero, hv47, hv48, hv49, hv50, hv51, hv52, hv53, hv54, hv55, hv56, hv57, List.drop_succ_cons, List.drop_zero]
                  rw [← HV0.out, ← HL2.out] at hF57
                  obtain ⟨hO4, hN4, hG4⟩ := hF57
                  have hbk : wv.heap[p]? = w2.heap[p]? := hG4.block p pl hq0
                  have c4 : wv.cell? ⟨p, 2, none⟩ = some (.slice Av i dv) := (World.cell?_of_block (a := ⟨p, 2, none⟩) hbk).trans k2
                  have f4 : wv.frozen? ⟨p, 2, none⟩ = false := (World.frozen?_of_block (a := ⟨p, 2, none⟩) hbk).trans j2
                  have l4 : p < wv.heap.size := blk_lt c4
                  have HE : Hid (Rf0 w.heap.size p (wv.setCell ⟨p, 2, none⟩ (.slice A' n' c')) (.slice A' n' c') nodes lat (fs.take (i + 1)) ∧ Below w.heap.size w (wv.setCell ⟨p, 2, none⟩ (.slice A' n' c'))) := Lib.hid ⟨HR2.out.put hG4 hO4 hN4, (((Fm.of (fun j => w.heap.size ≤ j) HB2.out).trans (Fm.gb (s := fun j => (Value.slice Av i dv).ownBlock = some j) hG4 fun _ e => e) fun j _ e => (HR2.out.ow.lt j e).1).trans (Fm.gb (s := fun j => p = j) (gb_set1 wv ⟨p, 2, none⟩ (.slice A' n' c')) fun j e => by injection e) fun j _ e => by rw [← e]; exact HR2.out.ge).below (Nat.le_refl _) fun _ e => e⟩
                  clear hvv k2 j2 q0 q1 q2 q3 q4 q5 ql hO4 hN4 hG4 hbk hv0 hl2 hSd hSi hS hS0 hRd hRB hRt hSR hRg hAP hRv hq0 hq1 hq2 hb2 pl
                  go_wp2_with fail
                  go_roundg (n - (i + 1))
                  case measure => omega
                  case rel => exact ⟨i + 1, _, rfl, hi1, Nat.le_refl _, HE, HD2⟩
                · rw [hck] at cC
                  have HE : Hid (nwE nodes lat fs = 4) := Lib.hid (by rw [HEQ.out, HD.out, HY.out, ckL, if_neg (by rw [hck]; decide)])
                  clear hck
                  go_wp2_with (refine cC.mono ?_; rintro e w2 ⟨rfl, hb2⟩; have HB2 := Lib.hid (Below.next HR.out.2 (hb2.mono (Nat.le_refl _))))
                  go_ret2
                  refine ⟨HB2.out, .inl ?_⟩
                  rw [HE.out]
                  exact ⟨by decide, rfl⟩
              · have di : decide (i < n) = false := decide_eq_false hi
                have hE0 : nwE nodes lat fs = 0 := by rw [HEQ.out, HD.out, List.drop_eq_nil_of_le (by rw [HN.out]; omega)]; rfl
                have HE := Lib.hid hE0
                have HT : Hid (fs.take i = fs) := Lib.hid (List.take_of_length_le (by rw [HN.out]; omega))
                clear hi hE0
                go_wp2_with fail
                go_ret2
                have k := HR.out
                rw [HT.out] at k
                exact ⟨k.2, .inr ⟨HE.out, p, fv, rfl, k.1⟩⟩
end Go.Proofs.Ytndidbanbklonaa

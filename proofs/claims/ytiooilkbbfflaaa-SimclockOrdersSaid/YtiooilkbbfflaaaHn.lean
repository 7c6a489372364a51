import Derived.Test.YtiooilkbbfflaaaHm
/-
  Appends of one element to rows of one's own; copies of a container. No conditions beyond those that each names.
-/
namespace Go.Proofs.Ytiooilkbbfflaaa
open Go.RowKit Go.Sort Go.Lib Go.Shelf
theorem wpList_pushF {w : World} {ops : Array Oper} {rest : List Oper} {o : Oper} {a : Act} {Q : Exit → Act → World → Prop} (hgd : o.guard = none) (sv xv : Operand)
    (ho : o.op = .call { callee := .builtin .append, args := #[sv, xv], argTypes := #[45, 45] }) (B : Nat) (v : Value) (l : List (Nat × Nat)) (y : (Nat × Nat)) (g d : Nat) (hs : a.eval sv = v) (hx : a.eval xv = .slice (some ⟨g, 0, none⟩) 1 d)
    (hown : OwF B w v l) (hc : Bx w g (e2 y)) (hm : l.length ≤ 1000000) (hB : B ≤ w.heap.size)
    (h : ∀ v' w', OwF B w' v' (l ++ [y]) → w.grownBy w' v.ownBlock → (v'.ownBlock = v.ownBlock ∨ v'.ownBlock = some w.heap.size) → wpList Try.prog ops Q rest (a.put o.dst v') w') : wpList Try.prog ops Q (o :: rest) a w := by
  obtain ⟨i, hi, hz, hs5, hby⟩ := info_parts infoF
  refine wpList_append_own_at w hgd sv xv 45 ho B 49 i _ 2 16 Try.underlying45 hi hz hs5 hby rfl (by omega) v l.length (tc e2 l) hs hown ⟨g, 0, none⟩ 1 d (e2 y) hx rfl
    (by intro j u hj; rw [Addr.add_lit, Nat.zero_add]; exact (hc.at_ j u hj).1) (e2_one y) (by simp only [maxLen]; omega) (by omega) hB ?_
  intro v' w' h1 h2 _ h4
  refine h v' w' ?_ h2 h4
  unfold OwF
  rw [tc_app, tc_one, List.length_append]
  exact h1
theorem wpList_pushR {w : World} {ops : Array Oper} {rest : List Oper} {o : Oper} {a : Act} {Q : Exit → Act → World → Prop} (hgd : o.guard = none) (sv xv : Operand)
    (ho : o.op = .call { callee := .builtin .append, args := #[sv, xv], argTypes := #[53, 53] }) (B : Nat) (v : Value) (l : List (Nat × Nat)) (y : (Nat × Nat)) (g d : Nat) (hs : a.eval sv = v) (hx : a.eval xv = .slice (some ⟨g, 0, none⟩) 1 d)
    (hown : OwR B w v l) (hc : Bx w g (e2 y)) (hm : l.length ≤ 1000000) (hB : B ≤ w.heap.size)
    (h : ∀ v' w', OwR B w' v' (l ++ [y]) → w.grownBy w' v.ownBlock → (v'.ownBlock = v.ownBlock ∨ v'.ownBlock = some w.heap.size) → wpList Try.prog ops Q rest (a.put o.dst v') w') : wpList Try.prog ops Q (o :: rest) a w := by
  obtain ⟨i, hi, hz, hs5, hby⟩ := info_parts infoR
  refine wpList_append_own_at w hgd sv xv 53 ho B 59 i _ 2 16 Try.underlying53 hi hz hs5 hby rfl (by omega) v l.length (tc e2 l) hs hown ⟨g, 0, none⟩ 1 d (e2 y) hx rfl
    (by intro j u hj; rw [Addr.add_lit, Nat.zero_add]; exact (hc.at_ j u hj).1) (e2_one y) (by simp only [maxLen]; omega) (by omega) hB ?_
  intro v' w' h1 h2 _ h4
  refine h v' w' ?_ h2 h4
  unfold OwR
  rw [tc_app, tc_one, List.length_append]
  exact h1
theorem wpList_pushE {w : World} {ops : Array Oper} {rest : List Oper} {o : Oper} {a : Act} {Q : Exit → Act → World → Prop} (hgd : o.guard = none) (sv xv : Operand)
    (ho : o.op = .call { callee := .builtin .append, args := #[sv, xv], argTypes := #[26, 26] }) (B : Nat) (v : Value) (l : List Tm) (y : Tm) (g d : Nat) (hs : a.eval sv = v) (hx : a.eval xv = .slice (some ⟨g, 0, none⟩) 1 d)
    (hown : OwE B w v l) (hc : Bx w g (e3 y)) (hm : l.length ≤ 1000000) (hB : B ≤ w.heap.size)
    (h : ∀ v' w', OwE B w' v' (l ++ [y]) → w.grownBy w' v.ownBlock → (v'.ownBlock = v.ownBlock ∨ v'.ownBlock = some w.heap.size) → wpList Try.prog ops Q rest (a.put o.dst v') w') : wpList Try.prog ops Q (o :: rest) a w := by
  obtain ⟨i, hi, hz, hs5, hby⟩ := info_parts infoE
  refine wpList_append_own_at w hgd sv xv 26 ho B 79 i _ 3 24 Try.underlying26 hi hz hs5 hby rfl (by omega) v l.length (tc e3 l) hs hown ⟨g, 0, none⟩ 1 d (e3 y) hx rfl
    (by intro j u hj; rw [Addr.add_lit, Nat.zero_add]; exact (hc.at_ j u hj).1) (e3_one y) (by simp only [maxLen]; omega) (by omega) hB ?_
  intro v' w' h1 h2 _ h4
  refine h v' w' ?_ h2 h4
  unfold OwE
  rw [tc_app, tc_one, List.length_append]
  exact h1
/-- A copy. -/
def ClP (l : List Tm) (w : World) (e : Ending) (w' : World) : Prop := ∃ v', e = .returned v' ∧ OwT w.heap.size w' v' l ∧ Below w.heap.size w w'
def ClS (l : List Tm) (w : World) (e : Ending) (w' : World) : Prop := ∃ v', e = .returned (.agg #[v']) ∧ OwT w.heap.size w' v' l ∧ Below w.heap.size w w'
set_option maxRecDepth 100000 in
set_option maxHeartbeats 2000000 in
theorem clone_any (B : Nat) (v : Value) (l : List Tm) (w : World) (hl : l.length ≤ 1000000) (ho : OwT B w v l) :
    Calls Try.prog 40 #[v] w (ClP l w) := by
  obtain ⟨A, c, rfl, hA⟩ := own_nil_or ho
  have q22 : ∀ (w : World) (a : Option Addr) (n c n' c' : Nat), (binOp .eql 60 (.slice a n c) (.slice none n' c')).run Try.prog w = .ok (.bool a.isNone) w := fun w a n c n' c' => Lib.run_eql_slice_nil w _ _ a n c n' c' Try.underlying60
  rcases hA with ⟨rfl, rfl, h0⟩ | ⟨g, rfl, -, hg, -⟩
  · obtain rfl := List.eq_nil_of_length_eq_zero h0
    clear ho hl h0
    go_enter Try.func40, Try.ntmps40
    go_wp2_with fail
    go_ret
    exact ⟨_, rfl, World.ownsRow_nil _ _ _ _, Below.refl _ _⟩
  · obtain ⟨i, hi, hz, hs5, hby⟩ := info_parts infoT
    have hrow : ∀ j u, (tc e3 l)[j]? = some u → w.cell? ((⟨g, 0, none⟩ : Addr).add j) = some u := fun j u hu => ho.cells (g := g) rfl j u hu
    obtain ⟨n, hn⟩ : ∃ n, l.length = n := ⟨_, rfl⟩
    have HN := Lib.hid hn
    have HR := Lib.hid hrow
    have hb1 : Below w.heap.size w (w.alloc (Obj.cells #[] 74)) := ab1 _ _
    rw [hn] at hl ⊢
    clear ho hrow hn
    go_enter Try.func40, Try.ntmps40
    go_wp2_with (at_builtin; refine wpList_append_own _ rfl _ _ 60 rfl w.heap.size 74 i _ 3 24 Try.underlying60 hi hz hs5 hby rfl (by decide) _ _ _ rfl (World.ownsRow_made w #[] 0 (Nat.le_refl _) (Nat.zero_le _) rfl) ⟨g, 0, none⟩ n c (tc e3 l) rfl (by rw [tc_len e3_len, HN.out]) (fun j u hj => cell_next hb1 (HR.out j u hj)) (tc_one' e3_one l) (by unfold maxLen; omega) (by omega) (by simp) ?_)
    intro v' w1 hown hgrow hnil
    have HF := Lib.hid (show OwT w.heap.size w1 v' l ∧ Below w.heap.size w w1 by
      refine ⟨?_, ((Below.refl _ w).alloc (Nat.le_refl _) _).grown hgrow (by simp) (by intro k hk; simp [Value.ownBlock] at hk; omega)⟩
      unfold OwT
      rw [HN.out]
      simpa using hown)
    clear hown hgrow hnil hb1 hi hz hs5 hby
    go_wp2
    go_ret
    exact ⟨v', rfl, HF.out⟩
set_option maxRecDepth 100000 in
set_option maxHeartbeats 2000000 in
theorem sclone_any (B p o : Nat) (v : Value) (l : List Tm) (w : World) (hl : l.length ≤ 1000000) (hs : Sd B p o w v l) :
    Calls Try.prog 33 #[(.pointer (some ⟨p, o, none⟩))] w (ClS l w) := by
  have hab := ab1 w (Obj.cells #[.slice none 0 0] 62)
  have B1 := Bx.new1 w 62 (.slice none 0 0)
  have c0 := hs.c
  have lp := hs.lt
  have cC := fun W (hb : Below w.heap.size w W) => clone_any B v l W hl (own_next hs.own hb)
  have HC := Lib.hid cC
  obtain ⟨A, c, rfl, -⟩ := own_nil_or hs.own
  clear hs cC
  go_enter Try.func33, Try.ntmps33
  go_upto_region 1 with (fail)
  generalize w.alloc (Obj.cells #[.slice none 0 0] 62) = w0 at *
  have c1 := cell_next hab c0
  have l1 := blk_lt c1
  go_wp2_with (refine (HC.out w0 hab).mono ?_; rintro e w1 ⟨v', rfl, ho1, hb1⟩; obtain ⟨A', c', rfl, -⟩ := own_nil_or ho1; have B2 := B1.next hb1; have s0 := B2.c 0 rfl; have f0 := B2.f 0 rfl; have l0 := B2.lt; have H1 := Lib.hid (ho1.kept (gb_set1 w1 ⟨w.heap.size, 0, none⟩ (.slice A' l.length c')) (.inr fun e => absurd (Nat.lt_of_lt_of_le B1.lt (ho1.lt _ e).1) (Nat.lt_irrefl _))); have H2 := Lib.hid (Below.next hab hb1); clear ho1)
  refine bodyPost_ret (v := .agg #[.slice A' l.length c']) (by simp [results, Try.results33, go_sem, s0]) rfl ?_
  exact ⟨_, rfl, own_mono H1.out hab.size, H2.out.setCell (Nat.le_refl _) _⟩
end Go.Proofs.Ytiooilkbbfflaaa

import Derived.Test.YtiooilkbbfflaaaHy
/-
  Two clocks side by side; advancing in two steps: mathematics and the loop. No conditions beyond those that each names.
-/
namespace Go.Proofs.Ytiooilkbbfflaaa
open Go.RowKit Go.Sort Go.Lib Go.Shelf
theorem wpList_appR {w : World} {ops : Array Oper} {rest : List Oper} {o : Oper} {a : Act} {Q : Exit → Act → World → Prop} (hgd : o.guard = none) (s x : Operand)
    (ho : o.op = .call { callee := .builtin .append, args := #[s, x], argTypes := #[53, 53] }) (B B2 : Nat) (v v2 : Value) (l m : List (Nat × Nat)) (hs : a.eval s = v) (hx : a.eval x = v2) (hown : OwR B w v l) (hown2 : OwR B2 w v2 m) (hl : l.length ≤ 100000) (hm : m.length ≤ 100000) (hB : B ≤ w.heap.size)
    (h : ∀ v' w', OwR B w' v' (l ++ m) → w.grownBy w' v.ownBlock → wpList Try.prog ops Q rest (a.put o.dst v') w') : wpList Try.prog ops Q (o :: rest) a w := by
  obtain ⟨i, hi, hz, hs5, hby⟩ := info_parts infoR
  obtain ⟨A, c, rfl, ⟨rfl, rfl, h0⟩ | ⟨g, rfl, -, -, -⟩⟩ := own_nil_or hown2
  · obtain rfl := List.eq_nil_of_length_eq_zero h0
    rw [List.append_nil] at h
    exact Lib.wpList_append_run w hgd s x 53 53 ho _ _ hs hx v w (run_append_owned_none w B 53 o.type 59 i 2 Try.underlying53 hi v l.length (tc e2 l) hown) (h v w hown (World.grownBy.refl _ _))
  · refine wpList_append_own_at w hgd s x 53 ho B 59 i _ 2 16 Try.underlying53 hi hz hs5 hby rfl (by omega) v l.length (tc e2 l) hs hown ⟨g, 0, none⟩ m.length c (tc e2 m) hx (by rw [tc_len e2_len])
      (fun j u hj => hown2.cells (g := g) rfl j u hj) (tc_one' e2_one m) (by simp only [maxLen]; omega) (by omega) hB ?_
    intro v' w' h1 h2 _ _
    refine h v' w' ?_ h2
    unfold OwR
    rw [tc_app, List.length_append]
    exact h1
theorem fr_acc (u : Nat) : ∀ (f : Nat) (acc : List (Nat × Nat)) (l : List Tm), fr u f acc l = (fr u f [] l).map fun r => (acc ++ r.1, r.2)
  | f, acc, [] => by rw [fr_nil, fr_nil]; simp
  | f, acc, x :: l => by
    by_cases hx : u < x.at_
    · rw [fr_stop hx, fr_stop hx]; simp
    · cases f with
      | zero => rw [fr_long (by omega), fr_long (by omega)]; rfl
      | succ f =>
        rw [fr_step (by omega), fr_step (by omega), fr_acc u f (acc ++ [(x.id, x.at_)]), fr_acc u f ([] ++ [(x.id, x.at_)])]
        cases fr u f [] (nxt x l) with
        | none => rfl
        | some r => simp
theorem fr_more {u : Nat} : ∀ {f g : Nat} {acc : List (Nat × Nat)} {l : List Tm} {r : List (Nat × Nat) × List Tm}, f ≤ g → fr u f acc l = some r → fr u g acc l = some r
  | f, g, acc, [], r, _, e => by rw [fr_nil] at e ⊢; exact e
  | f, g, acc, x :: l, r, h, e => by
    by_cases hx : u < x.at_
    · rw [fr_stop hx] at e ⊢; exact e
    · cases f with
      | zero => rw [fr_long (by omega)] at e; cases e
      | succ f =>
        obtain ⟨g, rfl⟩ : ∃ g', g = g' + 1 := ⟨g - 1, by omega⟩
        rw [fr_step (by omega)] at e ⊢
        exact fr_more (by omega) e
/-- What fires in one step fires in two. -/
theorem fr_split {m u : Nat} (hmu : m ≤ u) : ∀ {f : Nat} {l : List Tm} {r : List (Nat × Nat) × List Tm}, fr u f [] l = some r → ∃ a1 l1 a2, fr m f [] l = some (a1, l1) ∧ fr u f [] l1 = some (a2, r.2) ∧ r.1 = a1 ++ a2
  | f, [], r, e => by rw [fr_nil] at e; injection e with e; subst e; exact ⟨[], [], [], fr_nil _ _ _, fr_nil _ _ _, rfl⟩
  | f, x :: l, r, e => by
    by_cases hm : m < x.at_
    · exact ⟨[], x :: l, r.1, fr_stop hm, e, rfl⟩
    · cases f with
      | zero => rw [fr_long (by omega)] at e; cases e
      | succ f =>
        rw [fr_step (by omega), fr_acc] at e
        rw [fr_step (by omega), fr_acc]
        cases h : fr u f [] (nxt x l) with
        | none => rw [h] at e; cases e
        | some r2 =>
          rw [h] at e
          injection e with e
          subst e
          obtain ⟨a1, l1, a2, h1, h2, h3⟩ := fr_split hmu h
          exact ⟨[] ++ [(x.id, x.at_)] ++ a1, l1, a2, by rw [h1]; rfl, fr_more (Nat.le_succ f) h2, by show _ ++ r2.1 = _; rw [h3]; simp only [List.append_assoc]⟩
theorem addS_now (S : Cs) (t : Int) {p : Nat} : (addS S t p).1.now = S.now := by
  unfold addS; split
  · split <;> rfl
  · rfl
theorem evS_now (S : Cs) (t p : Int) : (evS S t p).1.now = S.now := by
  unfold evS; split
  · rfl
  · exact addS_now S t
/-- Two clocks that share no memory. -/
structure Two (c c' : Nat) (w : World) (va : Value) (S : Cs) (vb : Value) (T : Cs) : Prop where
  ka : Ck c w va S
  kb : Ck c' w vb T
  ne : c ≠ c'
  s1 : va.ownBlock ≠ some c'
  s2 : vb.ownBlock ≠ some c
  s3 : ∀ g, va.ownBlock = some g → vb.ownBlock ≠ some g
theorem Two.a {c c' : Nat} {w w' : World} {va va' vb : Value} {S S' T : Cs} (h : Two c c' w va S vb T) (k : Ck c w' va' S') (nw : NW w va va') (hf : Fm (fun i => i = c ∨ va.ownBlock = some i) w w') : Two c c' w' va' S' vb T := by
  refine ⟨k, h.kb.fm hf (fun e => ?_) (fun g e k => ?_), h.ne, fun e => ?_, h.s2, fun g e e2 => ?_⟩
  · rcases e with e | e
    · exact h.ne e.symm
    · exact h.s1 e
  · rcases k with k | k
    · exact h.s2 (k ▸ e)
    · exact h.s3 g k e
  · rcases nw _ e with e | e
    · exact h.s1 e
    · have := h.kb.lt; omega
  · rcases nw _ e with e | e
    · exact h.s3 g e e2
    · have := (h.kb.sd.own.lt g e2).2; omega
theorem Two.b {c c' : Nat} {w w' : World} {va vb vb' : Value} {S T T' : Cs} (h : Two c c' w va S vb T) (k : Ck c' w' vb' T') (nw : NW w vb vb') (hf : Fm (fun i => i = c' ∨ vb.ownBlock = some i) w w') : Two c c' w' va S vb' T' := by
  refine ⟨h.ka.fm hf (fun e => ?_) (fun g e k => ?_), k, h.ne, h.s1, fun e => ?_, fun g e e2 => ?_⟩
  · rcases e with e | e
    · exact h.ne e
    · exact h.s2 e
  · rcases k with k | k
    · exact h.s1 (k ▸ e)
    · exact h.s3 g e k
  · rcases nw _ e with e | e
    · exact h.s2 e
    · have := h.ka.lt; omega
  · rcases nw _ e2 with e2 | e2
    · exact h.s3 g e e2
    · have := (h.ka.sd.own.lt g e).2; omega
theorem Two.next {c c' : Nat} {w w' : World} {va vb : Value} {S T : Cs} (h : Two c c' w va S vb T) (hb : Below w.heap.size w w') : Two c c' w' va S vb T := ⟨h.ka.next hb, h.kb.next hb, h.ne, h.s1, h.s2, h.s3⟩
/-- How the loop stands. -/
structure SpI (c c' : Nat) (w : World) (i : Nat) (va vb : Value) (S : Cs) (wr : World) : Prop where
  tw : Two c c' wr va S vb S
  now : S.now = 0
  last : S.last ≤ i
  fm : Fm (fun i => c ≤ i) w wr
  le : c ≤ c'
end Go.Proofs.Ytiooilkbbfflaaa

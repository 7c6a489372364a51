import Derived.Test.YtlebppjldoodgaaYm
import Derived.Test.YtlebppjldoodgaaYi
/-
  slices.Insert at the end of a row of the call's own. No conditions beyond those that each names.
-/
namespace Go.Proofs.Ytlebppjldoodgaa
open Go.RowKit Go.Shelf
theorem IL.snoc {α β : Type} {z : Nat} {enc : α → β → List Value} {P : Nat → α → β → Prop} {l : List α} {xs : List Value} (h : IL z enc P l xs) (y : α) (b : β) (hz : (enc y b).length = z) (hP : P l.length y b) : IL z enc P (l ++ [y]) (xs ++ enc y b) := by
  refine ⟨by rw [List.length_append, List.length_append, h.1, hz, Nat.add_mul]; simp, fun j hj => ?_⟩
  rw [List.length_append] at hj
  by_cases e : j < l.length
  · obtain ⟨b', h1, h2⟩ := h.2 j e
    rw [List.getElem_append_left e]
    refine ⟨b', fun i hi => ?_, h2⟩
    rw [List.getElem?_append_left (by rw [h.1]; exact mulz e hi)]
    exact h1 i hi
  · have e2 : j = l.length := by simp at hj; omega
    subst e2
    rw [List.getElem_append_right (Nat.le_refl _)]
    simp only [Nat.sub_self, List.getElem_cons_zero]
    refine ⟨b, fun i hi => ?_, hP⟩
    rw [List.getElem?_append_right (by rw [h.1]; omega), h.1, Nat.add_sub_cancel_left]
set_option maxRecDepth 100000 in
set_option maxHeartbeats 4000000 in
theorem insertEnd_any (B0 : Nat) (A : Option Addr) (n d : Nat) (xs : List Value) (x : Int × Vl) (s : Sb) (g c : Nat) (w : World) (hn : n ≤ 2000000) (ho : w.ownsRow B0 72 6 (.slice A n d) n xs) (hg : Bx w g [.int .i64 x.1, .int .i64 x.2.kind, .int .i64 x.2.n, .string (bs x.2.s), .slice s.A x.2.l.length s.c, .slice s.B x.2.f.length s.d]) (hB : B0 ≤ w.heap.size) :
    Calls Try.prog 44 #[.slice A n d, .int .i64 (n : Int), .slice (some ⟨g, 0, none⟩) 1 c] w (fun e w' => ∃ v', e = .returned v' ∧ w'.ownsRow B0 72 6 v' (n + 1) (xs ++ encE x s) ∧ w.grownBy w' (Value.slice A n d).ownBlock) := by
  obtain ⟨i, hi, hz, hs5, hby⟩ := info_parts infoE
  have e0 : w.cell? ((⟨g, 0, none⟩ : Addr).add 0) = _ := hg.c 0 rfl
  have AP : ∀ (ops : Array Oper) (rest : List Oper) (o : Oper) (a : Act) (Q : Exit → Act → World → Prop), o.guard = none → ∀ (t u : Operand), o.op = .call { callee := .builtin .append, args := #[t, u], argTypes := #[23, 23] } → a.eval t = .slice A n d → a.eval u = .slice (some ⟨g, 0, none⟩) 1 c → (∀ v' w', w'.ownsRow B0 72 6 v' (n + 1) (xs ++ encE x s) → w.grownBy w' (Value.slice A n d).ownBlock → wpList Try.prog ops Q rest (a.put o.dst v') w') → wpList Try.prog ops Q (o :: rest) a w := fun ops rest o a Q hgd t u hop ht hu hk =>
    wpList_append_own_at w hgd t u 23 hop B0 72 i _ 6 88 Try.underlying23 hi hz hs5 hby rfl (by omega) _ n xs ht ho ⟨g, 0, none⟩ 1 c (encE x s) hu rfl
      (by intro j u hj
          match j, hj with
          | 0, hj => simp [encE] at hj; subst hj; exact hg.c 0 rfl
          | 1, hj => simp [encE] at hj; subst hj; exact hg.c 1 rfl
          | 2, hj => simp [encE] at hj; subst hj; exact hg.c 2 rfl
          | 3, hj => simp [encE] at hj; subst hj; exact hg.c 3 rfl
          | 4, hj => simp [encE] at hj; subst hj; exact hg.c 4 rfl
          | 5, hj => simp [encE] at hj; subst hj; exact hg.c 5 rfl) (fun u hu => oneE x s u hu) (by simp only [maxLen]; omega) (by omega) hB (fun v' w' h1 h2 _ _ => hk v' w' h1 h2)
  clear e0 hi hz hs5 hby i
  by_cases h0 : n = 0
  · subst h0
    have hA : A = none ∧ d = 0 ∨ ∃ b, A = some ⟨b, 0, none⟩ := by
      rcases ho.2 with ⟨h, -⟩ | ⟨b, cap, cur, h, -⟩
      · injection h with h1 _ h2; exact .inl ⟨h1, h2⟩
      · injection h with h1; exact .inr ⟨b, h1⟩
    rcases hA with ⟨rfl, rfl⟩ | ⟨b, rfl⟩
    · clear ho
      go_enter Try.func44, Try.ntmps44
      go_wp2_with (at_builtin; refine AP _ _ _ _ _ rfl _ _ rfl rfl rfl ?_)
      intro v' w1 hown hgr
      go_wp2
      go_ret
      exact ⟨v', rfl, hown, hgr⟩
    · have hl := (ho.lt b rfl).2
      clear ho
      by_cases hd : d = 0
      · subst hd
        go_enter Try.func44, Try.ntmps44
        go_wp2_with (at_builtin; refine AP _ _ _ _ _ rfl _ _ rfl rfl rfl ?_)
        intro v' w1 hown hgr
        go_wp2
        go_ret
        exact ⟨v', rfl, hown, hgr⟩
      · go_enter Try.func44, Try.ntmps44
        go_wp2_with (at_builtin; refine AP _ _ _ _ _ rfl _ _ rfl rfl rfl ?_)
        intro v' w1 hown hgr
        go_wp2
        go_ret
        exact ⟨v', rfl, hown, hgr⟩
  · obtain ⟨b, rfl⟩ := own_some ho h0
    have hl := (ho.lt b rfl).2
    have hcap : n ≤ d := by
      rcases ho.2 with ⟨h, -⟩ | ⟨b, cap, cur, h, -, -, hc, -⟩
      · cases h
      · injection h with _ _ h2; omega
    clear ho
    by_cases hd : d = n
    · subst hd
      go_enter Try.func44, Try.ntmps44
      go_wp2_with (at_builtin; refine AP _ _ _ _ _ rfl _ _ rfl rfl rfl ?_)
      intro v' w1 hown hgr
      go_wp2
      go_ret
      exact ⟨v', rfl, hown, hgr⟩
    · go_enter Try.func44, Try.ntmps44
      go_wp2_with (at_builtin; refine AP _ _ _ _ _ rfl _ _ rfl rfl rfl ?_)
      intro v' w1 hown hgr
      go_wp2
      go_ret
      exact ⟨v', rfl, hown, hgr⟩
end Go.Proofs.Ytlebppjldoodgaa

/-
  A collision in a list of strings is found. The tables of utf8 as the program laid them.
-/
import Derived.Test.YtghmbglnhcdbjaaDoorCn
import Derived.Test.YtghmbglnhcdbjaaDoorG4
namespace Go.Proofs.YtghmbglnhcdbjaaDoor
open Go.RowKit
/-- The block g holds these strings. -/
def Ss (w : World) (g : Nat) (L : List (List UInt8)) : Prop := g < w.heap.size ∧ ∀ i (h : i < L.length), w.cell? ⟨g, i, none⟩ = some (.string (bs L[i]))
theorem Ss.below {w w' : World} {g : Nat} {L : List (List UInt8)} (h : Ss w g L) (hb : Below w.heap.size w w') : Ss w' g L :=
  ⟨Nat.lt_of_lt_of_le h.1 hb.size, fun i hi => (hb.cell (p := ⟨g, i, none⟩) h.1).trans (h.2 i hi)⟩
/-- No collision among the places before (i, k). -/
def Not_ (L : List (List UInt8)) (i k : Nat) : Prop := ∀ a b (ha : a < L.length) (hb : b < a), (a < i ∨ (a = i ∧ b < k)) → ¬ (L[a] ≠ L[b] ∧ hash L[a] = hash L[b])
theorem Not_.step {L : List (List UInt8)} {i k : Nat} (h : Not_ L i k) (hi : i < L.length) (hk : k < i) (hc : ¬ (L[i] ≠ L[k] ∧ hash L[i] = hash L[k])) : Not_ L i (k + 1) := by
  intro a b ha hb hab
  rcases hab with h1 | ⟨rfl, h1⟩
  · exact h a b ha hb (.inl h1)
  · by_cases e : b = k
    · subst e; exact hc
    · exact h a b ha hb (.inr ⟨rfl, by omega⟩)
theorem Not_.next {L : List (List UInt8)} {i : Nat} (h : Not_ L i i) : Not_ L (i + 1) 0 := by
  intro a b ha hb hab
  rcases hab with h1 | ⟨_, h1⟩
  · by_cases e : a = i
    · subst e; exact h a b ha hb (.inr ⟨rfl, hb⟩)
    · exact h a b ha hb (.inl (by omega))
  · omega
theorem Not_.col {L : List (List UInt8)} (h : Not_ L L.length 0) : ¬ Col L := by
  intro hc
  obtain ⟨i, j, hi, hj, hne⟩ := hc.at_
  exact h i j hi hj (.inl hi) hne
set_option maxRecDepth 100000 in
set_option maxHeartbeats 2000000 in
theorem collide_any (L : List (List UInt8)) (g cap n : Nat) (w : World) (hn : L.length = n) (hn2 : n ≤ 1000) (hlen : ∀ s ∈ L, s.length ≤ 1000000000000000) (hS : Ss w g L) (hT : Tabs w) (hC : Col L) :
    Calls Tryd.prog 23 #[.slice (some ⟨g, 0, none⟩) n cap] w (Ib (.bool true) w) := by
  have HC := Lib.hid hC
  clear hC
  go_enter Tryd.func23, Tryd.ntmps23
  go_wp2_with fail
  go_loopw [3] (fun u wr => ∃ i : Nat, i ≤ n ∧ u = .int .i64 (i : Int) ∧ Below w.heap.size w wr ∧ Hid (Not_ L i 0)) (fun u _ => n - (intOf u).toNat)
  case atStart => exact ⟨0, by omega, rfl, Below.refl _ _, Lib.hid (fun a b _ _ h => by omega)⟩
  case round =>
    obtain ⟨i, hi, rfl, hbw, hN⟩ := hrel
    by_cases hlt : i < n
    · go_wp2_with fail
      go_loopw [4] (fun u wr => ∃ k : Nat, k ≤ i ∧ u = .int .i64 (k : Int) ∧ Below w.heap.size w wr ∧ Hid (Not_ L i k)) (fun u _ => i - (intOf u).toNat)
      case atStart => exact ⟨0, by omega, rfl, hbw, hN⟩
      case round =>
        rename_i w1 _
        obtain ⟨k, hk, rfl, hbx, hM⟩ := hrel
        clear hbw hN
        by_cases hlk : k < i
        · have hkn : k < n := by omega
          have hS1 := hS.below hbx
          have hT1 := hT.below hbx
          have hgl := hS1.1
          have ci := hS1.2 i (by omega)
          have ck := hS1.2 k (by omega)
          have li := hlen (L[i]'(by omega)) (List.getElem_mem _)
          have lk_ := hlen (L[k]'(by omega)) (List.getElem_mem _)
          have hst := Not_.step hM.out (show i < L.length by omega) hlk
          obtain ⟨s, hs⟩ : ∃ s, L[i]'(by omega) = s := ⟨_, rfl⟩
          obtain ⟨t, ht⟩ : ∃ t, L[k]'(by omega) = t := ⟨_, rfl⟩
          rw [hs] at ci li
          rw [ht] at ck lk_
          have c1 : ∀ w, Below wr.heap.size wr w → _ := fun w hb => hash_any s w (by omega) (hT1.below hb)
          have c2 : ∀ w, Below wr.heap.size wr w → _ := fun w hb => hash_any t w (by omega) (hT1.below hb)
          rw [hs, ht] at hst
          obtain ⟨x, hx⟩ : ∃ x, hash s = x := ⟨_, rfl⟩
          obtain ⟨y, hy⟩ : ∃ y, hash t = y := ⟨_, rfl⟩
          rw [hx] at c1
          rw [hy] at c2
          rw [hx, hy] at hst
          clear hs ht hx hy hM hlen hS hT hS1
          by_cases e : s = t
          · subst e
            have H := Lib.hid (hst (fun h => h.1 rfl))
            clear hst
            go_wp2_with fail
            refine wp_region_on (by kernel_rfl) (FF [(0, Fact.at_ wr (.slice (some ⟨g, 0, none⟩) n cap)), (3, Fact.at_ wr (.int .i64 (i : Int))), (4, Fact.at_ wr (.int .i64 (k : Int))), (16, Fact.at_ wr (.slice (some ⟨g, 0, none⟩) n cap)), (17, Fact.at_ wr (.int .i64 (i : Int))), (18, Fact.at_ wr (.pointer (some ⟨g, i, none⟩))), (19, Fact.at_ wr (.string (bs s))), (20, Fact.at_ wr (.slice (some ⟨g, 0, none⟩) n cap)), (21, Fact.at_ wr (.int .i64 (k : Int))), (22, Fact.at_ wr (.pointer (some ⟨g, k, none⟩))), (23, Fact.at_ wr (.string (bs s))), (24, Fact.at_ wr (.bool false)), (25, Fact.at_ wr (.bool false)), (26, Fact.at_ wr undef), (27, Fact.at_ wr undef), (28, Fact.at_ wr undef), (29, Fact.at_ wr undef), (30, Fact.at_ wr undef), (31, Fact.at_ wr undef), (32, Fact.at_ wr undef), (33, Fact.at_ wr undef), (34, Fact.at_ wr undef), (35, Fact.at_ wr undef), (36, Fact.at_ wr undef), (37, Fact.at_ wr (.bool false))]) [0, 3, 4] 38 [16, 17, 18, 19, 20, 21, 22, 23, 24, 25, 26, 27, 28, 29, 30, 31, 32, 33, 34, 35, 36, 37] rfl (by kernel_rfl) (by kernel_rfl) ?_ ?_ ?_
            · intro t ht
              simp only [List.mem_cons, List.not_mem_nil, or_false] at ht
              rcases ht with rfl | rfl | rfl
              · exact ⟨rfl, Below.refl _ _⟩
              · exact ⟨rfl, Below.refl _ _⟩
              · exact ⟨rfl, Below.refl _ _⟩
            · refine fcs ⟨atcopy 0 16 (.slice (some ⟨g, 0, none⟩) n cap) (.inl rfl) rfl (by first | exact .inl rfl | exact .inr ⟨_, _, _, rfl, rfl, by kernel_rfl, by decide, rfl⟩) (by kernel_rfl) rfl rfl, ?_⟩
              refine fcs ⟨atcopy 3 17 (.int .i64 (i : Int)) (.inl rfl) rfl (by first | exact .inl rfl | exact .inr ⟨_, _, _, rfl, rfl, by kernel_rfl, by decide, rfl⟩) (by kernel_rfl) rfl rfl, ?_⟩
              refine fcs ⟨at2 16 17 18 (.slice (some ⟨g, 0, none⟩) n cap) (.int .i64 (i : Int)) (.pointer (some ⟨g, i, none⟩)) rfl (by first | exact .inl rfl | exact .inr ⟨_, _, _, rfl, rfl, by kernel_rfl, by decide, rfl⟩) (by kernel_rfl) (by kernel_rfl) rfl rfl rfl (fun a w hb h1 h2 => by simp [execOp, h1, h2]; go_simp), ?_⟩
              refine fcs ⟨at1 18 19 (.pointer (some ⟨g, i, none⟩)) (.string (bs s)) rfl (by first | exact .inl rfl | exact .inr ⟨_, _, _, rfl, rfl, by kernel_rfl, by decide, rfl⟩) (by kernel_rfl) rfl rfl (fun a w hb h1 => by have h3 := (hb.cell (p := ⟨g, i, none⟩) hgl).trans ci; simp [execOp, h1]; go_simp), ?_⟩
              refine fcs ⟨atcopy 0 20 (.slice (some ⟨g, 0, none⟩) n cap) (.inl rfl) rfl (by first | exact .inl rfl | exact .inr ⟨_, _, _, rfl, rfl, by kernel_rfl, by decide, rfl⟩) (by kernel_rfl) rfl rfl, ?_⟩
              refine fcs ⟨atcopy 4 21 (.int .i64 (k : Int)) (.inl rfl) rfl (by first | exact .inl rfl | exact .inr ⟨_, _, _, rfl, rfl, by kernel_rfl, by decide, rfl⟩) (by kernel_rfl) rfl rfl, ?_⟩
              refine fcs ⟨at2 20 21 22 (.slice (some ⟨g, 0, none⟩) n cap) (.int .i64 (k : Int)) (.pointer (some ⟨g, k, none⟩)) rfl (by first | exact .inl rfl | exact .inr ⟨_, _, _, rfl, rfl, by kernel_rfl, by decide, rfl⟩) (by kernel_rfl) (by kernel_rfl) rfl rfl rfl (fun a w hb h1 h2 => by simp [execOp, h1, h2]; go_simp), ?_⟩
              refine fcs ⟨at1 22 23 (.pointer (some ⟨g, k, none⟩)) (.string (bs s)) rfl (by first | exact .inl rfl | exact .inr ⟨_, _, _, rfl, rfl, by kernel_rfl, by decide, rfl⟩) (by kernel_rfl) rfl rfl (fun a w hb h1 => by have h3 := (hb.cell (p := ⟨g, k, none⟩) hgl).trans ck; simp [execOp, h1]; go_simp), ?_⟩
              refine fcs ⟨at2 19 23 24 (.string (bs s)) (.string (bs s)) (.bool false) rfl (by first | exact .inl rfl | exact .inr ⟨_, _, _, rfl, rfl, by kernel_rfl, by decide, rfl⟩) (by kernel_rfl) (by kernel_rfl) rfl rfl rfl (fun a w hb h1 h2 => by simp [execOp, h1, h2]; go_simp), ?_⟩
              refine fcs ⟨atcopy 24 25 (.bool false) (.inl rfl) rfl (by first | exact .inl rfl | exact .inr ⟨_, _, _, rfl, rfl, by kernel_rfl, by decide, rfl⟩) (by kernel_rfl) rfl rfl, ?_⟩
              refine fcs ⟨atskip 0 9 25 26 true (.slice (some ⟨g, 0, none⟩) n cap) rfl rfl (by kernel_rfl) (by decide) (.inl rfl) (by kernel_rfl) rfl rfl rfl, ?_⟩
              refine fcs ⟨atskip 0 9 25 27 true (.slice (some ⟨g, 0, none⟩) n cap) rfl rfl (by kernel_rfl) (by decide) (.inl rfl) (by kernel_rfl) rfl rfl rfl, ?_⟩
              refine fcs ⟨atskip 0 9 25 28 true (.slice (some ⟨g, 0, none⟩) n cap) rfl rfl (by kernel_rfl) (by decide) (.inl rfl) (by kernel_rfl) rfl rfl rfl, ?_⟩
              refine fcs ⟨atskip 0 9 25 29 true (.slice (some ⟨g, 0, none⟩) n cap) rfl rfl (by kernel_rfl) (by decide) (.inl rfl) (by kernel_rfl) rfl rfl rfl, ?_⟩
              refine fcs ⟨atskip 0 9 25 30 true (.slice (some ⟨g, 0, none⟩) n cap) rfl rfl (by kernel_rfl) (by decide) (.inl rfl) (by kernel_rfl) rfl rfl rfl, ?_⟩
              refine fcs ⟨atskip 0 9 25 31 true (.slice (some ⟨g, 0, none⟩) n cap) rfl rfl (by kernel_rfl) (by decide) (.inl rfl) (by kernel_rfl) rfl rfl rfl, ?_⟩
              refine fcs ⟨atskip 0 9 25 32 true (.slice (some ⟨g, 0, none⟩) n cap) rfl rfl (by kernel_rfl) (by decide) (.inl rfl) (by kernel_rfl) rfl rfl rfl, ?_⟩
              refine fcs ⟨atskip 0 9 25 33 true (.slice (some ⟨g, 0, none⟩) n cap) rfl rfl (by kernel_rfl) (by decide) (.inl rfl) (by kernel_rfl) rfl rfl rfl, ?_⟩
              refine fcs ⟨atskip 0 9 25 34 true (.slice (some ⟨g, 0, none⟩) n cap) rfl rfl (by kernel_rfl) (by decide) (.inl rfl) (by kernel_rfl) rfl rfl rfl, ?_⟩
              refine fcs ⟨atskip 0 9 25 35 true (.slice (some ⟨g, 0, none⟩) n cap) rfl rfl (by kernel_rfl) (by decide) (.inl rfl) (by kernel_rfl) rfl rfl rfl, ?_⟩
              refine fcs ⟨atskip 0 9 25 36 true (.slice (some ⟨g, 0, none⟩) n cap) rfl rfl (by kernel_rfl) (by decide) (.inl rfl) (by kernel_rfl) rfl rfl rfl, ?_⟩
              refine fcs ⟨atpickk 25 37 false (.bool false) _ _ rfl rfl rfl (by first | exact .inl rfl | exact .inr ⟨_, _, _, rfl, rfl, by kernel_rfl, by decide, rfl⟩) (by kernel_rfl) rfl rfl, ?_⟩
              exact fnl
            intro vv wv hvv hbv
            have hv37 : vv 37 = (.bool false) := (hvv 37 (by decide)).1
            simp only [lay, List.foldl_cons, List.foldl_nil, List.setIfInBounds_toArray, List.set_cons_succ, List.set_cons_zero, hv37]
            have hb2 := Below.next hbx hbv
            clear hvv hv37 ci ck c1 c2
            go_wp2_with fail
            go_roundw
            case rel => exact ⟨k + 1, by omega, by go_num, hb2, H⟩
            case measure => simp [intOf]; omega
          · have hne := str_ne e
            by_cases f : x = y
            · subst f
              clear hst e
              go_wp2_with fail
              refine wp_region_on (by kernel_rfl) (FF [(0, Fact.at_ wr (.slice (some ⟨g, 0, none⟩) n cap)), (3, Fact.at_ wr (.int .i64 (i : Int))), (4, Fact.at_ wr (.int .i64 (k : Int))), (16, Fact.at_ wr (.slice (some ⟨g, 0, none⟩) n cap)), (17, Fact.at_ wr (.int .i64 (i : Int))), (18, Fact.at_ wr (.pointer (some ⟨g, i, none⟩))), (19, Fact.at_ wr (.string (bs s))), (20, Fact.at_ wr (.slice (some ⟨g, 0, none⟩) n cap)), (21, Fact.at_ wr (.int .i64 (k : Int))), (22, Fact.at_ wr (.pointer (some ⟨g, k, none⟩))), (23, Fact.at_ wr (.string (bs t))), (24, Fact.at_ wr (.bool true)), (25, Fact.at_ wr (.bool true)), (26, Fact.at_ wr (.slice (some ⟨g, 0, none⟩) n cap)), (27, Fact.at_ wr (.int .i64 (i : Int))), (28, Fact.at_ wr (.pointer (some ⟨g, i, none⟩))), (29, Fact.at_ wr (.string (bs s))), (30, Fact.at_ wr (.int .u64 (x : Int))), (31, Fact.at_ wr (.slice (some ⟨g, 0, none⟩) n cap)), (32, Fact.at_ wr (.int .i64 (k : Int))), (33, Fact.at_ wr (.pointer (some ⟨g, k, none⟩))), (34, Fact.at_ wr (.string (bs t))), (35, Fact.at_ wr (.int .u64 (x : Int))), (36, Fact.at_ wr (.bool true)), (37, Fact.at_ wr (.bool true))]) [0, 3, 4] 38 [16, 17, 18, 19, 20, 21, 22, 23, 24, 25, 26, 27, 28, 29, 30, 31, 32, 33, 34, 35, 36, 37] rfl (by kernel_rfl) (by kernel_rfl) ?_ ?_ ?_
              · intro t ht
                simp only [List.mem_cons, List.not_mem_nil, or_false] at ht
                rcases ht with rfl | rfl | rfl
                · exact ⟨rfl, Below.refl _ _⟩
                · exact ⟨rfl, Below.refl _ _⟩
                · exact ⟨rfl, Below.refl _ _⟩
              · refine fcs ⟨atcopy 0 16 (.slice (some ⟨g, 0, none⟩) n cap) (.inl rfl) rfl (by first | exact .inl rfl | exact .inr ⟨_, _, _, rfl, rfl, by kernel_rfl, by decide, rfl⟩) (by kernel_rfl) rfl rfl, ?_⟩
                refine fcs ⟨atcopy 3 17 (.int .i64 (i : Int)) (.inl rfl) rfl (by first | exact .inl rfl | exact .inr ⟨_, _, _, rfl, rfl, by kernel_rfl, by decide, rfl⟩) (by kernel_rfl) rfl rfl, ?_⟩
                refine fcs ⟨at2 16 17 18 (.slice (some ⟨g, 0, none⟩) n cap) (.int .i64 (i : Int)) (.pointer (some ⟨g, i, none⟩)) rfl (by first | exact .inl rfl | exact .inr ⟨_, _, _, rfl, rfl, by kernel_rfl, by decide, rfl⟩) (by kernel_rfl) (by kernel_rfl) rfl rfl rfl (fun a w hb h1 h2 => by simp [execOp, h1, h2]; go_simp), ?_⟩
                refine fcs ⟨at1 18 19 (.pointer (some ⟨g, i, none⟩)) (.string (bs s)) rfl (by first | exact .inl rfl | exact .inr ⟨_, _, _, rfl, rfl, by kernel_rfl, by decide, rfl⟩) (by kernel_rfl) rfl rfl (fun a w hb h1 => by have h3 := (hb.cell (p := ⟨g, i, none⟩) hgl).trans ci; simp [execOp, h1]; go_simp), ?_⟩
                refine fcs ⟨atcopy 0 20 (.slice (some ⟨g, 0, none⟩) n cap) (.inl rfl) rfl (by first | exact .inl rfl | exact .inr ⟨_, _, _, rfl, rfl, by kernel_rfl, by decide, rfl⟩) (by kernel_rfl) rfl rfl, ?_⟩
                refine fcs ⟨atcopy 4 21 (.int .i64 (k : Int)) (.inl rfl) rfl (by first | exact .inl rfl | exact .inr ⟨_, _, _, rfl, rfl, by kernel_rfl, by decide, rfl⟩) (by kernel_rfl) rfl rfl, ?_⟩
                refine fcs ⟨at2 20 21 22 (.slice (some ⟨g, 0, none⟩) n cap) (.int .i64 (k : Int)) (.pointer (some ⟨g, k, none⟩)) rfl (by first | exact .inl rfl | exact .inr ⟨_, _, _, rfl, rfl, by kernel_rfl, by decide, rfl⟩) (by kernel_rfl) (by kernel_rfl) rfl rfl rfl (fun a w hb h1 h2 => by simp [execOp, h1, h2]; go_simp), ?_⟩
                refine fcs ⟨at1 22 23 (.pointer (some ⟨g, k, none⟩)) (.string (bs t)) rfl (by first | exact .inl rfl | exact .inr ⟨_, _, _, rfl, rfl, by kernel_rfl, by decide, rfl⟩) (by kernel_rfl) rfl rfl (fun a w hb h1 => by have h3 := (hb.cell (p := ⟨g, k, none⟩) hgl).trans ck; simp [execOp, h1]; go_simp), ?_⟩
                refine fcs ⟨at2 19 23 24 (.string (bs s)) (.string (bs t)) (.bool true) rfl (by first | exact .inl rfl | exact .inr ⟨_, _, _, rfl, rfl, by kernel_rfl, by decide, rfl⟩) (by kernel_rfl) (by kernel_rfl) rfl rfl rfl (fun a w hb h1 h2 => by simp [execOp, h1, h2]; go_simp), ?_⟩
                refine fcs ⟨atcopy 24 25 (.bool true) (.inl rfl) rfl (by first | exact .inl rfl | exact .inr ⟨_, _, _, rfl, rfl, by kernel_rfl, by decide, rfl⟩) (by kernel_rfl) rfl rfl, ?_⟩
                refine fcs ⟨atcopy 0 26 (.slice (some ⟨g, 0, none⟩) n cap) (.inl rfl) rfl (by first | exact .inl rfl | exact .inr ⟨_, _, _, rfl, rfl, by kernel_rfl, by decide, rfl⟩) (by kernel_rfl) rfl rfl, ?_⟩
                refine fcs ⟨atcopy 3 27 (.int .i64 (i : Int)) (.inl rfl) rfl (by first | exact .inl rfl | exact .inr ⟨_, _, _, rfl, rfl, by kernel_rfl, by decide, rfl⟩) (by kernel_rfl) rfl rfl, ?_⟩
                refine fcs ⟨at2 26 27 28 (.slice (some ⟨g, 0, none⟩) n cap) (.int .i64 (i : Int)) (.pointer (some ⟨g, i, none⟩)) rfl (by first | exact .inl rfl | exact .inr ⟨_, _, _, rfl, rfl, by kernel_rfl, by decide, rfl⟩) (by kernel_rfl) (by kernel_rfl) rfl rfl rfl (fun a w hb h1 h2 => by simp [execOp, h1, h2]; go_simp), ?_⟩
                refine fcs ⟨at1 28 29 (.pointer (some ⟨g, i, none⟩)) (.string (bs s)) rfl (by first | exact .inl rfl | exact .inr ⟨_, _, _, rfl, rfl, by kernel_rfl, by decide, rfl⟩) (by kernel_rfl) rfl rfl (fun a w hb h1 => by have h3 := (hb.cell (p := ⟨g, i, none⟩) hgl).trans ci; simp [execOp, h1]; go_simp), ?_⟩
                refine fcs ⟨atc1 12 29 30 (.string (bs s)) (.int .u64 (x : Int)) _ rfl rfl (by first | exact .inl rfl | exact .inr ⟨_, _, _, rfl, rfl, by kernel_rfl, by decide, rfl⟩) (by kernel_rfl) rfl (by kernel_rfl) rfl (fun w hb => c1 w hb), ?_⟩
                refine fcs ⟨atcopy 0 31 (.slice (some ⟨g, 0, none⟩) n cap) (.inl rfl) rfl (by first | exact .inl rfl | exact .inr ⟨_, _, _, rfl, rfl, by kernel_rfl, by decide, rfl⟩) (by kernel_rfl) rfl rfl, ?_⟩
                refine fcs ⟨atcopy 4 32 (.int .i64 (k : Int)) (.inl rfl) rfl (by first | exact .inl rfl | exact .inr ⟨_, _, _, rfl, rfl, by kernel_rfl, by decide, rfl⟩) (by kernel_rfl) rfl rfl, ?_⟩
                refine fcs ⟨at2 31 32 33 (.slice (some ⟨g, 0, none⟩) n cap) (.int .i64 (k : Int)) (.pointer (some ⟨g, k, none⟩)) rfl (by first | exact .inl rfl | exact .inr ⟨_, _, _, rfl, rfl, by kernel_rfl, by decide, rfl⟩) (by kernel_rfl) (by kernel_rfl) rfl rfl rfl (fun a w hb h1 h2 => by simp [execOp, h1, h2]; go_simp), ?_⟩
                refine fcs ⟨at1 33 34 (.pointer (some ⟨g, k, none⟩)) (.string (bs t)) rfl (by first | exact .inl rfl | exact .inr ⟨_, _, _, rfl, rfl, by kernel_rfl, by decide, rfl⟩) (by kernel_rfl) rfl rfl (fun a w hb h1 => by have h3 := (hb.cell (p := ⟨g, k, none⟩) hgl).trans ck; simp [execOp, h1]; go_simp), ?_⟩
                refine fcs ⟨atc1 12 34 35 (.string (bs t)) (.int .u64 (x : Int)) _ rfl rfl (by first | exact .inl rfl | exact .inr ⟨_, _, _, rfl, rfl, by kernel_rfl, by decide, rfl⟩) (by kernel_rfl) rfl (by kernel_rfl) rfl (fun w hb => c2 w hb), ?_⟩
                refine fcs ⟨at2 30 35 36 (.int .u64 (x : Int)) (.int .u64 (x : Int)) (.bool true) rfl (by first | exact .inl rfl | exact .inr ⟨_, _, _, rfl, rfl, by kernel_rfl, by decide, rfl⟩) (by kernel_rfl) (by kernel_rfl) rfl rfl rfl (fun a w hb h1 h2 => by simp [execOp, h1, h2]; go_simp), ?_⟩
                refine fcs ⟨atpick 25 36 37 true (.bool true) _ _ rfl rfl rfl (by first | exact .inl rfl | exact .inr ⟨_, _, _, rfl, rfl, by kernel_rfl, by decide, rfl⟩) (by kernel_rfl) (by kernel_rfl) rfl rfl rfl, ?_⟩
                exact fnl
              intro vv wv hvv hbv
              have hv37 : vv 37 = (.bool true) := (hvv 37 (by decide)).1
              simp only [lay, List.foldl_cons, List.foldl_nil, List.setIfInBounds_toArray, List.set_cons_succ, List.set_cons_zero, hv37]
              have hb2 := Below.next hbx hbv
              clear hvv hv37 ci ck c1 c2
              go_wp2_with fail
              go_ret
              exact ⟨rfl, hb2⟩
            · have H := Lib.hid (hst (fun h => f h.2))
              have d1 : ((x : Int) == (y : Int)) = false := by simp; omega
              have d2 : (x = y) = False := by simp [f]
              clear hst e f
              go_wp2_with fail
              refine wp_region_on (by kernel_rfl) (FF [(0, Fact.at_ wr (.slice (some ⟨g, 0, none⟩) n cap)), (3, Fact.at_ wr (.int .i64 (i : Int))), (4, Fact.at_ wr (.int .i64 (k : Int))), (16, Fact.at_ wr (.slice (some ⟨g, 0, none⟩) n cap)), (17, Fact.at_ wr (.int .i64 (i : Int))), (18, Fact.at_ wr (.pointer (some ⟨g, i, none⟩))), (19, Fact.at_ wr (.string (bs s))), (20, Fact.at_ wr (.slice (some ⟨g, 0, none⟩) n cap)), (21, Fact.at_ wr (.int .i64 (k : Int))), (22, Fact.at_ wr (.pointer (some ⟨g, k, none⟩))), (23, Fact.at_ wr (.string (bs t))), (24, Fact.at_ wr (.bool true)), (25, Fact.at_ wr (.bool true)), (26, Fact.at_ wr (.slice (some ⟨g, 0, none⟩) n cap)), (27, Fact.at_ wr (.int .i64 (i : Int))), (28, Fact.at_ wr (.pointer (some ⟨g, i, none⟩))), (29, Fact.at_ wr (.string (bs s))), (30, Fact.at_ wr (.int .u64 (x : Int))), (31, Fact.at_ wr (.slice (some ⟨g, 0, none⟩) n cap)), (32, Fact.at_ wr (.int .i64 (k : Int))), (33, Fact.at_ wr (.pointer (some ⟨g, k, none⟩))), (34, Fact.at_ wr (.string (bs t))), (35, Fact.at_ wr (.int .u64 (y : Int))), (36, Fact.at_ wr (.bool false)), (37, Fact.at_ wr (.bool false))]) [0, 3, 4] 38 [16, 17, 18, 19, 20, 21, 22, 23, 24, 25, 26, 27, 28, 29, 30, 31, 32, 33, 34, 35, 36, 37] rfl (by kernel_rfl) (by kernel_rfl) ?_ ?_ ?_
              · intro t ht
                simp only [List.mem_cons, List.not_mem_nil, or_false] at ht
                rcases ht with rfl | rfl | rfl
                · exact ⟨rfl, Below.refl _ _⟩
                · exact ⟨rfl, Below.refl _ _⟩
                · exact ⟨rfl, Below.refl _ _⟩
              · refine fcs ⟨atcopy 0 16 (.slice (some ⟨g, 0, none⟩) n cap) (.inl rfl) rfl (by first | exact .inl rfl | exact .inr ⟨_, _, _, rfl, rfl, by kernel_rfl, by decide, rfl⟩) (by kernel_rfl) rfl rfl, ?_⟩
                refine fcs ⟨atcopy 3 17 (.int .i64 (i : Int)) (.inl rfl) rfl (by first | exact .inl rfl | exact .inr ⟨_, _, _, rfl, rfl, by kernel_rfl, by decide, rfl⟩) (by kernel_rfl) rfl rfl, ?_⟩
                refine fcs ⟨at2 16 17 18 (.slice (some ⟨g, 0, none⟩) n cap) (.int .i64 (i : Int)) (.pointer (some ⟨g, i, none⟩)) rfl (by first | exact .inl rfl | exact .inr ⟨_, _, _, rfl, rfl, by kernel_rfl, by decide, rfl⟩) (by kernel_rfl) (by kernel_rfl) rfl rfl rfl (fun a w hb h1 h2 => by simp [execOp, h1, h2]; go_simp), ?_⟩
                refine fcs ⟨at1 18 19 (.pointer (some ⟨g, i, none⟩)) (.string (bs s)) rfl (by first | exact .inl rfl | exact .inr ⟨_, _, _, rfl, rfl, by kernel_rfl, by decide, rfl⟩) (by kernel_rfl) rfl rfl (fun a w hb h1 => by have h3 := (hb.cell (p := ⟨g, i, none⟩) hgl).trans ci; simp [execOp, h1]; go_simp), ?_⟩
                refine fcs ⟨atcopy 0 20 (.slice (some ⟨g, 0, none⟩) n cap) (.inl rfl) rfl (by first | exact .inl rfl | exact .inr ⟨_, _, _, rfl, rfl, by kernel_rfl, by decide, rfl⟩) (by kernel_rfl) rfl rfl, ?_⟩
                refine fcs ⟨atcopy 4 21 (.int .i64 (k : Int)) (.inl rfl) rfl (by first | exact .inl rfl | exact .inr ⟨_, _, _, rfl, rfl, by kernel_rfl, by decide, rfl⟩) (by kernel_rfl) rfl rfl, ?_⟩
                refine fcs ⟨at2 20 21 22 (.slice (some ⟨g, 0, none⟩) n cap) (.int .i64 (k : Int)) (.pointer (some ⟨g, k, none⟩)) rfl (by first | exact .inl rfl | exact .inr ⟨_, _, _, rfl, rfl, by kernel_rfl, by decide, rfl⟩) (by kernel_rfl) (by kernel_rfl) rfl rfl rfl (fun a w hb h1 h2 => by simp [execOp, h1, h2]; go_simp), ?_⟩
                refine fcs ⟨at1 22 23 (.pointer (some ⟨g, k, none⟩)) (.string (bs t)) rfl (by first | exact .inl rfl | exact .inr ⟨_, _, _, rfl, rfl, by kernel_rfl, by decide, rfl⟩) (by kernel_rfl) rfl rfl (fun a w hb h1 => by have h3 := (hb.cell (p := ⟨g, k, none⟩) hgl).trans ck; simp [execOp, h1]; go_simp), ?_⟩
                refine fcs ⟨at2 19 23 24 (.string (bs s)) (.string (bs t)) (.bool true) rfl (by first | exact .inl rfl | exact .inr ⟨_, _, _, rfl, rfl, by kernel_rfl, by decide, rfl⟩) (by kernel_rfl) (by kernel_rfl) rfl rfl rfl (fun a w hb h1 h2 => by simp [execOp, h1, h2]; go_simp), ?_⟩
                refine fcs ⟨atcopy 24 25 (.bool true) (.inl rfl) rfl (by first | exact .inl rfl | exact .inr ⟨_, _, _, rfl, rfl, by kernel_rfl, by decide, rfl⟩) (by kernel_rfl) rfl rfl, ?_⟩
                refine fcs ⟨atcopy 0 26 (.slice (some ⟨g, 0, none⟩) n cap) (.inl rfl) rfl (by first | exact .inl rfl | exact .inr ⟨_, _, _, rfl, rfl, by kernel_rfl, by decide, rfl⟩) (by kernel_rfl) rfl rfl, ?_⟩
                refine fcs ⟨atcopy 3 27 (.int .i64 (i : Int)) (.inl rfl) rfl (by first | exact .inl rfl | exact .inr ⟨_, _, _, rfl, rfl, by kernel_rfl, by decide, rfl⟩) (by kernel_rfl) rfl rfl, ?_⟩
                refine fcs ⟨at2 26 27 28 (.slice (some ⟨g, 0, none⟩) n cap) (.int .i64 (i : Int)) (.pointer (some ⟨g, i, none⟩)) rfl (by first | exact .inl rfl | exact .inr ⟨_, _, _, rfl, rfl, by kernel_rfl, by decide, rfl⟩) (by kernel_rfl) (by kernel_rfl) rfl rfl rfl (fun a w hb h1 h2 => by simp [execOp, h1, h2]; go_simp), ?_⟩
                refine fcs ⟨at1 28 29 (.pointer (some ⟨g, i, none⟩)) (.string (bs s)) rfl (by first | exact .inl rfl | exact .inr ⟨_, _, _, rfl, rfl, by kernel_rfl, by decide, rfl⟩) (by kernel_rfl) rfl rfl (fun a w hb h1 => by have h3 := (hb.cell (p := ⟨g, i, none⟩) hgl).trans ci; simp [execOp, h1]; go_simp), ?_⟩
                refine fcs ⟨atc1 12 29 30 (.string (bs s)) (.int .u64 (x : Int)) _ rfl rfl (by first | exact .inl rfl | exact .inr ⟨_, _, _, rfl, rfl, by kernel_rfl, by decide, rfl⟩) (by kernel_rfl) rfl (by kernel_rfl) rfl (fun w hb => c1 w hb), ?_⟩
                refine fcs ⟨atcopy 0 31 (.slice (some ⟨g, 0, none⟩) n cap) (.inl rfl) rfl (by first | exact .inl rfl | exact .inr ⟨_, _, _, rfl, rfl, by kernel_rfl, by decide, rfl⟩) (by kernel_rfl) rfl rfl, ?_⟩
                refine fcs ⟨atcopy 4 32 (.int .i64 (k : Int)) (.inl rfl) rfl (by first | exact .inl rfl | exact .inr ⟨_, _, _, rfl, rfl, by kernel_rfl, by decide, rfl⟩) (by kernel_rfl) rfl rfl, ?_⟩
                refine fcs ⟨at2 31 32 33 (.slice (some ⟨g, 0, none⟩) n cap) (.int .i64 (k : Int)) (.pointer (some ⟨g, k, none⟩)) rfl (by first | exact .inl rfl | exact .inr ⟨_, _, _, rfl, rfl, by kernel_rfl, by decide, rfl⟩) (by kernel_rfl) (by kernel_rfl) rfl rfl rfl (fun a w hb h1 h2 => by simp [execOp, h1, h2]; go_simp), ?_⟩
                refine fcs ⟨at1 33 34 (.pointer (some ⟨g, k, none⟩)) (.string (bs t)) rfl (by first | exact .inl rfl | exact .inr ⟨_, _, _, rfl, rfl, by kernel_rfl, by decide, rfl⟩) (by kernel_rfl) rfl rfl (fun a w hb h1 => by have h3 := (hb.cell (p := ⟨g, k, none⟩) hgl).trans ck; simp [execOp, h1]; go_simp), ?_⟩
                refine fcs ⟨atc1 12 34 35 (.string (bs t)) (.int .u64 (y : Int)) _ rfl rfl (by first | exact .inl rfl | exact .inr ⟨_, _, _, rfl, rfl, by kernel_rfl, by decide, rfl⟩) (by kernel_rfl) rfl (by kernel_rfl) rfl (fun w hb => c2 w hb), ?_⟩
                refine fcs ⟨at2 30 35 36 (.int .u64 (x : Int)) (.int .u64 (y : Int)) (.bool false) rfl (by first | exact .inl rfl | exact .inr ⟨_, _, _, rfl, rfl, by kernel_rfl, by decide, rfl⟩) (by kernel_rfl) (by kernel_rfl) rfl rfl rfl (fun a w hb h1 h2 => by simp [execOp, h1, h2]; go_simp), ?_⟩
                refine fcs ⟨atpick 25 36 37 true (.bool false) _ _ rfl rfl rfl (by first | exact .inl rfl | exact .inr ⟨_, _, _, rfl, rfl, by kernel_rfl, by decide, rfl⟩) (by kernel_rfl) (by kernel_rfl) rfl rfl rfl, ?_⟩
                exact fnl
              intro vv wv hvv hbv
              have hv37 : vv 37 = (.bool false) := (hvv 37 (by decide)).1
              simp only [lay, List.foldl_cons, List.foldl_nil, List.setIfInBounds_toArray, List.set_cons_succ, List.set_cons_zero, hv37]
              have hb2 := Below.next hbx hbv
              clear hvv hv37 ci ck c1 c2
              go_wp2_with fail
              go_roundw
              case rel => exact ⟨k + 1, by omega, by go_num, hb2, H⟩
              case measure => simp [intOf]; omega
        · obtain rfl : k = i := by omega
          have H := Lib.hid hM.out.next
          clear hM
          go_wp2_with fail
          go_roundw
          case rel => exact ⟨k + 1, by omega, by go_num, hbx, H⟩
          case measure => simp [intOf]; omega
    · exfalso
      obtain rfl : i = n := by omega
      subst hn
      exact hN.out.col HC.out
end Go.Proofs.YtghmbglnhcdbjaaDoor

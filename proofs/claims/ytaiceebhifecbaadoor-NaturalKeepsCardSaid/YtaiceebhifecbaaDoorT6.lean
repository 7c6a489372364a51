/-
  Contracts of Add and Sub. Conditions: slices of at most 900 digits.
-/
import Derived.Test.YtaiceebhifecbaaDoorT5
namespace Go.Proofs.YtaiceebhifecbaaDoor
open Go.RowKit
theorem addTo_n (g off n c : Nat) (B : Option Addr) (m d : Nat) (zs ys : List Nat) (w : World) (ho : Own w g off zs) (hy : Rd w B ys) (hf : Off g B ys) (hzd : Nm.Dig zs) (hyd : Nm.Dig ys) (hzn : zs.length = n) (hym : ys.length = m) (hm : n ≤ 1000) (hn : m ≤ 1000) :
    Calls Tryd.prog 45 #[.slice (some ⟨g, off, none⟩) n c, .slice B m d] w fun e w' => ∃ (rs : List Nat) (o : Nat), e = .returned (.tuple #[]) ∧ Hid (rs.length = n) ∧ Nm.Dig rs ∧ o ≤ 1 ∧ Hid (Nm.val rs + 4294967296 ^ n * o = Nm.val zs + Nm.val (ys.take n)) ∧ Wr w w' g off rs := by
  subst hzn hym
  exact addTo_any g off c B d zs ys w ho hy hf hzd hyd hm hn
theorem trim_q {A : Option Addr} {c m : Nat} {zs : List Nat} {W : World} (h : Rd W A zs) (hc : zs.length ≤ c) (hm : zs.length ≤ 1000) (ht : Nm.tlen zs = m) :
    Hid (∀ n, Calls Tryd.prog 38 #[.slice A zs.length c] (W.drewN n) fun e w'' => e = .returned (.slice A m m) ∧ ∃ q, w'' = W.drewN q) := by
  intro n; have := trim_quiet A c zs W n h hc hm; rwa [ht] at this
theorem fromDigits_n (Bs : Nat) (A : Option Addr) (n c : Nat) (zs : List Nat) (w : World) (h : Fr Bs w A zs) (hd : Nm.Dig zs) (hn : zs.length = n) (hc : n ≤ c) (hm : n ≤ 1000) :
    Calls Tryd.prog 40 #[.slice A n c] w fun e w' => e = .returned (nt A (Nm.nat (Nm.val zs)).length (Nm.nat (Nm.val zs)).length) ∧ Fr Bs w' A (Nm.nat (Nm.val zs)) ∧ Below w.heap.size w w' := by
  subst hn
  exact fromDigits_fr Bs A c zs w h hd hc hm
/-- What is known of a world with three new blocks. -/
theorem three_cells (w : World) (a b c : Value) (t : TypeId) : ∃ W, ((w.alloc (Obj.cells #[a] t)).alloc (Obj.cells #[b] t)).alloc (Obj.cells #[c] t) = W ∧ W.heap.size = w.heap.size + 1 + 1 + 1 ∧
    W.cell? ⟨w.heap.size, 0, none⟩ = some a ∧ W.cell? ⟨w.heap.size + 1, 0, none⟩ = some b ∧ W.cell? ⟨w.heap.size + 1 + 1, 0, none⟩ = some c ∧ W.frozen? ⟨w.heap.size + 1 + 1, 0, none⟩ = false ∧ Below w.heap.size w W := by
  refine ⟨_, rfl, by simp, ?_, ?_, ?_, ?_, three _ _ _ _⟩
  · rw [World.cell?_alloc_lt _ _ _ (by simp; omega), World.cell?_alloc_lt _ _ _ (by simp)]; simp
  · rw [World.cell?_alloc_lt _ _ _ (by simp)]; simp
  · simpa using World.cell?_alloc_new ((w.alloc (Obj.cells #[a] t)).alloc (Obj.cells #[b] t)) #[c] t 0
  · simpa using World.frozen?_alloc_new ((w.alloc (Obj.cells #[a] t)).alloc (Obj.cells #[b] t)) #[c] t 0
theorem Fr.own {B : Nat} {w : World} {A : Option Addr} {zs : List Nat} (h : Fr B w A zs) (hz : zs ≠ []) : ∃ g off, A = some ⟨g, off, none⟩ ∧ B ≤ g ∧ Own w g off zs := by
  rcases h with h | h
  · exact absurd h hz
  · exact h
theorem rd_lit (w : World) (z : Nat) : Rd (w.alloc (Obj.cells #[Value.int IntKind.u32 (z : Int)] 35)) (some ⟨w.heap.size, 0, none⟩) [z] :=
  .inr ⟨_, _, rfl, fun i hi => by
    obtain rfl : i = 0 := by simpa using hi
    simp⟩
/-- The world behind a draw, a new block and a step. -/
theorem below_step {W w' : World} {n : Nat} {o : Obj} (hb : Below ((W.drewN n).alloc o).heap.size ((W.drewN n).alloc o) w') : Below W.heap.size W w' :=
  up (up (below_drewN (Below.refl _ _) n) (one _ o)) hb
set_option maxHeartbeats 400000 in
theorem add_any (A B : Option Addr) (c d : Nat) (xs ys : List Nat) (w : World) (hx : Rd w A xs) (hy : Rd w B ys) (hxd : Nm.Dig xs) (hyd : Nm.Dig ys) (hc : xs.length ≤ c) (hd : ys.length ≤ d) (hm : xs.length ≤ 900) (hn : ys.length ≤ 900) :
    Calls Tryd.prog 19 #[nt A xs.length c, nt B ys.length d] w fun e w' => ∃ A' c', e = .returned (nt A' (Nm.nat (Nm.val xs + Nm.val ys)).length c') ∧ (Nm.nat (Nm.val xs + Nm.val ys)).length ≤ c' ∧ Fr w.heap.size w' A' (Nm.nat (Nm.val xs + Nm.val ys)) ∧ Below w.heap.size w w' := by
  obtain ⟨W, hW, hWs, hW0, hW1, hW2, hWf, hWb⟩ := three_cells w (Value.slice A xs.length c) (Value.slice B ys.length d) (Value.slice none 0 0) 24
  have hx' := hx.below hWb
  have hy' := hy.below hWb
  have htx := Nm.tlen_le xs
  have hty := Nm.tlen_le ys
  obtain ⟨m, hmx⟩ : ∃ m, Nm.tlen xs = m := ⟨_, rfl⟩
  obtain ⟨n, hny⟩ : ∃ n, Nm.tlen ys = n := ⟨_, rfl⟩
  have QX := trim_q hx' hc (by omega) hmx
  have QY := trim_q hy' hd (by omega) hny
  obtain ⟨X, hX⟩ : ∃ X, xs.take m = X := ⟨_, rfl⟩
  obtain ⟨Y, hY⟩ : ∃ Y, ys.take n = Y := ⟨_, rfl⟩
  have hXl : X.length = m := by rw [← hX, List.length_take]; omega
  have hYl : Y.length = n := by rw [← hY, List.length_take]; omega
  have rX : Rd W A X := by rw [← hX]; exact hx'.take m
  have rY : Rd W B Y := by rw [← hY]; exact hy'.take n
  have dX : Nm.Dig X := by rw [← hX]; exact hxd.take m
  have dY : Nm.Dig Y := by rw [← hY]; exact hyd.take n
  have vX : Nm.val X = Nm.val xs := by rw [← hX, ← hmx]; exact Nm.val_tlen xs
  have vY : Nm.val Y = Nm.val ys := by rw [← hY, ← hny]; exact Nm.val_tlen ys
  rw [hmx] at htx
  rw [hny] at hty
  have HWs := Lib.hid hWs
  have HXl := Lib.hid hXl
  have HYl := Lib.hid hYl
  have VX := Lib.hid vX
  have VY := Lib.hid vY
  clear hXl hYl vX vY hX hY hmx hny hx hy hx' hy' hxd hyd hWs
  by_cases hlt : m < n
  · go_enter Tryd.func19, Tryd.ntmps19
    go_wp2_with fail
    go_quiet ((first | (go_at_call 38; with_reducible exact QX.out _) | (go_at_call 38; with_reducible exact QY.out _)))
    go_wp2_with (at_builtin
                 refine wpList_tight rfl (.tmp 21) (.tmp 22) rfl B _ Y [0] n 1 rfl rfl (rY.below (below_drewN (one _ _) _)) HYl.out (by exact rd_lit _ 0) (by rw [HYl.out]; omega) (by simp) (.inl (by simp)) ?_
                 intro A' c' w3 hc' hf hb
                 obtain ⟨g, off, rfl, hg, ho⟩ := hf.own (by simp)
                 have hb3 := below_step hb)
    have hg' : W.heap.size ≤ g := by simp at hg; omega
    refine (addTo_n g off (n + 1) c' A m m (Y ++ [0]) X w3 ho (rX.below hb3) (rX.offOf hg') (dY.append (Nm.Dig.mk (by omega) Nm.Dig.nil)) dX (by rw [List.length_append, HYl.out]; rfl) HXl.out (by omega) (by omega)).mono ?_
    rintro e w4 ⟨rs, o, rfl, hrl, hrd, ho1, hv, hwr⟩
    have hsum := Nm.add_fits dY dX HYl.out (by rw [HXl.out]; omega) ho1 hv.out
    rw [VX.out, VY.out, Nat.add_comm] at hsum
    have hb4 : Below W.heap.size W w4 := hwr.below hb3 hg' hb3.size
    have Hsum := Lib.hid hsum
    clear hsum
    go_wp2_with fail
    refine (fromDigits_n W.heap.size (some ⟨g, off, none⟩) (n + 1) c' rs w4 (.inr ⟨g, off, rfl, hg', hwr.own⟩) hrd hrl.out hc' (by omega)).mono ?_
    rintro e w5 ⟨rfl, hf5, hb5⟩
    rw [Hsum.out] at hf5 ⊢
    have hb5' : Below W.heap.size W w5 := up hb4 hb5
    obtain ⟨k1, k2⟩ := seen hb5'
    have hc5 : w5.cell? ⟨w.heap.size + 1 + 1, 0, none⟩ = some (.slice none 0 0) := (k1 _ _ (by rw [HWs.out]; omega)).trans hW2
    have hf6 : w5.frozen? ⟨w.heap.size + 1 + 1, 0, none⟩ = false := (k2 _ _ (by rw [HWs.out]; omega)).trans hWf
    clear k1 k2 hW hW0 hW1 hW2 hWf
    go_wp2_with fail
    refine bodyPost_ret (v := nt (some ⟨g, off, none⟩) (Nm.nat (Nm.val xs + Nm.val ys)).length (Nm.nat (Nm.val xs + Nm.val ys)).length) (by simp [results, Tryd.results19, go_sem, hc5]) rfl ⟨_, _, rfl, Nat.le_refl _, ?_, ?_⟩
    · exact (hf5.mono (by have := HWs.out; omega)).setCell hc5 (by simp)
    · exact (up hWb hb5').setCell (by show w.heap.size ≤ w.heap.size + 1 + 1; omega) _
  · go_enter Tryd.func19, Tryd.ntmps19
    go_wp2_with fail
    go_quiet ((first | (go_at_call 38; with_reducible exact QX.out _) | (go_at_call 38; with_reducible exact QY.out _)))
    go_wp2_with (at_builtin
                 refine wpList_tight rfl (.tmp 21) (.tmp 22) rfl A _ X [0] m 1 rfl rfl (rX.below (below_drewN (one _ _) _)) HXl.out (by exact rd_lit _ 0) (by rw [HXl.out]; omega) (by simp) (.inl (by simp)) ?_
                 intro A' c' w3 hc' hf hb
                 obtain ⟨g, off, rfl, hg, ho⟩ := hf.own (by simp)
                 have hb3 := below_step hb)
    have hg' : W.heap.size ≤ g := by simp at hg; omega
    refine (addTo_n g off (m + 1) c' B n n (X ++ [0]) Y w3 ho (rY.below hb3) (rY.offOf hg') (dX.append (Nm.Dig.mk (by omega) Nm.Dig.nil)) dY (by rw [List.length_append, HXl.out]; rfl) HYl.out (by omega) (by omega)).mono ?_
    rintro e w4 ⟨rs, o, rfl, hrl, hrd, ho1, hv, hwr⟩
    have hsum := Nm.add_fits dX dY HXl.out (by rw [HYl.out]; omega) ho1 hv.out
    rw [VX.out, VY.out] at hsum
    have hb4 : Below W.heap.size W w4 := hwr.below hb3 hg' hb3.size
    have Hsum := Lib.hid hsum
    clear hsum
    go_wp2_with fail
    refine (fromDigits_n W.heap.size (some ⟨g, off, none⟩) (m + 1) c' rs w4 (.inr ⟨g, off, rfl, hg', hwr.own⟩) hrd hrl.out hc' (by omega)).mono ?_
    rintro e w5 ⟨rfl, hf5, hb5⟩
    rw [Hsum.out] at hf5 ⊢
    have hb5' : Below W.heap.size W w5 := up hb4 hb5
    obtain ⟨k1, k2⟩ := seen hb5'
    have hc5 : w5.cell? ⟨w.heap.size + 1 + 1, 0, none⟩ = some (.slice none 0 0) := (k1 _ _ (by rw [HWs.out]; omega)).trans hW2
    have hf6 : w5.frozen? ⟨w.heap.size + 1 + 1, 0, none⟩ = false := (k2 _ _ (by rw [HWs.out]; omega)).trans hWf
    clear k1 k2 hW hW0 hW1 hW2 hWf
    go_wp2_with fail
    refine bodyPost_ret (v := nt (some ⟨g, off, none⟩) (Nm.nat (Nm.val xs + Nm.val ys)).length (Nm.nat (Nm.val xs + Nm.val ys)).length) (by simp [results, Tryd.results19, go_sem, hc5]) rfl ⟨_, _, rfl, Nat.le_refl _, ?_, ?_⟩
    · exact (hf5.mono (by have := HWs.out; omega)).setCell hc5 (by simp)
    · exact (up hWb hb5').setCell (by show w.heap.size ≤ w.heap.size + 1 + 1; omega) _
end Go.Proofs.YtaiceebhifecbaaDoor

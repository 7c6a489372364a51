import Derived.Test.YtiooilkbbfflaaaHg
/-
  A sorted container in memory: the first element removed, the search for a number, one removed by its number. No conditions beyond those that each names.
-/
namespace Go.Proofs.Ytiooilkbbfflaaa
open Go.RowKit Go.Sort Go.Lib Go.Shelf
set_option maxRecDepth 100000 in
set_option maxHeartbeats 2000000 in
theorem removeFirst_any (B p o : Nat) (v : Value) (x : Tm) (l : List Tm) (w : World) (hl : l.length ≤ 1000000) (hs : Sd B p o w v (x :: l)) :
    Calls Try.prog 41 #[(.pointer (some ⟨p, o, none⟩))] w (MvP B p o v l (.tuple #[]) w) := by
  have c0 := hs.c
  have lp := hs.lt
  obtain ⟨A, c, rfl, hA⟩ := own_nil_or hs.own
  rcases hA with ⟨-, -, h0⟩ | ⟨g, rfl, -, hg, -⟩
  · simp at h0
  have hD := delete_any B g l.length c 0 (x :: l) w hl rfl (Nat.zero_le _) hs.own
  rw [show (x :: l).eraseIdx 0 = l from rfl] at hD
  have hD2 : Calls Try.prog 39 #[.slice (some ⟨g, 0, none⟩) (l.length + 1) c, .int .i64 0, .int .i64 1] w (fun e w1 => e = .returned (.slice (some ⟨g, 0, none⟩) l.length c) ∧ w1.cell? ⟨p, o, none⟩ = some (.slice (some ⟨g, 0, none⟩) (l.length + 1) c) ∧ w1.frozen? ⟨p, o, none⟩ = false ∧ p < w1.heap.size ∧ Hid (Mv B p o (.slice (some ⟨g, 0, none⟩) (l.length + 1) c) l w (.slice (some ⟨g, 0, none⟩) l.length c) (w1.setCell ⟨p, o, none⟩ (.slice (some ⟨g, 0, none⟩) l.length c)))) := by
    refine hD.mono ?_
    rintro e w1 ⟨rfl, h1, h2⟩
    have hpb : w1.heap[p]? = w.heap[p]? := h2.block p lp (fun e => hs.ne e.symm)
    exact ⟨rfl, (World.cell?_of_block (a := ⟨p, o, none⟩) hpb).trans c0, (World.frozen?_of_block (a := ⟨p, o, none⟩) hpb).trans hs.f, Nat.lt_of_lt_of_le lp h2.size, Lib.hid (Mv.of hs h2 h1 (.inl rfl))⟩
  have hp1 : decide ((0 : Int) < (l.length : Int) + 1) = true := decide_eq_true (by omega)
  clear hD hs
  go_enter Try.func41, Try.ntmps41
  go_wp2_with (refine hD2.mono ?_; rintro e w1 ⟨rfl, c1, f1, l1, H1⟩)
  refine bodyPost_ret (v := .tuple #[]) (by simp [results, Try.results41, go_sem]) rfl ?_
  exact ⟨rfl, _, H1.out⟩
set_option maxRecDepth 100000 in
set_option maxHeartbeats 2000000 in
theorem cancel1_any (x : Tm) (id : Int) (q : Nat) (w : World) (hq : w.cell? ⟨q, 0, none⟩ = some (.int .i64 id)) :
    Calls Try.prog 31 #[(.agg #[.int .i64 (x.id : Int), .int .i64 (x.at_ : Int), .int .i64 (x.per : Int)]), (.pointer (some ⟨q, 0, none⟩))] w (Ib (.bool ((x.id : Int) == id)) w) := by
  have lq := blk_lt hq
  have hab := ab1 w (Obj.cells #[.int .i64 (x.id : Int), .int .i64 (x.at_ : Int), .int .i64 (x.per : Int)] 74)
  have hq1 := cell_next hab hq
  go_enter Try.func31, Try.ntmps31
  go_wp2_with fail
  go_ret
  exact ⟨rfl, hab⟩
/-- The place of the timer with a number, or -1. -/
def ix (id : Int) : List Tm → Nat → Int
  | [], _ => -1
  | x :: l, k => if (x.id : Int) = id then k else ix id l (k + 1)
theorem ix_at (id : Int) : ∀ (l : List Tm) (k i : Nat) (hi : i < l.length), (∀ j (h : j < l.length), j < i → ((l[j]'h).id : Int) ≠ id) → ((l[i]'hi).id : Int) = id → ix id l k = ((k + i : Nat) : Int)
  | x :: l, k, 0, _, _, h => by
    unfold ix
    rw [if_pos (by simpa using h)]
    rfl
  | x :: l, k, i + 1, hi, h1, h => by
    have h0 := h1 0 (Nat.succ_pos _) (Nat.succ_pos _)
    unfold ix
    rw [if_neg (by simpa using h0), ix_at id l (k + 1) i (by simpa using hi) (fun j hj hji => by have := h1 (j + 1) (by simpa using hj) (by omega); simpa using this) (by simpa using h), show k + 1 + i = k + (i + 1) by omega]
theorem ix_none (id : Int) : ∀ (l : List Tm) (k : Nat), (∀ j (h : j < l.length), ((l[j]'h).id : Int) ≠ id) → ix id l k = -1
  | [], _, _ => rfl
  | x :: l, k, h1 => by
    have h0 := h1 0 (Nat.succ_pos _)
    unfold ix
    rw [if_neg (by simpa using h0)]
    exact ix_none id l (k + 1) fun j hj => by have := h1 (j + 1) (by simpa using hj); simpa using this
set_option maxRecDepth 100000 in
set_option maxHeartbeats 2000000 in
theorem index_any (B : Nat) (v : Value) (l : List Tm) (id : Int) (q : Nat) (w : World) (hl : l.length ≤ 1000000) (ho : OwT B w v l) (hq : w.cell? ⟨q, 0, none⟩ = some (.int .i64 id)) :
    Calls Try.prog 38 #[v, .func (.func 31) #[] #[(.pointer (some ⟨q, 0, none⟩))]] w (Ib (.int .i64 (ix id l 0)) w) := by
  obtain ⟨A, c, rfl, hA⟩ := own_nil_or ho
  obtain ⟨n, hln⟩ : ∃ n, l.length = n := ⟨_, rfl⟩
  have HN := Lib.hid hln
  have CL : ∀ W, Below w.heap.size w W → ∀ m (hm : m < l.length), ∃ g, A = some ⟨g, 0, none⟩ ∧ g < W.heap.size ∧ W.cell? ⟨g, m * 3, none⟩ = some (.int .i64 ((l[m]'hm).id : Int)) ∧ W.cell? ⟨g, m * 3 + 1, none⟩ = some (.int .i64 ((l[m]'hm).at_ : Int)) ∧ W.cell? ⟨g, m * 3 + 2, none⟩ = some (.int .i64 ((l[m]'hm).per : Int)) := by
    intro W hW m hm
    rcases hA with ⟨-, -, h0⟩ | ⟨g, rfl, -, hg, -⟩
    · omega
    · exact ⟨g, rfl, Nat.lt_of_lt_of_le hg hW.size, cell_next hW (own_cells e3_len ho m hm 0 _ rfl), cell_next hW (own_cells e3_len ho m hm 1 _ rfl), cell_next hW (own_cells e3_len ho m hm 2 _ rfl)⟩
  have HCL := Lib.hid CL
  rw [hln] at hl ⊢
  clear hln CL ho hA
  go_enter Try.func38, Try.ntmps38
  go_wp2_with fail
  go_loopg [8] n (fun kx s8 wr => ∃ k : Nat, k ≤ n ∧ s8 = .int .i64 (k : Int) ∧ n - k ≤ kx ∧ Hid (Below w.heap.size w wr) ∧ Hid (∀ j (h : j < l.length), j < k → ((l[j]'h).id : Int) ≠ id))
  case atStart => exact ⟨0, Nat.zero_le _, rfl, by omega, Lib.hid (Below.refl _ _), Lib.hid fun j _ h => absurd h (Nat.not_lt_zero _)⟩
  case round =>
    obtain ⟨k, hk, rfl, hg, S1, I⟩ := hrel
    by_cases hlt : k < n
    · have hm : k < l.length := by rw [HN.out]; exact hlt
      obtain ⟨gA, rfl, hgl, k0, k1, k2⟩ := HCL.out wr S1.out k hm
      have cN := cancel1_any (l[k]'hm) id q wr (cell_next S1.out hq)
      by_cases hx : ((l[k]'hm).id : Int) = id
      · have HR := Lib.hid (ix_at id l 0 k hm I.out hx)
        have d1 : (((l[k]'hm).id : Int) == id) = true := by simpa using hx
        rw [d1] at cN
        clear hx d1
        generalize l[k]'hm = y at *
        go_wp2_with (refine cN.mono ?_; rintro e w' ⟨rfl, hb⟩)
        go_ret
        rw [HR.out, Nat.zero_add]
        exact ⟨rfl, Below.next S1.out hb⟩
      · have d1 : (((l[k]'hm).id : Int) == id) = false := by simpa using hx
        have I2 : Hid (∀ j (h : j < l.length), j < k + 1 → ((l[j]'h).id : Int) ≠ id) := Lib.hid fun j h hj => by
          by_cases e : j = k
          · subst e; exact hx
          · exact I.out j h (by omega)
        rw [d1] at cN
        clear hx d1
        generalize l[k]'hm = y at *
        go_wp2_with (refine cN.mono ?_; rintro e w' ⟨rfl, hb⟩)
        go_roundg (n - (k + 1))
        case measure => omega
        case rel => exact ⟨k + 1, by omega, rfl, Nat.le_refl _, Lib.hid (Below.next S1.out hb), I2⟩
    · obtain rfl : k = n := by omega
      have HR := Lib.hid (ix_none id l 0 fun j h => I.out j h (by rw [← HN.out]; exact h))
      go_wp2_with fail
      go_ret
      rw [HR.out]
      exact ⟨rfl, S1.out⟩
end Go.Proofs.Ytiooilkbbfflaaa

import Derived.Test.YtiooilkbbfflaaaHs
/-
  A clock: Pending; clocks that are nil. No conditions beyond those that each names.
-/
namespace Go.Proofs.Ytiooilkbbfflaaa
open Go.RowKit Go.Sort Go.Lib Go.Shelf
/-- The firings of timers. -/
def fir (l : List Tm) : List (Nat × Nat) := l.map fun x => (x.id, x.at_)
/-- A list of firings of one's own. -/
def PdP (acc : List (Nat × Nat)) (w : World) (e : Ending) (w' : World) : Prop := ∃ x, e = .returned x ∧ OwF w.heap.size w' x acc ∧ Below w.heap.size w w'
set_option maxRecDepth 100000 in
set_option maxHeartbeats 4000000 in
theorem pending_any (c : Nat) (v : Value) (S : Cs) (w : World) (h : Ck c w v S) :
    Calls Try.prog 21 #[(.pointer (some ⟨c, 0, none⟩))] w (PdP (fir S.l) w) := by
  have lc := h.lt
  have c2 := h.sd.c
  have ho := h.sd.own
  have hlen := h.ok.len
  obtain ⟨l, hl⟩ : ∃ l, S.l = l := ⟨_, rfl⟩
  rw [hl] at ho hlen ⊢
  clear h hl
  obtain ⟨A, d, rfl, hA⟩ := own_nil_or ho
  obtain ⟨n, hln⟩ : ∃ n, l.length = n := ⟨_, rfl⟩
  have HN := Lib.hid hln
  have CL : ∀ W, Below w.heap.size w W → ∀ m (hm : m < l.length), ∃ g, A = some ⟨g, 0, none⟩ ∧ g < W.heap.size ∧ W.cell? ⟨g, m * 3, none⟩ = some (.int .i64 ((l[m]'hm).id : Int)) ∧ W.cell? ⟨g, m * 3 + 1, none⟩ = some (.int .i64 ((l[m]'hm).at_ : Int)) ∧ W.cell? ⟨g, m * 3 + 2, none⟩ = some (.int .i64 ((l[m]'hm).per : Int)) := by
    intro W hW m hm
    rcases hA with ⟨-, -, h0⟩ | ⟨g, rfl, -, hg, -⟩
    · omega
    · exact ⟨g, rfl, Nat.lt_of_lt_of_le hg hW.size, cell_next hW (own_cells e3_len ho m hm 0 _ rfl), cell_next hW (own_cells e3_len ho m hm 1 _ rfl), cell_next hW (own_cells e3_len ho m hm 2 _ rfl)⟩
  have HCL := Lib.hid CL
  rw [hln] at hlen c2
  clear hln CL ho hA
  go_enter Try.func21, Try.ntmps21
  go_wp2_with fail
  go_loopg [3, 14] n (fun kx s3 s14 wr => ∃ k : Nat, k ≤ n ∧ s14 = .int .i64 (k : Int) ∧ n - k ≤ kx ∧ (∃ Ax cx, s3 = .slice Ax k cx) ∧ Hid (Below w.heap.size w wr ∧ OwF w.heap.size wr s3 (fir (l.take k))))
  case atStart => exact ⟨0, Nat.zero_le _, rfl, by omega, ⟨_, _, rfl⟩, Lib.hid ⟨Below.refl _ _, World.ownsRow_nil _ _ _ _⟩⟩
  case round =>
    obtain ⟨k, hk, rfl, hg, ⟨Ax, cx, rfl⟩, HF⟩ := hrel
    have hk9 : k ≤ 1000 := by omega
    by_cases hlt : k < n
    · have hm : k < l.length := by rw [HN.out]; exact hlt
      obtain ⟨gA, rfl, hgl, k0, k1, k2⟩ := HCL.out wr HF.out.1 k hm
      have htk : fir (l.take (k + 1)) = fir (l.take k) ++ [((l[k]'hm).id, (l[k]'hm).at_)] := by
        unfold fir
        rw [List.take_succ_eq_append_getElem hm, List.map_append]
        rfl
      have hlk : (fir (l.take k)).length = k := by unfold fir; rw [List.length_map, List.length_take, Nat.min_eq_left (by omega)]
      have HT := Lib.hid htk
      have HK := Lib.hid hlk
      clear htk hlk
      generalize l[k]'hm = y at *
      have hab := ab2 wr (Obj.cells #[.int .i64 (y.id : Int), .int .i64 (y.at_ : Int), .int .i64 (y.per : Int)] 74) (Obj.cells #[.int .i64 (y.id : Int), .int .i64 (y.at_ : Int)] 49)
      have HO := Lib.hid (own_next HF.out.2 hab)
      have HB := Lib.hid (Below.next HF.out.1 hab)
      have HX := Lib.hid (Bx.new2 (wr.alloc (Obj.cells #[.int .i64 (y.id : Int), .int .i64 (y.at_ : Int), .int .i64 (y.per : Int)] 74)) 49 (.int .i64 (y.id : Int)) (.int .i64 (y.at_ : Int)))
      have hz : (wr.alloc (Obj.cells #[.int .i64 (y.id : Int), .int .i64 (y.at_ : Int), .int .i64 (y.per : Int)] 74)).heap.size = wr.heap.size + 1 := by simp
      rw [hz] at HX
      clear hab hz
      go_wp2_with (at_builtin; refine wpList_pushF rfl _ _ rfl w.heap.size _ (fir (l.take k)) (y.id, y.at_) (wr.heap.size + 1) 1 rfl rfl HO.out HX.out (by rw [HK.out]; omega) HB.out.size ?_)
      intro v3 w3 ho3 hg3 hn3
      obtain ⟨A3, c3, rfl, -⟩ := own_nil_or ho3
      have HZ := Lib.hid (show Below w.heap.size w w3 ∧ OwF w.heap.size w3 (.slice A3 (k + 1) c3) (fir (l.take (k + 1))) from by
        refine ⟨HB.out.grown hg3 HB.out.size fun g e => (HO.out.lt g e).1, ?_⟩
        · rw [HT.out]
          have h3 := ho3
          rw [List.length_append, HK.out] at h3
          exact h3)
      rw [List.length_append, HK.out]
      clear ho3 hg3 hn3
      simp only [List.length_cons, List.length_nil, Nat.zero_add]
      go_wp2_with fail
      go_roundg (n - (k + 1))
      case measure => omega
      case rel => exact ⟨k + 1, by omega, rfl, Nat.le_refl _, ⟨_, _, rfl⟩, HZ⟩
    · obtain rfl : k = n := by omega
      go_wp2_with fail
      go_ret
      have F := HF.out
      rw [← HN.out, List.take_length] at F
      exact ⟨_, rfl, by rw [HN.out] at F; exact F.2, F.1⟩
set_option maxRecDepth 100000 in
theorem now_nil (w : World) : Calls Try.prog 14 #[(.pointer none)] w (Ib (.int .i64 0) w) := by
  go_enter Try.func14, Try.ntmps14
  go_wp2_with (fail)
  go_ret
  exact ⟨rfl, Below.refl _ _⟩
set_option maxRecDepth 100000 in
theorem next_nil (w : World) : Calls Try.prog 12 #[(.pointer none)] w (Ib (.tuple #[.int .i64 0, .bool false]) w) := by
  go_enter Try.func12, Try.ntmps12
  go_wp2_with (fail)
  go_ret2
  exact ⟨rfl, Below.refl _ _⟩
set_option maxRecDepth 100000 in
theorem cadd_nil (t p : Int) (w : World) : Calls Try.prog 29 #[(.pointer none), .int .i64 t, .int .i64 p] w (Ib (.tuple #[.int .i64 0, .int .i64 6]) w) := by
  go_enter Try.func29, Try.ntmps29
  go_wp2_with (fail)
  go_ret2
  exact ⟨rfl, Below.refl _ _⟩
set_option maxRecDepth 100000 in
theorem add_nil (t : Int) (w : World) : Calls Try.prog 15 #[(.pointer none), .int .i64 t] w (Ib (.tuple #[.int .i64 0, .int .i64 6]) w) := by
  go_enter Try.func15, Try.ntmps15
  go_wp2_with (refine (cadd_nil t 0 w).mono ?_; rintro e w1 ⟨rfl, hb1⟩)
  go_ret2
  exact ⟨rfl, hb1⟩
set_option maxRecDepth 100000 in
theorem every_nil (t p : Int) (w : World) : Calls Try.prog 18 #[(.pointer none), .int .i64 t, .int .i64 p] w (Ib (.tuple #[.int .i64 0, .int .i64 6]) w) := by
  go_enter Try.func18, Try.ntmps18
  go_wp2_with (refine (cadd_nil t p w).mono ?_; rintro e w1 ⟨rfl, hb1⟩)
  go_ret2
  exact ⟨rfl, hb1⟩
set_option maxRecDepth 100000 in
theorem advance_nil (t : Int) (w : World) : Calls Try.prog 17 #[(.pointer none), .int .i64 t] w (Ib (.tuple #[.slice none 0 0, .int .i64 6]) w) := by
  go_enter Try.func17, Try.ntmps17
  go_wp2_with (fail)
  go_ret2
  exact ⟨rfl, Below.refl _ _⟩
set_option maxRecDepth 100000 in
theorem pending_nil (w : World) : Calls Try.prog 21 #[(.pointer none)] w (Ib (.slice none 0 0) w) := by
  go_enter Try.func21, Try.ntmps21
  go_wp2_with (fail)
  go_ret
  exact ⟨rfl, Below.refl _ _⟩
set_option maxRecDepth 100000 in
theorem cancel_nil (t : Int) (w : World) : Calls Try.prog 16 #[(.pointer none), .int .i64 t] w (Ib (.int .i64 6) w) := by
  go_enter Try.func16, Try.ntmps16
  go_wp2_with (fail)
  go_ret
  exact ⟨rfl, ab1 w (Obj.cells #[.int .i64 t] 3)⟩
end Go.Proofs.Ytiooilkbbfflaaa

import Derived.Test.YtcjaaijohapeaaaDoorFe
import Derived.Laws.StructEq
/-
  The law of unframing. No conditions beyond those that each names.
-/
namespace Go.Proofs.YtcjaaijohapeaaaDoor
open Go.RowKit Go.Sort Go.Lib Go.Shelf
theorem undFg : Tryd.prog.underlying 32 = some (.struct (Tryd.prog.fieldsOf 32)) := by kernel_rfl
theorem stFg : Tryd.prog.stoodInHeld 32 = false := by kernel_rfl
theorem fdFg : (Tryd.prog.fieldsOf 32).toList.map (fun f => (f.name, f.type, f.offset)) = [("Id", 3, 0), ("Index", 3, 1), ("Count", 3, 2), ("Data", 9, 3)] := by kernel_rfl
theorem eqInF (x : Fg) (w : World) : (Op.equalIn 10000 32 (.agg #[.int .i64 x.id, .int .i64 x.ix, .int .i64 x.ct, .string (bs x.dat)]) (.agg #[.int .i64 x.id, .int .i64 x.ix, .int .i64 x.ct, .string (bs x.dat)])).run Tryd.prog w = .ok true w := by
  rw [run_equalIn_struct w 9999 32 _ _ undFg stFg]
  have h := fdFg
  generalize (Tryd.prog.fieldsOf 32).toList = L at h
  rcases L with _ | ⟨f1, _ | ⟨f2, _ | ⟨f3, _ | ⟨f4, _ | ⟨f5, L⟩⟩⟩⟩⟩
  · simp at h
  · simp at h
  · simp at h
  · simp at h
  · simp only [List.map_cons, List.map_nil, List.cons.injEq, Prod.mk.injEq, and_true] at h
    obtain ⟨⟨a1, a2, a3⟩, ⟨b1, b2, b3⟩, ⟨c1, c2, c3⟩, g1, g2, g3⟩ := h
    simp [Op.eqFields, a1, a2, a3, b1, b2, b3, c1, c2, c3, g1, g2, g3, part, go_sem]
  · simp at h
theorem neqF (x : Fg) (w : World) : (binOp .neq 32 (.agg #[.int .i64 x.id, .int .i64 x.ix, .int .i64 x.ct, .string (bs x.dat)]) (.agg #[.int .i64 x.id, .int .i64 x.ix, .int .i64 x.ct, .string (bs x.dat)])).run Tryd.prog w = .ok (.bool false) w := by
  rw [run_neq_struct, eqInF]; rfl
theorem eqlF (x : Fg) (w : World) : (binOp .eql 32 (.agg #[.int .i64 x.id, .int .i64 x.ix, .int .i64 x.ct, .string (bs x.dat)]) (.agg #[.int .i64 x.id, .int .i64 x.ix, .int .i64 x.ct, .string (bs x.dat)])).run Tryd.prog w = .ok (.bool true) w := by
  rw [run_eql_struct, eqInF]; rfl
theorem fr_ne (x : Fg) : (bs (fr x)).toList.isEmpty = !fvB x := by
  rw [toList_bs]
  unfold fr
  cases h : fvB x
  · rfl
  · rw [if_pos rfl]
    have : seal_ (fby x) ≠ [] := fun e => by have := congrArg List.length e; rw [seal_length] at this; simp at this
    simpa using this
set_option maxRecDepth 100000 in
set_option maxHeartbeats 8000000 in
theorem unframes_law (s : ByteArray) (id ix ct : Int) (t : ByteArray) (w : World) (hs : s.size ≤ 9223372036854775807) (ht : t.size ≤ 9223372036854775807) (hT : Tabs w) :
    Calls Tryd.prog 5 #[.string s, .agg #[.int .i64 id, .int .i64 ix, .int .i64 ct, .string t]] w (Ib (.bool true) w) := by
  obtain ⟨l, rfl⟩ : ∃ l, s = bs l := ⟨_, bs_of s⟩
  obtain ⟨dat, rfl⟩ : ∃ l, t = bs l := ⟨_, bs_of t⟩
  rw [bs_size] at hs ht
  have z1 : (bs l).size = l.length := rfl
  have z2 : (bs dat).size = dat.length := rfl
  have hb0 := ab1 w (Obj.cells #[.int .i64 id, .int .i64 ix, .int .i64 ct, .string (bs dat)] 32)
  by_cases h1 : 5000 < l.length
  · have d1 : decide ((5000 : Int) < (l.length : Int)) = true := decide_eq_true (by omega)
    have d1n : decide (5000 < l.length) = true := decide_eq_true h1
    clear hs ht h1
    go_enter Tryd.func5, Tryd.ntmps5
    go_wp2_with (go_at_call 7; refine (awake_any _).mono ?_; rintro e w1 ⟨rfl, hb1⟩)
    go_ret
    exact ⟨rfl, Below.next hb0 hb1⟩
  by_cases h2 : 5000 < dat.length
  · have d1 : decide ((5000 : Int) < (l.length : Int)) = false := decide_eq_false (by omega)
    have d1n : decide (5000 < l.length) = false := decide_eq_false h1
    have d2 : decide ((5000 : Int) < (dat.length : Int)) = true := decide_eq_true (by omega)
    have d2n : decide (5000 < dat.length) = true := decide_eq_true h2
    clear hs ht h1 h2
    go_enter Tryd.func5, Tryd.ntmps5
    go_wp2_with (go_at_call 7; refine (awake_any _).mono ?_; rintro e w1 ⟨rfl, hb1⟩)
    go_ret
    exact ⟨rfl, Below.next hb0 hb1⟩
  have d1 : decide ((5000 : Int) < (l.length : Int)) = false := decide_eq_false (by omega)
  have d1n : decide (5000 < l.length) = false := decide_eq_false h1
  have d2 : decide ((5000 : Int) < (dat.length : Int)) = false := decide_eq_false (by omega)
  have d2n : decide (5000 < dat.length) = false := decide_eq_false h2
  have HL : Hid (l.length ≤ 5000) := Lib.hid (by omega)
  have HD : Hid (dat.length ≤ 5000) := Lib.hid (by omega)
  have F0 : Bx (w.alloc (Obj.cells #[.int .i64 id, .int .i64 ix, .int .i64 ct, .string (bs dat)] 32)) w.heap.size (eF ⟨id, ix, ct, dat⟩) := Bx.newF w 32 ⟨id, ix, ct, dat⟩
  have HT0 := Lib.hid (hT.below hb0)
  have cD : Hid (∀ W, Tabs W → Calls Tryd.prog 10 #[.string (bs l)] W (Ib (.tuple #[.agg #[.int .i64 (unf l).1.id, .int .i64 (unf l).1.ix, .int .i64 (unf l).1.ct, .string (bs (unf l).1.dat)], .int .i64 ((unf l).2 : Nat)]) W)) := Lib.hid fun W hW => unframe_any l W (by have := HL.out; omega) hW
  have cR : Hid (∀ W, Calls Tryd.prog 15 #[.string (bs l)] W (Ib (.tuple #[.agg #[.int .i64 (unf l).1.id, .int .i64 (unf l).1.ix, .int .i64 (unf l).1.ct, .string (bs (unf l).1.dat)], .int .i64 ((unf l).2 : Nat)]) W)) := Lib.hid fun W => refUnframe_any l W (by have := HL.out; omega)
  generalize (unf l).1 = U at *
  generalize (unf l).2 = ue at *
  have hE := eqlF U
  have hue : (((ue : Nat) : Int) == ((ue : Nat) : Int)) = true := by simp
  have hue2 : (ue == ue) = true := by simp
  have hs1 := str_eq (fr ⟨id, ix, ct, dat⟩)
  have hs2 := fr_ne ⟨id, ix, ct, dat⟩
  clear hs ht h1 h2
  go_enter Tryd.func5, Tryd.ntmps5
  go_wp2_with (first
    | (go_at_call 10; refine (cD.out _ HT0.out).mono ?_; rintro e w1 ⟨rfl, hb1'⟩; have hb1 := Below.next hb0 hb1'; have HT1 := Lib.hid (hT.below hb1))
    | (go_at_call 15; refine (cR.out _).mono ?_; rintro e w2 ⟨rfl, hb2⟩))
  have hb3 := Below.next hb2 (ab1 w2 (Obj.cells #[.int .i64 U.id, .int .i64 U.ix, .int .i64 U.ct, .string (bs U.dat)] 32))
  have X7 := Bx.newF w2 32 U
  have X5 := (Bx.newF w1 32 U).next hb3
  have hb4 := Below.next (ab1 w1 _) hb3
  have X3 := F0.next (show Below _ _ _ from hb1'.trans (hb4.mono hb1'.size))
  have HB := Lib.hid (Below.next hb1 hb4)
  have HT := Lib.hid (HT1.out.below hb4)
  generalize w2.alloc (Obj.cells #[.int .i64 U.id, .int .i64 U.ix, .int .i64 U.ct, .string (bs U.dat)] 32) = w3 at *
  have i0 := X3.c 0 rfl
  have i1 := X3.c 1 rfl
  have i2 := X3.c 2 rfl
  have i3 := X3.c 3 rfl
  have u0 := X5.c 0 rfl
  have u1 := X5.c 1 rfl
  have u2 := X5.c 2 rfl
  have u3 := X5.c 3 rfl
  have v0 := X7.c 0 rfl
  have v1 := X7.c 1 rfl
  have v2 := X7.c 2 rfl
  have v3 := X7.c 3 rfl
  have ri0 := fun d os => cell_regrown i0 d os
  have ri1 := fun d os => cell_regrown i1 d os
  have ri2 := fun d os => cell_regrown i2 d os
  have ri3 := fun d os => cell_regrown i3 d os
  have ru0 := fun d os => cell_regrown u0 d os
  have ru1 := fun d os => cell_regrown u1 d os
  have ru2 := fun d os => cell_regrown u2 d os
  have ru3 := fun d os => cell_regrown u3 d os
  have rv0 := fun d os => cell_regrown v0 d os
  have rv1 := fun d os => cell_regrown v1 d os
  have rv2 := fun d os => cell_regrown v2 d os
  have rv3 := fun d os => cell_regrown v3 d os
  have l3 := X3.lt
  have l5 := X5.lt
  have l7 := X7.lt
  have cF := fun d os => Calls.regrown_of (show Calls Tryd.prog 11 #[.agg #[.int .i64 id, .int .i64 ix, .int .i64 ct, .string (bs dat)]] (grow (redrawn w3 d) os) _ from frame_any ⟨id, ix, ct, dat⟩ _ (by have := HD.out; show dat.length ≤ _; omega) (HT.out.below (below_regrown w3 d os)))
  have cG := fun d os => Calls.regrown_of (show Calls Tryd.prog 14 #[.agg #[.int .i64 id, .int .i64 ix, .int .i64 ct, .string (bs dat)]] (grow (redrawn w3 d) os) _ from refFrame_any ⟨id, ix, ct, dat⟩ _ (by have := HD.out; show dat.length ≤ _; omega))
  have cV := fun d os => Calls.regrown_of (show Calls Tryd.prog 16 #[.agg #[.int .i64 id, .int .i64 ix, .int .i64 ct, .string (bs dat)]] (grow (redrawn w3 d) os) _ from refValid_any ⟨id, ix, ct, dat⟩ _ (by have := HD.out; show dat.length ≤ _; omega))
  have cA := fun d os => Calls.regrown_of (awake_any (grow (redrawn w3 d) os))
  generalize fr ⟨id, ix, ct, dat⟩ = FR at *
  generalize fvB ⟨id, ix, ct, dat⟩ = FV at *
  have hfv : (FV == FV) = true := by simp
  clear X3 X5 X7 F0 hb0 hb1 hb2 hb3 hb4 HT0 HT1 cD cR hb1'
  refine wp_region_quiet_below (by kernel_rfl) (by kernel_rfl) ?_
  repeat (go_big_quiet_step (first | (go_at_call 11; exact cF _ _) | (go_at_call 14; exact cG _ _) | (go_at_call 16; exact cV _ _) | (go_at_call 7; exact cA _ _)))
  refine wpQuiet_nil ?_
  intro _ hw'
  obtain ⟨⟨dq, osq⟩, hw''⟩ := hw'
  subst hw''
  have hbq := below_regrown w3 dq osq
  clear ri0 i0 ri1 i1 ri2 i2 ri3 i3 ru0 u0 ru1 u1 ru2 u2 ru3 u3 rv0 v0 rv1 v1 rv2 v2 rv3 v3
  generalize grow (redrawn w3 dq) osq = w4 at *
  go_wp2_with fail
  go_ret
  exact ⟨rfl, Below.next HB.out hbq⟩
end Go.Proofs.YtcjaaijohapeaaaDoor

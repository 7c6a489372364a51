import Derived.Test.YtiooilkbbfflaaaHo
/-
  A clock in memory: New, Now, Next, and whether the time may get somewhere. No conditions beyond those that each names.
-/
namespace Go.Proofs.Ytiooilkbbfflaaa
open Go.RowKit Go.Sort Go.Lib Go.Shelf
/-- A clock: its time, the last number, its timers. -/
structure Cs where
  now : Nat
  last : Nat
  l : List Tm
/-- A clock as it must be. -/
structure Okc (S : Cs) : Prop where
  iv : Iv S.l
  nw : S.now ≤ 1099511627776
  len : S.l.length ≤ 64
  ids : ∀ x ∈ S.l, 1 ≤ x.id ∧ x.id ≤ S.last
  ge : ∀ x ∈ S.l, S.now ≤ x.at_
/-- A clock at block c. -/
structure Ck (c : Nat) (w : World) (v : Value) (S : Cs) : Prop where
  c0 : w.cell? ⟨c, 0, none⟩ = some (.int .i64 (S.now : Int))
  f0 : w.frozen? ⟨c, 0, none⟩ = false
  c1 : w.cell? ⟨c, 1, none⟩ = some (.int .i64 (S.last : Int))
  f1 : w.frozen? ⟨c, 1, none⟩ = false
  sd : Sd c c 2 w v S.l
  ok : Okc S
theorem Ck.lt {c : Nat} {w : World} {v : Value} {S : Cs} (h : Ck c w v S) : c < w.heap.size := blk_lt h.c0
theorem Ck.fm {c : Nat} {w w' : World} {v : Value} {S : Cs} {s : Nat → Prop} (h : Ck c w v S) (hf : Fm s w w') (hc : ¬ s c) (hv : ∀ g, v.ownBlock = some g → ¬ s g) : Ck c w' v S := by
  have hb := hf.blk c h.lt hc
  have c_ := fun j => World.cell?_of_block (w := w) (w' := w') (a := ⟨c, j, none⟩) hb
  have f_ := fun j => World.frozen?_of_block (w := w) (w' := w') (a := ⟨c, j, none⟩) hb
  exact ⟨(c_ 0).trans h.c0, (f_ 0).trans h.f0, (c_ 1).trans h.c1, (f_ 1).trans h.f1, ⟨(c_ 2).trans h.sd.c, (f_ 2).trans h.sd.f, own_blk h.sd.own fun g e => hf.blk g (h.sd.own.lt g e).2 (hv g e), h.sd.ne⟩, h.ok⟩
theorem Ck.next {c : Nat} {w w' : World} {v : Value} {S : Cs} (h : Ck c w v S) (hb : Below w.heap.size w w') : Ck c w' v S := h.fm (Fm.of (fun _ => False) hb) id fun _ _ => id
/-- Where a slice's row lies behind a call, if it has one: where it lay, or in new memory. -/
def NW (w : World) (v v' : Value) : Prop := ∀ g, v'.ownBlock = some g → v.ownBlock = some g ∨ w.heap.size ≤ g
theorem NB.w {w w1 : World} {v v' : Value} (h : NB w1 v v') (hs : w.heap.size ≤ w1.heap.size) : NW w v v' := fun g e => by
  rcases h with n | ⟨g', n, hg⟩
  · exact .inl (n ▸ e)
  · rw [n] at e; injection e with e; exact .inr (by omega)
theorem NW.refl (w : World) (v : Value) : NW w v v := fun _ e => .inl e
theorem NW.trans {w w1 : World} {v v1 v2 : Value} (h : NW w v v1) (hs : w.heap.size ≤ w1.heap.size) (k : NW w1 v1 v2) : NW w v v2 := fun g e => by
  rcases k g e with e | e
  · exact h g e
  · exact .inr (Nat.le_trans hs e)
/-- What a call that changes a clock leaves. -/
def CkM (c : Nat) (v : Value) (S' : Cs) (r : Value) (w : World) (e : Ending) (w' : World) : Prop := e = .returned r ∧ ∃ v', Ck c w' v' S' ∧ NW w v v' ∧ Fm (fun i => i = c ∨ v.ownBlock = some i) w w'
theorem CkM.same {c : Nat} {v : Value} {S : Cs} {r : Value} {w : World} {e : Ending} {w' : World} (h : Ck c w v S) (k : Ib r w e w') : CkM c v S r w e w' := ⟨k.1, v, h.next k.2, NW.refl _ _, Fm.of _ k.2⟩
set_option maxRecDepth 100000 in
theorem new_any (w : World) : Calls Try.prog 10 #[] w fun e w' => e = .returned (.pointer (some ⟨w.heap.size, 0, none⟩)) ∧ Ck w.heap.size w' (.slice none 0 0) ⟨0, 0, []⟩ ∧ Below w.heap.size w w' := by
  have B1 := Bx.new3 w 64 (.int .i64 0) (.int .i64 0) (.slice none 0 0)
  have hab := ab1 w (Obj.cells #[.int .i64 0, .int .i64 0, .slice none 0 0] 64)
  go_enter Try.func10, Try.ntmps10
  go_wp2_with (fail)
  go_ret
  exact ⟨rfl, ⟨B1.c 0 rfl, B1.f 0 rfl, B1.c 1 rfl, B1.f 1 rfl, ⟨B1.c 2 rfl, B1.f 2 rfl, World.ownsRow_nil _ _ _ _, by simp [Value.ownBlock]⟩, ⟨Iv.nil, by show 0 ≤ _; omega, by show 0 ≤ _; omega, fun x h => by simp at h, fun x h => by simp at h⟩⟩, hab⟩
set_option maxRecDepth 100000 in
theorem now_any (c : Nat) (v : Value) (S : Cs) (w : World) (h : Ck c w v S) : Calls Try.prog 14 #[(.pointer (some ⟨c, 0, none⟩))] w (Ib (.int .i64 (S.now : Int)) w) := by
  have c0 := h.c0
  have lc := h.lt
  clear h
  go_enter Try.func14, Try.ntmps14
  go_wp2_with (fail)
  go_ret
  exact ⟨rfl, Below.refl _ _⟩
/-- Whether the time may get there. -/
def ahd (S : Cs) (t : Int) : Bool := decide ((S.now : Int) ≤ t ∧ t ≤ 1099511627776)
set_option maxRecDepth 100000 in
set_option maxHeartbeats 1000000 in
theorem ahead_any (c : Nat) (v : Value) (S : Cs) (t : Int) (w : World) (h : Ck c w v S) : Calls Try.prog 32 #[(.pointer (some ⟨c, 0, none⟩)), .int .i64 t] w (Ib (.bool (ahd S t)) w) := by
  have c0 := h.c0
  have lc := h.lt
  clear h
  by_cases h1 : (S.now : Int) ≤ t
  · have d1 : decide ((S.now : Int) ≤ t) = true := decide_eq_true h1
    by_cases h2 : t ≤ 1099511627776
    · have d2 : decide (t ≤ 1099511627776) = true := decide_eq_true h2
      have HR := Lib.hid (show ahd S t = true by unfold ahd; exact decide_eq_true ⟨h1, h2⟩)
      clear h1 h2
      go_enter Try.func32, Try.ntmps32
      go_wp2_with (fail)
      go_ret
      rw [HR.out]
      exact ⟨rfl, Below.refl _ _⟩
    · have d2 : decide (t ≤ 1099511627776) = false := decide_eq_false h2
      have HR := Lib.hid (show ahd S t = false by unfold ahd; exact decide_eq_false fun h => h2 h.2)
      clear h1 h2
      go_enter Try.func32, Try.ntmps32
      go_wp2_with (fail)
      go_ret
      rw [HR.out]
      exact ⟨rfl, Below.refl _ _⟩
  · have d1 : decide ((S.now : Int) ≤ t) = false := decide_eq_false h1
    have HR := Lib.hid (show ahd S t = false by unfold ahd; exact decide_eq_false fun h => h1 h.1)
    clear h1
    go_enter Try.func32, Try.ntmps32
    go_wp2_with (fail)
    go_ret
    rw [HR.out]
    exact ⟨rfl, Below.refl _ _⟩
set_option maxRecDepth 100000 in
set_option maxHeartbeats 1000000 in
theorem next_any (c : Nat) (v : Value) (S : Cs) (w : World) (h : Ck c w v S) : Calls Try.prog 12 #[(.pointer (some ⟨c, 0, none⟩))] w (Ib (.tuple #[.int .i64 ((hdT S.l).at_ : Int), .bool !S.l.isEmpty]) w) := by
  have lc := h.lt
  have cF := first_any c c 2 v S.l w (by have := h.ok.len; omega) h.sd
  generalize hdT S.l = x at *
  generalize (!S.l.isEmpty) = b at *
  clear h
  go_enter Try.func12, Try.ntmps12
  go_wp2_with (refine cF.mono ?_; rintro e w1 ⟨rfl, hb1⟩)
  go_ret2
  exact ⟨rfl, Below.next hb1 (ab1 w1 (Obj.cells #[.int .i64 (x.id : Int), .int .i64 (x.at_ : Int), .int .i64 (x.per : Int)] 74))⟩
/-- What adding a timer comes to: the clock, the number, the error. -/
def addS (S : Cs) (t : Int) (per : Nat) : Cs × Nat × Int :=
  if ahd S t then if 64 ≤ S.l.length then (S, 0, 15) else (⟨S.now, S.last + 1, ins ⟨S.last + 1, t.toNat, per⟩ S.l⟩, S.last + 1, 0) else (S, 0, 4)
end Go.Proofs.Ytiooilkbbfflaaa

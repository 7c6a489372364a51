/-
  The reference's scanner: NewScanner, Peek, Next, Mark, Word. No conditions but Go's own bounds.
-/
import Derived.Test.YtgifienjfaclmaaGreatDoorLs
import Derived.Test.YtgifienjfaclmaaGreatDoorLr
import Derived.Test.YtgifienjfaclmaaGreatDoorG4
import Derived.Deep.DeepCutAuto
namespace Go.Proofs.YtgifienjfaclmaaGreatDoor
open Go.RowKit
/-- What NewScanner leaves. -/
def NewP (R : Except (Nat × Nat) (List Tk)) (w : World) (e : Ending) (w' : World) : Prop := Below w.heap.size w w' ∧ match R with
  | .error (x, p) => e = .returned (.tuple #[.agg #[.slice none 0 0, .int .i64 0], .int .i64 (x : Int), .int .i64 (p : Int)])
  | .ok ts => ∃ v, e = .returned (.tuple #[.agg #[v, .int .i64 0], .int .i64 0, .int .i64 0]) ∧ Ot w.heap.size w' v ts
theorem NewP.err {R : Except (Nat × Nat) (List Tk)} {w w' : World} {x p : Nat} (h : R = .error (x, p)) (hb : Below w.heap.size w w') : NewP R w (.returned (.tuple #[.agg #[.slice none 0 0, .int .i64 0], .int .i64 (x : Int), .int .i64 (p : Int)])) w' := by
  subst h
  exact ⟨hb, rfl⟩
theorem NewP.ok {R : Except (Nat × Nat) (List Tk)} {w w' : World} {ts : List Tk} {v : Value} (h : R = .ok ts) (hb : Below w.heap.size w w') (ho : Ot w.heap.size w' v ts) : NewP R w (.returned (.tuple #[.agg #[v, .int .i64 0], .int .i64 0, .int .i64 0])) w' := by
  subst h
  exact ⟨hb, v, rfl, ho⟩
/-- A scanner at block g: its tokens, and the place of the next one. -/
structure Sn (w : World) (g : Nat) (A : Option Addr) (c : Nat) (l : List Tk) (j : Nat) : Prop where
  lt : g < w.heap.size
  c0 : w.cell? ⟨g, 0, none⟩ = some (.slice A l.length c)
  c1 : w.cell? ⟨g, 1, none⟩ = some (.int .i64 (j : Int))
  f1 : w.frozen? ⟨g, 1, none⟩ = false
  ne : ∀ a, A = some a → a.block ≠ g
  tr : Tr w A l
theorem Sn.next {w w' : World} {g : Nat} {A : Option Addr} {c : Nat} {l : List Tk} {j : Nat} (h : Sn w g A c l j) (hb : Below w.heap.size w w') : Sn w' g A c l j :=
  ⟨Nat.lt_of_lt_of_le h.lt hb.size, (hb.cell h.lt).trans h.c0, (hb.cell h.lt).trans h.c1, (hb.frozen h.lt).trans h.f1, h.ne, h.tr.next hb⟩
/-- A token as a value. -/
def Tk.val (t : Tk) : Value := .agg #[.int .i64 (t.kind : Int), .string (bs t.text), .int .i64 t.num, .int .i64 (t.at_ : Int)]
/-- A variable of four cells at block b. -/
structure V4 (w : World) (b : Nat) (x y z u : Value) : Prop where
  lt : b < w.heap.size
  c0 : w.cell? ⟨b, 0, none⟩ = some x
  c1 : w.cell? ⟨b, 1, none⟩ = some y
  c2 : w.cell? ⟨b, 2, none⟩ = some z
  c3 : w.cell? ⟨b, 3, none⟩ = some u
  f0 : w.frozen? ⟨b, 0, none⟩ = false
  f1 : w.frozen? ⟨b, 1, none⟩ = false
  f2 : w.frozen? ⟨b, 2, none⟩ = false
  f3 : w.frozen? ⟨b, 3, none⟩ = false
theorem V4.next {w w' : World} {b : Nat} {x y z u : Value} (h : V4 w b x y z u) (hb : Below w.heap.size w w') : V4 w' b x y z u :=
  ⟨Nat.lt_of_lt_of_le h.lt hb.size, (hb.cell h.lt).trans h.c0, (hb.cell h.lt).trans h.c1, (hb.cell h.lt).trans h.c2, (hb.cell h.lt).trans h.c3, (hb.frozen h.lt).trans h.f0, (hb.frozen h.lt).trans h.f1, (hb.frozen h.lt).trans h.f2, (hb.frozen h.lt).trans h.f3⟩
theorem V4.new (w : World) (x y z u : Value) (t : TypeId) : V4 (w.alloc (Obj.cells #[x, y, z, u] t)) w.heap.size x y z u :=
  ⟨by simp, by simp, by simp, by simp, by simp, by simp, by simp, by simp, by simp⟩
set_option maxRecDepth 100000 in
set_option maxHeartbeats 2000000 in
theorem refPeek_any (g : Nat) (A : Option Addr) (c : Nat) (l : List Tk) (j : Nat) (w : World) (hj : j < l.length) (h : Sn w g A c l j) :
    Calls Tryz.prog 10 #[.pointer (some ⟨g, 0, none⟩)] w (Ib (l[j]'hj).val w) := by
  obtain ⟨lt, c0, c1, f1, ne, tr⟩ := h
  rcases tr with h0 | ⟨ad, rfl, hab, hc⟩
  · omega
  obtain ⟨d0, d1, d2, d3⟩ := hc j hj
  generalize l[j]'hj = x at *
  obtain ⟨n, hn2⟩ : ∃ n, l.length = n := ⟨_, rfl⟩
  rw [hn2] at c0 hj
  clear hc hn2 ne f1
  obtain ⟨K, T, N, P⟩ := x
  have d0 : w.cell? (ad.add (j * 4)) = some (.int .i64 (K : Int)) := d0
  have d1 : w.cell? ⟨(ad.add (j * 4)).block, (ad.add (j * 4)).off + 1, none⟩ = some (.string (bs T)) := d1
  have d2 : w.cell? ⟨(ad.add (j * 4)).block, (ad.add (j * 4)).off + 2, none⟩ = some (.int .i64 N) := d2
  have d3 : w.cell? ⟨(ad.add (j * 4)).block, (ad.add (j * 4)).off + 3, none⟩ = some (.int .i64 (P : Int)) := d3
  have hab : (ad.add (j * 4)).block < w.heap.size := by rw [add_block]; exact hab
  have cmp : decide ((n : Int) ≤ (j : Int)) = false := by simp; omega
  have cmp2 : ((n : Int) ≤ (j : Int)) = False := by simp; omega
  go_enter Tryz.func10, Tryz.ntmps10
  go_wp2_with fail
  have HB := grown1 (w := w) (Obj.cells #[.int .i64 0, .string ⟨#[]⟩, .int .i64 0, .int .i64 0] 34)
  have V := V4.new w (.int .i64 0) (.string ⟨#[]⟩) (.int .i64 0) (.int .i64 0) 34
  replace c0 := (HB.cell (p := ⟨g, 0, none⟩) lt).trans c0
  replace c1 := (HB.cell (p := ⟨g, 1, none⟩) lt).trans c1
  replace d0 := (HB.cell (p := ad.add (j * 4)) hab).trans d0
  replace d1 := (HB.cell (p := ⟨(ad.add (j * 4)).block, (ad.add (j * 4)).off + 1, none⟩) hab).trans d1
  replace d2 := (HB.cell (p := ⟨(ad.add (j * 4)).block, (ad.add (j * 4)).off + 2, none⟩) hab).trans d2
  replace d3 := (HB.cell (p := ⟨(ad.add (j * 4)).block, (ad.add (j * 4)).off + 3, none⟩) hab).trans d3
  have lt := Nat.lt_of_lt_of_le lt HB.size
  have hab := Nat.lt_of_lt_of_le hab HB.size
  have hB : w.heap.size ≤ w.heap.size := Nat.le_refl _
  obtain ⟨B, hBB⟩ : ∃ B, w.heap.size = B := ⟨_, rfl⟩
  generalize w.alloc (Obj.cells #[.int .i64 0, .string ⟨#[]⟩, .int .i64 0, .int .i64 0] 34) = W0 at *
  rw [hBB] at V HB hB ⊢
  go_quiet (fail)
  replace V := V.next (below_drewN (Below.refl _ _) nq)
  replace HB := below_drewN HB nq
  have g1 : Below W0.heap.size W0 (W0.drewN nq) := below_drewN (Below.refl _ _) nq
  replace c0 := (g1.cell (p := ⟨g, 0, none⟩) lt).trans c0
  replace c1 := (g1.cell (p := ⟨g, 1, none⟩) lt).trans c1
  replace d0 := (g1.cell (p := ad.add (j * 4)) hab).trans d0
  replace d1 := (g1.cell (p := ⟨(ad.add (j * 4)).block, (ad.add (j * 4)).off + 1, none⟩) hab).trans d1
  replace d2 := (g1.cell (p := ⟨(ad.add (j * 4)).block, (ad.add (j * 4)).off + 2, none⟩) hab).trans d2
  replace d3 := (g1.cell (p := ⟨(ad.add (j * 4)).block, (ad.add (j * 4)).off + 3, none⟩) hab).trans d3
  replace lt := Nat.lt_of_lt_of_le lt g1.size
  replace hab := Nat.lt_of_lt_of_le hab g1.size
  generalize W0.drewN nq = W1 at *
  clear g1
  go_upto_region 3 with (fail)
  refine wp_region_seqN (by kernel_rfl) (FF [(0, Fact.at_ W1 (.pointer (some ⟨g, 0, none⟩))), (14, Fact.at_ W1 (.pointer (some ⟨g, 0, none⟩))), (15, Fact.at_ W1 (.pointer (some ⟨g, 0, none⟩))), (16, Fact.at_ W1 (.pointer (some ⟨g, 0, none⟩))), (17, Fact.at_ W1 (.slice (some ad) n c)), (18, Fact.at_ W1 (.pointer (some ⟨g, 0, none⟩))), (19, Fact.at_ W1 (.pointer (some ⟨g, 0, none⟩))), (20, Fact.at_ W1 (.pointer (some ⟨g, 1, none⟩))), (21, Fact.at_ W1 (.int .i64 (j : Int))), (22, Fact.at_ W1 (.pointer (some (ad.add (j * 4))))), (23, Fact.at_ W1 (.agg #[.int .i64 (K : Int), .string (bs T), .int .i64 N, .int .i64 (P : Int)]))]) [0] [] 24 10 [14, 15, 16, 17, 18, 19, 20, 21, 22, 23] rfl (by kernel_rfl) (by kernel_rfl) (by decide) (by kernel_rfl) (by kernel_rfl) ?_ ?_ ?_
  · intro t ht
    simp only [List.mem_cons, List.not_mem_nil, or_false] at ht
    rcases ht with rfl
    · exact ⟨rfl, Below.refl _ _⟩
  · refine fcs ⟨Ob.new_ (atcopy 0 14 (.pointer (some ⟨g, 0, none⟩)) (.inl rfl) rfl (by first | exact .inl rfl | exact .inr ⟨_, _, _, rfl, rfl, by kernel_rfl, by decide, rfl⟩) (by kernel_rfl) rfl rfl) (by kernel_rfl), ?_⟩
    refine fcs ⟨Ob.new_ (at1 14 15 (.pointer (some ⟨g, 0, none⟩)) (.pointer (some ⟨g, 0, none⟩)) rfl (by first | exact .inl rfl | exact .inr ⟨_, _, _, rfl, rfl, by kernel_rfl, by decide, rfl⟩) (by kernel_rfl) rfl rfl (fun a w hb h1 => by simp [execOp, h1] <;> go_simp)) (by kernel_rfl), ?_⟩
    refine fcs ⟨Ob.new_ (at1 15 16 (.pointer (some ⟨g, 0, none⟩)) (.pointer (some ⟨g, 0, none⟩)) rfl (by first | exact .inl rfl | exact .inr ⟨_, _, _, rfl, rfl, by kernel_rfl, by decide, rfl⟩) (by kernel_rfl) rfl rfl (fun a w hb h1 => by simp [execOp, h1] <;> go_simp)) (by kernel_rfl), ?_⟩
    refine fcs ⟨Ob.new_ (at1 16 17 (.pointer (some ⟨g, 0, none⟩)) (.slice (some ad) n c) rfl (by first | exact .inl rfl | exact .inr ⟨_, _, _, rfl, rfl, by kernel_rfl, by decide, rfl⟩) (by kernel_rfl) rfl rfl (fun a w hb h1 => by have h3 := (hb.cell (p := ⟨g, 0, none⟩) lt).trans c0; simp [execOp, h1] <;> go_simp)) (by kernel_rfl), ?_⟩
    refine fcs ⟨Ob.new_ (atcopy 0 18 (.pointer (some ⟨g, 0, none⟩)) (.inl rfl) rfl (by first | exact .inl rfl | exact .inr ⟨_, _, _, rfl, rfl, by kernel_rfl, by decide, rfl⟩) (by kernel_rfl) rfl rfl) (by kernel_rfl), ?_⟩
    refine fcs ⟨Ob.new_ (at1 18 19 (.pointer (some ⟨g, 0, none⟩)) (.pointer (some ⟨g, 0, none⟩)) rfl (by first | exact .inl rfl | exact .inr ⟨_, _, _, rfl, rfl, by kernel_rfl, by decide, rfl⟩) (by kernel_rfl) rfl rfl (fun a w hb h1 => by simp [execOp, h1] <;> go_simp)) (by kernel_rfl), ?_⟩
    refine fcs ⟨Ob.new_ (at1 19 20 (.pointer (some ⟨g, 0, none⟩)) (.pointer (some ⟨g, 1, none⟩)) rfl (by first | exact .inl rfl | exact .inr ⟨_, _, _, rfl, rfl, by kernel_rfl, by decide, rfl⟩) (by kernel_rfl) rfl rfl (fun a w hb h1 => by simp [execOp, h1] <;> go_simp)) (by kernel_rfl), ?_⟩
    refine fcs ⟨Ob.new_ (at1 20 21 (.pointer (some ⟨g, 1, none⟩)) (.int .i64 (j : Int)) rfl (by first | exact .inl rfl | exact .inr ⟨_, _, _, rfl, rfl, by kernel_rfl, by decide, rfl⟩) (by kernel_rfl) rfl rfl (fun a w hb h1 => by have h3 := (hb.cell (p := ⟨g, 1, none⟩) lt).trans c1; simp [execOp, h1] <;> go_simp)) (by kernel_rfl), ?_⟩
    refine fcs ⟨Ob.new_ (at2 17 21 22 (.slice (some ad) n c) (.int .i64 (j : Int)) (.pointer (some (ad.add (j * 4)))) rfl (by first | exact .inl rfl | exact .inr ⟨_, _, _, rfl, rfl, by kernel_rfl, by decide, rfl⟩) (by kernel_rfl) (by kernel_rfl) rfl rfl rfl (fun a w hb h1 h2 => by simp [execOp, h1, h2] <;> go_simp)) (by kernel_rfl), ?_⟩
    refine fcs ⟨Ob.new_ (at1 22 23 (.pointer (some (ad.add (j * 4)))) (.agg #[.int .i64 (K : Int), .string (bs T), .int .i64 N, .int .i64 (P : Int)]) rfl (by first | exact .inl rfl | exact .inr ⟨_, _, _, rfl, rfl, by kernel_rfl, by decide, rfl⟩) (by kernel_rfl) rfl rfl (fun a w hb h1 => by have h3 := (hb.cell (p := ad.add (j * 4)) hab).trans d0; have h4 := (hb.cell (p := ⟨(ad.add (j * 4)).block, (ad.add (j * 4)).off + 1, none⟩) hab).trans d1; have h5 := (hb.cell (p := ⟨(ad.add (j * 4)).block, (ad.add (j * 4)).off + 2, none⟩) hab).trans d2; have h6 := (hb.cell (p := ⟨(ad.add (j * 4)).block, (ad.add (j * 4)).off + 3, none⟩) hab).trans d3; simp [execOp, h1] <;> go_simp)) (by kernel_rfl), ?_⟩
    exact fnl
  intro vv wv hvv hbv _ _
  have hv23 : vv 23 = (.agg #[.int .i64 (K : Int), .string (bs T), .int .i64 N, .int .i64 (P : Int)]) := (hvv 23 (by decide)).1
  simp only [lay, List.foldl_cons, List.foldl_nil, List.setIfInBounds_toArray, List.set_cons_succ, List.set_cons_zero, hv23, List.drop_succ_cons, List.drop_zero]
  clear hvv
  have HB2 := Below.trans HB (hbv.mono (Nat.le_of_lt V.lt))
  obtain ⟨b0, b1, b2, b3, b4, b5, b6, b7, b8⟩ := V.next hbv
  go_wp2_with fail
  refine bodyPost_ret (v := .agg #[.int .i64 (K : Int), .string (bs T), .int .i64 N, .int .i64 (P : Int)]) (by simp [results, Tryz.results10, go_sem, b1, b2, b3, b4]) rfl ⟨rfl, ?_⟩
  rw [hBB]
  exact (((HB2.setCell (by simp) _).setCell (by simp) _).setCell (by simp) _).setCell (by simp) _
end Go.Proofs.YtgifienjfaclmaaGreatDoor

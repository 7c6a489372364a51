/-
  A new reader; the check of the chapter's examples returns true. No conditions.
-/
import Derived.Test.YtclbdlbdnnhfmaaWj
namespace Go.Proofs.Ytclbdlbdnnhfmaa
open Go.RowKit
/-- The call returns a new reader of l. -/
def Inew (l : List UInt8) (w : World) (e : Ending) (w' : World) : Prop := ∃ g, e = .returned (.pointer (some ⟨g, 0, none⟩)) ∧ w.heap.size ≤ g ∧ Below w.heap.size w w' ∧ Rdr w' g l 0
theorem new_any (l : List UInt8) (w : World) : Calls Try.prog 17 #[.string (bs l)] w (Inew l w) := by
  go_enter Try.func17, Try.ntmps17
  go_wp2_with fail
  go_ret
  exact ⟨w.heap.size, rfl, Nat.le_refl _, one _ _, by simp, by simp, by simp, by simp, by simp⟩
theorem Rdr.off {w w' : World} {g g' : Nat} {l : List UInt8} {e : Nat} (h : Rdr w g l e) (hg : w.grownBy w' (some g')) (hne : g ≠ g') : Rdr w' g l e := by
  have hb := hg.block g h.lt (fun k => hne (Option.some.inj k))
  exact ⟨Nat.lt_of_lt_of_le h.lt hg.size, (World.cell?_of_block (a := ⟨g, 0, none⟩) hb).trans h.c0, (World.cell?_of_block (a := ⟨g, 1, none⟩) hb).trans h.c1, (World.frozen?_of_block (a := ⟨g, 0, none⟩) hb).trans h.f0, (World.frozen?_of_block (a := ⟨g, 1, none⟩) hb).trans h.f1⟩
theorem Below.read {w w1 w' : World} {g : Nat} (h : Below w.heap.size w w1) (hg : w1.grownBy w' (some g)) (hw : w.heap.size ≤ g) : Below w.heap.size w w' :=
  h.grown hg h.size fun k hk => by cases hk; exact hw
theorem ir_cast {v v' : Value} {g : Nat} {l l' : List UInt8} {e e' : Nat} {w : World} {P : Program} {f : FuncId} {args : Array Value} (h : Calls P f args w (Ir v g l e w)) (h1 : v = v') (h2 : l = l') (h3 : e = e') : Calls P f args w (Ir v' g l' e' w) := by
  subst h1; subst h2; subst h3; exact h
set_option maxRecDepth 100000 in
set_option maxHeartbeats 1000000 in
theorem awake_any (w : World) :
    Calls Try.prog 10 #[] w (Ib (.bool true) w) := by
  have nA : ∀ w, Calls Try.prog 17 #[.string ⟨#[128, 0]⟩] w (Inew [128, 0] w) := new_any [128, 0]
  have nB : ∀ w, Calls Try.prog 17 #[.string ⟨#[3, 97, 98]⟩] w (Inew [3, 97, 98] w) := new_any [3, 97, 98]
  have nC : ∀ w, Calls Try.prog 17 #[.string ⟨#[172, 2, 3]⟩] w (Inew [172, 2, 3] w) := new_any [172, 2, 3]
  have rA : ∀ g w, Rdr w g [128, 0] 0 → Calls Try.prog 19 #[.pointer (some ⟨g, 0, none⟩)] w (Ir (.int .u64 0) g [128, 0] 2 w) := fun g w h => ir_cast (rUint_any g _ 0 w (by decide) h) (by rw [if_pos rfl, show nU [128, 0] = 0 by decide]; rfl) (by decide) (by decide)
  have rB : ∀ g w, Rdr w g [3, 97, 98] 0 → Calls Try.prog 25 #[.pointer (some ⟨g, 0, none⟩), .int .i64 10] w (Ir (.string ⟨#[]⟩) g [3, 97, 98] 1 w) := fun g w h => ir_cast (rText_any g _ 0 10 w (by decide) (by decide) (by decide) h) (by rw [if_pos rfl, show tT 10 [3, 97, 98] = [] by decide]; rfl) (by decide) (by decide)
  have rC : ∀ g w, Rdr w g [172, 2, 3] 0 → Calls Try.prog 19 #[.pointer (some ⟨g, 0, none⟩)] w (Ir (.int .u64 300) g [3] 0 w) := fun g w h => ir_cast (rUint_any g _ 0 w (by decide) h) (by rw [if_pos rfl, show nU [172, 2, 3] = 300 by decide]; rfl) (by decide) (by decide)
  have rD : ∀ g w, Rdr w g [3] 0 → Calls Try.prog 21 #[.pointer (some ⟨g, 0, none⟩)] w (Ir (.int .i64 (-2)) g [] 0 w) := fun g w h => ir_cast (rInt_any g _ 0 w (by decide) h) (by rw [if_pos rfl, show uz (nU [3]) = -2 by decide]) (by decide) (by decide)
  have wA : ∀ w, Calls Try.prog 11 #[.int .u64 300] w (Ib (.string ⟨#[172, 2]⟩) w) := fun w => by
    have h := uint_any 300 w (by decide)
    rwa [show uv 300 = [172, 2] by rw [uv_big (by decide), uv_small (by decide)]; decide] at h
  have wB : ∀ w, Calls Try.prog 13 #[.int .i64 (-2)] w (Ib (.string ⟨#[3]⟩) w) := fun w => by
    have h := int_any (-2) w (by decide) (by decide)
    rwa [show uv (zz (-2)) = [3] by rw [show zz (-2) = 3 by decide, uv_small (by decide)]; decide] at h
  have wC : ∀ w, Calls Try.prog 15 #[.string ⟨#[97, 98]⟩] w (Ib (.string ⟨#[2, 97, 98]⟩) w) := fun w => by
    have h := text_any [97, 98] w (by decide)
    rwa [show tv [97, 98] = [2, 97, 98] by unfold tv; rw [show ([97, 98] : List UInt8).length = 2 by rfl, uv_small (by decide)]; decide] at h
  have qE := fun g l e w h => err_any g l e w h
  have qL := fun g l e w h => left_any g l e w h
  have qN := fun g l e w h => end_any g l e w h
  go_enter Try.func10, Try.ntmps10
  go_wp2_with fail
  refine (nA _).mono ?_
  rintro e w1 ⟨ga, rfl, ha, hb1, A1⟩
  go_wp2_with fail
  refine (nB _).mono ?_
  rintro e w2 ⟨gb, rfl, hbb, hb2, B2⟩
  have A2 := A1.next hb2
  have hab : ga ≠ gb := by have := A1.lt; omega
  have hb2 := Below.next hb1 hb2
  have hgb : w.heap.size ≤ gb := by have := hb1.size; omega
  go_wp2_with fail
  refine (rA _ _ A2).mono ?_
  rintro e w3 ⟨rfl, hg3, A3⟩
  have B3 := B2.off hg3 (Ne.symm hab)
  have hb3 := Below.read hb2 hg3 ha
  go_wp2_with fail
  refine (rB _ _ B3).mono ?_
  rintro e w4 ⟨rfl, hg4, B4⟩
  have A4 := A3.off hg4 hab
  have hb4 := Below.read hb3 hg4 hgb
  go_wp2_with fail
  refine (nC _).mono ?_
  rintro e w5 ⟨gc, rfl, hcc, hb5, C5⟩
  have A5 := A4.next hb5
  have B5 := B4.next hb5
  have hac : ga ≠ gc := by have := A4.lt; omega
  have hbc : gb ≠ gc := by have := B4.lt; omega
  have hb5 := Below.next hb4 hb5
  have hgc : w.heap.size ≤ gc := by have := hb4.size; omega
  go_wp2_with fail
  refine (rC _ _ C5).mono ?_
  rintro e w6 ⟨rfl, hg6, C6⟩
  have A6 := A5.off hg6 hac
  have B6 := B5.off hg6 hbc
  have hb6 := Below.read hb5 hg6 hgc
  go_wp2_with fail
  refine (rD _ _ C6).mono ?_
  rintro e w7 ⟨rfl, hg7, C7⟩
  have A7 := A6.off hg7 hac
  have B7 := B6.off hg7 hbc
  have hb7 := Below.read hb6 hg7 hgc
  clear A1 A2 A3 A4 A5 A6 B2 B3 B4 B5 B6 C5 C6 hg3 hg4 hg6 hg7 hb1 hb2 hb3 hb4 hb5 hb6
  go_wp2_with fail
  refine (wA _).mono ?_
  rintro e w8 ⟨rfl, h8⟩
  have A8 := A7.next h8
  have B8 := B7.next h8
  have C8 := C7.next h8
  have hb8 := Below.next hb7 h8
  go_wp2_with fail
  refine (wB _).mono ?_
  rintro e w9 ⟨rfl, h9⟩
  have A9 := A8.next h9
  have B9 := B8.next h9
  have C9 := C8.next h9
  have hb9 := Below.next hb8 h9
  go_wp2_with fail
  refine (wC _).mono ?_
  rintro e w10 ⟨rfl, h10⟩
  have A10 := A9.next h10
  have B10 := B9.next h10
  have C10 := C9.next h10
  have hb10 := Below.next hb9 h10
  go_wp2_with fail
  refine (qE _ _ _ _ A10).mono ?_
  rintro e w' ⟨rfl, rfl⟩
  go_wp2_with fail
  refine (qE _ _ _ _ B10).mono ?_
  rintro e w' ⟨rfl, rfl⟩
  go_wp2_with fail
  refine (qL _ _ _ _ B10).mono ?_
  rintro e w' ⟨rfl, rfl⟩
  go_wp2_with fail
  refine (qN _ _ _ _ C10).mono ?_
  rintro e w' ⟨rfl, rfl⟩
  go_wp2_with fail
  go_ret
  exact ⟨by rfl, hb10⟩
end Go.Proofs.Ytclbdlbdnnhfmaa

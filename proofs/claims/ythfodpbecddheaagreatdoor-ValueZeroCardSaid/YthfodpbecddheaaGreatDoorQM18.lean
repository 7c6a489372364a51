/-
  The types of the law, as data. No conditions beyond those that each names.
-/
import Derived.Test.YthfodpbecddheaaGreatDoorQM17
import Derived.Test.YthfodpbecddheaaGreatDoorQM12
import Derived.Test.YthfodpbecddheaaGreatDoorQM14
import Derived.Test.YthfodpbecddheaaGreatDoorQM16
import Derived.Test.YthfodpbecddheaaGreatDoorQM11
namespace Go.Proofs.YthfodpbecddheaaGreatDoor
open Go.RowKit
def tyL : List Ty := [.mk 6 0 bTop [], .mk 6 0 bTag [], .mk 7 0 bMode [], .mk 1 0 [] [], .mk 2 8 [] [], .mk 2 64 [] [], .mk 3 32 [] [], .mk 4 3 [] [], .mk 5 2 [] [.mk 3 16 [] []], .mk 2 7 [] [], .mk 6 0 [78, 111, 110, 101] [], .mk 0 0 [] [], .mk 2 32 [] [], .mk 5 2 [] [.mk 5 2 [] [.mk 1 0 [] []]], .mk 5 3 [] [.mk 4 2 [] []]]
def typ (n : Int) : Ty := tyL.getD (n % 15).toNat (.mk 0 0 [] [])
theorem cell_keep {w w' : World} {b b' : Nat} {vs : List Value} (h : Bx w b' vs) (hg : w.grownBy w' (some b)) (hne : b' ≠ b) (j : Nat) {v : Value} (e : vs[j]? = some v) : w'.cell? ⟨b', j, none⟩ = some v := by
  rw [World.cell?_of_block (w := w) (hg.block b' h.lt (by intro h; injection h with h; exact hne (by first | exact h | exact h.symm)))]
  exact h.c j e
theorem gb_set4' (w : World) (b : Nat) (x y z u : Value) : w.grownBy ((((w.setCell ⟨b, 0, none⟩ x).setCell ⟨b, 1, none⟩ y).setCell ⟨b, 2, none⟩ z).setCell ⟨b, 3, none⟩ u) (some b) := (gb_set3 w b x y z).trans (gb_set1 _ ⟨b, 3, none⟩ u)
theorem Bx.put4' {w : World} {b : Nat} {x y z u : Value} (h : Bx w b [x, y, z, u]) (x' y' z' u' : Value) : Bx ((((w.setCell ⟨b, 0, none⟩ x').setCell ⟨b, 1, none⟩ y').setCell ⟨b, 2, none⟩ z').setCell ⟨b, 3, none⟩ u') b [x', y', z', u'] := (((h.put1 0 x').put1 1 y').put1 2 z').put1 3 u'
set_option maxRecDepth 100000 in
set_option maxHeartbeats 16000000 in
theorem type_any (n : Int) (w : World) (h0 : 0 ≤ n) (h1 : n ≤ 255) : Calls Tryz.prog 11 #[.int .u8 n] w (TyP (typ n) w) := by
  have hj : n % 15 = 0 ∨ n % 15 = 1 ∨ n % 15 = 2 ∨ n % 15 = 3 ∨ n % 15 = 4 ∨ n % 15 = 5 ∨ n % 15 = 6 ∨ n % 15 = 7 ∨ n % 15 = 8 ∨ n % 15 = 9 ∨ n % 15 = 10 ∨ n % 15 = 11 ∨ n % 15 = 12 ∨ n % 15 = 13 ∨ n % 15 = 14 := by omega
  have hw : IntKind.i64.wrap n = n := IntWalk.i64_in _ (by omega)
  have hw2 : wrap64 n = n := by unfold wrap64; omega
  go_enter Tryz.func11, Tryz.ntmps11
  go_upto_region 2 with (fail)
  have B0 := Bx.newA w 29 #[.int .i64 0, .int .i64 0, .string ⟨#[]⟩, .slice none 0 0]
  have b0 := ab1 w (Obj.cells #[.int .i64 0, .int .i64 0, .string ⟨#[]⟩, .slice none 0 0] 29)
  have z1 : (w.alloc (Obj.cells #[.int .i64 0, .int .i64 0, .string ⟨#[]⟩, .slice none 0 0] 29)).heap.size = w.heap.size + 1 := by rw [heap_alloc_size]
  have hab := b0
  clear b0
  generalize w.alloc (Obj.cells #[.int .i64 0, .int .i64 0, .string ⟨#[]⟩, .slice none 0 0] 29) = w1 at *
  have B1 := Bx.newA w1 29 #[.int .i64 3, .int .i64 16, .string ⟨#[]⟩, .slice none 0 0]
  have b1 := ab1 w1 (Obj.cells #[.int .i64 3, .int .i64 16, .string ⟨#[]⟩, .slice none 0 0] 29)
  have z2 : (w1.alloc (Obj.cells #[.int .i64 3, .int .i64 16, .string ⟨#[]⟩, .slice none 0 0] 29)).heap.size = w.heap.size + 1 + 1 := by rw [heap_alloc_size, z1]
  rw [z1] at B1
  replace B0 := B0.next b1
  replace hab := Below.next hab b1
  clear b1
  generalize w1.alloc (Obj.cells #[.int .i64 3, .int .i64 16, .string ⟨#[]⟩, .slice none 0 0] 29) = w2 at *
  have B2 := Bx.newA w2 29 #[.int .i64 1, .int .i64 0, .string ⟨#[]⟩, .slice none 0 0]
  have b2 := ab1 w2 (Obj.cells #[.int .i64 1, .int .i64 0, .string ⟨#[]⟩, .slice none 0 0] 29)
  have z3 : (w2.alloc (Obj.cells #[.int .i64 1, .int .i64 0, .string ⟨#[]⟩, .slice none 0 0] 29)).heap.size = w.heap.size + 1 + 1 + 1 := by rw [heap_alloc_size, z2]
  rw [z2] at B2
  replace B0 := B0.next b2
  replace B1 := B1.next b2
  replace hab := Below.next hab b2
  clear b2
  generalize w2.alloc (Obj.cells #[.int .i64 1, .int .i64 0, .string ⟨#[]⟩, .slice none 0 0] 29) = w3 at *
  have B3 := Bx.newA w3 29 #[.int .i64 5, .int .i64 2, .string ⟨#[]⟩, .slice (some ⟨w.heap.size + 1 + 1, 0, none⟩) 1 1]
  have b3 := ab1 w3 (Obj.cells #[.int .i64 5, .int .i64 2, .string ⟨#[]⟩, .slice (some ⟨w.heap.size + 1 + 1, 0, none⟩) 1 1] 29)
  have z4 : (w3.alloc (Obj.cells #[.int .i64 5, .int .i64 2, .string ⟨#[]⟩, .slice (some ⟨w.heap.size + 1 + 1, 0, none⟩) 1 1] 29)).heap.size = w.heap.size + 1 + 1 + 1 + 1 := by rw [heap_alloc_size, z3]
  rw [z3] at B3
  replace B0 := B0.next b3
  replace B1 := B1.next b3
  replace B2 := B2.next b3
  replace hab := Below.next hab b3
  clear b3
  generalize w3.alloc (Obj.cells #[.int .i64 5, .int .i64 2, .string ⟨#[]⟩, .slice (some ⟨w.heap.size + 1 + 1, 0, none⟩) 1 1] 29) = w4 at *
  have B4 := Bx.newA w4 29 #[.int .i64 4, .int .i64 2, .string ⟨#[]⟩, .slice none 0 0]
  have b4 := ab1 w4 (Obj.cells #[.int .i64 4, .int .i64 2, .string ⟨#[]⟩, .slice none 0 0] 29)
  have z5 : (w4.alloc (Obj.cells #[.int .i64 4, .int .i64 2, .string ⟨#[]⟩, .slice none 0 0] 29)).heap.size = w.heap.size + 1 + 1 + 1 + 1 + 1 := by rw [heap_alloc_size, z4]
  rw [z4] at B4
  replace B0 := B0.next b4
  replace B1 := B1.next b4
  replace B2 := B2.next b4
  replace B3 := B3.next b4
  replace hab := Below.next hab b4
  clear b4
  generalize w4.alloc (Obj.cells #[.int .i64 4, .int .i64 2, .string ⟨#[]⟩, .slice none 0 0] 29) = w5 at *
  have B5 := Bx.newA w5 29 #[.int .i64 6, .int .i64 0, .string ⟨#[84, 111, 112]⟩, .slice none 0 0, .int .i64 6, .int .i64 0, .string ⟨#[84, 97, 103]⟩, .slice none 0 0, .int .i64 7, .int .i64 0, .string ⟨#[77, 111, 100, 101]⟩, .slice none 0 0, .int .i64 1, .int .i64 0, .string ⟨#[]⟩, .slice none 0 0, .int .i64 2, .int .i64 8, .string ⟨#[]⟩, .slice none 0 0, .int .i64 2, .int .i64 64, .string ⟨#[]⟩, .slice none 0 0, .int .i64 3, .int .i64 32, .string ⟨#[]⟩, .slice none 0 0, .int .i64 4, .int .i64 3, .string ⟨#[]⟩, .slice none 0 0, .int .i64 5, .int .i64 2, .string ⟨#[]⟩, .slice (some ⟨w.heap.size + 1, 0, none⟩) 1 1, .int .i64 2, .int .i64 7, .string ⟨#[]⟩, .slice none 0 0, .int .i64 6, .int .i64 0, .string ⟨#[78, 111, 110, 101]⟩, .slice none 0 0, .int .i64 0, .int .i64 0, .string ⟨#[]⟩, .slice none 0 0, .int .i64 2, .int .i64 32, .string ⟨#[]⟩, .slice none 0 0, .int .i64 5, .int .i64 2, .string ⟨#[]⟩, .slice (some ⟨w.heap.size + 1 + 1 + 1, 0, none⟩) 1 1, .int .i64 5, .int .i64 3, .string ⟨#[]⟩, .slice (some ⟨w.heap.size + 1 + 1 + 1 + 1, 0, none⟩) 1 1]
  have b5 := ab1 w5 (Obj.cells #[.int .i64 6, .int .i64 0, .string ⟨#[84, 111, 112]⟩, .slice none 0 0, .int .i64 6, .int .i64 0, .string ⟨#[84, 97, 103]⟩, .slice none 0 0, .int .i64 7, .int .i64 0, .string ⟨#[77, 111, 100, 101]⟩, .slice none 0 0, .int .i64 1, .int .i64 0, .string ⟨#[]⟩, .slice none 0 0, .int .i64 2, .int .i64 8, .string ⟨#[]⟩, .slice none 0 0, .int .i64 2, .int .i64 64, .string ⟨#[]⟩, .slice none 0 0, .int .i64 3, .int .i64 32, .string ⟨#[]⟩, .slice none 0 0, .int .i64 4, .int .i64 3, .string ⟨#[]⟩, .slice none 0 0, .int .i64 5, .int .i64 2, .string ⟨#[]⟩, .slice (some ⟨w.heap.size + 1, 0, none⟩) 1 1, .int .i64 2, .int .i64 7, .string ⟨#[]⟩, .slice none 0 0, .int .i64 6, .int .i64 0, .string ⟨#[78, 111, 110, 101]⟩, .slice none 0 0, .int .i64 0, .int .i64 0, .string ⟨#[]⟩, .slice none 0 0, .int .i64 2, .int .i64 32, .string ⟨#[]⟩, .slice none 0 0, .int .i64 5, .int .i64 2, .string ⟨#[]⟩, .slice (some ⟨w.heap.size + 1 + 1 + 1, 0, none⟩) 1 1, .int .i64 5, .int .i64 3, .string ⟨#[]⟩, .slice (some ⟨w.heap.size + 1 + 1 + 1 + 1, 0, none⟩) 1 1] 29)
  have z6 : (w5.alloc (Obj.cells #[.int .i64 6, .int .i64 0, .string ⟨#[84, 111, 112]⟩, .slice none 0 0, .int .i64 6, .int .i64 0, .string ⟨#[84, 97, 103]⟩, .slice none 0 0, .int .i64 7, .int .i64 0, .string ⟨#[77, 111, 100, 101]⟩, .slice none 0 0, .int .i64 1, .int .i64 0, .string ⟨#[]⟩, .slice none 0 0, .int .i64 2, .int .i64 8, .string ⟨#[]⟩, .slice none 0 0, .int .i64 2, .int .i64 64, .string ⟨#[]⟩, .slice none 0 0, .int .i64 3, .int .i64 32, .string ⟨#[]⟩, .slice none 0 0, .int .i64 4, .int .i64 3, .string ⟨#[]⟩, .slice none 0 0, .int .i64 5, .int .i64 2, .string ⟨#[]⟩, .slice (some ⟨w.heap.size + 1, 0, none⟩) 1 1, .int .i64 2, .int .i64 7, .string ⟨#[]⟩, .slice none 0 0, .int .i64 6, .int .i64 0, .string ⟨#[78, 111, 110, 101]⟩, .slice none 0 0, .int .i64 0, .int .i64 0, .string ⟨#[]⟩, .slice none 0 0, .int .i64 2, .int .i64 32, .string ⟨#[]⟩, .slice none 0 0, .int .i64 5, .int .i64 2, .string ⟨#[]⟩, .slice (some ⟨w.heap.size + 1 + 1 + 1, 0, none⟩) 1 1, .int .i64 5, .int .i64 3, .string ⟨#[]⟩, .slice (some ⟨w.heap.size + 1 + 1 + 1 + 1, 0, none⟩) 1 1] 29)).heap.size = w.heap.size + 1 + 1 + 1 + 1 + 1 + 1 := by rw [heap_alloc_size, z5]
  rw [z5] at B5
  replace B0 := B0.next b5
  replace B1 := B1.next b5
  replace B2 := B2.next b5
  replace B3 := B3.next b5
  replace B4 := B4.next b5
  replace hab := Below.next hab b5
  clear b5
  generalize w5.alloc (Obj.cells #[.int .i64 6, .int .i64 0, .string ⟨#[84, 111, 112]⟩, .slice none 0 0, .int .i64 6, .int .i64 0, .string ⟨#[84, 97, 103]⟩, .slice none 0 0, .int .i64 7, .int .i64 0, .string ⟨#[77, 111, 100, 101]⟩, .slice none 0 0, .int .i64 1, .int .i64 0, .string ⟨#[]⟩, .slice none 0 0, .int .i64 2, .int .i64 8, .string ⟨#[]⟩, .slice none 0 0, .int .i64 2, .int .i64 64, .string ⟨#[]⟩, .slice none 0 0, .int .i64 3, .int .i64 32, .string ⟨#[]⟩, .slice none 0 0, .int .i64 4, .int .i64 3, .string ⟨#[]⟩, .slice none 0 0, .int .i64 5, .int .i64 2, .string ⟨#[]⟩, .slice (some ⟨w.heap.size + 1, 0, none⟩) 1 1, .int .i64 2, .int .i64 7, .string ⟨#[]⟩, .slice none 0 0, .int .i64 6, .int .i64 0, .string ⟨#[78, 111, 110, 101]⟩, .slice none 0 0, .int .i64 0, .int .i64 0, .string ⟨#[]⟩, .slice none 0 0, .int .i64 2, .int .i64 32, .string ⟨#[]⟩, .slice none 0 0, .int .i64 5, .int .i64 2, .string ⟨#[]⟩, .slice (some ⟨w.heap.size + 1 + 1 + 1, 0, none⟩) 1 1, .int .i64 5, .int .i64 3, .string ⟨#[]⟩, .slice (some ⟨w.heap.size + 1 + 1 + 1 + 1, 0, none⟩) 1 1] 29) = w6 at *
  have r0 := B0.c 0 rfl
  have r1 := B0.c 1 rfl
  have r2 := B0.c 2 rfl
  have r3 := B0.c 3 rfl
  have f0 := B0.f 0 rfl
  have f1 := B0.f 1 rfl
  have f2 := B0.f 2 rfl
  have f3 := B0.f 3 rfl
  have l0 := B0.lt
  have l5 := B5.lt
  rcases hj with hj | hj | hj | hj | hj | hj | hj | hj | hj | hj | hj | hj | hj | hj | hj
  · have e : typ n = .mk 6 0 bTop [] := by unfold typ; rw [hj]; rfl
    have E := Lib.hid e
    have hj2 : Int.tmod n 15 = 0 := by rw [Int.tmod_eq_emod_of_nonneg h0]; exact hj
    have c0 := B5.c 0 rfl
    have c1 := B5.c 1 rfl
    have c2 := B5.c 2 rfl
    have c3 := B5.c 3 rfl
    clear e h0 h1
    go_wp2_with fail
    have hg := gb_set4' w6 w.heap.size (.int .i64 6) (.int .i64 0) (.string ⟨#[84, 111, 112]⟩) (.slice none 0 0)
    have D0 := B0.put4' (.int .i64 6) (.int .i64 0) (.string ⟨#[84, 111, 112]⟩) (.slice none 0 0)
    have s0 := D0.c 0 rfl
    have s1 := D0.c 1 rfl
    have s2 := D0.c 2 rfl
    have s3 := D0.c 3 rfl
    have hb := hab.grown hg hab.size (by intro k hk; injection hk with hk; omega)
    generalize (((w6.setCell ⟨w.heap.size, 0, none⟩ (.int .i64 6)).setCell ⟨w.heap.size, 1, none⟩ (.int .i64 0)).setCell ⟨w.heap.size, 2, none⟩ (.string ⟨#[84, 111, 112]⟩)).setCell ⟨w.heap.size, 3, none⟩ (.slice none 0 0) = w7 at *
    exact bodyPost_ret (v := .agg #[.int .i64 6, .int .i64 0, .string ⟨#[84, 111, 112]⟩, .slice none 0 0]) (by simp [results, Tryz.results11, go_sem, s0, s1, s2, s3]) rfl (by rw [E.out]; exact ⟨_, rfl, ⟨none, 0, rfl, .inl rfl⟩, hb⟩)
  · have e : typ n = .mk 6 0 bTag [] := by unfold typ; rw [hj]; rfl
    have E := Lib.hid e
    have hj2 : Int.tmod n 15 = 1 := by rw [Int.tmod_eq_emod_of_nonneg h0]; exact hj
    have c0 := B5.c 4 rfl
    have c1 := B5.c 5 rfl
    have c2 := B5.c 6 rfl
    have c3 := B5.c 7 rfl
    clear e h0 h1
    go_wp2_with fail
    have hg := gb_set4' w6 w.heap.size (.int .i64 6) (.int .i64 0) (.string ⟨#[84, 97, 103]⟩) (.slice none 0 0)
    have D0 := B0.put4' (.int .i64 6) (.int .i64 0) (.string ⟨#[84, 97, 103]⟩) (.slice none 0 0)
    have s0 := D0.c 0 rfl
    have s1 := D0.c 1 rfl
    have s2 := D0.c 2 rfl
    have s3 := D0.c 3 rfl
    have hb := hab.grown hg hab.size (by intro k hk; injection hk with hk; omega)
    generalize (((w6.setCell ⟨w.heap.size, 0, none⟩ (.int .i64 6)).setCell ⟨w.heap.size, 1, none⟩ (.int .i64 0)).setCell ⟨w.heap.size, 2, none⟩ (.string ⟨#[84, 97, 103]⟩)).setCell ⟨w.heap.size, 3, none⟩ (.slice none 0 0) = w7 at *
    exact bodyPost_ret (v := .agg #[.int .i64 6, .int .i64 0, .string ⟨#[84, 97, 103]⟩, .slice none 0 0]) (by simp [results, Tryz.results11, go_sem, s0, s1, s2, s3]) rfl (by rw [E.out]; exact ⟨_, rfl, ⟨none, 0, rfl, .inl rfl⟩, hb⟩)
  · have e : typ n = .mk 7 0 bMode [] := by unfold typ; rw [hj]; rfl
    have E := Lib.hid e
    have hj2 : Int.tmod n 15 = 2 := by rw [Int.tmod_eq_emod_of_nonneg h0]; exact hj
    have c0 := B5.c 8 rfl
    have c1 := B5.c 9 rfl
    have c2 := B5.c 10 rfl
    have c3 := B5.c 11 rfl
    clear e h0 h1
    go_wp2_with fail
    have hg := gb_set4' w6 w.heap.size (.int .i64 7) (.int .i64 0) (.string ⟨#[77, 111, 100, 101]⟩) (.slice none 0 0)
    have D0 := B0.put4' (.int .i64 7) (.int .i64 0) (.string ⟨#[77, 111, 100, 101]⟩) (.slice none 0 0)
    have s0 := D0.c 0 rfl
    have s1 := D0.c 1 rfl
    have s2 := D0.c 2 rfl
    have s3 := D0.c 3 rfl
    have hb := hab.grown hg hab.size (by intro k hk; injection hk with hk; omega)
    generalize (((w6.setCell ⟨w.heap.size, 0, none⟩ (.int .i64 7)).setCell ⟨w.heap.size, 1, none⟩ (.int .i64 0)).setCell ⟨w.heap.size, 2, none⟩ (.string ⟨#[77, 111, 100, 101]⟩)).setCell ⟨w.heap.size, 3, none⟩ (.slice none 0 0) = w7 at *
    exact bodyPost_ret (v := .agg #[.int .i64 7, .int .i64 0, .string ⟨#[77, 111, 100, 101]⟩, .slice none 0 0]) (by simp [results, Tryz.results11, go_sem, s0, s1, s2, s3]) rfl (by rw [E.out]; exact ⟨_, rfl, ⟨none, 0, rfl, .inl rfl⟩, hb⟩)
  · have e : typ n = .mk 1 0 [] [] := by unfold typ; rw [hj]; rfl
    have E := Lib.hid e
    have hj2 : Int.tmod n 15 = 3 := by rw [Int.tmod_eq_emod_of_nonneg h0]; exact hj
    have c0 := B5.c 12 rfl
    have c1 := B5.c 13 rfl
    have c2 := B5.c 14 rfl
    have c3 := B5.c 15 rfl
    clear e h0 h1
    go_wp2_with fail
    have hg := gb_set4' w6 w.heap.size (.int .i64 1) (.int .i64 0) (.string ⟨#[]⟩) (.slice none 0 0)
    have D0 := B0.put4' (.int .i64 1) (.int .i64 0) (.string ⟨#[]⟩) (.slice none 0 0)
    have s0 := D0.c 0 rfl
    have s1 := D0.c 1 rfl
    have s2 := D0.c 2 rfl
    have s3 := D0.c 3 rfl
    have hb := hab.grown hg hab.size (by intro k hk; injection hk with hk; omega)
    generalize (((w6.setCell ⟨w.heap.size, 0, none⟩ (.int .i64 1)).setCell ⟨w.heap.size, 1, none⟩ (.int .i64 0)).setCell ⟨w.heap.size, 2, none⟩ (.string ⟨#[]⟩)).setCell ⟨w.heap.size, 3, none⟩ (.slice none 0 0) = w7 at *
    exact bodyPost_ret (v := .agg #[.int .i64 1, .int .i64 0, .string ⟨#[]⟩, .slice none 0 0]) (by simp [results, Tryz.results11, go_sem, s0, s1, s2, s3]) rfl (by rw [E.out]; exact ⟨_, rfl, ⟨none, 0, rfl, .inl rfl⟩, hb⟩)
  · have e : typ n = .mk 2 8 [] [] := by unfold typ; rw [hj]; rfl
    have E := Lib.hid e
    have hj2 : Int.tmod n 15 = 4 := by rw [Int.tmod_eq_emod_of_nonneg h0]; exact hj
    have c0 := B5.c 16 rfl
    have c1 := B5.c 17 rfl
    have c2 := B5.c 18 rfl
    have c3 := B5.c 19 rfl
    clear e h0 h1
    go_wp2_with fail
    have hg := gb_set4' w6 w.heap.size (.int .i64 2) (.int .i64 8) (.string ⟨#[]⟩) (.slice none 0 0)
    have D0 := B0.put4' (.int .i64 2) (.int .i64 8) (.string ⟨#[]⟩) (.slice none 0 0)
    have s0 := D0.c 0 rfl
    have s1 := D0.c 1 rfl
    have s2 := D0.c 2 rfl
    have s3 := D0.c 3 rfl
    have hb := hab.grown hg hab.size (by intro k hk; injection hk with hk; omega)
    generalize (((w6.setCell ⟨w.heap.size, 0, none⟩ (.int .i64 2)).setCell ⟨w.heap.size, 1, none⟩ (.int .i64 8)).setCell ⟨w.heap.size, 2, none⟩ (.string ⟨#[]⟩)).setCell ⟨w.heap.size, 3, none⟩ (.slice none 0 0) = w7 at *
    exact bodyPost_ret (v := .agg #[.int .i64 2, .int .i64 8, .string ⟨#[]⟩, .slice none 0 0]) (by simp [results, Tryz.results11, go_sem, s0, s1, s2, s3]) rfl (by rw [E.out]; exact ⟨_, rfl, ⟨none, 0, rfl, .inl rfl⟩, hb⟩)
  · have e : typ n = .mk 2 64 [] [] := by unfold typ; rw [hj]; rfl
    have E := Lib.hid e
    have hj2 : Int.tmod n 15 = 5 := by rw [Int.tmod_eq_emod_of_nonneg h0]; exact hj
    have c0 := B5.c 20 rfl
    have c1 := B5.c 21 rfl
    have c2 := B5.c 22 rfl
    have c3 := B5.c 23 rfl
    clear e h0 h1
    go_wp2_with fail
    have hg := gb_set4' w6 w.heap.size (.int .i64 2) (.int .i64 64) (.string ⟨#[]⟩) (.slice none 0 0)
    have D0 := B0.put4' (.int .i64 2) (.int .i64 64) (.string ⟨#[]⟩) (.slice none 0 0)
    have s0 := D0.c 0 rfl
    have s1 := D0.c 1 rfl
    have s2 := D0.c 2 rfl
    have s3 := D0.c 3 rfl
    have hb := hab.grown hg hab.size (by intro k hk; injection hk with hk; omega)
    generalize (((w6.setCell ⟨w.heap.size, 0, none⟩ (.int .i64 2)).setCell ⟨w.heap.size, 1, none⟩ (.int .i64 64)).setCell ⟨w.heap.size, 2, none⟩ (.string ⟨#[]⟩)).setCell ⟨w.heap.size, 3, none⟩ (.slice none 0 0) = w7 at *
    exact bodyPost_ret (v := .agg #[.int .i64 2, .int .i64 64, .string ⟨#[]⟩, .slice none 0 0]) (by simp [results, Tryz.results11, go_sem, s0, s1, s2, s3]) rfl (by rw [E.out]; exact ⟨_, rfl, ⟨none, 0, rfl, .inl rfl⟩, hb⟩)
  · have e : typ n = .mk 3 32 [] [] := by unfold typ; rw [hj]; rfl
    have E := Lib.hid e
    have hj2 : Int.tmod n 15 = 6 := by rw [Int.tmod_eq_emod_of_nonneg h0]; exact hj
    have c0 := B5.c 24 rfl
    have c1 := B5.c 25 rfl
    have c2 := B5.c 26 rfl
    have c3 := B5.c 27 rfl
    clear e h0 h1
    go_wp2_with fail
    have hg := gb_set4' w6 w.heap.size (.int .i64 3) (.int .i64 32) (.string ⟨#[]⟩) (.slice none 0 0)
    have D0 := B0.put4' (.int .i64 3) (.int .i64 32) (.string ⟨#[]⟩) (.slice none 0 0)
    have s0 := D0.c 0 rfl
    have s1 := D0.c 1 rfl
    have s2 := D0.c 2 rfl
    have s3 := D0.c 3 rfl
    have hb := hab.grown hg hab.size (by intro k hk; injection hk with hk; omega)
    generalize (((w6.setCell ⟨w.heap.size, 0, none⟩ (.int .i64 3)).setCell ⟨w.heap.size, 1, none⟩ (.int .i64 32)).setCell ⟨w.heap.size, 2, none⟩ (.string ⟨#[]⟩)).setCell ⟨w.heap.size, 3, none⟩ (.slice none 0 0) = w7 at *
    exact bodyPost_ret (v := .agg #[.int .i64 3, .int .i64 32, .string ⟨#[]⟩, .slice none 0 0]) (by simp [results, Tryz.results11, go_sem, s0, s1, s2, s3]) rfl (by rw [E.out]; exact ⟨_, rfl, ⟨none, 0, rfl, .inl rfl⟩, hb⟩)
  · have e : typ n = .mk 4 3 [] [] := by unfold typ; rw [hj]; rfl
    have E := Lib.hid e
    have hj2 : Int.tmod n 15 = 7 := by rw [Int.tmod_eq_emod_of_nonneg h0]; exact hj
    have c0 := B5.c 28 rfl
    have c1 := B5.c 29 rfl
    have c2 := B5.c 30 rfl
    have c3 := B5.c 31 rfl
    clear e h0 h1
    go_wp2_with fail
    have hg := gb_set4' w6 w.heap.size (.int .i64 4) (.int .i64 3) (.string ⟨#[]⟩) (.slice none 0 0)
    have D0 := B0.put4' (.int .i64 4) (.int .i64 3) (.string ⟨#[]⟩) (.slice none 0 0)
    have s0 := D0.c 0 rfl
    have s1 := D0.c 1 rfl
    have s2 := D0.c 2 rfl
    have s3 := D0.c 3 rfl
    have hb := hab.grown hg hab.size (by intro k hk; injection hk with hk; omega)
    generalize (((w6.setCell ⟨w.heap.size, 0, none⟩ (.int .i64 4)).setCell ⟨w.heap.size, 1, none⟩ (.int .i64 3)).setCell ⟨w.heap.size, 2, none⟩ (.string ⟨#[]⟩)).setCell ⟨w.heap.size, 3, none⟩ (.slice none 0 0) = w7 at *
    exact bodyPost_ret (v := .agg #[.int .i64 4, .int .i64 3, .string ⟨#[]⟩, .slice none 0 0]) (by simp [results, Tryz.results11, go_sem, s0, s1, s2, s3]) rfl (by rw [E.out]; exact ⟨_, rfl, ⟨none, 0, rfl, .inl rfl⟩, hb⟩)
  · have e : typ n = .mk 5 2 [] [.mk 3 16 [] []] := by unfold typ; rw [hj]; rfl
    have E := Lib.hid e
    have hj2 : Int.tmod n 15 = 8 := by rw [Int.tmod_eq_emod_of_nonneg h0]; exact hj
    have c0 := B5.c 32 rfl
    have c1 := B5.c 33 rfl
    have c2 := B5.c 34 rfl
    have c3 := B5.c 35 rfl
    clear e h0 h1
    go_wp2_with fail
    have hg := gb_set4' w6 w.heap.size (.int .i64 5) (.int .i64 2) (.string ⟨#[]⟩) (.slice (some ⟨w.heap.size + 1, 0, none⟩) 1 1)
    have D0 := B0.put4' (.int .i64 5) (.int .i64 2) (.string ⟨#[]⟩) (.slice (some ⟨w.heap.size + 1, 0, none⟩) 1 1)
    have s0 := D0.c 0 rfl
    have s1 := D0.c 1 rfl
    have s2 := D0.c 2 rfl
    have s3 := D0.c 3 rfl
    have hb := hab.grown hg hab.size (by intro k hk; injection hk with hk; omega)
    generalize (((w6.setCell ⟨w.heap.size, 0, none⟩ (.int .i64 5)).setCell ⟨w.heap.size, 1, none⟩ (.int .i64 2)).setCell ⟨w.heap.size, 2, none⟩ (.string ⟨#[]⟩)).setCell ⟨w.heap.size, 3, none⟩ (.slice (some ⟨w.heap.size + 1, 0, none⟩) 1 1) = w7 at *
    exact bodyPost_ret (v := .agg #[.int .i64 5, .int .i64 2, .string ⟨#[]⟩, .slice (some ⟨w.heap.size + 1, 0, none⟩) 1 1]) (by simp [results, Tryz.results11, go_sem, s0, s1, s2, s3]) rfl (by rw [E.out]; exact ⟨_, rfl, ⟨some ⟨w.heap.size + 1, 0, none⟩, 1, rfl, rw_cons.2 ⟨_, rfl, TyA.of (cell_keep B1 hg (by omega) 0 rfl) (cell_keep B1 hg (by omega) 1 rfl) (cell_keep B1 hg (by omega) 2 rfl) (cell_keep B1 hg (by omega) 3 rfl) (.inl rfl), .inl rfl⟩⟩, hb⟩)
  · have e : typ n = .mk 2 7 [] [] := by unfold typ; rw [hj]; rfl
    have E := Lib.hid e
    have hj2 : Int.tmod n 15 = 9 := by rw [Int.tmod_eq_emod_of_nonneg h0]; exact hj
    have c0 := B5.c 36 rfl
    have c1 := B5.c 37 rfl
    have c2 := B5.c 38 rfl
    have c3 := B5.c 39 rfl
    clear e h0 h1
    go_wp2_with fail
    have hg := gb_set4' w6 w.heap.size (.int .i64 2) (.int .i64 7) (.string ⟨#[]⟩) (.slice none 0 0)
    have D0 := B0.put4' (.int .i64 2) (.int .i64 7) (.string ⟨#[]⟩) (.slice none 0 0)
    have s0 := D0.c 0 rfl
    have s1 := D0.c 1 rfl
    have s2 := D0.c 2 rfl
    have s3 := D0.c 3 rfl
    have hb := hab.grown hg hab.size (by intro k hk; injection hk with hk; omega)
    generalize (((w6.setCell ⟨w.heap.size, 0, none⟩ (.int .i64 2)).setCell ⟨w.heap.size, 1, none⟩ (.int .i64 7)).setCell ⟨w.heap.size, 2, none⟩ (.string ⟨#[]⟩)).setCell ⟨w.heap.size, 3, none⟩ (.slice none 0 0) = w7 at *
    exact bodyPost_ret (v := .agg #[.int .i64 2, .int .i64 7, .string ⟨#[]⟩, .slice none 0 0]) (by simp [results, Tryz.results11, go_sem, s0, s1, s2, s3]) rfl (by rw [E.out]; exact ⟨_, rfl, ⟨none, 0, rfl, .inl rfl⟩, hb⟩)
  · have e : typ n = .mk 6 0 [78, 111, 110, 101] [] := by unfold typ; rw [hj]; rfl
    have E := Lib.hid e
    have hj2 : Int.tmod n 15 = 10 := by rw [Int.tmod_eq_emod_of_nonneg h0]; exact hj
    have c0 := B5.c 40 rfl
    have c1 := B5.c 41 rfl
    have c2 := B5.c 42 rfl
    have c3 := B5.c 43 rfl
    clear e h0 h1
    go_wp2_with fail
    have hg := gb_set4' w6 w.heap.size (.int .i64 6) (.int .i64 0) (.string ⟨#[78, 111, 110, 101]⟩) (.slice none 0 0)
    have D0 := B0.put4' (.int .i64 6) (.int .i64 0) (.string ⟨#[78, 111, 110, 101]⟩) (.slice none 0 0)
    have s0 := D0.c 0 rfl
    have s1 := D0.c 1 rfl
    have s2 := D0.c 2 rfl
    have s3 := D0.c 3 rfl
    have hb := hab.grown hg hab.size (by intro k hk; injection hk with hk; omega)
    generalize (((w6.setCell ⟨w.heap.size, 0, none⟩ (.int .i64 6)).setCell ⟨w.heap.size, 1, none⟩ (.int .i64 0)).setCell ⟨w.heap.size, 2, none⟩ (.string ⟨#[78, 111, 110, 101]⟩)).setCell ⟨w.heap.size, 3, none⟩ (.slice none 0 0) = w7 at *
    exact bodyPost_ret (v := .agg #[.int .i64 6, .int .i64 0, .string ⟨#[78, 111, 110, 101]⟩, .slice none 0 0]) (by simp [results, Tryz.results11, go_sem, s0, s1, s2, s3]) rfl (by rw [E.out]; exact ⟨_, rfl, ⟨none, 0, rfl, .inl rfl⟩, hb⟩)
  · have e : typ n = .mk 0 0 [] [] := by unfold typ; rw [hj]; rfl
    have E := Lib.hid e
    have hj2 : Int.tmod n 15 = 11 := by rw [Int.tmod_eq_emod_of_nonneg h0]; exact hj
    have c0 := B5.c 44 rfl
    have c1 := B5.c 45 rfl
    have c2 := B5.c 46 rfl
    have c3 := B5.c 47 rfl
    clear e h0 h1
    go_wp2_with fail
    have hg := gb_set4' w6 w.heap.size (.int .i64 0) (.int .i64 0) (.string ⟨#[]⟩) (.slice none 0 0)
    have D0 := B0.put4' (.int .i64 0) (.int .i64 0) (.string ⟨#[]⟩) (.slice none 0 0)
    have s0 := D0.c 0 rfl
    have s1 := D0.c 1 rfl
    have s2 := D0.c 2 rfl
    have s3 := D0.c 3 rfl
    have hb := hab.grown hg hab.size (by intro k hk; injection hk with hk; omega)
    generalize (((w6.setCell ⟨w.heap.size, 0, none⟩ (.int .i64 0)).setCell ⟨w.heap.size, 1, none⟩ (.int .i64 0)).setCell ⟨w.heap.size, 2, none⟩ (.string ⟨#[]⟩)).setCell ⟨w.heap.size, 3, none⟩ (.slice none 0 0) = w7 at *
    exact bodyPost_ret (v := .agg #[.int .i64 0, .int .i64 0, .string ⟨#[]⟩, .slice none 0 0]) (by simp [results, Tryz.results11, go_sem, s0, s1, s2, s3]) rfl (by rw [E.out]; exact ⟨_, rfl, ⟨none, 0, rfl, .inl rfl⟩, hb⟩)
  · have e : typ n = .mk 2 32 [] [] := by unfold typ; rw [hj]; rfl
    have E := Lib.hid e
    have hj2 : Int.tmod n 15 = 12 := by rw [Int.tmod_eq_emod_of_nonneg h0]; exact hj
    have c0 := B5.c 48 rfl
    have c1 := B5.c 49 rfl
    have c2 := B5.c 50 rfl
    have c3 := B5.c 51 rfl
    clear e h0 h1
    go_wp2_with fail
    have hg := gb_set4' w6 w.heap.size (.int .i64 2) (.int .i64 32) (.string ⟨#[]⟩) (.slice none 0 0)
    have D0 := B0.put4' (.int .i64 2) (.int .i64 32) (.string ⟨#[]⟩) (.slice none 0 0)
    have s0 := D0.c 0 rfl
    have s1 := D0.c 1 rfl
    have s2 := D0.c 2 rfl
    have s3 := D0.c 3 rfl
    have hb := hab.grown hg hab.size (by intro k hk; injection hk with hk; omega)
    generalize (((w6.setCell ⟨w.heap.size, 0, none⟩ (.int .i64 2)).setCell ⟨w.heap.size, 1, none⟩ (.int .i64 32)).setCell ⟨w.heap.size, 2, none⟩ (.string ⟨#[]⟩)).setCell ⟨w.heap.size, 3, none⟩ (.slice none 0 0) = w7 at *
    exact bodyPost_ret (v := .agg #[.int .i64 2, .int .i64 32, .string ⟨#[]⟩, .slice none 0 0]) (by simp [results, Tryz.results11, go_sem, s0, s1, s2, s3]) rfl (by rw [E.out]; exact ⟨_, rfl, ⟨none, 0, rfl, .inl rfl⟩, hb⟩)
  · have e : typ n = .mk 5 2 [] [.mk 5 2 [] [.mk 1 0 [] []]] := by unfold typ; rw [hj]; rfl
    have E := Lib.hid e
    have hj2 : Int.tmod n 15 = 13 := by rw [Int.tmod_eq_emod_of_nonneg h0]; exact hj
    have c0 := B5.c 52 rfl
    have c1 := B5.c 53 rfl
    have c2 := B5.c 54 rfl
    have c3 := B5.c 55 rfl
    clear e h0 h1
    go_wp2_with fail
    have hg := gb_set4' w6 w.heap.size (.int .i64 5) (.int .i64 2) (.string ⟨#[]⟩) (.slice (some ⟨w.heap.size + 1 + 1 + 1, 0, none⟩) 1 1)
    have D0 := B0.put4' (.int .i64 5) (.int .i64 2) (.string ⟨#[]⟩) (.slice (some ⟨w.heap.size + 1 + 1 + 1, 0, none⟩) 1 1)
    have s0 := D0.c 0 rfl
    have s1 := D0.c 1 rfl
    have s2 := D0.c 2 rfl
    have s3 := D0.c 3 rfl
    have hb := hab.grown hg hab.size (by intro k hk; injection hk with hk; omega)
    generalize (((w6.setCell ⟨w.heap.size, 0, none⟩ (.int .i64 5)).setCell ⟨w.heap.size, 1, none⟩ (.int .i64 2)).setCell ⟨w.heap.size, 2, none⟩ (.string ⟨#[]⟩)).setCell ⟨w.heap.size, 3, none⟩ (.slice (some ⟨w.heap.size + 1 + 1 + 1, 0, none⟩) 1 1) = w7 at *
    exact bodyPost_ret (v := .agg #[.int .i64 5, .int .i64 2, .string ⟨#[]⟩, .slice (some ⟨w.heap.size + 1 + 1 + 1, 0, none⟩) 1 1]) (by simp [results, Tryz.results11, go_sem, s0, s1, s2, s3]) rfl (by rw [E.out]; exact ⟨_, rfl, ⟨some ⟨w.heap.size + 1 + 1 + 1, 0, none⟩, 1, rfl, rw_cons.2 ⟨_, rfl, TyA.of (cell_keep B3 hg (by omega) 0 rfl) (cell_keep B3 hg (by omega) 1 rfl) (cell_keep B3 hg (by omega) 2 rfl) (cell_keep B3 hg (by omega) 3 rfl) (rw_cons.2 ⟨_, rfl, TyA.of (cell_keep B2 hg (by omega) 0 rfl) (cell_keep B2 hg (by omega) 1 rfl) (cell_keep B2 hg (by omega) 2 rfl) (cell_keep B2 hg (by omega) 3 rfl) (.inl rfl), .inl rfl⟩), .inl rfl⟩⟩, hb⟩)
  · have e : typ n = .mk 5 3 [] [.mk 4 2 [] []] := by unfold typ; rw [hj]; rfl
    have E := Lib.hid e
    have hj2 : Int.tmod n 15 = 14 := by rw [Int.tmod_eq_emod_of_nonneg h0]; exact hj
    have c0 := B5.c 56 rfl
    have c1 := B5.c 57 rfl
    have c2 := B5.c 58 rfl
    have c3 := B5.c 59 rfl
    clear e h0 h1
    go_wp2_with fail
    have hg := gb_set4' w6 w.heap.size (.int .i64 5) (.int .i64 3) (.string ⟨#[]⟩) (.slice (some ⟨w.heap.size + 1 + 1 + 1 + 1, 0, none⟩) 1 1)
    have D0 := B0.put4' (.int .i64 5) (.int .i64 3) (.string ⟨#[]⟩) (.slice (some ⟨w.heap.size + 1 + 1 + 1 + 1, 0, none⟩) 1 1)
    have s0 := D0.c 0 rfl
    have s1 := D0.c 1 rfl
    have s2 := D0.c 2 rfl
    have s3 := D0.c 3 rfl
    have hb := hab.grown hg hab.size (by intro k hk; injection hk with hk; omega)
    generalize (((w6.setCell ⟨w.heap.size, 0, none⟩ (.int .i64 5)).setCell ⟨w.heap.size, 1, none⟩ (.int .i64 3)).setCell ⟨w.heap.size, 2, none⟩ (.string ⟨#[]⟩)).setCell ⟨w.heap.size, 3, none⟩ (.slice (some ⟨w.heap.size + 1 + 1 + 1 + 1, 0, none⟩) 1 1) = w7 at *
    exact bodyPost_ret (v := .agg #[.int .i64 5, .int .i64 3, .string ⟨#[]⟩, .slice (some ⟨w.heap.size + 1 + 1 + 1 + 1, 0, none⟩) 1 1]) (by simp [results, Tryz.results11, go_sem, s0, s1, s2, s3]) rfl (by rw [E.out]; exact ⟨_, rfl, ⟨some ⟨w.heap.size + 1 + 1 + 1 + 1, 0, none⟩, 1, rfl, rw_cons.2 ⟨_, rfl, TyA.of (cell_keep B4 hg (by omega) 0 rfl) (cell_keep B4 hg (by omega) 1 rfl) (cell_keep B4 hg (by omega) 2 rfl) (cell_keep B4 hg (by omega) 3 rfl) (.inl rfl), .inl rfl⟩⟩, hb⟩)
end Go.Proofs.YthfodpbecddheaaGreatDoor
/-
  The law's schemas and types: what they hold. No conditions beyond those that each names.
-/
namespace Go.Proofs.YthfodpbecddheaaGreatDoor
open Go.RowKit
/-- The law's schemas. -/
def schN (n : Int) : Sch := if n % 2 = 1 then schB else schA
theorem schema_any (n : Int) (w : World) (h0 : 0 ≤ n) (h1 : n ≤ 255) : Calls Tryz.prog 10 #[.int .u8 n] w (ScP (schN n) w) := by
  unfold schN
  by_cases h : n % 2 = 1
  · rw [if_pos h]; exact schemaB_any n w h0 h1 h
  · rw [if_neg h]; exact schemaA_any n w h0 h1 (by omega)
theorem few_tag : stTag.fields.length ≤ 1000 ∧ ∀ f ∈ stTag.fields, fewT f.type = true := ⟨by decide, List.all_eq_true.1 (by decide +kernel)⟩
theorem few_top : stTop.fields.length ≤ 1000 ∧ ∀ f ∈ stTop.fields, fewT f.type = true := ⟨by decide, List.all_eq_true.1 (by decide +kernel)⟩
theorem few_schN (n : Int) : Few9 (schN n) := by
  unfold schN
  split
  · exact ⟨by decide, by decide, fun t ht => by
      obtain rfl : t = stTag := by simpa [schB] using ht
      exact few_tag, fun t ht => by simp [schB] at ht⟩
  · exact ⟨by decide, by decide, fun t ht => by
      obtain rfl | rfl : t = stTag ∨ t = stTop := by simpa [schA] using ht
      · exact few_tag
      · exact few_top, fun t ht => by
      obtain rfl : t = enMode := by simpa [schA] using ht
      exact ⟨by decide, by decide⟩⟩
theorem lok_tag : ∀ f ∈ stTag.fields, lok f.type := by
  intro f hf
  simp only [stTag, List.mem_cons, List.not_mem_nil, or_false] at hf
  rcases hf with rfl | rfl <;> simp [lok, lok.loks]
theorem lok_top : ∀ f ∈ stTop.fields, lok f.type := by
  intro f hf
  simp only [stTop, List.mem_cons, List.not_mem_nil, or_false] at hf
  rcases hf with rfl | rfl | rfl | rfl <;> simp [lok, lok.loks]
theorem asc_tag : AscD stTag.fields := by simp [AscD, stTag]
theorem asc_top : AscD stTop.fields := by simp [AscD, stTop]
theorem lok_schN (n : Int) : lok9 (schN n) := by
  unfold schN
  split
  · intro t ht
    obtain rfl : t = stTag := by simpa [schB] using ht
    exact lok_tag
  · intro t ht
    obtain rfl | rfl : t = stTag ∨ t = stTop := by simpa [schA] using ht
    · exact lok_tag
    · exact lok_top
theorem asc_schN (n : Int) : ∀ t ∈ (schN n).structs, AscD t.fields := by
  unfold schN
  split
  · intro t ht
    obtain rfl : t = stTag := by simpa [schB] using ht
    exact asc_tag
  · intro t ht
    obtain rfl | rfl : t = stTag ∨ t = stTop := by simpa [schA] using ht
    · exact asc_tag
    · exact asc_top
theorem lok_typ (n : Int) : lok (typ n) := by
  unfold typ
  rw [List.getD_eq_getElem?_getD]
  cases h : tyL[(n % 15).toNat]? with
  | none => simp [lok, lok.loks]
  | some t =>
    have ht := List.mem_of_getElem? h
    simp only [tyL, List.mem_cons, List.not_mem_nil, or_false] at ht
    rcases ht with rfl | rfl | rfl | rfl | rfl | rfl | rfl | rfl | rfl | rfl | rfl | rfl | rfl | rfl | rfl <;> simp [lok, lok.loks]
end Go.Proofs.YthfodpbecddheaaGreatDoor
/-
  What the developers' Check answers. No conditions beyond those that each names.
-/
namespace Go.Proofs.YthfodpbecddheaaGreatDoor
open Go.RowKit
/-- What Check answers. -/
def vchk (S : Sch) (t : Ty) (v : Vl) : Int := if 6 < lv v then 9 else vck S t v
set_option maxRecDepth 100000 in
set_option maxHeartbeats 4000000 in
theorem devCheck_any (S : Sch) (t : Ty) (v : Vl) (a b u : Value) (w : World) (hf : Few9 S) (hlk : lok9 S) (hasc : ∀ t ∈ S.structs, AscD t.fields) (hlo : lok t) (hvo : vok v) (hS : ScV w S a) (hT : TyV w t b) (hV : VlV w v u) :
    Calls Tryz.prog 16 #[a, b, u] w (Ib (.int .i64 (vchk S t v)) w) := by
  have cL := fun W h => exceeds_any (SizeOf.sizeOf v + 1) v 6 u W (by omega) hvo (by decide) (hV.next h)
  obtain ⟨A, c, A2, c2, rfl, hS⟩ := hS
  obtain ⟨G, g, rfl, hG⟩ := hT
  have cW := fun W h => check_rec S hf hlk hasc (SizeOf.sizeOf v + 1) t v A c A2 c2 G g u W (by omega) hlo hvo (Sc.next h hS) (hG.next fun x p => TyA.next h x p) (hV.next h)
  obtain ⟨B, b1, B2, b2, rfl, -, -⟩ := hV
  obtain ⟨r, hr⟩ : ∃ r, vchk S t v = r := ⟨_, rfl⟩
  unfold vchk at hr
  show Calls _ _ _ _ (Ib (.int .i64 (vchk S t v)) w)
  rw [show vchk S t v = r from hr]
  obtain ⟨x, hx⟩ : ∃ x, vck S t v = x := ⟨_, rfl⟩
  rw [hx] at cW hr
  have cL : ∀ W, Below w.heap.size w W → Calls Tryz.prog 37 #[.agg #[.int .i64 v.kind, .int .i64 v.n, .string (bs v.s), .slice B v.l.length b1, .slice B2 v.f.length b2], .int .i64 6] W (Ib (.bool (decide (6 < lv v))) W) := cL
  obtain ⟨y, hy⟩ : ∃ y, decide (6 < lv v) = y := ⟨_, rfl⟩
  have hr : (if y = true then 9 else x) = r := by rw [← hr, ← hy]; simp
  rw [hy] at cL
  clear hx hy
  have hab := ab3 w (Obj.cells #[.int .i64 S.ver, .slice A S.enums.length c, .slice A2 S.structs.length c2] 25) (Obj.cells #[.int .i64 t.kind, .int .i64 t.size, .string (bs t.name), .slice G t.elem.length g] 29) (Obj.cells #[.int .i64 v.kind, .int .i64 v.n, .string (bs v.s), .slice B v.l.length b1, .slice B2 v.f.length b2] 34)
  have D1 := (Bx.new3 w 25 (.int .i64 S.ver) (.slice A S.enums.length c) (.slice A2 S.structs.length c2)).next (ab2 _ (Obj.cells #[.int .i64 t.kind, .int .i64 t.size, .string (bs t.name), .slice G t.elem.length g] 29) (Obj.cells #[.int .i64 v.kind, .int .i64 v.n, .string (bs v.s), .slice B v.l.length b1, .slice B2 v.f.length b2] 34))
  have D2 := (Bx.new4 (w.alloc (Obj.cells #[.int .i64 S.ver, .slice A S.enums.length c, .slice A2 S.structs.length c2] 25)) 29 (.int .i64 t.kind) (.int .i64 t.size) (.string (bs t.name)) (.slice G t.elem.length g)).next (ab1 _ (Obj.cells #[.int .i64 v.kind, .int .i64 v.n, .string (bs v.s), .slice B v.l.length b1, .slice B2 v.f.length b2] 34))
  have D3 := Bx.new5 ((w.alloc (Obj.cells #[.int .i64 S.ver, .slice A S.enums.length c, .slice A2 S.structs.length c2] 25)).alloc (Obj.cells #[.int .i64 t.kind, .int .i64 t.size, .string (bs t.name), .slice G t.elem.length g] 29)) 34 (.int .i64 v.kind) (.int .i64 v.n) (.string (bs v.s)) (.slice B v.l.length b1) (.slice B2 v.f.length b2)
  rw [show (w.alloc (Obj.cells #[.int .i64 S.ver, .slice A S.enums.length c, .slice A2 S.structs.length c2] 25)).heap.size = w.heap.size + 1 by simp] at D2
  rw [show ((w.alloc (Obj.cells #[.int .i64 S.ver, .slice A S.enums.length c, .slice A2 S.structs.length c2] 25)).alloc (Obj.cells #[.int .i64 t.kind, .int .i64 t.size, .string (bs t.name), .slice G t.elem.length g] 29)).heap.size = w.heap.size + 1 + 1 by simp] at D3
  go_enter Tryz.func16, Tryz.ntmps16
  go_wp2_with fail
  refine (cL _ hab).mono ?_
  rintro _ w1 ⟨rfl, hb1⟩
  replace D1 := D1.next hb1
  replace D2 := D2.next hb1
  replace D3 := D3.next hb1
  replace hab := Below.next hab hb1
  have cW2 := cW _ hab
  clear cL hb1 cW
  cases y
  case true =>
    have hr : (9 : Int) = r := by simpa using hr
    subst hr
    go_wp2_with fail
    go_ret
    exact ⟨rfl, hab⟩
  case false =>
    have hr : x = r := by simpa using hr
    subst hr
    have a0 := D1.c 0 rfl
    have a1 := D1.c 1 rfl
    have a2 := D1.c 2 rfl
    have t0 := D2.c 0 rfl
    have t1 := D2.c 1 rfl
    have t2 := D2.c 2 rfl
    have t3 := D2.c 3 rfl
    have v0 := D3.c 0 rfl
    have v1 := D3.c 1 rfl
    have v2 := D3.c 2 rfl
    have v3 := D3.c 3 rfl
    have v4 := D3.c 4 rfl
    clear D1 D2 D3
    go_wp2_with fail
    refine cW2.mono ?_
    rintro _ w2 ⟨rfl, hb2⟩
    go_wp2_with fail
    go_ret
    exact ⟨rfl, Below.next hab hb2⟩
end Go.Proofs.YthfodpbecddheaaGreatDoor
/-
  The zero value of a type as data, where no struct must hold a struct: that it is a value, and one of its type. No conditions beyond those that each names.
-/
namespace Go.Proofs.YthfodpbecddheaaGreatDoor
open Go.RowKit
/-- The entry of a field's zero value. -/
def ze (f : Fd) : Int × Vl := (f.num, .mk f.type.kind 0 [] [] [])
/-- The entries of a zero value. -/
def zf (l : List Fd) : List (Int × Vl) := (l.filter fun f => !f.opt).map ze
/-- The zero value of a type. -/
def zr (S : Sch) (t : Ty) : Vl := if right S t = false then .mk 0 0 [] [] [] else if t.kind ≠ 6 then .mk t.kind 0 [] [] [] else .mk 6 0 [] [] (zf (fds S t))
/-- The fields of a struct that must be there are permitted and no structs. -/
def pls (S : Sch) (t : Ty) : Bool := (fds S t).all fun f => f.opt || (right S f.type && decide (f.type.kind ≠ 6))
theorem zf_len (l : List Fd) : (zf l).length ≤ l.length := by
  unfold zf
  rw [List.length_map]
  exact List.length_filter_le _ _
theorem zf_opt {l : List Fd} {k : Nat} (h : k < l.length) (ho : (l[k]'h).opt = true) : zf (l.take (k + 1)) = zf (l.take k) := by
  unfold zf
  rw [List.take_succ_eq_append_getElem h, List.filter_append]
  simp [ho]
theorem zf_must {l : List Fd} {k : Nat} (h : k < l.length) (ho : (l[k]'h).opt = false) : zf (l.take (k + 1)) = zf (l.take k) ++ [ze (l[k]'h)] := by
  unfold zf
  rw [List.take_succ_eq_append_getElem h, List.filter_append]
  simp [ho]
theorem zr_st {S : Sch} {t : Ty} (h : right S t = true) (h6 : t.kind = 6) : zr S t = .mk 6 0 [] [] (zf (fds S t)) := by
  rw [zr, if_neg (by rw [h]; decide), if_neg (by simp [h6])]
theorem zr_pl {S : Sch} {t : Ty} (h : right S t = true) (h6 : t.kind ≠ 6) : zr S t = .mk t.kind 0 [] [] [] := by
  rw [zr, if_neg (by rw [h]; decide), if_pos h6]
theorem zr_no {S : Sch} {t : Ty} (h : right S t = false) : zr S t = .mk 0 0 [] [] [] := by
  rw [zr, if_pos h]
theorem pls_at {S : Sch} {t : Ty} (h : pls S t = true) {f : Fd} (hf : f ∈ fds S t) (ho : f.opt = false) : right S f.type = true ∧ f.type.kind ≠ 6 := by
  have := List.all_eq_true.1 h f hf
  rw [ho, Bool.false_or, Bool.and_eq_true, decide_eq_true_eq] at this
  exact this
theorem vok_nil (k n : Int) : vok (.mk k n [] [] []) := by simp [vok, vok.voks, vok.foks]
theorem vok_zr {S : Sch} (hf : Few9 S) (t : Ty) : vok (zr S t) := by
  by_cases h : right S t = true
  · by_cases h6 : t.kind = 6
    · rw [zr_st h h6, vok_iff]
      have h1 := zf_len (fds S t)
      have h2 : (fds S t).length ≤ 1000 := few_st hf t.name
      refine ⟨by simp [Vl.s], ⟨by simp [Vl.l], by simp [Vl.l]⟩, ?_, fun x hx => ?_⟩
      · show (zf (fds S t)).length ≤ 9223372036854775807
        omega
      · have hx : x ∈ zf (fds S t) := hx
        unfold zf at hx
        obtain ⟨f, -, rfl⟩ := List.mem_map.1 hx
        exact vok_nil _ _
    · rw [zr_pl h h6]; exact vok_nil _ _
  · rw [zr_no (by simpa using h)]; exact vok_nil _ _
/-- Of the law's types: the zero value is a value of the type, and the fields that must be there are no structs. -/
theorem zr_law (n m : Int) (h : right (schN n) (typ m) = true) : vchk (schN n) (typ m) (zr (schN n) (typ m)) = 0 ∧ pls (schN n) (typ m) = true := by
  have hA : (tyL.all fun t => right schA t == false || (decide (vchk schA t (zr schA t) = 0) && pls schA t)) = true := by decide +kernel
  have hB : (tyL.all fun t => right schB t == false || (decide (vchk schB t (zr schB t) = 0) && pls schB t)) = true := by decide +kernel
  have ht : typ m ∈ tyL := by
    unfold typ
    rw [List.getD_eq_getElem?_getD, List.getElem?_eq_getElem (show (m % 15).toNat < tyL.length by show (m % 15).toNat < 15; omega)]
    exact List.getElem_mem _
  unfold schN at h ⊢
  split at h
  · have := List.all_eq_true.1 hB _ ht
    simp only [h, Bool.or_eq_true, Bool.and_eq_true, decide_eq_true_eq, beq_iff_eq] at this
    rcases this with h' | h'
    · cases h'
    · rw [if_pos (by assumption)]; exact h'
  · have := List.all_eq_true.1 hA _ ht
    simp only [h, Bool.or_eq_true, Bool.and_eq_true, decide_eq_true_eq, beq_iff_eq] at this
    rcases this with h' | h'
    · cases h'
    · rw [if_neg (by assumption)]; exact h'
end Go.Proofs.YthfodpbecddheaaGreatDoor
/-
  Both sides' Struct: what was found reads on, whatever becomes of other memory. No conditions beyond those that each names.
-/
namespace Go.Proofs.YthfodpbecddheaaGreatDoor
open Go.RowKit Go.Shelf
/-- A struct was found or not; it reads in every world that G names. -/
def StK (o : Option St) (G : World → World → Prop) (w : World) (e : Ending) (w' : World) : Prop := ∃ v, e = .returned (.tuple #[v, .bool o.isSome]) ∧ (∀ w2, G w' w2 → StV w2 (o.getD st0) v) ∧ Below w.heap.size w w'
theorem StK.some_ {o : Option St} {G : World → World → Prop} {w w' : World} {t : St} {v : Value} (h : o = some t) (hv : ∀ w2, G w' w2 → StV w2 t v) (hb : Below w.heap.size w w') : StK o G w (.returned (.tuple #[v, .bool true])) w' := by
  subst h; exact ⟨v, rfl, hv, hb⟩
theorem StK.none_ {o : Option St} {G : World → World → Prop} {w w' : World} (h : o = none) (hb : Below w.heap.size w w') : StK o G w (.returned (.tuple #[.agg #[.string ⟨#[]⟩, .slice none 0 0], .bool false])) w' := by
  subst h; exact ⟨_, rfl, fun w2 _ => StV.zero w2, hb⟩
set_option maxRecDepth 100000 in
set_option maxHeartbeats 4000000 in
theorem devStruct_k (S : Sch) (nm : List UInt8) (v : Value) (w : World) (hv : ScV w S v) (hn : S.structs.length ≤ 1000) (hfw : ∀ t ∈ S.structs, t.fields.length ≤ 1000 ∧ ∀ f ∈ t.fields, fewT f.type = true) :
    Calls Tryz.prog 63 #[v, .string (bs nm)] w (StK (fst_ St.name S.structs nm) (Kpl w.heap.size) w) := by
  obtain ⟨A, c, A2, c2, rfl, hS⟩ := hv
  have hSs := hS.st
  clear hS
  obtain ⟨m, hm⟩ : ∃ m, S.enums.length = m := ⟨_, rfl⟩
  obtain ⟨n, hn2⟩ : ∃ n, S.structs.length = n := ⟨_, rfl⟩
  have HN := Lib.hid hn2
  rw [hn2] at hn
  rw [hm, hn2]
  clear hn2 hm
  have z1 : (w.alloc (Obj.cells #[.int .i64 S.ver, .slice A m c, .slice A2 n c2] 25)).heap.size = w.heap.size + 1 := by simp
  have B1 := (Bx.new3 w 25 (.int .i64 S.ver) (.slice A m c) (.slice A2 n c2)).next (ab1 _ (Obj.cells #[.string ⟨#[]⟩, .slice none 0 0] 53))
  have B2 := Bx.new2 (w.alloc (Obj.cells #[.int .i64 S.ver, .slice A m c, .slice A2 n c2] 25)) 53 (.string ⟨#[]⟩) (.slice none 0 0)
  rw [z1] at B2
  have hab := ab2 w (Obj.cells #[.int .i64 S.ver, .slice A m c, .slice A2 n c2] 25) (Obj.cells #[.string ⟨#[]⟩, .slice none 0 0] 53)
  have HI0 : Hid (∀ j (hj : j < S.structs.length), j < 0 → (S.structs[j]'hj).name ≠ nm) := Lib.hid fun j _ h => by omega
  clear z1
  go_enter Tryz.func63, Tryz.ntmps63
  go_wp2_with fail
  go_loopw [11] (fun i wr => ∃ k : Nat, k ≤ n ∧ i = .int .i64 (k : Int) ∧ Hid (∀ j (hj : j < S.structs.length), j < k → (S.structs[j]'hj).name ≠ nm) ∧ Bx wr (w.heap.size + 1) [.string ⟨#[]⟩, .slice none 0 0] ∧ Below w.heap.size w wr) (fun i _ => n - (intOf i).toNat)
  case atStart => exact ⟨0, by omega, rfl, HI0, B2, hab⟩
  case round =>
    obtain ⟨k, hk, rfl, hI, C2, hb⟩ := hrel
    clear HI0 B1 B2 hab
    have r0 := C2.c 0 rfl
    have r1 := C2.c 1 rfl
    have s0 := C2.f 0 rfl
    have s1 := C2.f 1 rfl
    have l2 := C2.lt
    by_cases hlt : k < n
    · have hkm : k < S.structs.length := by rw [HN.out]; exact hlt
      obtain ⟨a, rfl, hA⟩ := hSs.get (i := k) hkm
      obtain ⟨A3, c3, h0, h1, hV⟩ := hA.val
      replace h0 := cell_next hb h0
      replace h1 := cell_next hb h1
      have hblk : (a.add (k * 2)).block < wr.heap.size := blk_lt h0
      have hx : (S.structs[k]'hkm).name = nm → fst_ St.name S.structs nm = some (S.structs[k]'hkm) := fun e => fst_at hkm hI.out e
      have hy : (S.structs[k]'hkm).name ≠ nm → ∀ j (hj : j < S.structs.length), j < k + 1 → (S.structs[j]'hj).name ≠ nm := fun e j hj hjk => by
        by_cases hjk2 : j < k
        · exact hI.out j hj hjk2
        · obtain rfl : j = k := by omega
          exact e
      obtain ⟨g1, g2⟩ := hfw _ (List.getElem_mem hkm)
      generalize S.structs[k]'hkm = t at *
      have hW1 := ab1 wr (Obj.cells #[.string (bs t.name), .slice A3 t.fields.length c3] 53)
      have B7 := Bx.new2 wr 53 (.string (bs t.name)) (.slice A3 t.fields.length c3)
      have C3 := C2.next hW1
      by_cases e : t.name = nm
      · have E := Lib.hid (hx e)
        obtain ⟨A4, c4, hV0, hV⟩ := hV
        obtain ⟨rfl, -, rfl⟩ : A3 = A4 ∧ t.fields.length = t.fields.length ∧ c3 = c4 := by injection hV0 with h; simp at h; exact ⟨h.1, rfl, h.2⟩
        have cE := eachField_any t.fields A3 c3 (wr.alloc (Obj.cells #[.string (bs t.name), .slice A3 t.fields.length c3] 53)) (by omega) (hV.next fun x p => FdA.next (Below.next hb hW1)) (fun i h v w' hv => newField_any _ v w' (g2 _ (List.getElem_mem h)) hv)
        have hz : wr.heap.size + 1 ≤ (wr.alloc (Obj.cells #[.string (bs t.name), .slice A3 t.fields.length c3] 53)).heap.size := by simp
        clear hx hy hI hA hV hV0 g1 g2
        subst e
        have q1 := sq_t t.name
        unfold EfP at cE
        generalize hq : t.fields.length = q at *
        have HQ := Lib.hid hq
        clear hq
        go_wp2_with fail
        refine cE.mono ?_
        rintro e3 w3 ⟨A9, c9, rfl, hN9, hb9⟩
        have hb3 := Below.next (Below.next hb hW1) hb9
        have D7 := B7.next hb9
        have D3 := C3.next hb9
        have p0 := D7.c 0 rfl
        have p1 := D7.c 1 rfl
        have p2 := D7.f 1 rfl
        have p3 := D7.lt
        have t0 := D3.c 0 rfl
        have t1 := D3.c 1 rfl
        have t2 := D3.f 0 rfl
        have t3 := D3.f 1 rfl
        have t4 := D3.lt
        clear cE B7 C3 C2 r0 r1 s0 s1 h0 h1 hblk hW1
        go_wp2_with fail
        refine bodyPost_ret (v := .tuple #[.agg #[.string (bs t.name), .slice A9 q c9], .bool true]) (by simp [results, Tryz.results63, go_sem, t0, t1]) rfl ?_
        refine .some_ E.out (fun w2 hk2 => ⟨A9, c9, by rw [HQ.out], ((hN9.next ?_).next (hk2.mono (Nat.le_trans hb.size (Nat.le_trans (Nat.le_succ _) hz)))).rw_⟩) ?_
        · iterate 3 refine Kpl.set ?_ (by first | (show wr.heap.size < _; omega) | (show w.heap.size + 1 < _; omega)) _
          exact Kpl.of (Below.refl _ _)
        · have hws := hb.size
          iterate 3 refine Below.setCell ?_ (by first | (show w.heap.size ≤ wr.heap.size; omega) | (show w.heap.size ≤ w.heap.size + 1; omega)) _
          exact hb3
      · have E := Lib.hid (hy e)
        have q1 := sq_f e
        have hb3 := Below.next hb hW1
        clear hx hy hI hA hV hfw
        go_wp2_with fail
        go_roundw
        case rel => exact ⟨k + 1, by omega, by go_num, E, C3, hb3⟩
        case measure => simp [intOf]; omega
    · obtain rfl : k = n := by omega
      have E := Lib.hid (show fst_ St.name S.structs nm = none from fst_end fun j hj => hI.out j hj (by rw [← HN.out]; exact hj))
      clear hI hfw
      go_wp2_with fail
      refine bodyPost_ret (v := .tuple #[.agg #[.string ⟨#[]⟩, .slice none 0 0], .bool false]) (by simp [results, Tryz.results63, go_sem, r0, r1]) rfl (.none_ E.out ?_)
      iterate 2 refine Below.setCell ?_ (by simp) _
      exact hb
set_option maxRecDepth 100000 in
set_option maxHeartbeats 1000000 in
theorem r9Struct_k (S : Sch) (nm : List UInt8) (v : Value) (W0 w : World) (hb0 : Below W0.heap.size W0 w) (hv : ScV W0 S v) (hn : S.structs.length ≤ 1000) :
    Calls Tryz.prog 67 #[v, .string (bs nm)] w (StK (fst_ St.name S.structs nm) (fun _ w2 => Below W0.heap.size W0 w2) w) := by
  obtain ⟨A, c, A2, c2, rfl, hS⟩ := hv
  obtain ⟨n, hn2⟩ : ∃ n, S.structs.length = n := ⟨_, rfl⟩
  have HN := Lib.hid hn2
  rw [hn2] at hn ⊢
  clear hn2
  go_enter Tryz.func67, Tryz.ntmps67
  go_wp2_with fail
  go_loop [6] (fun i => ∃ k : Nat, k ≤ n ∧ i = .int .i64 (k : Int) ∧ Hid (∀ j (hj : j < S.structs.length), j < k → (S.structs[j]'hj).name ≠ nm)) (fun i => n - (intOf i).toNat)
  case atStart => exact ⟨0, by omega, rfl, Lib.hid fun j _ h => by omega⟩
  case round =>
    obtain ⟨k, hk, rfl, hI⟩ := hrel
    by_cases hlt : k < n
    · obtain ⟨a, rfl, hA⟩ := hS.st.get (i := k) (by rw [HN.out]; exact hlt)
      obtain ⟨A3, c3, h0, h1, hV⟩ := hA.val
      replace h0 := cell_next hb0 h0
      replace h1 := cell_next hb0 h1
      have hblk : (a.add (k * 2)).block < w.heap.size := blk_lt h0
      have hx : (S.structs[k]'(by rw [HN.out]; exact hlt)).name = nm → fst_ St.name S.structs nm = some (S.structs[k]'(by rw [HN.out]; exact hlt)) := fun e => fst_at (by rw [HN.out]; exact hlt) hI.out e
      have hy : (S.structs[k]'(by rw [HN.out]; exact hlt)).name ≠ nm → ∀ j (hj : j < S.structs.length), j < k + 1 → (S.structs[j]'hj).name ≠ nm := fun e j hj hjk => by
        by_cases hjk2 : j < k
        · exact hI.out j hj hjk2
        · obtain rfl : j = k := by omega
          exact e
      generalize S.structs[k]'(by rw [HN.out]; exact hlt) = t at *
      by_cases e : t.name = nm
      · have E := Lib.hid (hx e)
        clear hx hy hI hA
        subst e
        have q1 := sq_t t.name
        go_wp2_with fail
        exact bodyPost_ret (v := .tuple #[.agg #[.string (bs t.name), .slice A3 t.fields.length c3], .bool true]) (by simp [results, Tryz.results67, go_sem]) rfl (.some_ E.out (fun w2 h2 => hV.next h2) (ab2 _ _ _))
      · have E := Lib.hid (hy e)
        have q1 := sq_f e
        clear hx hy hI hA
        go_wp2_with fail
        go_round
        case rel => exact ⟨k + 1, by omega, by go_num, E⟩
        case measure => simp [intOf]; omega
    · obtain rfl : k = n := by omega
      have E := Lib.hid (show fst_ St.name S.structs nm = none from fst_end fun j hj => hI.out j hj (by rw [← HN.out]; exact hj))
      clear hI
      go_wp2_with fail
      exact bodyPost_ret (v := .tuple #[.agg #[.string ⟨#[]⟩, .slice none 0 0], .bool false]) (by simp [results, Tryz.results67, go_sem]) rfl (.none_ E.out (ab2 _ _ _))
end Go.Proofs.YthfodpbecddheaaGreatDoor
/-
  The developers' zero values, where no struct must hold a struct. No conditions beyond those that each names.
-/
namespace Go.Proofs.YthfodpbecddheaaGreatDoor
open Go.RowKit Go.Sort
/-- What reads whatever the memory holds: an entry whose value has no parts. -/
def Pn (x : Int × Vl) (s : Sb) : Prop := ∀ W : World, RdV W x.2 s
theorem pn_ze (f : Fd) (s : Sb) : Pn (ze f) s := fun _ => ⟨.inl rfl, .inl rfl⟩
theorem wpList_pushP {w : World} {ops : Array Oper} {rest : List Oper} {o : Oper} {a : Act} {Q : Exit → Act → World → Prop} (hgd : o.guard = none) (sv xv : Operand)
    (ho : o.op = .call { callee := .builtin .append, args := #[sv, xv], argTypes := #[32, 32] }) (B : Nat) (v : Value) (l : List (Int × Vl)) (xs : List Value) (x : Int × Vl) (s : Sb) (g d : Nat) (hs : a.eval sv = v) (hx : a.eval xv = .slice (some ⟨g, 0, none⟩) 1 d)
    (hown : w.ownsRow B 94 6 v l.length xs) (hIL : IL 6 encE (fun _ x s => Pn x s) l xs) (hR : Pn x s) (hc : Bx w g (encE x s)) (hm : l.length ≤ 1100000) (hB : B ≤ w.heap.size)
    (h : ∀ v' xs' w', w'.ownsRow B 94 6 v' (l ++ [x]).length xs' → IL 6 encE (fun _ x s => Pn x s) (l ++ [x]) xs' → w.grownBy w' v.ownBlock → wpList Tryz.prog ops Q rest (a.put o.dst v') w') : wpList Tryz.prog ops Q (o :: rest) a w := by
  obtain ⟨i, hi, hz, hs5, hby⟩ := info_parts infoE
  refine wpList_append_own_at w hgd sv xv 32 ho B 94 i _ 6 88 Tryz.underlying32 hi hz hs5 hby rfl (by omega) v l.length xs hs hown ⟨g, 0, none⟩ 1 d (encE x s) hx rfl
    (by intro j u hj; rw [Addr.add_lit, Nat.zero_add]; exact (hc.at_ j u hj).1) (encE_one x s) (by simp only [maxLen]; omega) (by omega) hB ?_
  intro v' w' h1 h2 _ h4
  exact h v' _ w' (by rw [List.length_append]; exact h1) (hIL.snoc x s rfl hR) h2
/-- A struct's zero value out of a row of one's own, whatever becomes of elder memory. -/
theorem nwV_row {w wF : World} {lo hi n cap : Nat} {B : Option Addr} {l : List (Int × Vl)} {xs : List Value} (ho : w.ownsRow lo 94 6 (.slice B n cap) n xs) (hlo : hi ≤ lo) (hk : Kpl lo w wF) (hn : l.length = n) (h : IL 6 encE (fun _ x s => Pn x s) l xs) (k m : Int) (st : List UInt8) : NwV hi wF (.mk k m st [] l) ⟨none, 0, B, cap⟩ := fun w' hk' => by
  refine ⟨.inl rfl, ?_⟩
  by_cases h0 : n = 0
  · exact .inl (List.eq_nil_of_length_eq_zero (by show l.length = 0; omega))
  · obtain ⟨g, rfl⟩ := own_some ho h0
    have hg := ho.lt g rfl
    have hk2 : w'.heap[g]? = w.heap[g]? := by
      rw [hk'.blk g (by omega) (Nat.lt_of_lt_of_le hg.2 hk.size), hk.blk g hg.1 hg.2]
    exact rowE_of ho hk2 hn (h.mono fun j hj s hs => hs w')
theorem Kpl.own {lo : Nat} {wL wr w6 : World} {q : Option Nat} (k : Kpl lo wL wr) (hg : wr.grownBy w6 q) (hq : ∀ g, q = some g → wL.heap.size ≤ g) : Kpl lo wL w6 :=
  ⟨Nat.le_trans k.size hg.size, fun i h1 h2 => (hg.block i (Nat.lt_of_lt_of_le h2 k.size) (fun e => by have := hq i e.symm; omega)).trans (k.blk i h1 h2)⟩
theorem reW_plain {w w' : World} (k : Int) (hb : Below w.heap.size w w') : ReW (.mk k 0 [] [] []) w (.returned (.agg #[.int .i64 k, .int .i64 0, .string ⟨#[]⟩, .slice none 0 0, .slice none 0 0])) w' := ⟨⟨none, 0, none, 0⟩, rfl, fun _ _ => ⟨.inl rfl, .inl rfl⟩, hb⟩
set_option maxRecDepth 100000 in
set_option maxHeartbeats 4000000 in
theorem devZero_plain (S : Sch) (t : Ty) (v u : Value) (w : World) (h6 : t.kind ≠ 6) (hS : ScV w S v) (hT : TyV w t u) :
    Calls Tryz.prog 33 #[v, u] w (Ib (.agg #[.int .i64 t.kind, .int .i64 0, .string ⟨#[]⟩, .slice none 0 0, .slice none 0 0]) w) := by
  obtain ⟨A, c, A2, c2, rfl, hS⟩ := hS
  obtain ⟨G, g, rfl, hG⟩ := hT
  have D1 := (Bx.new3 w 25 (.int .i64 S.ver) (.slice A S.enums.length c) (.slice A2 S.structs.length c2)).next (ab2 _ (Obj.cells #[.int .i64 t.kind, .int .i64 t.size, .string (bs t.name), .slice G t.elem.length g] 29) (Obj.cells #[.int .i64 0, .int .i64 0, .string ⟨#[]⟩, .slice none 0 0, .slice none 0 0] 34))
  have D2 := (Bx.new4 (w.alloc (Obj.cells #[.int .i64 S.ver, .slice A S.enums.length c, .slice A2 S.structs.length c2] 25)) 29 (.int .i64 t.kind) (.int .i64 t.size) (.string (bs t.name)) (.slice G t.elem.length g)).next (ab1 _ (Obj.cells #[.int .i64 0, .int .i64 0, .string ⟨#[]⟩, .slice none 0 0, .slice none 0 0] 34))
  have D3 := Bx.new5 ((w.alloc (Obj.cells #[.int .i64 S.ver, .slice A S.enums.length c, .slice A2 S.structs.length c2] 25)).alloc (Obj.cells #[.int .i64 t.kind, .int .i64 t.size, .string (bs t.name), .slice G t.elem.length g] 29)) 34 (.int .i64 0) (.int .i64 0) (.string ⟨#[]⟩) (.slice none 0 0) (.slice none 0 0)
  have z1 : (w.alloc (Obj.cells #[.int .i64 S.ver, .slice A S.enums.length c, .slice A2 S.structs.length c2] 25)).heap.size = w.heap.size + 1 := by simp
  have z2 : ((w.alloc (Obj.cells #[.int .i64 S.ver, .slice A S.enums.length c, .slice A2 S.structs.length c2] 25)).alloc (Obj.cells #[.int .i64 t.kind, .int .i64 t.size, .string (bs t.name), .slice G t.elem.length g] 29)).heap.size = w.heap.size + 1 + 1 := by simp
  have z3 : (((w.alloc (Obj.cells #[.int .i64 S.ver, .slice A S.enums.length c, .slice A2 S.structs.length c2] 25)).alloc (Obj.cells #[.int .i64 t.kind, .int .i64 t.size, .string (bs t.name), .slice G t.elem.length g] 29)).alloc (Obj.cells #[.int .i64 0, .int .i64 0, .string ⟨#[]⟩, .slice none 0 0, .slice none 0 0] 34)).heap.size = w.heap.size + 1 + 1 + 1 := by simp
  rw [z1] at D2
  rw [z2] at D3
  have hab := ab3 w (Obj.cells #[.int .i64 S.ver, .slice A S.enums.length c, .slice A2 S.structs.length c2] 25) (Obj.cells #[.int .i64 t.kind, .int .i64 t.size, .string (bs t.name), .slice G t.elem.length g] 29) (Obj.cells #[.int .i64 0, .int .i64 0, .string ⟨#[]⟩, .slice none 0 0, .slice none 0 0] 34)
  go_enter Tryz.func33, Tryz.ntmps33
  go_upto_region 1 with (fail)
  generalize (((w.alloc (Obj.cells #[.int .i64 S.ver, .slice A S.enums.length c, .slice A2 S.structs.length c2] 25)).alloc (Obj.cells #[.int .i64 t.kind, .int .i64 t.size, .string (bs t.name), .slice G t.elem.length g] 29)).alloc (Obj.cells #[.int .i64 0, .int .i64 0, .string ⟨#[]⟩, .slice none 0 0, .slice none 0 0] 34)) = w0 at *
  have hz3 : w.heap.size + 1 + 1 < w0.heap.size := by omega
  clear z1 z2 z3
  have d6 : (t.kind != 6) = true := by simpa using h6
  clear h6 D1
  have k0 := D2.c 0 rfl
  have lk := D2.lt
  have hbx := ab1 w0 (Obj.cells #[.int .i64 t.kind, .int .i64 0, .string ⟨#[]⟩, .slice none 0 0, .slice none 0 0] 34)
  have E5 := Bx.new5 w0 34 (.int .i64 t.kind) (.int .i64 0) (.string ⟨#[]⟩) (.slice none 0 0) (.slice none 0 0)
  replace D2 := D2.next hbx
  replace D3 := D3.next hbx
  replace hab := Below.next hab hbx
  clear hS hG hbx
  go_upto_region 2 with (fail)
  generalize w0.alloc (Obj.cells #[.int .i64 t.kind, .int .i64 0, .string ⟨#[]⟩, .slice none 0 0, .slice none 0 0] 34) = w1 at *
  clear k0 lk
  have k0 := D2.c 0 rfl
  have lk := D2.lt
  have q0 := D3.f 0 rfl
  have q1 := D3.f 1 rfl
  have q2 := D3.f 2 rfl
  have q3 := D3.f 3 rfl
  have q4 := D3.f 4 rfl
  have r0 := D3.c 0 rfl
  have r1 := D3.c 1 rfl
  have r2 := D3.c 2 rfl
  have r3 := D3.c 3 rfl
  have r4 := D3.c 4 rfl
  have l3 := D3.lt
  have e0 := E5.c 0 rfl
  have e1 := E5.c 1 rfl
  have e2 := E5.c 2 rfl
  have e3 := E5.c 3 rfl
  have e4 := E5.c 4 rfl
  have l5 := E5.lt
  have hfin := gb5 hab (b := w.heap.size + 1 + 1) (by omega) (.int .i64 t.kind) (.int .i64 0) (.string ⟨#[]⟩) (.slice none 0 0) (.slice none 0 0)
  clear D2 D3 E5
  go_wp2_with fail
  refine bodyPost_ret (v := .agg #[.int .i64 t.kind, .int .i64 0, .string ⟨#[]⟩, .slice none 0 0, .slice none 0 0]) (by simp [results, Tryz.results33, go_sem, r0, r1, r2, r3, r4]) rfl ?_
  exact ⟨rfl, hfin⟩
set_option maxRecDepth 100000 in
set_option maxHeartbeats 8000000 in
theorem devZero_struct (S : Sch) (s : Int) (nm : List UInt8) (e : List Ty) (v u : Value) (w : World) (hf : Few9 S) (hp : pls S (.mk 6 s nm e) = true) (hS : ScV w S v) (hT : TyV w (.mk 6 s nm e) u) :
    Calls Tryz.prog 33 #[v, u] w (ReW (.mk 6 0 [] [] (zf (fds S (.mk 6 s nm e)))) w) := by
  have hW : (fds S (.mk 6 s nm e)).length ≤ 1000 := few_st hf nm
  have hP := Lib.hid (fun (f : Fd) (hm : f ∈ fds S (.mk 6 s nm e)) (ho : f.opt = false) => pls_at hp hm ho)
  have cS := fun A c A2 c2 W (h : Sc W S A A2) => devStruct_k S nm (.agg #[.int .i64 S.ver, .slice A S.enums.length c, .slice A2 S.structs.length c2]) W ⟨A, c, A2, c2, rfl, h⟩ hf.sl hf.st
  unfold StK at cS
  obtain ⟨o, ho⟩ : ∃ o, (fst_ St.name S.structs nm).isSome = o := ⟨_, rfl⟩
  obtain ⟨sT, hsT⟩ : ∃ sT, (fst_ St.name S.structs nm).getD st0 = sT := ⟨_, rfl⟩
  have hfd : fds S (.mk 6 s nm e) = sT.fields := by rw [← hsT]; rfl
  rw [ho, hsT] at cS
  rw [hfd] at hP hW ⊢
  clear ho hsT hfd hp hf
  obtain ⟨n, hn⟩ : ∃ n, sT.fields.length = n := ⟨_, rfl⟩
  have HN := Lib.hid hn
  rw [hn] at hW
  clear hn
  obtain ⟨A, c, A2, c2, rfl, hS⟩ := hS
  obtain ⟨G, g, rfl, hG⟩ := TyV.mk_.1 hT
  have D1 := (Bx.new3 w 25 (.int .i64 S.ver) (.slice A S.enums.length c) (.slice A2 S.structs.length c2)).next (ab2 _ (Obj.cells #[.int .i64 6, .int .i64 s, .string (bs nm), .slice G e.length g] 29) (Obj.cells #[.int .i64 0, .int .i64 0, .string ⟨#[]⟩, .slice none 0 0, .slice none 0 0] 34))
  have D2 := (Bx.new4 (w.alloc (Obj.cells #[.int .i64 S.ver, .slice A S.enums.length c, .slice A2 S.structs.length c2] 25)) 29 (.int .i64 6) (.int .i64 s) (.string (bs nm)) (.slice G e.length g)).next (ab1 _ (Obj.cells #[.int .i64 0, .int .i64 0, .string ⟨#[]⟩, .slice none 0 0, .slice none 0 0] 34))
  have D3 := Bx.new5 ((w.alloc (Obj.cells #[.int .i64 S.ver, .slice A S.enums.length c, .slice A2 S.structs.length c2] 25)).alloc (Obj.cells #[.int .i64 6, .int .i64 s, .string (bs nm), .slice G e.length g] 29)) 34 (.int .i64 0) (.int .i64 0) (.string ⟨#[]⟩) (.slice none 0 0) (.slice none 0 0)
  have z1 : (w.alloc (Obj.cells #[.int .i64 S.ver, .slice A S.enums.length c, .slice A2 S.structs.length c2] 25)).heap.size = w.heap.size + 1 := by simp
  have z2 : ((w.alloc (Obj.cells #[.int .i64 S.ver, .slice A S.enums.length c, .slice A2 S.structs.length c2] 25)).alloc (Obj.cells #[.int .i64 6, .int .i64 s, .string (bs nm), .slice G e.length g] 29)).heap.size = w.heap.size + 1 + 1 := by simp
  have z3 : (((w.alloc (Obj.cells #[.int .i64 S.ver, .slice A S.enums.length c, .slice A2 S.structs.length c2] 25)).alloc (Obj.cells #[.int .i64 6, .int .i64 s, .string (bs nm), .slice G e.length g] 29)).alloc (Obj.cells #[.int .i64 0, .int .i64 0, .string ⟨#[]⟩, .slice none 0 0, .slice none 0 0] 34)).heap.size = w.heap.size + 1 + 1 + 1 := by simp
  rw [z1] at D2
  rw [z2] at D3
  have hab := ab3 w (Obj.cells #[.int .i64 S.ver, .slice A S.enums.length c, .slice A2 S.structs.length c2] 25) (Obj.cells #[.int .i64 6, .int .i64 s, .string (bs nm), .slice G e.length g] 29) (Obj.cells #[.int .i64 0, .int .i64 0, .string ⟨#[]⟩, .slice none 0 0, .slice none 0 0] 34)
  go_enter Tryz.func33, Tryz.ntmps33
  go_upto_region 1 with (fail)
  generalize (((w.alloc (Obj.cells #[.int .i64 S.ver, .slice A S.enums.length c, .slice A2 S.structs.length c2] 25)).alloc (Obj.cells #[.int .i64 6, .int .i64 s, .string (bs nm), .slice G e.length g] 29)).alloc (Obj.cells #[.int .i64 0, .int .i64 0, .string ⟨#[]⟩, .slice none 0 0, .slice none 0 0] 34)) = w0 at *
  have hz3 : w.heap.size + 1 + 1 < w0.heap.size := by omega
  clear z1 z2 z3
  have E5 := Bx.new5 w0 34 (.int .i64 6) (.int .i64 0) (.string ⟨#[]⟩) (.slice none 0 0) (.slice none 0 0)
  have hbx := ab1 w0 (Obj.cells #[.int .i64 6, .int .i64 0, .string ⟨#[]⟩, .slice none 0 0, .slice none 0 0] 34)
  have C1 := D1.next hbx
  have C2 := D2.next hbx
  have C3 := D3.next hbx
  have hz4 : w0.heap.size + 1 ≤ (w0.alloc (Obj.cells #[.int .i64 6, .int .i64 0, .string ⟨#[]⟩, .slice none 0 0, .slice none 0 0] 34)).heap.size := by simp
  have k0 := D2.c 0 rfl
  have lk := D2.lt
  have hab4 := Below.next hab hbx
  clear hG hbx D1 D3
  go_upto_region 2 with (fail)
  generalize w0.alloc (Obj.cells #[.int .i64 6, .int .i64 0, .string ⟨#[]⟩, .slice none 0 0, .slice none 0 0] 34) = w1 at *
  clear k0 lk
  have k0 := C2.c 0 rfl
  have k2 := C2.c 2 rfl
  have s0 := C1.c 0 rfl
  have s1 := C1.c 1 rfl
  have s2 := C1.c 2 rfl
  have lk := C2.lt
  have ls := C1.lt
  go_wp2_with fail
  refine (cS A c A2 c2 w1 (Sc.next hab4 hS)).mono ?_
  rintro e' w2 ⟨v2, rfl, hV2, hb2⟩
  obtain ⟨A3, c3, hv2, -⟩ := hV2 w2 (Kpl.refl _ _)
  subst hv2
  have HV := Lib.hid (fun W (k : Kpl w1.heap.size w2 W) => show Rw FdA 7 W sT.fields A3 by
    obtain ⟨A9, c9, e9, h9⟩ := hV2 W k
    injection e9 with e9
    injection e9 with e9
    injection e9 with _ e9
    injection e9 with e9
    injection e9 with e9
    subst e9
    exact h9)
  rw [HN.out]
  have hbx := ab1 w2 (Obj.cells #[.string (bs sT.name), .slice A3 n c3] 53)
  replace C1 := (C1.next hb2).next hbx
  replace C3 := (C3.next hb2).next hbx
  replace E5 := (E5.next hb2).next hbx
  replace hab4 := Below.next hab4 (Below.next hb2 hbx)
  have hz6 : w1.heap.size ≤ (w2.alloc (Obj.cells #[.string (bs sT.name), .slice A3 n c3] 53)).heap.size := Nat.le_trans hb2.size hbx.size
  have K2 : Kpl w1.heap.size w2 (w2.alloc (Obj.cells #[.string (bs sT.name), .slice A3 n c3] 53)) := Kpl.of hbx
  have HW := Lib.hid hW
  clear cS hb2 hbx k0 k2 s0 s1 s2 lk ls C2 hV2
  have HL0 := Lib.hid (show ([] : List (Int × Vl)) = zf (sT.fields.take 0) by simp [zf])
  go_upto_region 6 with (fail)
  generalize w2.alloc (Obj.cells #[.string (bs sT.name), .slice A3 n c3] 53) = wL at *
  have HV2 := Lib.hid (fun W (k : Kpl w1.heap.size wL W) => HV.out W (K2.trans k))
  clear HV K2
  go_wp2_with fail
  go_loopw [27] (fun i wr => ∃ (k : Nat) (vE : Value) (l : List (Int × Vl)) (xs : List Value), k ≤ n ∧ i = .int .i64 (k : Int) ∧ Hid (l = zf (sT.fields.take k)) ∧ Hid (wr.ownsRow wL.heap.size 94 6 vE l.length xs) ∧ Hid (IL 6 encE (fun _ x s => Pn x s) l xs) ∧ Bx wr w.heap.size [.int .i64 S.ver, .slice A S.enums.length c, .slice A2 S.structs.length c2] ∧ Bx wr (w.heap.size + 1 + 1) [.int .i64 0, .int .i64 0, .string ⟨#[]⟩, .slice none 0 0, .slice none 0 0] ∧ Bx wr w0.heap.size [.int .i64 6, .int .i64 0, .string ⟨#[]⟩, .slice none 0 0, vE] ∧ Below w.heap.size w wr ∧ Hid (Kpl w1.heap.size wL wr)) (fun i _ => n - (intOf i).toNat)
  case atStart => exact ⟨0, .slice none 0 0, [], [], by omega, rfl, HL0, Lib.hid (World.ownsRow_nil _ _ _ _), Lib.hid (IL.nil _ _ _), C1, C3, E5, hab4, Lib.hid (Kpl.refl _ _)⟩
  case round =>
    clear HL0 C1 C3 E5 hab4
    obtain ⟨k, vE, l, xs, hk, rfl, HL, HO, HI, C1, C3, E5, hb, HK⟩ := hrel
    have l1 := C1.lt
    have l5 := E5.lt
    by_cases hlt : k < n
    · have hk1 := Lib.hid hlt
      have hkd : k < sT.fields.length := by rw [HN.out]; exact hlt
      have hll : l.length ≤ 1000 := by
        rw [HL.out]
        refine Nat.le_trans (zf_len _) ?_
        rw [List.length_take]
        have := HW.out
        omega
      obtain ⟨a, rfl, hA⟩ := (HV2.out wr HK.out).get hkd
      obtain ⟨x0, x1, x2, x3, x4, ⟨A4, c4, x5, hEt⟩, x6⟩ := hA
      have hblk : (a.add (k * 7)).block < wr.heap.size := blk_lt x0
      have HOpt := Lib.hid (fun (ho : (sT.fields[k]'hkd).opt = true) => zf_opt hkd ho)
      have HMust := Lib.hid (fun (ho : (sT.fields[k]'hkd).opt = false) => zf_must hkd ho)
      have HX := Lib.hid (hP.out (sT.fields[k]'hkd) (List.getElem_mem hkd))
      generalize sT.fields[k]'hkd = x at *
      by_cases hopt : x.opt = true
      · have HL2 := Lib.hid (show l = zf (sT.fields.take (k + 1)) by rw [HL.out, HOpt.out hopt])
        rw [hopt] at x6
        clear HOpt HMust HX HL hopt
        have hbx := ab1 wr (Obj.cells #[.int .i64 x.num, .string (bs x.name), .int .i64 x.type.kind, .int .i64 x.type.size, .string (bs x.type.name), .slice A4 x.type.elem.length c4, .bool true] 57)
        go_wp2_with fail
        go_roundw
        case rel => exact ⟨k + 1, vE, l, xs, hk1.out, by go_num, HL2, Lib.hid (own_next HO.out hbx), HI, C1.next hbx, C3.next hbx, E5.next hbx, Below.next hb hbx, Lib.hid (HK.out.trans (Kpl.of hbx))⟩
        case measure => have := hk1.out; simp [intOf]; omega
      · have hopt : x.opt = false := by simpa using hopt
        have HL2 := Lib.hid (show l ++ [ze x] = zf (sT.fields.take (k + 1)) by rw [HL.out, HMust.out hopt])
        have hx6 := (HX.out hopt).2
        rw [hopt] at x6
        clear HOpt HMust HX HL hopt
        have hbx := ab1 wr (Obj.cells #[.int .i64 x.num, .string (bs x.name), .int .i64 x.type.kind, .int .i64 x.type.size, .string (bs x.type.name), .slice A4 x.type.elem.length c4, .bool false] 57)
        have B9 := Bx.new7 wr 57 (.int .i64 x.num) (.string (bs x.name)) (.int .i64 x.type.kind) (.int .i64 x.type.size) (.string (bs x.type.name)) (.slice A4 x.type.elem.length c4) (.bool false)
        replace C1 := C1.next hbx
        replace C3 := C3.next hbx
        replace E5 := E5.next hbx
        have hO2 := own_next HO.out hbx
        have hb4 := Below.next hb hbx
        have hK4 := HK.out.trans (Kpl.of (lo := w1.heap.size) hbx)
        have hEt4 := hEt.next fun x p => TyA.next hbx x p
        go_upto_region 9 with (fail)
        generalize wr.alloc (Obj.cells #[.int .i64 x.num, .string (bs x.name), .int .i64 x.type.kind, .int .i64 x.type.size, .string (bs x.type.name), .slice A4 x.type.elem.length c4, .bool false] 57) = w4 at *
        have s0 := C1.c 0 rfl
        have s1 := C1.c 1 rfl
        have s2 := C1.c 2 rfl
        have e4 := E5.c 4 rfl
        have x0 := B9.c 0 rfl
        have x2 := B9.c 2 rfl
        have x3 := B9.c 3 rfl
        have x4 := B9.c 4 rfl
        have x5 := B9.c 5 rfl
        have cP := fun W (h : Below w4.heap.size w4 W) => devZero_plain S x.type (.agg #[.int .i64 S.ver, .slice A S.enums.length c, .slice A2 S.structs.length c2]) (.agg #[.int .i64 x.type.kind, .int .i64 x.type.size, .string (bs x.type.name), .slice A4 x.type.elem.length c4]) W hx6 ⟨A, c, A2, c2, rfl, Sc.next (Below.next hb4 h) hS⟩ ⟨A4, c4, rfl, hEt4.next fun x p => TyA.next h x p⟩
        refine wp_region_seqN (by kernel_rfl) (FF [(2, Fact.at_ w4 (.pointer (some ⟨w.heap.size, 0, none⟩))), (5, Fact.at_ w4 (.pointer (some ⟨w0.heap.size, 0, none⟩))), (9, Fact.at_ w4 (.pointer (some ⟨wr.heap.size, 0, none⟩))), (34, Fact.at_ w4 (.pointer (some ⟨w0.heap.size, 4, none⟩))), (35, Fact.at_ w4 vE), (36, Fact.at_ w4 (.pointer (some ⟨wr.heap.size, 0, none⟩))), (37, Fact.at_ w4 (.int .i64 x.num)), (38, Fact.at_ w4 (.agg #[.int .i64 S.ver, .slice A S.enums.length c, .slice A2 S.structs.length c2])), (39, Fact.at_ w4 (.pointer (some ⟨wr.heap.size, 2, none⟩))), (40, Fact.at_ w4 (.agg #[.int .i64 x.type.kind, .int .i64 x.type.size, .string (bs x.type.name), .slice A4 x.type.elem.length c4])), (41, Fact.at_ w4 (.agg #[.int .i64 x.type.kind, .int .i64 0, .string ⟨#[]⟩, .slice none 0 0, .slice none 0 0])), (42, Fact.at_ w4 (.agg #[.int .i64 x.num, .int .i64 x.type.kind, .int .i64 0, .string ⟨#[]⟩, .slice none 0 0, .slice none 0 0])), (43, FNb [.int .i64 x.num, .int .i64 x.type.kind, .int .i64 0, .string ⟨#[]⟩, .slice none 0 0, .slice none 0 0] w4)]) [2, 5, 9] [] 48 10 [34, 35, 36, 37, 38, 39, 40, 41, 42, 43] rfl (by kernel_rfl) (by kernel_rfl) (by decide) (by kernel_rfl) (by kernel_rfl) ?_ ?_ ?_
        · intro t9 ht9
          simp only [List.mem_cons, List.not_mem_nil, or_false] at ht9
          rcases ht9 with rfl | rfl | rfl
          · exact ⟨rfl, Below.refl _ _⟩
          · exact ⟨rfl, Below.refl _ _⟩
          · exact ⟨rfl, Below.refl _ _⟩
        · refine fcs ⟨Ob.new_ (at1 5 34 (.pointer (some ⟨w0.heap.size, 0, none⟩)) (.pointer (some ⟨w0.heap.size, 4, none⟩)) rfl (by first | exact .inl rfl | exact .inr ⟨_, _, _, rfl, rfl, by kernel_rfl, by decide, rfl⟩) (by kernel_rfl) rfl rfl (fun a9 W9 hb9 h9 => by simp [execOp, h9] <;> go_simp)) (by kernel_rfl), ?_⟩
          refine fcs ⟨Ob.new_ (at1 34 35 (.pointer (some ⟨w0.heap.size, 4, none⟩)) vE rfl (by first | exact .inl rfl | exact .inr ⟨_, _, _, rfl, rfl, by kernel_rfl, by decide, rfl⟩) (by kernel_rfl) rfl rfl (fun a9 W9 hb9 h9 => by have g0 := cell_next hb9 e4; simp [execOp, h9] <;> go_simp)) (by kernel_rfl), ?_⟩
          refine fcs ⟨Ob.new_ (at1 9 36 (.pointer (some ⟨wr.heap.size, 0, none⟩)) (.pointer (some ⟨wr.heap.size, 0, none⟩)) rfl (by first | exact .inl rfl | exact .inr ⟨_, _, _, rfl, rfl, by kernel_rfl, by decide, rfl⟩) (by kernel_rfl) rfl rfl (fun a9 W9 hb9 h9 => by simp [execOp, h9] <;> go_simp)) (by kernel_rfl), ?_⟩
          refine fcs ⟨Ob.new_ (at1 36 37 (.pointer (some ⟨wr.heap.size, 0, none⟩)) (.int .i64 x.num) rfl (by first | exact .inl rfl | exact .inr ⟨_, _, _, rfl, rfl, by kernel_rfl, by decide, rfl⟩) (by kernel_rfl) rfl rfl (fun a9 W9 hb9 h9 => by have g0 := cell_next hb9 x0; simp [execOp, h9] <;> go_simp)) (by kernel_rfl), ?_⟩
          refine fcs ⟨Ob.new_ (at1 2 38 (.pointer (some ⟨w.heap.size, 0, none⟩)) (.agg #[.int .i64 S.ver, .slice A S.enums.length c, .slice A2 S.structs.length c2]) rfl (by first | exact .inl rfl | exact .inr ⟨_, _, _, rfl, rfl, by kernel_rfl, by decide, rfl⟩) (by kernel_rfl) rfl rfl (fun a9 W9 hb9 h9 => by have g0 := cell_next hb9 s0; have g1 := cell_next hb9 s1; have g2 := cell_next hb9 s2; simp [execOp, h9] <;> go_simp)) (by kernel_rfl), ?_⟩
          refine fcs ⟨Ob.new_ (at1 9 39 (.pointer (some ⟨wr.heap.size, 0, none⟩)) (.pointer (some ⟨wr.heap.size, 2, none⟩)) rfl (by first | exact .inl rfl | exact .inr ⟨_, _, _, rfl, rfl, by kernel_rfl, by decide, rfl⟩) (by kernel_rfl) rfl rfl (fun a9 W9 hb9 h9 => by simp [execOp, h9] <;> go_simp)) (by kernel_rfl), ?_⟩
          refine fcs ⟨Ob.new_ (at1 39 40 (.pointer (some ⟨wr.heap.size, 2, none⟩)) (.agg #[.int .i64 x.type.kind, .int .i64 x.type.size, .string (bs x.type.name), .slice A4 x.type.elem.length c4]) rfl (by first | exact .inl rfl | exact .inr ⟨_, _, _, rfl, rfl, by kernel_rfl, by decide, rfl⟩) (by kernel_rfl) rfl rfl (fun a9 W9 hb9 h9 => by have g0 := cell_next hb9 x2; have g1 := cell_next hb9 x3; have g2 := cell_next hb9 x4; have g3 := cell_next hb9 x5; simp [execOp, h9] <;> go_simp)) (by kernel_rfl), ?_⟩
          refine fcs ⟨Ob.new_ (atc2 33 38 40 41 (.agg #[.int .i64 S.ver, .slice A S.enums.length c, .slice A2 S.structs.length c2]) (.agg #[.int .i64 x.type.kind, .int .i64 x.type.size, .string (bs x.type.name), .slice A4 x.type.elem.length c4]) (.agg #[.int .i64 x.type.kind, .int .i64 0, .string ⟨#[]⟩, .slice none 0 0, .slice none 0 0]) _ rfl rfl (by first | exact .inl rfl | exact .inr ⟨_, _, _, rfl, rfl, by kernel_rfl, by decide, rfl⟩) (by kernel_rfl) (by kernel_rfl) rfl rfl (by kernel_rfl) rfl (fun W9 hb9 => cP W9 hb9)) (by kernel_rfl), ?_⟩
          refine fcs ⟨Ob.new_ (at2 37 41 42 (.int .i64 x.num) (.agg #[.int .i64 x.type.kind, .int .i64 0, .string ⟨#[]⟩, .slice none 0 0, .slice none 0 0]) (.agg #[.int .i64 x.num, .int .i64 x.type.kind, .int .i64 0, .string ⟨#[]⟩, .slice none 0 0, .slice none 0 0]) rfl (by first | exact .inl rfl | exact .inr ⟨_, _, _, rfl, rfl, by kernel_rfl, by decide, rfl⟩) (by kernel_rfl) (by kernel_rfl) rfl rfl rfl (fun a9 W9 hb9 h9 h8 => by simp [execOp, h9, h8] <;> go_simp)) (by kernel_rfl), ?_⟩
          refine fcs ⟨Ob.new_ (at_val (W0 := w4) (by first | exact .inl rfl | exact .inr ⟨_, _, _, rfl, rfl, by kernel_rfl, by decide, rfl⟩) (fun a9 W9 hf9 => by have p42 := hf9 42 (by kernel_rfl); have h9 : a9.eval (.tmp 42) = (.agg #[.int .i64 x.num, .int .i64 x.type.kind, .int .i64 0, .string ⟨#[]⟩, .slice none 0 0, .slice none 0 0]) := p42.1; exact ⟨.slice (some ⟨W9.heap.size, 0, none⟩) 1 1, W9.alloc (Obj.cells #[.int .i64 x.num, .int .i64 x.type.kind, .int .i64 0, .string ⟨#[]⟩, .slice none 0 0, .slice none 0 0] 94), by simp [execOp, h9] <;> go_simp, ab1 _ _, fun s hs => by injection hs with hs; subst hs; exact ⟨W9.heap.size, rfl, Bx.new6 _ _ _ _ _ _ _ _, p42.2.size, upG p42.2 (ab1 _ _)⟩⟩)) (by kernel_rfl), ?_⟩
          exact fnl
        intro vv wv hvv hbv _ _
        have hv35 : vv 35 = vE := (hvv 35 (by decide)).1
        simp only [lay, List.foldl_cons, List.foldl_nil, List.setIfInBounds_toArray, List.set_cons_succ, List.set_cons_zero, hv35, List.drop_succ_cons, List.drop_zero]
        obtain ⟨gb, e43, hBb, -, -⟩ := hvv 43 (by decide)
        simp only [e43]
        have C1' := C1.next hbv
        have C3' := C3.next hbv
        have E5' := E5.next hbv
        have hb2 := Below.next hb4 hbv
        have hK2 := hK4.trans (Kpl.of (lo := w1.heap.size) hbv)
        have hO3 := own_next hO2 hbv
        have hZ2 : wL.heap.size ≤ wv.heap.size := hK2.size
        have hI2 := HI.out
        have hne1 : ∀ g, vE.ownBlock = some g → wL.heap.size ≤ g := fun g e => (hO3.lt g e).1
        have hLz := hz6
        clear hvv e43 s0 s1 s2 e4 x0 x2 x3 x4 x5 x6 x1 cP C1 C3 E5 B9 HO HI hO2 hblk hEt hEt4 hK4 HK l1 l5
        go_wp2_with (at_builtin; refine wpList_pushP rfl (.tmp 35) (.tmp 43) rfl wL.heap.size vE l xs (ze x) ⟨none, 0, none, 0⟩ gb 1 rfl rfl hO3 hI2 (pn_ze x _) hBb (by omega) hZ2 ?_; intro v' xs' w6 hO6 hI6 hg'; obtain ⟨Bv, nv, cv, rfl⟩ := own_slice2 hO6; have T5 := E5'.gbo hg' (fun g hg e => by have := hne1 g hg; omega); have y4 := T5.c 4 rfl; have y5 := T5.f 4 rfl; have y6 := T5.lt)
        go_roundw
        case rel =>
          have gs := gb_set1 w6 ⟨w0.heap.size, 4, none⟩ (.slice Bv nv cv)
          have hne4 : Value.ownBlock (.slice Bv nv cv) ≠ some (w0.heap.size) := fun e => by have := (hO6.lt _ e).1; omega
          exact ⟨k + 1, .slice Bv nv cv, l ++ [ze x], xs', hk1.out, by go_num, HL2, Lib.hid (hO6.kept gs (.inr hne4)), Lib.hid hI6, (C1'.gbo hg' (fun g hg e => by have := hne1 g hg; omega)).gb gs (by show w.heap.size ≠ w0.heap.size; omega), (C3'.gbo hg' (fun g hg e => by have := hne1 g hg; omega)).gb gs (by show w.heap.size + 1 + 1 ≠ w0.heap.size; omega), T5.put1 4 _, (hb2.grown hg' hb2.size (fun b e => by have := hne1 b e; omega)).setCell (by show w.heap.size ≤ w0.heap.size; omega) _, Lib.hid ((hK2.own hg' hne1).set (by show w0.heap.size < w1.heap.size; omega) _)⟩
        case measure => have := hk1.out; simp [intOf]; omega
    · obtain rfl : k = n := by omega
      obtain ⟨Bv, nv, cv, rfl⟩ := own_slice2 HO.out
      obtain rfl : nv = l.length := by obtain ⟨_, _, e⟩ := own_form HO.out; injection e
      obtain ⟨nv, hnv⟩ : ∃ nv, l.length = nv := ⟨_, rfl⟩
      rw [hnv] at HO E5
      have HNV := Lib.hid hnv
      have HL2 := Lib.hid (show zf sT.fields = l by rw [HL.out, ← HN.out, List.take_length])
      clear hnv HL
      have s0 := E5.c 0 rfl
      have s1 := E5.c 1 rfl
      have s2 := E5.c 2 rfl
      have s3 := E5.c 3 rfl
      have s4 := E5.c 4 rfl
      have q0 := C3.f 0 rfl
      have q1 := C3.f 1 rfl
      have q2 := C3.f 2 rfl
      have q3 := C3.f 3 rfl
      have q4 := C3.f 4 rfl
      have r0 := C3.c 0 rfl
      have r1 := C3.c 1 rfl
      have r2 := C3.c 2 rfl
      have r3 := C3.c 3 rfl
      have r4 := C3.c 4 rfl
      have l3 := C3.lt
      have hfin := gb5 hb (b := w.heap.size + 1 + 1) (by omega) (.int .i64 6) (.int .i64 0) (.string ⟨#[]⟩) (.slice none 0 0) (.slice Bv nv cv)
      have hKF := Kpl.gb (hi := wL.heap.size) (gb_set5 wr (w.heap.size + 1 + 1) (.int .i64 6) (.int .i64 0) (.string ⟨#[]⟩) (.slice none 0 0) (.slice Bv nv cv)) (by omega)
      go_wp2_with fail
      refine bodyPost_ret (v := .agg #[.int .i64 6, .int .i64 0, .string ⟨#[]⟩, .slice none 0 0, .slice Bv nv cv]) (by simp [results, Tryz.results33, go_sem, r0, r1, r2, r3, r4]) rfl ?_
      generalize (((((wr.setCell ⟨w.heap.size + 1 + 1, 0, none⟩ (.int .i64 6)).setCell ⟨w.heap.size + 1 + 1, 1, none⟩ (.int .i64 0)).setCell ⟨w.heap.size + 1 + 1, 2, none⟩ (.string ⟨#[]⟩)).setCell ⟨w.heap.size + 1 + 1, 3, none⟩ (.slice none 0 0)).setCell ⟨w.heap.size + 1 + 1, 4, none⟩ (.slice Bv nv cv)) = wF at *
      rw [HL2.out]
      refine ⟨⟨none, 0, Bv, cv⟩, ?_, nwV_row HO.out (by omega) hKF HNV.out HI.out 6 0 [], hfin⟩
      show Ending.returned _ = Ending.returned (.agg #[.int .i64 6, .int .i64 0, .string ⟨#[]⟩, .slice none 0 0, .slice Bv l.length cv])
      rw [HNV.out]
end Go.Proofs.YthfodpbecddheaaGreatDoor


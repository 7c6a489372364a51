/-
  The laws of checksums, hashes and seals: they return true. The tables of utf8 as the program laid them; a string's length below 2^47.
-/
import Derived.Test.YtghmbglnhcdbjaaDoorCh
namespace Go.Proofs.YtghmbglnhcdbjaaDoor
open Go.RowKit
set_option maxRecDepth 100000 in
theorem crcs_any (l : List UInt8) (w : World) (hs : l.length ≤ 140737488355328) (hT : Tabs w) :
    Calls Tryd.prog 3 #[.string (bs l)] w (Ib (.bool true) w) := by
  have c1 := crc_any l w (by omega) hT
  have c2 := fun W => refCrc_any l W (by omega)
  have c3 : ∀ W, Tabs W → _ := fun W hW => awake_any W hW
  generalize crc l = c at c1 c2
  go_enter Tryd.func3, Tryd.ntmps3
  go_wp2_with fail
  refine c1.mono ?_
  rintro e w1 ⟨rfl, hb1⟩
  go_wp2_with fail
  refine (c2 _).mono ?_
  rintro e w2 ⟨rfl, rfl⟩
  go_wp2_with fail
  refine (c3 _ (hT.below hb1)).mono ?_
  rintro e w2 ⟨rfl, hb2⟩
  go_wp2_with fail
  go_ret
  exact ⟨rfl, Below.next hb1 hb2⟩
set_option maxRecDepth 100000 in
theorem hashes_any (l : List UInt8) (c d : Nat) (w : World) (hs : l.length ≤ 140737488355328) (hc : c ≤ 255) (hd : d ≤ 255) (hT : Tabs w) :
    Calls Tryd.prog 4 #[.string (bs l), .int .u8 (c : Int), .int .u8 (d : Int)] w (Ib (.bool true) w) := by
  have hsz : (bs l).size = l.length := rfl
  have c1 := hash_any l w (by omega) hT
  have c2 : ∀ W, Tabs W → _ := fun W hW => hash_any (l ++ [UInt8.ofNat c]) W (by simp; omega) hW
  have c3 : ∀ W, Tabs W → _ := fun W hW => hash_any (l ++ [UInt8.ofNat d]) W (by simp; omega) hW
  have c4 := fun W => refHash_any l W (by omega)
  have c5 : ∀ W, Tabs W → _ := fun W hW => awake_any W hW
  have k1 := fun W => str1 W c (by omega)
  have k2 := fun W => str1 W d (by omega)
  have a1 := bs_append l [UInt8.ofNat c]
  have a2 := bs_append l [UInt8.ofNat d]
  have z1 : (bs [UInt8.ofNat c]).size = 1 := rfl
  have z2 : (bs [UInt8.ofNat d]).size = 1 := rfl
  have hl := hash_lt l
  rw [hash_snoc, of_toNat (by omega)] at c2 c3
  obtain ⟨h, hh⟩ : ∃ h, hash l = h := ⟨_, rfl⟩
  rw [hh] at c1 c2 c3 c4 hl
  have e1 : ((mul h c : Int) == (mul h d : Int)) = ((c : Int) == (d : Int)) := by
    by_cases e : c = d
    · subst e; simp
    · have : mul h c ≠ mul h d := fun k => e (mul_inj hl (by omega) (by omega) k)
      rw [show ((c : Int) == (d : Int)) = false by simp; omega]
      simp; omega
  obtain ⟨y, hy⟩ : ∃ y, h ^^^ c = y := ⟨_, rfl⟩
  have k3 : bits BinOp.xor IntKind.u64 (h : Int) (c : Int) = (y : Int) := by rw [u64_xor_nat _ _ hl (by omega), hy]
  obtain ⟨z, hz⟩ : ∃ z, mul h c = z := ⟨_, rfl⟩
  have k4 : IntKind.u64.wrap ((y : Int) * 1099511628211) = (z : Int) := by
    rw [← hz, mul, hy, IntKind.wrap_u64]
    omega
  rw [hz] at c2 e1
  generalize mul h d = q at c3 e1
  clear hh hl hy hz
  go_enter Tryd.func4, Tryd.ntmps4
  go_wp2_with fail
  refine c1.mono ?_
  rintro e w1 ⟨rfl, hb1⟩
  clear c1
  go_wp2_with fail
  have h1 := hb1.alloc hb1.size (Obj.cells #[.int .u8 (c : Int)] 5)
  refine (c2 _ (hT.below h1)).mono ?_
  rintro e w2 ⟨rfl, hb2⟩
  have h2 := Below.next h1 hb2
  clear c2 hb1 h1 hb2
  go_wp2_with fail
  have h1 := h2.alloc h2.size (Obj.cells #[.int .u8 (d : Int)] 5)
  refine (c3 _ (hT.below h1)).mono ?_
  rintro e w3 ⟨rfl, hb3⟩
  have h3 := Below.next h1 hb3
  clear c3 h1 hb3 h2
  go_wp2_with fail
  refine (c4 _).mono ?_
  rintro e w4 ⟨rfl, rfl⟩
  go_wp2_with fail
  refine (c5 _ (hT.below h3)).mono ?_
  rintro e w4 ⟨rfl, hb4⟩
  go_wp2_with fail
  go_ret
  exact ⟨rfl, Below.next h3 hb4⟩
set_option maxRecDepth 100000 in
theorem seals_any (l m : List UInt8) (w : World) (hs : l.length ≤ 140737488355328) (hs2 : m.length ≤ 140737488355328) (hT : Tabs w) :
    Calls Tryd.prog 5 #[.string (bs l), .string (bs m)] w (Ib (.bool true) w) := by
  have c1 := seal_any l w (by omega) hT
  have c2 : ∀ W, Tabs W → _ := fun W hW => open_any (seal_ l) W (by rw [seal_length]; omega) hW
  have c3 := fun W => refSeal_any l W (by omega)
  have c4 : ∀ W, Tabs W → _ := fun W hW => open_any m W (by omega) hW
  have c5 := fun W => refOpen_any m W (by omega)
  have c6 : ∀ W, Tabs W → _ := fun W hW => awake_any W hW
  have e : (opn m).2 = 0 → seal_ (opn m).1 = m := by
    unfold opn
    split
    · intro h; cases h
    · split
      · intro _; assumption
      · intro h; cases h
  have hz : (opn m).1.length ≤ m.length := by
    unfold opn
    split
    · simp
    · split <;> simp
  have c7 : ∀ W, Tabs W → _ := fun W hW => seal_any (opn m).1 W (by omega) hW
  rw [opn_seal] at c2
  generalize seal_ l = q at c1 c2 c3
  obtain ⟨x, hx⟩ : ∃ x, (opn m).1 = x := ⟨_, rfl⟩
  obtain ⟨f, hf⟩ : ∃ f, (opn m).2 = f := ⟨_, rfl⟩
  rw [hx] at c4 c5 c7 e
  rw [hf] at c4 c5 e
  clear hz hx hf
  by_cases h0 : f = 0
  · subst h0
    rw [e rfl] at c7
    clear e
    go_enter Tryd.func5, Tryd.ntmps5
    go_wp2_with fail
    refine c1.mono ?_
    rintro e w1 ⟨rfl, hb1⟩
    go_wp2_with fail
    refine (c2 _ (hT.below hb1)).mono ?_
    rintro e w2 ⟨rfl, hb2⟩
    have h2 := Below.next hb1 hb2
    clear hb1 hb2 c1 c2
    go_wp2_with fail
    refine (c3 _).mono ?_
    rintro e w3 ⟨rfl, hb3⟩
    have h3 := Below.next h2 hb3
    clear h2 hb3 c3
    go_wp2_with fail
    refine (c4 _ (hT.below h3)).mono ?_
    rintro e w4 ⟨rfl, hb4⟩
    have h4 := Below.next h3 hb4
    clear h3 hb4 c4
    go_wp2_with fail
    refine (c5 _).mono ?_
    rintro e w5 ⟨rfl, hb5⟩
    have h5 := Below.next h4 hb5
    clear h4 hb5 c5
    go_wp2_with fail
    refine (c7 _ (hT.below h5)).mono ?_
    rintro e w6 ⟨rfl, hb6⟩
    have h6 := Below.next h5 hb6
    clear h5 hb6 c7
    go_wp2_with fail
    refine (c6 _ (hT.below h6)).mono ?_
    rintro e w7 ⟨rfl, hb7⟩
    go_wp2_with fail
    go_ret
    exact ⟨rfl, Below.next h6 hb7⟩
  · have d0 : ((f : Int) == 0) = false := by simp; omega
    have d1 : (f = 0) = False := by simp [h0]
    clear c7 e h0
    go_enter Tryd.func5, Tryd.ntmps5
    go_wp2_with fail
    refine c1.mono ?_
    rintro e w1 ⟨rfl, hb1⟩
    go_wp2_with fail
    refine (c2 _ (hT.below hb1)).mono ?_
    rintro e w2 ⟨rfl, hb2⟩
    have h2 := Below.next hb1 hb2
    clear hb1 hb2 c1 c2
    go_wp2_with fail
    refine (c3 _).mono ?_
    rintro e w3 ⟨rfl, hb3⟩
    have h3 := Below.next h2 hb3
    clear h2 hb3 c3
    go_wp2_with fail
    refine (c4 _ (hT.below h3)).mono ?_
    rintro e w4 ⟨rfl, hb4⟩
    have h4 := Below.next h3 hb4
    clear h3 hb4 c4
    go_wp2_with fail
    refine (c5 _).mono ?_
    rintro e w5 ⟨rfl, hb5⟩
    have h5 := Below.next h4 hb5
    clear h4 hb5 c5
    go_wp2_with fail
    refine (c6 _ (hT.below h5)).mono ?_
    rintro e w7 ⟨rfl, hb7⟩
    go_wp2_with fail
    go_ret
    exact ⟨rfl, Below.next h5 hb7⟩
end Go.Proofs.YtghmbglnhcdbjaaDoor

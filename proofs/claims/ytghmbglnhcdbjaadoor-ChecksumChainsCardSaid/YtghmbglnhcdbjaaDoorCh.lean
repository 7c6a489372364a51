/-
  The examples hold; the laws of checksums, hashes and seals. The tables of utf8 as the program laid them.
-/
import Derived.Test.YtghmbglnhcdbjaaDoorCg
import Derived.Test.YtghmbglnhcdbjaaDoorCe
namespace Go.Proofs.YtghmbglnhcdbjaaDoor
open Go.RowKit
theorem opn_seal (l : List UInt8) : opn (seal_ l) = (l, 0) := by
  have h1 : (seal_ l).length = 4 + l.length := seal_length l
  have h2 : (seal_ l).drop 4 = l := by
    unfold seal_
    rw [List.drop_append_of_le_length (by rw [le_length]; exact Nat.le_refl _), List.drop_of_length_le (by rw [le_length]; exact Nat.le_refl _), List.nil_append]
  unfold opn
  rw [if_neg (by omega), h2, if_pos rfl]
theorem opn_abc : opn [97, 98, 99] = ([], 1) := rfl
theorem crc_ex : crc [49, 50, 51, 52, 53, 54, 55, 56, 57] = 3808858755 := by decide +kernel
theorem hash_ex : hash [97] = 12638187200555641996 := by decide +kernel
set_option maxRecDepth 100000 in
theorem awake_any (w : World) (hT : Tabs w) : Calls Tryd.prog 11 #[] w (Ib (.bool true) w) := by
  have n1 : (⟨#[97, 98, 99]⟩ : ByteArray) = bs [97, 98, 99] := rfl
  have n2 : (⟨#[49, 50, 51, 52, 53, 54, 55, 56, 57]⟩ : ByteArray) = bs [49, 50, 51, 52, 53, 54, 55, 56, 57] := rfl
  have n3 : (⟨#[97]⟩ : ByteArray) = bs [97] := rfl
  have c1 := seal_any [97, 98, 99] w (by decide) hT
  have c2 : ∀ W, Tabs W → _ := fun W hW => open_any (seal_ [97, 98, 99]) W (by rw [seal_length]; decide) hW
  have c3 : ∀ W, Tabs W → _ := fun W hW => open_any [97, 98, 99] W (by decide) hW
  have c4 : ∀ W, Tabs W → _ := fun W hW => crc_any [49, 50, 51, 52, 53, 54, 55, 56, 57] W (by decide) hW
  have c5 : ∀ W, Tabs W → _ := fun W hW => hash_any [97] W (by decide) hW
  rw [opn_seal] at c2
  rw [opn_abc] at c3
  rw [crc_ex] at c4
  rw [hash_ex] at c5
  generalize seal_ [97, 98, 99] = q at c1 c2
  go_enter Tryd.func11, Tryd.ntmps11
  go_wp2_with fail
  refine c1.mono ?_
  rintro e w1 ⟨rfl, hb1⟩
  go_wp2_with fail
  refine (c2 _ (hT.below hb1)).mono ?_
  rintro e w2 ⟨rfl, hb2⟩
  have h2 := Below.next hb1 hb2
  clear hb1 hb2
  go_wp2_with fail
  refine (c3 _ (hT.below h2)).mono ?_
  rintro e w3 ⟨rfl, hb3⟩
  have h3 := Below.next h2 hb3
  clear h2 hb3
  go_wp2_with fail
  refine (c4 _ (hT.below h3)).mono ?_
  rintro e w4 ⟨rfl, hb4⟩
  have h4 := Below.next h3 hb4
  clear h3 hb4
  go_wp2_with fail
  refine (c5 _ (hT.below h4)).mono ?_
  rintro e w5 ⟨rfl, hb5⟩
  have h5 := Below.next h4 hb5
  clear h4 hb5
  go_wp2_with fail
  go_ret
  exact ⟨rfl, h5⟩
end Go.Proofs.YtghmbglnhcdbjaaDoor

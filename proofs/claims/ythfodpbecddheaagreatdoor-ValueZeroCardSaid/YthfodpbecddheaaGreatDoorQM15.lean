/-
  The number of an enumeration's constant: the developers' search. No conditions beyond those that each names.
-/
import Derived.Test.YthfodpbecddheaaGreatDoorQM13
import Derived.Test.YthfodpbecddheaaGreatDoorQM14
import Derived.Test.YthfodpbecddheaaGreatDoorQM09
import Derived.Deep.QuietTactic
import Derived.BigQuiet
namespace Go.Proofs.YthfodpbecddheaaGreatDoor
open Go.RowKit Go.Sort
set_option maxRecDepth 100000 in
set_option maxHeartbeats 4000000 in
theorem enum1_any (y n : Int) (g : Nat) (w : World) (hg : w.cell? ⟨g, 1, none⟩ = some (.int .i64 n)) :
    Calls Tryz.prog 130 #[.int .i64 y, .pointer (some ⟨g, 0, none⟩)] w (Is (.bool (decide (y = n))) w) := by
  have hl := blk_lt hg
  by_cases h : y = n
  · have d : (y == n) = true := by simpa using h
    rw [decide_eq_true h]
    clear h
    go_enter Tryz.func130, Tryz.ntmps130
    go_wp2_with fail
    go_ret
    exact ⟨rfl, rfl⟩
  · have d : (y == n) = false := by simpa using h
    rw [decide_eq_false h]
    clear h
    go_enter Tryz.func130, Tryz.ntmps130
    go_wp2_with fail
    go_ret
    exact ⟨rfl, rfl⟩
set_option maxRecDepth 100000 in
set_option maxHeartbeats 4000000 in
theorem indexEnum_any (l : List Int) (z : Int) (A : Option Addr) (c : Nat) (g : Nat) (w : World) (hl : l.length ≤ 9223372036854775807) (hR : Rw TyI 1 w l A) (hg : w.cell? ⟨g, 1, none⟩ = some (.int .i64 z)) :
    Calls Tryz.prog 176 #[.slice A l.length c, .func (.func 130) #[] #[.pointer (some ⟨g, 0, none⟩)]] w (Is (.int .i64 (ixI (l.findIdx? fun y => decide (y = z)))) w) := by
  have cE := fun y => enum1_any y z g w hg
  obtain ⟨n, hn⟩ : ∃ n, l.length = n := ⟨_, rfl⟩
  obtain ⟨r, hr⟩ : ∃ r, ixI (l.findIdx? fun y => decide (y = z)) = r := ⟨_, rfl⟩
  have HN := Lib.hid hn
  have HR := Lib.hid hr
  rw [hn] at hl
  rw [hn, hr]
  clear hn hr
  have H0 : Hid (∀ j (hj : j < l.length), j < 0 → decide (l[j]'hj = z) = false) := Lib.hid fun j _ h => by omega
  go_enter Tryz.func176, Tryz.ntmps176
  go_wp2_with fail
  go_loopw [8] (fun i wr => ∃ k : Nat, k ≤ n ∧ i = .int .i64 (k : Int) ∧ Hid (∀ j (hj : j < l.length), j < k → decide (l[j]'hj = z) = false) ∧ w = wr) (fun i _ => n - (intOf i).toNat)
  case atStart => exact ⟨0, by omega, rfl, H0, rfl⟩
  case round =>
    obtain ⟨k, hk, rfl, HK, rfl⟩ := hrel
    clear H0
    by_cases hlt : k < n
    · have h1 : k < l.length := by rw [HN.out]; exact hlt
      have hk1 := Lib.hid hlt
      obtain ⟨a, rfl, hA⟩ := hR.get h1
      rw [Nat.mul_one] at hA
      have hA : w.cell? (a.add k) = some (.int .i64 (l[k]'h1)) := hA
      have HF := Lib.hid (fun (h : decide (l[k]'h1 = z) = false) => show ∀ j (hj : j < l.length), j < k + 1 → decide (l[j]'hj = z) = false from fun j hj h2 => by
        by_cases e : j = k
        · subst e; exact h
        · exact HK.out j hj (by omega))
      have HT := Lib.hid (fun (h : decide (l[k]'h1 = z) = true) => show r = (k : Int) by rw [← HR.out, findIdx_at h1 h HK.out]; rfl)
      have cC := cE (l[k]'h1)
      obtain ⟨b, hbb⟩ : ∃ b, decide (l[k]'h1 = z) = b := ⟨_, rfl⟩
      rw [hbb] at cC HF HT
      generalize l[k]'h1 = u at *
      clear hR HK hbb hg cE
      cases b
      · have HF2 := Lib.hid (HF.out rfl)
        clear HF HT
        go_wp2_with fail
        refine cC.mono ?_
        rintro e w2 ⟨rfl, rfl⟩
        go_wp2_with fail
        go_roundw
        case rel => exact ⟨k + 1, hk1.out, by go_num, HF2, by first | trivial | rfl⟩
        case measure => have := hk1.out; simp [intOf]; omega
      · have HT2 := HT.out rfl
        clear HF HT
        subst HT2
        go_wp2_with fail
        refine cC.mono ?_
        rintro e w2 ⟨rfl, rfl⟩
        go_wp2_with fail
        go_ret
        exact ⟨rfl, rfl⟩
    · obtain rfl : k = n := by omega
      have HE : r = -1 := by rw [← HR.out, findIdx_none fun j hj => HK.out j hj (by rw [← HN.out]; exact hj)]; rfl
      subst HE
      clear HK hR cE
      go_wp2_with fail
      go_ret
      exact ⟨rfl, rfl⟩
set_option maxRecDepth 100000 in
set_option maxHeartbeats 4000000 in
theorem containsEnum_any (l : List Int) (z : Int) (A : Option Addr) (c : Nat) (g : Nat) (w : World) (hl : l.length ≤ 9223372036854775807) (hR : Rw TyI 1 w l A) (hg : w.cell? ⟨g, 1, none⟩ = some (.int .i64 z)) :
    Calls Tryz.prog 129 #[.slice A l.length c, .func (.func 130) #[] #[.pointer (some ⟨g, 0, none⟩)]] w (Is (.bool (l.contains z)) w) := by
  have cI := indexEnum_any l z A c g w hl hR hg
  have e := any_ix (fun y => decide (y = z)) l
  have e2 : l.contains z = l.any fun y => decide (y = z) := by
    rw [Bool.eq_iff_iff, List.contains_iff_mem, List.any_eq_true]
    exact ⟨fun h => ⟨z, h, by simp⟩, fun ⟨y, h, h2⟩ => by rw [decide_eq_true_eq] at h2; exact h2 ▸ h⟩
  rw [e2, ← e]
  generalize ixI (l.findIdx? fun y => decide (y = z)) = r at cI ⊢
  clear e e2
  generalize l.length = n at *
  go_enter Tryz.func129, Tryz.ntmps129
  go_wp2_with fail
  refine cI.mono ?_
  rintro e w2 ⟨rfl, rfl⟩
  go_wp2_with fail
  go_ret
  exact ⟨rfl, rfl⟩
end Go.Proofs.YthfodpbecddheaaGreatDoor
/-
  The developers' check of an enumeration's number. No conditions beyond those that each names.
-/
namespace Go.Proofs.YthfodpbecddheaaGreatDoor
open Go.RowKit Go.Sort
set_option maxRecDepth 100000 in
set_option maxHeartbeats 8000000 in
theorem enum_any (S : Sch) (A A2 : Option Addr) (c c2 : Nat) (k s : Int) (nm : List UInt8) (G : Option Addr) (g1 g2 : Nat) (q n : Int) (st : ByteArray) (A3 : Option Addr) (a1 a2 : Nat) (B : Option Addr) (b1 b2 : Nat) (w : World) (hf : Few9 S) (hS : Sc w S A A2) :
    Calls Tryz.prog 81 #[.agg #[.int .i64 S.ver, .slice A S.enums.length c, .slice A2 S.structs.length c2, .int .i64 k, .int .i64 s, .string (bs nm), .slice G g1 g2], .agg #[.int .i64 q, .int .i64 n, .string st, .slice A3 a1 a2, .slice B b1 b2]] w (Ib (.int .i64 (if ((fst_ En.name S.enums nm).getD en0).nums.contains n = true then 0 else 4)) w) := by
  have cF := fun W h => devEnum_any S nm (.agg #[.int .i64 S.ver, .slice A S.enums.length c, .slice A2 S.structs.length c2]) W ⟨A, c, A2, c2, rfl, hS.next h⟩ hf.el hf.en
  have hlN : ((fst_ En.name S.enums nm).getD en0).nums.length ≤ 9223372036854775807 := by
    cases h : fst_ En.name S.enums nm with
    | none => simp [en0]
    | some t =>
      have := (hf.en t (List.mem_of_find?_eq_some h)).2
      simp
      omega
  have D1 := (Bx.new7 w 81 (.int .i64 S.ver) (.slice A S.enums.length c) (.slice A2 S.structs.length c2) (.int .i64 k) (.int .i64 s) (.string (bs nm)) (.slice G g1 g2)).next (ab1 _ (Obj.cells #[.int .i64 q, .int .i64 n, .string st, .slice A3 a1 a2, .slice B b1 b2] 34))
  have D2 := Bx.new5 (w.alloc (Obj.cells #[.int .i64 S.ver, .slice A S.enums.length c, .slice A2 S.structs.length c2, .int .i64 k, .int .i64 s, .string (bs nm), .slice G g1 g2] 81)) 34 (.int .i64 q) (.int .i64 n) (.string st) (.slice A3 a1 a2) (.slice B b1 b2)
  have hab := ab2 w (Obj.cells #[.int .i64 S.ver, .slice A S.enums.length c, .slice A2 S.structs.length c2, .int .i64 k, .int .i64 s, .string (bs nm), .slice G g1 g2] 81) (Obj.cells #[.int .i64 q, .int .i64 n, .string st, .slice A3 a1 a2, .slice B b1 b2] 34)
  rw [show (w.alloc (Obj.cells #[.int .i64 S.ver, .slice A S.enums.length c, .slice A2 S.structs.length c2, .int .i64 k, .int .i64 s, .string (bs nm), .slice G g1 g2] 81)).heap.size = w.heap.size + 1 by simp] at D2
  generalize fst_ En.name S.enums nm = o at *
  clear hS
  obtain ⟨b, hb⟩ : ∃ b, (o.getD en0).nums.contains n = b := ⟨_, rfl⟩
  rw [hb]
  have HB := Lib.hid hb
  clear hb
  generalize S.structs.length = sl at *
  generalize S.enums.length = el at *
  cases b with
  | false =>
    rw [if_neg (by decide)]
    go_enter Tryz.func81, Tryz.ntmps81
    go_wp2_with fail
    refine (cF _ hab).mono ?_
    rintro e1 w1 ⟨v1, rfl, hV, hb1⟩
    obtain ⟨A4, c4, A5, c5, rfl, -, hR⟩ := hV
    clear cF
    replace D2 := D2.next hb1
    have cC := fun W (h : Below w1.heap.size w1 W) => containsEnum_any _ n A5 c5 (w.heap.size + 1) W hlN (hR.next fun x p => TyI.next h) (cell_next h (D2.c 1 rfl))
    rw [HB.out] at cC
    generalize (o.getD en0).nums.length = nl at *
    generalize (o.getD en0).names.length = ml at *
    generalize (o.getD en0).name = en at *
    clear hR HB hlN
    go_wp2_with fail
    refine (cC _ (ab1 _ _)).mono ?_
    rintro e2 w2 ⟨rfl, rfl⟩
    go_wp2_with fail
    go_ret
    exact ⟨rfl, Below.next (Below.next hab hb1) (ab1 _ _)⟩
  | true =>
    rw [if_pos rfl]
    go_enter Tryz.func81, Tryz.ntmps81
    go_wp2_with fail
    refine (cF _ hab).mono ?_
    rintro e1 w1 ⟨v1, rfl, hV, hb1⟩
    obtain ⟨A4, c4, A5, c5, rfl, -, hR⟩ := hV
    clear cF
    replace D2 := D2.next hb1
    have cC := fun W (h : Below w1.heap.size w1 W) => containsEnum_any _ n A5 c5 (w.heap.size + 1) W hlN (hR.next fun x p => TyI.next h) (cell_next h (D2.c 1 rfl))
    rw [HB.out] at cC
    generalize (o.getD en0).nums.length = nl at *
    generalize (o.getD en0).names.length = ml at *
    generalize (o.getD en0).name = en at *
    clear hR HB hlN
    go_wp2_with fail
    refine (cC _ (ab1 _ _)).mono ?_
    rintro e2 w2 ⟨rfl, rfl⟩
    go_wp2_with fail
    go_ret
    exact ⟨rfl, Below.next (Below.next hab hb1) (ab1 _ _)⟩
end Go.Proofs.YthfodpbecddheaaGreatDoor
/-
  The developers' Check of a number, for the self-test. No conditions beyond those that each names.
-/
namespace Go.Proofs.YthfodpbecddheaaGreatDoor
open Go.RowKit Go.Shelf
set_option maxRecDepth 100000 in
theorem index8_any (g : Nat) (c : Nat) (w : World) (h0 : w.cell? ⟨g, 0, none⟩ = some (.int .i64 8)) :
    Calls Tryz.prog 108 #[.slice (some ⟨g, 0, none⟩) 4 c, .int .i64 8] w (Is (.int .i64 0) w) := by
  have hl := blk_lt h0
  go_enter Tryz.func108, Tryz.ntmps108
  go_wp2_with fail
  go_loopw [8] (fun i wr => i = .int .i64 0 ∧ wr = w) (fun _ _ => 0)
  case atStart => exact ⟨rfl, rfl⟩
  case round =>
    obtain ⟨rfl, rfl⟩ := hrel
    go_wp2_with fail
    go_ret
    exact ⟨rfl, rfl⟩
set_option maxRecDepth 100000 in
theorem contains8_any (g : Nat) (c : Nat) (w : World) (h0 : w.cell? ⟨g, 0, none⟩ = some (.int .i64 8)) :
    Calls Tryz.prog 54 #[.slice (some ⟨g, 0, none⟩) 4 c, .int .i64 8] w (Is (.bool true) w) := by
  have c1 := index8_any g c w h0
  go_enter Tryz.func54, Tryz.ntmps54
  go_wp2_with fail
  refine c1.mono ?_
  rintro e w2 ⟨rfl, rfl⟩
  go_wp2_with fail
  go_ret
  exact ⟨rfl, rfl⟩
set_option maxRecDepth 100000 in
set_option maxHeartbeats 4000000 in
theorem exceedsN_any (n : Int) (w : World) : Calls Tryz.prog 37 #[.agg #[.int .i64 2, .int .i64 n, .string ⟨#[]⟩, .slice none 0 0, .slice none 0 0], .int .i64 6] w (Ib (.bool false) w) := by
  go_enter Tryz.func37, Tryz.ntmps37
  go_wp2_with fail
  go_ret
  exact ⟨rfl, ab2 _ _ _⟩
set_option maxRecDepth 100000 in
set_option maxHeartbeats 4000000 in
theorem permits8_any (v : Int) (E : Option Addr) (e1 e2 : Nat) (F : Option Addr) (f1 f2 : Nat) (w : World) : Calls Tryz.prog 32 #[.agg #[.int .i64 v, .slice E e1 e2, .slice F f1 f2], .agg #[.int .i64 2, .int .i64 8, .string ⟨#[]⟩, .slice none 0 0]] w (Ib (.bool true) w) := by
  have h8 := (Bx.new4 ((w.alloc (Obj.cells #[.int .i64 v, .slice E e1 e2, .slice F f1 f2] 25)).alloc (Obj.cells #[.int .i64 2, .int .i64 8, .string ⟨#[]⟩, .slice none 0 0] 29)) 3 (.int .i64 8) (.int .i64 16) (.int .i64 32) (.int .i64 64)).c 0 rfl
  rw [show ((w.alloc (Obj.cells #[.int .i64 v, .slice E e1 e2, .slice F f1 f2] 25)).alloc (Obj.cells #[.int .i64 2, .int .i64 8, .string ⟨#[]⟩, .slice none 0 0] 29)).heap.size = w.heap.size + 1 + 1 by simp] at h8
  have c1 := contains8_any (w.heap.size + 1 + 1) 4 _ h8
  clear h8
  go_enter Tryz.func32, Tryz.ntmps32
  go_wp2_with fail
  refine c1.mono ?_
  rintro e w2 ⟨rfl, rfl⟩
  go_wp2_with fail
  go_ret
  exact ⟨rfl, ab3 _ _ _ _⟩
set_option maxRecDepth 100000 in
set_option maxHeartbeats 4000000 in
theorem isPure2_any (n : Int) (w : World) : Calls Tryz.prog 126 #[.agg #[.int .i64 2, .int .i64 n, .string ⟨#[]⟩, .slice none 0 0, .slice none 0 0]] w (Ib (.bool true) w) := by
  go_enter Tryz.func126, Tryz.ntmps126
  go_wp2_with fail
  go_ret
  exact ⟨rfl, ab1 _ _⟩
set_option maxRecDepth 100000 in
set_option maxHeartbeats 4000000 in
theorem signed128_any (v : Int) (E : Option Addr) (e1 e2 : Nat) (F : Option Addr) (f1 f2 : Nat) (w : World) : Calls Tryz.prog 76 #[.agg #[.int .i64 v, .slice E e1 e2, .slice F f1 f2, .int .i64 2, .int .i64 8, .string ⟨#[]⟩, .slice none 0 0], .agg #[.int .i64 2, .int .i64 128, .string ⟨#[]⟩, .slice none 0 0, .slice none 0 0]] w (Ib (.int .i64 4) w) := by
  go_enter Tryz.func76, Tryz.ntmps76
  go_wp2_with (go_in)
  go_ret
  exact ⟨rfl, ab2 _ _ _⟩
set_option maxRecDepth 100000 in
set_option maxHeartbeats 4000000 in
theorem admit128_any (v : Int) (E : Option Addr) (e1 e2 : Nat) (F : Option Addr) (f1 f2 : Nat) (w : World) : Calls Tryz.prog 74 #[.agg #[.int .i64 v, .slice E e1 e2, .slice F f1 f2, .int .i64 2, .int .i64 8, .string ⟨#[]⟩, .slice none 0 0], .agg #[.int .i64 2, .int .i64 128, .string ⟨#[]⟩, .slice none 0 0, .slice none 0 0], .func (.func 76) #[.agg #[.int .i64 v, .slice E e1 e2, .slice F f1 f2, .int .i64 2, .int .i64 8, .string ⟨#[]⟩, .slice none 0 0]] #[]] w (Ib (.int .i64 4) w) := by
  have cP := fun W => permits8_any v E e1 e2 F f1 f2 W
  have cI := fun W => isPure2_any 128 W
  have cS := fun W => signed128_any v E e1 e2 F f1 f2 W
  have D1 := (Bx.new7 w 81 (.int .i64 v) (.slice E e1 e2) (.slice F f1 f2) (.int .i64 2) (.int .i64 8) (.string ⟨#[]⟩) (.slice none 0 0)).next (ab1 _ (Obj.cells #[.int .i64 2, .int .i64 128, .string ⟨#[]⟩, .slice none 0 0, .slice none 0 0] 34))
  have D2 := Bx.new5 (w.alloc (Obj.cells #[.int .i64 v, .slice E e1 e2, .slice F f1 f2, .int .i64 2, .int .i64 8, .string ⟨#[]⟩, .slice none 0 0] 81)) 34 (.int .i64 2) (.int .i64 128) (.string ⟨#[]⟩) (.slice none 0 0) (.slice none 0 0)
  have hab := ab2 w (Obj.cells #[.int .i64 v, .slice E e1 e2, .slice F f1 f2, .int .i64 2, .int .i64 8, .string ⟨#[]⟩, .slice none 0 0] 81) (Obj.cells #[.int .i64 2, .int .i64 128, .string ⟨#[]⟩, .slice none 0 0, .slice none 0 0] 34)
  rw [show (w.alloc (Obj.cells #[.int .i64 v, .slice E e1 e2, .slice F f1 f2, .int .i64 2, .int .i64 8, .string ⟨#[]⟩, .slice none 0 0] 81)).heap.size = w.heap.size + 1 by simp] at D2
  go_enter Tryz.func74, Tryz.ntmps74
  go_wp2_with fail
  refine (cP _).mono ?_
  rintro e w2 ⟨rfl, hb2⟩
  replace D1 := D1.next hb2
  replace D2 := D2.next hb2
  replace hab := Below.next hab hb2
  have c0 := D1.c 0 rfl
  have c1 := D1.c 1 rfl
  have c2 := D1.c 2 rfl
  have c3 := D1.c 3 rfl
  have c4 := D1.c 4 rfl
  have c5 := D1.c 5 rfl
  have c6 := D1.c 6 rfl
  have x0 := D2.c 0 rfl
  have x1 := D2.c 1 rfl
  have x2 := D2.c 2 rfl
  have x3 := D2.c 3 rfl
  have x4 := D2.c 4 rfl
  go_wp2_with fail
  refine (cI _).mono ?_
  rintro e w3 ⟨rfl, hb3⟩
  replace D1 := D1.next hb3
  replace D2 := D2.next hb3
  replace hab := Below.next hab hb3
  clear c0 c1 c2 c3 c4 c5 c6 x0 x1 x2 x3 x4
  have x0 := D2.c 0 rfl
  have x1 := D2.c 1 rfl
  have x2 := D2.c 2 rfl
  have x3 := D2.c 3 rfl
  have x4 := D2.c 4 rfl
  go_wp2_with fail
  refine (cS _).mono ?_
  rintro e w4 ⟨rfl, hb4⟩
  go_wp2_with fail
  go_ret
  exact ⟨rfl, Below.next hab hb4⟩
set_option maxRecDepth 100000 in
set_option maxHeartbeats 4000000 in
theorem check128_any (v : Int) (E : Option Addr) (e1 e2 : Nat) (F : Option Addr) (f1 f2 : Nat) (w : World) : Calls Tryz.prog 38 #[.agg #[.int .i64 v, .slice E e1 e2, .slice F f1 f2, .int .i64 2, .int .i64 8, .string ⟨#[]⟩, .slice none 0 0], .agg #[.int .i64 2, .int .i64 128, .string ⟨#[]⟩, .slice none 0 0, .slice none 0 0]] w (Ib (.int .i64 4) w) := by
  have cA := fun W => admit128_any v E e1 e2 F f1 f2 W
  go_enter Tryz.func38, Tryz.ntmps38
  go_wp2_with fail
  refine (cA _).mono ?_
  rintro e w2 ⟨rfl, hb2⟩
  go_wp2_with fail
  go_ret
  exact ⟨rfl, Below.next (ab2 _ _ _) hb2⟩
set_option maxRecDepth 100000 in
set_option maxHeartbeats 4000000 in
theorem valueCheck128_any (v : Int) (E : Option Addr) (e1 e2 : Nat) (F : Option Addr) (f1 f2 : Nat) (w : World) : Calls Tryz.prog 16 #[.agg #[.int .i64 v, .slice E e1 e2, .slice F f1 f2], .agg #[.int .i64 2, .int .i64 8, .string ⟨#[]⟩, .slice none 0 0], .agg #[.int .i64 2, .int .i64 128, .string ⟨#[]⟩, .slice none 0 0, .slice none 0 0]] w (Ib (.int .i64 4) w) := by
  have cE := fun W => exceedsN_any 128 W
  have cC := fun W => check128_any v E e1 e2 F f1 f2 W
  have D1 := (Bx.new3 w 25 (.int .i64 v) (.slice E e1 e2) (.slice F f1 f2)).next (ab2 _ (Obj.cells #[.int .i64 2, .int .i64 8, .string ⟨#[]⟩, .slice none 0 0] 29) (Obj.cells #[.int .i64 2, .int .i64 128, .string ⟨#[]⟩, .slice none 0 0, .slice none 0 0] 34))
  have D2 := (Bx.new4 (w.alloc (Obj.cells #[.int .i64 v, .slice E e1 e2, .slice F f1 f2] 25)) 29 (.int .i64 2) (.int .i64 8) (.string ⟨#[]⟩) (.slice none 0 0)).next (ab1 _ (Obj.cells #[.int .i64 2, .int .i64 128, .string ⟨#[]⟩, .slice none 0 0, .slice none 0 0] 34))
  have D3 := Bx.new5 ((w.alloc (Obj.cells #[.int .i64 v, .slice E e1 e2, .slice F f1 f2] 25)).alloc (Obj.cells #[.int .i64 2, .int .i64 8, .string ⟨#[]⟩, .slice none 0 0] 29)) 34 (.int .i64 2) (.int .i64 128) (.string ⟨#[]⟩) (.slice none 0 0) (.slice none 0 0)
  rw [show (w.alloc (Obj.cells #[.int .i64 v, .slice E e1 e2, .slice F f1 f2] 25)).heap.size = w.heap.size + 1 by simp] at D2
  rw [show ((w.alloc (Obj.cells #[.int .i64 v, .slice E e1 e2, .slice F f1 f2] 25)).alloc (Obj.cells #[.int .i64 2, .int .i64 8, .string ⟨#[]⟩, .slice none 0 0] 29)).heap.size = w.heap.size + 1 + 1 by simp] at D3
  have hab := ab3 w (Obj.cells #[.int .i64 v, .slice E e1 e2, .slice F f1 f2] 25) (Obj.cells #[.int .i64 2, .int .i64 8, .string ⟨#[]⟩, .slice none 0 0] 29) (Obj.cells #[.int .i64 2, .int .i64 128, .string ⟨#[]⟩, .slice none 0 0, .slice none 0 0] 34)
  go_enter Tryz.func16, Tryz.ntmps16
  go_wp2_with fail
  refine (cE _).mono ?_
  rintro e w2 ⟨rfl, hb2⟩
  replace D1 := D1.next hb2
  replace D2 := D2.next hb2
  replace D3 := D3.next hb2
  replace hab := Below.next hab hb2
  have s0 := D1.c 0 rfl
  have s1 := D1.c 1 rfl
  have s2 := D1.c 2 rfl
  have t0 := D2.c 0 rfl
  have t1 := D2.c 1 rfl
  have t2 := D2.c 2 rfl
  have t3 := D2.c 3 rfl
  have x0 := D3.c 0 rfl
  have x1 := D3.c 1 rfl
  have x2 := D3.c 2 rfl
  have x3 := D3.c 3 rfl
  have x4 := D3.c 4 rfl
  go_wp2_with fail
  refine (cC _).mono ?_
  rintro e w3 ⟨rfl, hb3⟩
  go_wp2_with fail
  go_ret
  exact ⟨rfl, Below.next hab hb3⟩
/-- What the law's schemas are, as far as the self-test asks. -/
def ScU (w : World) (e : Ending) (w' : World) : Prop := ∃ v E e1 e2 F f1 f2, e = .returned (.agg #[.int .i64 v, .slice E e1 e2, .slice F f1 f2]) ∧ Below w.heap.size w w'
set_option maxRecDepth 100000 in
set_option maxHeartbeats 4000000 in
theorem schema0_any (w : World) : Calls Tryz.prog 10 #[.int .u8 0] w (ScU w) := by
  go_enter Tryz.func10, Tryz.ntmps10
  go_wp2_with fail
  refine bodyPost_ret (by simp [results, Tryz.results10, go_sem]; exact ⟨rfl, ⟨rfl, rfl, rfl⟩, rfl, rfl, rfl⟩) rfl ⟨_, _, _, _, _, _, _, rfl, ?_⟩
  repeat (first | exact ab1 _ _ | refine Below.alloc ?_ (by first | (simp; done) | (simp; omega)) _)
end Go.Proofs.YthfodpbecddheaaGreatDoor
/-
  The developers' checks of one value, by kinds. No conditions beyond those that each names.
-/
namespace Go.Proofs.YthfodpbecddheaaGreatDoor
open Go.RowKit Go.Shelf
set_option maxRecDepth 100000 in
set_option maxHeartbeats 4000000 in
theorem boolean_any (v : Int) (E : Option Addr) (e1 e2 : Nat) (F : Option Addr) (f1 f2 : Nat) (k s : Int) (nm : ByteArray) (G : Option Addr) (g1 g2 : Nat) (q n : Int) (st : ByteArray) (A : Option Addr) (a1 a2 : Nat) (B : Option Addr) (b1 b2 : Nat) (w : World) :
    Calls Tryz.prog 75 #[.agg #[.int .i64 v, .slice E e1 e2, .slice F f1 f2, .int .i64 k, .int .i64 s, .string nm, .slice G g1 g2], .agg #[.int .i64 q, .int .i64 n, .string st, .slice A a1 a2, .slice B b1 b2]] w (Ib (.int .i64 (if 0 ≤ n ∧ n ≤ 1 then 0 else 4)) w) := by
  by_cases h1 : n < 0
  · have d1 : decide (n < 0) = true := decide_eq_true h1
    rw [if_neg (by omega)]
    clear h1
    go_enter Tryz.func75, Tryz.ntmps75
    go_wp2_with (go_in)
    go_ret
    exact ⟨rfl, ab2 _ _ _⟩
  · have d1 : decide (n < 0) = false := decide_eq_false h1
    by_cases h2 : 1 < n
    · have d2 : decide (1 < n) = true := decide_eq_true h2
      rw [if_neg (by omega)]
      clear h1 h2
      go_enter Tryz.func75, Tryz.ntmps75
      go_wp2_with (go_in)
      go_ret
      exact ⟨rfl, ab2 _ _ _⟩
    · have d2 : decide (1 < n) = false := decide_eq_false h2
      rw [if_pos (by omega)]
      clear h1 h2
      go_enter Tryz.func75, Tryz.ntmps75
      go_wp2_with (go_in)
      go_ret
      exact ⟨rfl, ab2 _ _ _⟩
set_option maxRecDepth 100000 in
set_option maxHeartbeats 4000000 in
theorem signed8_any (v : Int) (E : Option Addr) (e1 e2 : Nat) (F : Option Addr) (f1 f2 : Nat) (k : Int) (nm : ByteArray) (G : Option Addr) (g1 g2 : Nat) (q n : Int) (st : ByteArray) (A : Option Addr) (a1 a2 : Nat) (B : Option Addr) (b1 b2 : Nat) (w : World) :
    Calls Tryz.prog 76 #[.agg #[.int .i64 v, .slice E e1 e2, .slice F f1 f2, .int .i64 k, .int .i64 8, .string nm, .slice G g1 g2], .agg #[.int .i64 q, .int .i64 n, .string st, .slice A a1 a2, .slice B b1 b2]] w (Ib (.int .i64 (if -128 ≤ n ∧ n ≤ 127 then 0 else 4)) w) := by
  by_cases h1 : n < -128
  · have d1 : decide (n < -128) = true := decide_eq_true h1
    rw [if_neg (by omega)]
    clear h1
    go_enter Tryz.func76, Tryz.ntmps76
    go_wp2_with (go_in)
    go_ret
    exact ⟨rfl, ab2 _ _ _⟩
  · have d1 : decide (n < -128) = false := decide_eq_false h1
    by_cases h2 : 127 < n
    · have d2 : decide (127 < n) = true := decide_eq_true h2
      rw [if_neg (by omega)]
      clear h1 h2
      go_enter Tryz.func76, Tryz.ntmps76
      go_wp2_with (go_in)
      go_ret
      exact ⟨rfl, ab2 _ _ _⟩
    · have d2 : decide (127 < n) = false := decide_eq_false h2
      rw [if_pos (by omega)]
      clear h1 h2
      go_enter Tryz.func76, Tryz.ntmps76
      go_wp2_with (go_in)
      go_ret
      exact ⟨rfl, ab2 _ _ _⟩
set_option maxRecDepth 100000 in
set_option maxHeartbeats 4000000 in
theorem signed16_any (v : Int) (E : Option Addr) (e1 e2 : Nat) (F : Option Addr) (f1 f2 : Nat) (k : Int) (nm : ByteArray) (G : Option Addr) (g1 g2 : Nat) (q n : Int) (st : ByteArray) (A : Option Addr) (a1 a2 : Nat) (B : Option Addr) (b1 b2 : Nat) (w : World) :
    Calls Tryz.prog 76 #[.agg #[.int .i64 v, .slice E e1 e2, .slice F f1 f2, .int .i64 k, .int .i64 16, .string nm, .slice G g1 g2], .agg #[.int .i64 q, .int .i64 n, .string st, .slice A a1 a2, .slice B b1 b2]] w (Ib (.int .i64 (if -32768 ≤ n ∧ n ≤ 32767 then 0 else 4)) w) := by
  by_cases h1 : n < -32768
  · have d1 : decide (n < -32768) = true := decide_eq_true h1
    rw [if_neg (by omega)]
    clear h1
    go_enter Tryz.func76, Tryz.ntmps76
    go_wp2_with (go_in)
    go_ret
    exact ⟨rfl, ab2 _ _ _⟩
  · have d1 : decide (n < -32768) = false := decide_eq_false h1
    by_cases h2 : 32767 < n
    · have d2 : decide (32767 < n) = true := decide_eq_true h2
      rw [if_neg (by omega)]
      clear h1 h2
      go_enter Tryz.func76, Tryz.ntmps76
      go_wp2_with (go_in)
      go_ret
      exact ⟨rfl, ab2 _ _ _⟩
    · have d2 : decide (32767 < n) = false := decide_eq_false h2
      rw [if_pos (by omega)]
      clear h1 h2
      go_enter Tryz.func76, Tryz.ntmps76
      go_wp2_with (go_in)
      go_ret
      exact ⟨rfl, ab2 _ _ _⟩
set_option maxRecDepth 100000 in
set_option maxHeartbeats 4000000 in
theorem signed32_any (v : Int) (E : Option Addr) (e1 e2 : Nat) (F : Option Addr) (f1 f2 : Nat) (k : Int) (nm : ByteArray) (G : Option Addr) (g1 g2 : Nat) (q n : Int) (st : ByteArray) (A : Option Addr) (a1 a2 : Nat) (B : Option Addr) (b1 b2 : Nat) (w : World) :
    Calls Tryz.prog 76 #[.agg #[.int .i64 v, .slice E e1 e2, .slice F f1 f2, .int .i64 k, .int .i64 32, .string nm, .slice G g1 g2], .agg #[.int .i64 q, .int .i64 n, .string st, .slice A a1 a2, .slice B b1 b2]] w (Ib (.int .i64 (if -2147483648 ≤ n ∧ n ≤ 2147483647 then 0 else 4)) w) := by
  by_cases h1 : n < -2147483648
  · have d1 : decide (n < -2147483648) = true := decide_eq_true h1
    rw [if_neg (by omega)]
    clear h1
    go_enter Tryz.func76, Tryz.ntmps76
    go_wp2_with (go_in)
    go_ret
    exact ⟨rfl, ab2 _ _ _⟩
  · have d1 : decide (n < -2147483648) = false := decide_eq_false h1
    by_cases h2 : 2147483647 < n
    · have d2 : decide (2147483647 < n) = true := decide_eq_true h2
      rw [if_neg (by omega)]
      clear h1 h2
      go_enter Tryz.func76, Tryz.ntmps76
      go_wp2_with (go_in)
      go_ret
      exact ⟨rfl, ab2 _ _ _⟩
    · have d2 : decide (2147483647 < n) = false := decide_eq_false h2
      rw [if_pos (by omega)]
      clear h1 h2
      go_enter Tryz.func76, Tryz.ntmps76
      go_wp2_with (go_in)
      go_ret
      exact ⟨rfl, ab2 _ _ _⟩
set_option maxRecDepth 100000 in
set_option maxHeartbeats 4000000 in
theorem signed64_any (v : Int) (E : Option Addr) (e1 e2 : Nat) (F : Option Addr) (f1 f2 : Nat) (k : Int) (nm : ByteArray) (G : Option Addr) (g1 g2 : Nat) (q n : Int) (st : ByteArray) (A : Option Addr) (a1 a2 : Nat) (B : Option Addr) (b1 b2 : Nat) (w : World) :
    Calls Tryz.prog 76 #[.agg #[.int .i64 v, .slice E e1 e2, .slice F f1 f2, .int .i64 k, .int .i64 64, .string nm, .slice G g1 g2], .agg #[.int .i64 q, .int .i64 n, .string st, .slice A a1 a2, .slice B b1 b2]] w (Ib (.int .i64 (if -9223372036854775808 ≤ n ∧ n ≤ 9223372036854775807 then 0 else 4)) w) := by
  by_cases h1 : n < -9223372036854775808
  · have d1 : decide (n < -9223372036854775808) = true := decide_eq_true h1
    rw [if_neg (by omega)]
    clear h1
    go_enter Tryz.func76, Tryz.ntmps76
    go_wp2_with (go_in)
    go_ret
    exact ⟨rfl, ab2 _ _ _⟩
  · have d1 : decide (n < -9223372036854775808) = false := decide_eq_false h1
    by_cases h2 : 9223372036854775807 < n
    · have d2 : decide (9223372036854775807 < n) = true := decide_eq_true h2
      rw [if_neg (by omega)]
      clear h1 h2
      go_enter Tryz.func76, Tryz.ntmps76
      go_wp2_with (go_in)
      go_ret
      exact ⟨rfl, ab2 _ _ _⟩
    · have d2 : decide (9223372036854775807 < n) = false := decide_eq_false h2
      rw [if_pos (by omega)]
      clear h1 h2
      go_enter Tryz.func76, Tryz.ntmps76
      go_wp2_with (go_in)
      go_ret
      exact ⟨rfl, ab2 _ _ _⟩
set_option maxRecDepth 100000 in
set_option maxHeartbeats 4000000 in
theorem crange_any (n lo hi : Int) (w : World) : Calls Tryz.prog 127 #[.int .i64 n, .int .i64 lo, .int .i64 hi] w (Is (.int .i64 (if lo ≤ n ∧ n ≤ hi then 0 else 4)) w) := by
  by_cases h1 : n < lo
  · have d1 : decide (n < lo) = true := decide_eq_true h1
    rw [if_neg (by omega)]
    clear h1
    go_enter Tryz.func127, Tryz.ntmps127
    go_wp2_with fail
    go_ret
    exact ⟨rfl, rfl⟩
  · have d1 : decide (n < lo) = false := decide_eq_false h1
    by_cases h2 : hi < n
    · have d2 : decide (hi < n) = true := decide_eq_true h2
      rw [if_neg (by omega)]
      clear h1 h2
      go_enter Tryz.func127, Tryz.ntmps127
      go_wp2_with fail
      go_ret
      exact ⟨rfl, rfl⟩
    · have d2 : decide (hi < n) = false := decide_eq_false h2
      rw [if_pos (by omega)]
      clear h1 h2
      go_enter Tryz.func127, Tryz.ntmps127
      go_wp2_with fail
      go_ret
      exact ⟨rfl, rfl⟩
set_option maxRecDepth 100000 in
set_option maxHeartbeats 4000000 in
theorem unsigned8_any (v : Int) (E : Option Addr) (e1 e2 : Nat) (F : Option Addr) (f1 f2 : Nat) (k : Int) (nm : ByteArray) (G : Option Addr) (g1 g2 : Nat) (q n : Int) (st : ByteArray) (A : Option Addr) (a1 a2 : Nat) (B : Option Addr) (b1 b2 : Nat) (w : World) :
    Calls Tryz.prog 77 #[.agg #[.int .i64 v, .slice E e1 e2, .slice F f1 f2, .int .i64 k, .int .i64 8, .string nm, .slice G g1 g2], .agg #[.int .i64 q, .int .i64 n, .string st, .slice A a1 a2, .slice B b1 b2]] w (Ib (.int .i64 (if 0 ≤ n ∧ n ≤ 255 then 0 else 4)) w) := by
  have e1 : IntKind.i64.wrap (IntKind.i64.wrap 256 - 1) = 255 := by decide
  have cR : ∀ W, Calls Tryz.prog 127 #[.int .i64 n, .int .i64 0, .int .i64 (IntKind.i64.wrap (IntKind.i64.wrap 256 - 1))] W (Is (.int .i64 (if 0 ≤ n ∧ n ≤ 255 then 0 else 4)) W) := fun W => by rw [e1]; exact crange_any n 0 255 W
  clear e1
  generalize (if (0 : Int) ≤ n ∧ n ≤ 255 then (0 : Int) else 4) = r at cR ⊢
  go_enter Tryz.func77, Tryz.ntmps77
  go_wp2_with fail
  go_quiet ((go_at_call 127; exact Calls.quiet_of_same ((cR _).mono fun _ _ h => ⟨h.1, h.2.symm⟩)))
  go_wp2_with fail
  go_ret
  exact ⟨rfl, below_drewN (ab2 _ _ _) _⟩
set_option maxRecDepth 100000 in
set_option maxHeartbeats 4000000 in
theorem unsigned16_any (v : Int) (E : Option Addr) (e1 e2 : Nat) (F : Option Addr) (f1 f2 : Nat) (k : Int) (nm : ByteArray) (G : Option Addr) (g1 g2 : Nat) (q n : Int) (st : ByteArray) (A : Option Addr) (a1 a2 : Nat) (B : Option Addr) (b1 b2 : Nat) (w : World) :
    Calls Tryz.prog 77 #[.agg #[.int .i64 v, .slice E e1 e2, .slice F f1 f2, .int .i64 k, .int .i64 16, .string nm, .slice G g1 g2], .agg #[.int .i64 q, .int .i64 n, .string st, .slice A a1 a2, .slice B b1 b2]] w (Ib (.int .i64 (if 0 ≤ n ∧ n ≤ 65535 then 0 else 4)) w) := by
  have e1 : IntKind.i64.wrap (IntKind.i64.wrap 65536 - 1) = 65535 := by decide
  have cR : ∀ W, Calls Tryz.prog 127 #[.int .i64 n, .int .i64 0, .int .i64 (IntKind.i64.wrap (IntKind.i64.wrap 65536 - 1))] W (Is (.int .i64 (if 0 ≤ n ∧ n ≤ 65535 then 0 else 4)) W) := fun W => by rw [e1]; exact crange_any n 0 65535 W
  clear e1
  generalize (if (0 : Int) ≤ n ∧ n ≤ 65535 then (0 : Int) else 4) = r at cR ⊢
  go_enter Tryz.func77, Tryz.ntmps77
  go_wp2_with fail
  go_quiet ((go_at_call 127; exact Calls.quiet_of_same ((cR _).mono fun _ _ h => ⟨h.1, h.2.symm⟩)))
  go_wp2_with fail
  go_ret
  exact ⟨rfl, below_drewN (ab2 _ _ _) _⟩
set_option maxRecDepth 100000 in
set_option maxHeartbeats 4000000 in
theorem unsigned32_any (v : Int) (E : Option Addr) (e1 e2 : Nat) (F : Option Addr) (f1 f2 : Nat) (k : Int) (nm : ByteArray) (G : Option Addr) (g1 g2 : Nat) (q n : Int) (st : ByteArray) (A : Option Addr) (a1 a2 : Nat) (B : Option Addr) (b1 b2 : Nat) (w : World) :
    Calls Tryz.prog 77 #[.agg #[.int .i64 v, .slice E e1 e2, .slice F f1 f2, .int .i64 k, .int .i64 32, .string nm, .slice G g1 g2], .agg #[.int .i64 q, .int .i64 n, .string st, .slice A a1 a2, .slice B b1 b2]] w (Ib (.int .i64 (if 0 ≤ n ∧ n ≤ 4294967295 then 0 else 4)) w) := by
  have e1 : IntKind.i64.wrap (IntKind.i64.wrap 4294967296 - 1) = 4294967295 := by decide
  have cR : ∀ W, Calls Tryz.prog 127 #[.int .i64 n, .int .i64 0, .int .i64 (IntKind.i64.wrap (IntKind.i64.wrap 4294967296 - 1))] W (Is (.int .i64 (if 0 ≤ n ∧ n ≤ 4294967295 then 0 else 4)) W) := fun W => by rw [e1]; exact crange_any n 0 4294967295 W
  clear e1
  generalize (if (0 : Int) ≤ n ∧ n ≤ 4294967295 then (0 : Int) else 4) = r at cR ⊢
  go_enter Tryz.func77, Tryz.ntmps77
  go_wp2_with fail
  go_quiet ((go_at_call 127; exact Calls.quiet_of_same ((cR _).mono fun _ _ h => ⟨h.1, h.2.symm⟩)))
  go_wp2_with fail
  go_ret
  exact ⟨rfl, below_drewN (ab2 _ _ _) _⟩
set_option maxRecDepth 100000 in
set_option maxHeartbeats 4000000 in
theorem text_any (v : Int) (E : Option Addr) (e1 e2 : Nat) (F : Option Addr) (f1 f2 : Nat) (k s : Int) (nm : ByteArray) (G : Option Addr) (g1 g2 : Nat) (q n : Int) (st : List UInt8) (A : Option Addr) (a1 a2 : Nat) (B : Option Addr) (b1 b2 : Nat) (w : World) :
    Calls Tryz.prog 78 #[.agg #[.int .i64 v, .slice E e1 e2, .slice F f1 f2, .int .i64 k, .int .i64 s, .string nm, .slice G g1 g2], .agg #[.int .i64 q, .int .i64 n, .string (bs st), .slice A a1 a2, .slice B b1 b2]] w (Ib (.int .i64 (if (st.length : Int) ≤ s then 0 else 3)) w) := by
  have hz : ((bs st).size : Int) = (st.length : Int) := rfl
  by_cases h1 : s < (st.length : Int)
  · have d1 : decide (s < (st.length : Int)) = true := decide_eq_true h1
    rw [if_neg (by omega)]
    clear h1
    go_enter Tryz.func78, Tryz.ntmps78
    go_wp2_with fail
    go_ret
    exact ⟨rfl, ab2 _ _ _⟩
  · have d1 : decide (s < (st.length : Int)) = false := decide_eq_false h1
    rw [if_pos (by omega)]
    clear h1
    go_enter Tryz.func78, Tryz.ntmps78
    go_wp2_with fail
    go_ret
    exact ⟨rfl, ab2 _ _ _⟩
end Go.Proofs.YthfodpbecddheaaGreatDoor
/-
  The developers' isPure; whole numbers in a short list. No conditions beyond those that each names.
-/
namespace Go.Proofs.YthfodpbecddheaaGreatDoor
open Go.RowKit Go.Shelf
/-- A value has nothing but what its kind uses. -/
def pur (k n : Int) (s : List UInt8) (a b : Nat) : Bool := (decide (k = 4) || decide (s = [])) && ((decide (k = 5) || decide (a = 0)) && ((decide (k = 6) || decide (b = 0)) && (decide (k ≠ 4 ∧ k ≠ 5 ∧ k ≠ 6) || decide (n = 0))))
set_option maxRecDepth 100000 in
set_option maxHeartbeats 4000000 in
theorem isPure_any (k n : Int) (s : List UInt8) (A : Option Addr) (a c : Nat) (B : Option Addr) (b d : Nat) (w : World) :
    Calls Tryz.prog 126 #[.agg #[.int .i64 k, .int .i64 n, .string (bs s), .slice A a c, .slice B b d]] w (Ib (.bool (pur k n s a b)) w) := by
  by_cases k4 : k = 4
  · subst k4
    by_cases hn : n = 0
    · have dn : (n == 0) = true := by simpa using hn
      by_cases ha : a = 0
      · have da : ((a : Int) == 0) = true := by simp; omega
        by_cases hb : b = 0
        · have db : ((b : Int) == 0) = true := by simp; omega
          rw [show pur 4 n s a b = true by simp +contextual [pur, hn, ha, hb]]
          go_enter Tryz.func126, Tryz.ntmps126
          go_wp2_with fail
          go_ret
          exact ⟨rfl, ab1 _ _⟩
        · have db : ((b : Int) == 0) = false := by simp; omega
          rw [show pur 4 n s a b = false by simp +contextual [pur, hn, ha, hb]]
          go_enter Tryz.func126, Tryz.ntmps126
          go_wp2_with fail
          go_ret
          exact ⟨rfl, ab1 _ _⟩
      · have da : ((a : Int) == 0) = false := by simp; omega
        rw [show pur 4 n s a b = false by simp +contextual [pur, hn, ha]]
        go_enter Tryz.func126, Tryz.ntmps126
        go_wp2_with fail
        go_ret
        exact ⟨rfl, ab1 _ _⟩
    · have dn : (n == 0) = false := by simpa using hn
      rw [show pur 4 n s a b = false by simp +contextual [pur, hn]]
      go_enter Tryz.func126, Tryz.ntmps126
      go_wp2_with fail
      go_ret
      exact ⟨rfl, ab1 _ _⟩
  have e4 : (k == 4) = false := by simpa using k4
  by_cases k5 : k = 5
  · subst k5
    by_cases hn : n = 0
    · have dn : (n == 0) = true := by simpa using hn
      by_cases hs : s = []
      · subst hs
        have q0 : (bs ([] : List UInt8)).toList = [] := toList_bs []
        have ds : ((bs ([] : List UInt8)).toList == []) = true := by rw [toList_bs]; rfl
        by_cases hb : b = 0
        · have db : ((b : Int) == 0) = true := by simp; omega
          rw [show pur 5 n [] a b = true by simp +contextual [pur, hn, hb]]
          go_enter Tryz.func126, Tryz.ntmps126
          go_wp2_with fail
          go_ret
          exact ⟨rfl, ab1 _ _⟩
        · have db : ((b : Int) == 0) = false := by simp; omega
          rw [show pur 5 n [] a b = false by simp +contextual [pur, hn, hb]]
          go_enter Tryz.func126, Tryz.ntmps126
          go_wp2_with fail
          go_ret
          exact ⟨rfl, ab1 _ _⟩
      · have ds : ((bs s).toList == []) = false := by rw [toList_bs, beq_eq_false_iff_ne]; exact hs
        rw [show pur 5 n s a b = false by simp +contextual [pur, hn, hs]]
        go_enter Tryz.func126, Tryz.ntmps126
        go_wp2_with fail
        go_ret
        exact ⟨rfl, ab1 _ _⟩
    · have dn : (n == 0) = false := by simpa using hn
      rw [show pur 5 n s a b = false by simp +contextual [pur, hn]]
      go_enter Tryz.func126, Tryz.ntmps126
      go_wp2_with fail
      go_ret
      exact ⟨rfl, ab1 _ _⟩
  have e5 : (k == 5) = false := by simpa using k5
  by_cases k6 : k = 6
  · subst k6
    by_cases hn : n = 0
    · have dn : (n == 0) = true := by simpa using hn
      by_cases hs : s = []
      · subst hs
        have q0 : (bs ([] : List UInt8)).toList = [] := toList_bs []
        have ds : ((bs ([] : List UInt8)).toList == []) = true := by rw [toList_bs]; rfl
        by_cases ha : a = 0
        · have da : ((a : Int) == 0) = true := by simp; omega
          rw [show pur 6 n [] a b = true by simp +contextual [pur, hn, ha]]
          go_enter Tryz.func126, Tryz.ntmps126
          go_wp2_with fail
          go_ret
          exact ⟨rfl, ab1 _ _⟩
        · have da : ((a : Int) == 0) = false := by simp; omega
          rw [show pur 6 n [] a b = false by simp +contextual [pur, hn, ha]]
          go_enter Tryz.func126, Tryz.ntmps126
          go_wp2_with fail
          go_ret
          exact ⟨rfl, ab1 _ _⟩
      · have ds : ((bs s).toList == []) = false := by rw [toList_bs, beq_eq_false_iff_ne]; exact hs
        rw [show pur 6 n s a b = false by simp +contextual [pur, hn, hs]]
        go_enter Tryz.func126, Tryz.ntmps126
        go_wp2_with fail
        go_ret
        exact ⟨rfl, ab1 _ _⟩
    · have dn : (n == 0) = false := by simpa using hn
      rw [show pur 6 n s a b = false by simp +contextual [pur, hn]]
      go_enter Tryz.func126, Tryz.ntmps126
      go_wp2_with fail
      go_ret
      exact ⟨rfl, ab1 _ _⟩
  have e6 : (k == 6) = false := by simpa using k6
  by_cases hs : s = []
  · subst hs
    have q0 : (bs ([] : List UInt8)).toList = [] := toList_bs []
    have ds : ((bs ([] : List UInt8)).toList == []) = true := by rw [toList_bs]; rfl
    by_cases ha : a = 0
    · have da : ((a : Int) == 0) = true := by simp; omega
      by_cases hb : b = 0
      · have db : ((b : Int) == 0) = true := by simp; omega
        rw [show pur k n [] a b = true by simp +contextual [pur, ha, hb, k4, k5, k6]]
        go_enter Tryz.func126, Tryz.ntmps126
        go_wp2_with fail
        go_ret
        exact ⟨rfl, ab1 _ _⟩
      · have db : ((b : Int) == 0) = false := by simp; omega
        rw [show pur k n [] a b = false by simp +contextual [pur, ha, hb, k4, k5, k6]]
        go_enter Tryz.func126, Tryz.ntmps126
        go_wp2_with fail
        go_ret
        exact ⟨rfl, ab1 _ _⟩
    · have da : ((a : Int) == 0) = false := by simp; omega
      rw [show pur k n [] a b = false by simp +contextual [pur, ha, k4, k5, k6]]
      go_enter Tryz.func126, Tryz.ntmps126
      go_wp2_with fail
      go_ret
      exact ⟨rfl, ab1 _ _⟩
  · have ds : ((bs s).toList == []) = false := by rw [toList_bs, beq_eq_false_iff_ne]; exact hs
    rw [show pur k n s a b = false by simp +contextual [pur, hs, k4, k5, k6]]
    go_enter Tryz.func126, Tryz.ntmps126
    go_wp2_with fail
    go_ret
    exact ⟨rfl, ab1 _ _⟩
end Go.Proofs.YthfodpbecddheaaGreatDoor
/-
  The developers' admit. No conditions beyond those that each names.
-/
namespace Go.Proofs.YthfodpbecddheaaGreatDoor
open Go.RowKit Go.Shelf
set_option maxRecDepth 100000 in
set_option maxHeartbeats 8000000 in
theorem admit_boolean (ver : Int) (E : Option Addr) (e1 e2 : Nat) (F : Option Addr) (f1 f2 : Nat) (k s : Int) (nm : ByteArray) (G : Option Addr) (g1 g2 : Nat) (q n : Int) (st : List UInt8) (A : Option Addr) (a1 a2 : Nat) (B : Option Addr) (b1 b2 : Nat) (p : Bool) (r : Int) (w : World)
    (cP : ∀ W, Below w.heap.size w W → Calls Tryz.prog 32 #[.agg #[.int .i64 ver, .slice E e1 e2, .slice F f1 f2], .agg #[.int .i64 k, .int .i64 s, .string nm, .slice G g1 g2]] W (Ib (.bool p) W))
    (cS : p = true → q = k → pur q n st a1 b1 = true → ∀ W, Below w.heap.size w W → Calls Tryz.prog 75 #[.agg #[.int .i64 ver, .slice E e1 e2, .slice F f1 f2, .int .i64 k, .int .i64 s, .string nm, .slice G g1 g2], .agg #[.int .i64 q, .int .i64 n, .string (bs st), .slice A a1 a2, .slice B b1 b2]] W (Ib (.int .i64 r) W)) :
    Calls Tryz.prog 74 #[.agg #[.int .i64 ver, .slice E e1 e2, .slice F f1 f2, .int .i64 k, .int .i64 s, .string nm, .slice G g1 g2], .agg #[.int .i64 q, .int .i64 n, .string (bs st), .slice A a1 a2, .slice B b1 b2], .func (.func 75) #[.agg #[.int .i64 ver, .slice E e1 e2, .slice F f1 f2, .int .i64 k, .int .i64 s, .string nm, .slice G g1 g2]] #[]] w (Ib (.int .i64 (if p = true ∧ q = k ∧ pur q n st a1 b1 = true then r else 13)) w) := by
  have cI := fun W => isPure_any q n st A a1 a2 B b1 b2 W
  have D1 := (Bx.new7 w 81 (.int .i64 ver) (.slice E e1 e2) (.slice F f1 f2) (.int .i64 k) (.int .i64 s) (.string nm) (.slice G g1 g2)).next (ab1 _ (Obj.cells #[.int .i64 q, .int .i64 n, .string (bs st), .slice A a1 a2, .slice B b1 b2] 34))
  have D2 := Bx.new5 (w.alloc (Obj.cells #[.int .i64 ver, .slice E e1 e2, .slice F f1 f2, .int .i64 k, .int .i64 s, .string nm, .slice G g1 g2] 81)) 34 (.int .i64 q) (.int .i64 n) (.string (bs st)) (.slice A a1 a2) (.slice B b1 b2)
  have hab := ab2 w (Obj.cells #[.int .i64 ver, .slice E e1 e2, .slice F f1 f2, .int .i64 k, .int .i64 s, .string nm, .slice G g1 g2] 81) (Obj.cells #[.int .i64 q, .int .i64 n, .string (bs st), .slice A a1 a2, .slice B b1 b2] 34)
  rw [show (w.alloc (Obj.cells #[.int .i64 ver, .slice E e1 e2, .slice F f1 f2, .int .i64 k, .int .i64 s, .string nm, .slice G g1 g2] 81)).heap.size = w.heap.size + 1 by simp] at D2
  generalize pur q n st a1 b1 = u at *
  cases p with
  | false =>
    rw [if_neg (fun h => by cases h.1)]
    clear cS cI
    go_enter Tryz.func74, Tryz.ntmps74
    go_wp2_with fail
    refine (cP _ hab).mono ?_
    rintro e w2 ⟨rfl, hb2⟩
    replace D1 := D1.next hb2
    replace D2 := D2.next hb2
    replace hab := Below.next hab hb2
    have c0 := D1.c 0 rfl
    have c1 := D1.c 1 rfl
    have c2 := D1.c 2 rfl
    have c3 := D1.c 3 rfl
    have c4 := D1.c 4 rfl
    have c5 := D1.c 5 rfl
    have c6 := D1.c 6 rfl
    have x0 := D2.c 0 rfl
    have x1 := D2.c 1 rfl
    have x2 := D2.c 2 rfl
    have x3 := D2.c 3 rfl
    have x4 := D2.c 4 rfl
    go_wp2_with fail
    go_ret
    exact ⟨rfl, hab⟩
  | true =>
    by_cases hq : q = k
    · subst hq
      have dq : (q != q) = false := by simp
      cases u with
      | false =>
        rw [if_neg (fun h => by cases h.2.2)]
        clear cS
        go_enter Tryz.func74, Tryz.ntmps74
        go_wp2_with fail
        refine (cP _ hab).mono ?_
        rintro e w2 ⟨rfl, hb2⟩
        replace D1 := D1.next hb2
        replace D2 := D2.next hb2
        replace hab := Below.next hab hb2
        have c0 := D1.c 0 rfl
        have c1 := D1.c 1 rfl
        have c2 := D1.c 2 rfl
        have c3 := D1.c 3 rfl
        have c4 := D1.c 4 rfl
        have c5 := D1.c 5 rfl
        have c6 := D1.c 6 rfl
        have x0 := D2.c 0 rfl
        have x1 := D2.c 1 rfl
        have x2 := D2.c 2 rfl
        have x3 := D2.c 3 rfl
        have x4 := D2.c 4 rfl
        go_wp2_with fail
        refine (cI _).mono ?_
        rintro e w3 ⟨rfl, hb3⟩
        replace D1 := D1.next hb3
        replace D2 := D2.next hb3
        replace hab := Below.next hab hb3
        clear c0 c1 c2 c3 c4 c5 c6 x0 x1 x2 x3 x4
        have c0 := D1.c 0 rfl
        have c1 := D1.c 1 rfl
        have c2 := D1.c 2 rfl
        have c3 := D1.c 3 rfl
        have c4 := D1.c 4 rfl
        have c5 := D1.c 5 rfl
        have c6 := D1.c 6 rfl
        have x0 := D2.c 0 rfl
        have x1 := D2.c 1 rfl
        have x2 := D2.c 2 rfl
        have x3 := D2.c 3 rfl
        have x4 := D2.c 4 rfl
        go_wp2_with fail
        go_ret
        exact ⟨rfl, hab⟩
      | true =>
        rw [if_pos ⟨rfl, rfl, rfl⟩]
        replace cS := cS rfl rfl rfl
        go_enter Tryz.func74, Tryz.ntmps74
        go_wp2_with fail
        refine (cP _ hab).mono ?_
        rintro e w2 ⟨rfl, hb2⟩
        replace D1 := D1.next hb2
        replace D2 := D2.next hb2
        replace hab := Below.next hab hb2
        have c0 := D1.c 0 rfl
        have c1 := D1.c 1 rfl
        have c2 := D1.c 2 rfl
        have c3 := D1.c 3 rfl
        have c4 := D1.c 4 rfl
        have c5 := D1.c 5 rfl
        have c6 := D1.c 6 rfl
        have x0 := D2.c 0 rfl
        have x1 := D2.c 1 rfl
        have x2 := D2.c 2 rfl
        have x3 := D2.c 3 rfl
        have x4 := D2.c 4 rfl
        go_wp2_with fail
        refine (cI _).mono ?_
        rintro e w3 ⟨rfl, hb3⟩
        replace D1 := D1.next hb3
        replace D2 := D2.next hb3
        replace hab := Below.next hab hb3
        clear c0 c1 c2 c3 c4 c5 c6 x0 x1 x2 x3 x4
        have c0 := D1.c 0 rfl
        have c1 := D1.c 1 rfl
        have c2 := D1.c 2 rfl
        have c3 := D1.c 3 rfl
        have c4 := D1.c 4 rfl
        have c5 := D1.c 5 rfl
        have c6 := D1.c 6 rfl
        have x0 := D2.c 0 rfl
        have x1 := D2.c 1 rfl
        have x2 := D2.c 2 rfl
        have x3 := D2.c 3 rfl
        have x4 := D2.c 4 rfl
        go_wp2_with fail
        refine (cS _ hab).mono ?_
        rintro e w4 ⟨rfl, hb4⟩
        go_wp2_with fail
        go_ret
        exact ⟨rfl, Below.next hab hb4⟩
    · have dq : (q != k) = true := by simpa using hq
      rw [if_neg (fun h => hq h.2.1)]
      clear cS cI hq
      go_enter Tryz.func74, Tryz.ntmps74
      go_wp2_with fail
      refine (cP _ hab).mono ?_
      rintro e w2 ⟨rfl, hb2⟩
      replace D1 := D1.next hb2
      replace D2 := D2.next hb2
      replace hab := Below.next hab hb2
      have c0 := D1.c 0 rfl
      have c1 := D1.c 1 rfl
      have c2 := D1.c 2 rfl
      have c3 := D1.c 3 rfl
      have c4 := D1.c 4 rfl
      have c5 := D1.c 5 rfl
      have c6 := D1.c 6 rfl
      have x0 := D2.c 0 rfl
      have x1 := D2.c 1 rfl
      have x2 := D2.c 2 rfl
      have x3 := D2.c 3 rfl
      have x4 := D2.c 4 rfl
      go_wp2_with fail
      go_ret
      exact ⟨rfl, hab⟩
set_option maxRecDepth 100000 in
set_option maxHeartbeats 8000000 in
theorem admit_signed (ver : Int) (E : Option Addr) (e1 e2 : Nat) (F : Option Addr) (f1 f2 : Nat) (k s : Int) (nm : ByteArray) (G : Option Addr) (g1 g2 : Nat) (q n : Int) (st : List UInt8) (A : Option Addr) (a1 a2 : Nat) (B : Option Addr) (b1 b2 : Nat) (p : Bool) (r : Int) (w : World)
    (cP : ∀ W, Below w.heap.size w W → Calls Tryz.prog 32 #[.agg #[.int .i64 ver, .slice E e1 e2, .slice F f1 f2], .agg #[.int .i64 k, .int .i64 s, .string nm, .slice G g1 g2]] W (Ib (.bool p) W))
    (cS : p = true → q = k → pur q n st a1 b1 = true → ∀ W, Below w.heap.size w W → Calls Tryz.prog 76 #[.agg #[.int .i64 ver, .slice E e1 e2, .slice F f1 f2, .int .i64 k, .int .i64 s, .string nm, .slice G g1 g2], .agg #[.int .i64 q, .int .i64 n, .string (bs st), .slice A a1 a2, .slice B b1 b2]] W (Ib (.int .i64 r) W)) :
    Calls Tryz.prog 74 #[.agg #[.int .i64 ver, .slice E e1 e2, .slice F f1 f2, .int .i64 k, .int .i64 s, .string nm, .slice G g1 g2], .agg #[.int .i64 q, .int .i64 n, .string (bs st), .slice A a1 a2, .slice B b1 b2], .func (.func 76) #[.agg #[.int .i64 ver, .slice E e1 e2, .slice F f1 f2, .int .i64 k, .int .i64 s, .string nm, .slice G g1 g2]] #[]] w (Ib (.int .i64 (if p = true ∧ q = k ∧ pur q n st a1 b1 = true then r else 13)) w) := by
  have cI := fun W => isPure_any q n st A a1 a2 B b1 b2 W
  have D1 := (Bx.new7 w 81 (.int .i64 ver) (.slice E e1 e2) (.slice F f1 f2) (.int .i64 k) (.int .i64 s) (.string nm) (.slice G g1 g2)).next (ab1 _ (Obj.cells #[.int .i64 q, .int .i64 n, .string (bs st), .slice A a1 a2, .slice B b1 b2] 34))
  have D2 := Bx.new5 (w.alloc (Obj.cells #[.int .i64 ver, .slice E e1 e2, .slice F f1 f2, .int .i64 k, .int .i64 s, .string nm, .slice G g1 g2] 81)) 34 (.int .i64 q) (.int .i64 n) (.string (bs st)) (.slice A a1 a2) (.slice B b1 b2)
  have hab := ab2 w (Obj.cells #[.int .i64 ver, .slice E e1 e2, .slice F f1 f2, .int .i64 k, .int .i64 s, .string nm, .slice G g1 g2] 81) (Obj.cells #[.int .i64 q, .int .i64 n, .string (bs st), .slice A a1 a2, .slice B b1 b2] 34)
  rw [show (w.alloc (Obj.cells #[.int .i64 ver, .slice E e1 e2, .slice F f1 f2, .int .i64 k, .int .i64 s, .string nm, .slice G g1 g2] 81)).heap.size = w.heap.size + 1 by simp] at D2
  generalize pur q n st a1 b1 = u at *
  cases p with
  | false =>
    rw [if_neg (fun h => by cases h.1)]
    clear cS cI
    go_enter Tryz.func74, Tryz.ntmps74
    go_wp2_with fail
    refine (cP _ hab).mono ?_
    rintro e w2 ⟨rfl, hb2⟩
    replace D1 := D1.next hb2
    replace D2 := D2.next hb2
    replace hab := Below.next hab hb2
    have c0 := D1.c 0 rfl
    have c1 := D1.c 1 rfl
    have c2 := D1.c 2 rfl
    have c3 := D1.c 3 rfl
    have c4 := D1.c 4 rfl
    have c5 := D1.c 5 rfl
    have c6 := D1.c 6 rfl
    have x0 := D2.c 0 rfl
    have x1 := D2.c 1 rfl
    have x2 := D2.c 2 rfl
    have x3 := D2.c 3 rfl
    have x4 := D2.c 4 rfl
    go_wp2_with fail
    go_ret
    exact ⟨rfl, hab⟩
  | true =>
    by_cases hq : q = k
    · subst hq
      have dq : (q != q) = false := by simp
      cases u with
      | false =>
        rw [if_neg (fun h => by cases h.2.2)]
        clear cS
        go_enter Tryz.func74, Tryz.ntmps74
        go_wp2_with fail
        refine (cP _ hab).mono ?_
        rintro e w2 ⟨rfl, hb2⟩
        replace D1 := D1.next hb2
        replace D2 := D2.next hb2
        replace hab := Below.next hab hb2
        have c0 := D1.c 0 rfl
        have c1 := D1.c 1 rfl
        have c2 := D1.c 2 rfl
        have c3 := D1.c 3 rfl
        have c4 := D1.c 4 rfl
        have c5 := D1.c 5 rfl
        have c6 := D1.c 6 rfl
        have x0 := D2.c 0 rfl
        have x1 := D2.c 1 rfl
        have x2 := D2.c 2 rfl
        have x3 := D2.c 3 rfl
        have x4 := D2.c 4 rfl
        go_wp2_with fail
        refine (cI _).mono ?_
        rintro e w3 ⟨rfl, hb3⟩
        replace D1 := D1.next hb3
        replace D2 := D2.next hb3
        replace hab := Below.next hab hb3
        clear c0 c1 c2 c3 c4 c5 c6 x0 x1 x2 x3 x4
        have c0 := D1.c 0 rfl
        have c1 := D1.c 1 rfl
        have c2 := D1.c 2 rfl
        have c3 := D1.c 3 rfl
        have c4 := D1.c 4 rfl
        have c5 := D1.c 5 rfl
        have c6 := D1.c 6 rfl
        have x0 := D2.c 0 rfl
        have x1 := D2.c 1 rfl
        have x2 := D2.c 2 rfl
        have x3 := D2.c 3 rfl
        have x4 := D2.c 4 rfl
        go_wp2_with fail
        go_ret
        exact ⟨rfl, hab⟩
      | true =>
        rw [if_pos ⟨rfl, rfl, rfl⟩]
        replace cS := cS rfl rfl rfl
        go_enter Tryz.func74, Tryz.ntmps74
        go_wp2_with fail
        refine (cP _ hab).mono ?_
        rintro e w2 ⟨rfl, hb2⟩
        replace D1 := D1.next hb2
        replace D2 := D2.next hb2
        replace hab := Below.next hab hb2
        have c0 := D1.c 0 rfl
        have c1 := D1.c 1 rfl
        have c2 := D1.c 2 rfl
        have c3 := D1.c 3 rfl
        have c4 := D1.c 4 rfl
        have c5 := D1.c 5 rfl
        have c6 := D1.c 6 rfl
        have x0 := D2.c 0 rfl
        have x1 := D2.c 1 rfl
        have x2 := D2.c 2 rfl
        have x3 := D2.c 3 rfl
        have x4 := D2.c 4 rfl
        go_wp2_with fail
        refine (cI _).mono ?_
        rintro e w3 ⟨rfl, hb3⟩
        replace D1 := D1.next hb3
        replace D2 := D2.next hb3
        replace hab := Below.next hab hb3
        clear c0 c1 c2 c3 c4 c5 c6 x0 x1 x2 x3 x4
        have c0 := D1.c 0 rfl
        have c1 := D1.c 1 rfl
        have c2 := D1.c 2 rfl
        have c3 := D1.c 3 rfl
        have c4 := D1.c 4 rfl
        have c5 := D1.c 5 rfl
        have c6 := D1.c 6 rfl
        have x0 := D2.c 0 rfl
        have x1 := D2.c 1 rfl
        have x2 := D2.c 2 rfl
        have x3 := D2.c 3 rfl
        have x4 := D2.c 4 rfl
        go_wp2_with fail
        refine (cS _ hab).mono ?_
        rintro e w4 ⟨rfl, hb4⟩
        go_wp2_with fail
        go_ret
        exact ⟨rfl, Below.next hab hb4⟩
    · have dq : (q != k) = true := by simpa using hq
      rw [if_neg (fun h => hq h.2.1)]
      clear cS cI hq
      go_enter Tryz.func74, Tryz.ntmps74
      go_wp2_with fail
      refine (cP _ hab).mono ?_
      rintro e w2 ⟨rfl, hb2⟩
      replace D1 := D1.next hb2
      replace D2 := D2.next hb2
      replace hab := Below.next hab hb2
      have c0 := D1.c 0 rfl
      have c1 := D1.c 1 rfl
      have c2 := D1.c 2 rfl
      have c3 := D1.c 3 rfl
      have c4 := D1.c 4 rfl
      have c5 := D1.c 5 rfl
      have c6 := D1.c 6 rfl
      have x0 := D2.c 0 rfl
      have x1 := D2.c 1 rfl
      have x2 := D2.c 2 rfl
      have x3 := D2.c 3 rfl
      have x4 := D2.c 4 rfl
      go_wp2_with fail
      go_ret
      exact ⟨rfl, hab⟩
set_option maxRecDepth 100000 in
set_option maxHeartbeats 8000000 in
theorem admit_unsigned (ver : Int) (E : Option Addr) (e1 e2 : Nat) (F : Option Addr) (f1 f2 : Nat) (k s : Int) (nm : ByteArray) (G : Option Addr) (g1 g2 : Nat) (q n : Int) (st : List UInt8) (A : Option Addr) (a1 a2 : Nat) (B : Option Addr) (b1 b2 : Nat) (p : Bool) (r : Int) (w : World)
    (cP : ∀ W, Below w.heap.size w W → Calls Tryz.prog 32 #[.agg #[.int .i64 ver, .slice E e1 e2, .slice F f1 f2], .agg #[.int .i64 k, .int .i64 s, .string nm, .slice G g1 g2]] W (Ib (.bool p) W))
    (cS : p = true → q = k → pur q n st a1 b1 = true → ∀ W, Below w.heap.size w W → Calls Tryz.prog 77 #[.agg #[.int .i64 ver, .slice E e1 e2, .slice F f1 f2, .int .i64 k, .int .i64 s, .string nm, .slice G g1 g2], .agg #[.int .i64 q, .int .i64 n, .string (bs st), .slice A a1 a2, .slice B b1 b2]] W (Ib (.int .i64 r) W)) :
    Calls Tryz.prog 74 #[.agg #[.int .i64 ver, .slice E e1 e2, .slice F f1 f2, .int .i64 k, .int .i64 s, .string nm, .slice G g1 g2], .agg #[.int .i64 q, .int .i64 n, .string (bs st), .slice A a1 a2, .slice B b1 b2], .func (.func 77) #[.agg #[.int .i64 ver, .slice E e1 e2, .slice F f1 f2, .int .i64 k, .int .i64 s, .string nm, .slice G g1 g2]] #[]] w (Ib (.int .i64 (if p = true ∧ q = k ∧ pur q n st a1 b1 = true then r else 13)) w) := by
  have cI := fun W => isPure_any q n st A a1 a2 B b1 b2 W
  have D1 := (Bx.new7 w 81 (.int .i64 ver) (.slice E e1 e2) (.slice F f1 f2) (.int .i64 k) (.int .i64 s) (.string nm) (.slice G g1 g2)).next (ab1 _ (Obj.cells #[.int .i64 q, .int .i64 n, .string (bs st), .slice A a1 a2, .slice B b1 b2] 34))
  have D2 := Bx.new5 (w.alloc (Obj.cells #[.int .i64 ver, .slice E e1 e2, .slice F f1 f2, .int .i64 k, .int .i64 s, .string nm, .slice G g1 g2] 81)) 34 (.int .i64 q) (.int .i64 n) (.string (bs st)) (.slice A a1 a2) (.slice B b1 b2)
  have hab := ab2 w (Obj.cells #[.int .i64 ver, .slice E e1 e2, .slice F f1 f2, .int .i64 k, .int .i64 s, .string nm, .slice G g1 g2] 81) (Obj.cells #[.int .i64 q, .int .i64 n, .string (bs st), .slice A a1 a2, .slice B b1 b2] 34)
  rw [show (w.alloc (Obj.cells #[.int .i64 ver, .slice E e1 e2, .slice F f1 f2, .int .i64 k, .int .i64 s, .string nm, .slice G g1 g2] 81)).heap.size = w.heap.size + 1 by simp] at D2
  generalize pur q n st a1 b1 = u at *
  cases p with
  | false =>
    rw [if_neg (fun h => by cases h.1)]
    clear cS cI
    go_enter Tryz.func74, Tryz.ntmps74
    go_wp2_with fail
    refine (cP _ hab).mono ?_
    rintro e w2 ⟨rfl, hb2⟩
    replace D1 := D1.next hb2
    replace D2 := D2.next hb2
    replace hab := Below.next hab hb2
    have c0 := D1.c 0 rfl
    have c1 := D1.c 1 rfl
    have c2 := D1.c 2 rfl
    have c3 := D1.c 3 rfl
    have c4 := D1.c 4 rfl
    have c5 := D1.c 5 rfl
    have c6 := D1.c 6 rfl
    have x0 := D2.c 0 rfl
    have x1 := D2.c 1 rfl
    have x2 := D2.c 2 rfl
    have x3 := D2.c 3 rfl
    have x4 := D2.c 4 rfl
    go_wp2_with fail
    go_ret
    exact ⟨rfl, hab⟩
  | true =>
    by_cases hq : q = k
    · subst hq
      have dq : (q != q) = false := by simp
      cases u with
      | false =>
        rw [if_neg (fun h => by cases h.2.2)]
        clear cS
        go_enter Tryz.func74, Tryz.ntmps74
        go_wp2_with fail
        refine (cP _ hab).mono ?_
        rintro e w2 ⟨rfl, hb2⟩
        replace D1 := D1.next hb2
        replace D2 := D2.next hb2
        replace hab := Below.next hab hb2
        have c0 := D1.c 0 rfl
        have c1 := D1.c 1 rfl
        have c2 := D1.c 2 rfl
        have c3 := D1.c 3 rfl
        have c4 := D1.c 4 rfl
        have c5 := D1.c 5 rfl
        have c6 := D1.c 6 rfl
        have x0 := D2.c 0 rfl
        have x1 := D2.c 1 rfl
        have x2 := D2.c 2 rfl
        have x3 := D2.c 3 rfl
        have x4 := D2.c 4 rfl
        go_wp2_with fail
        refine (cI _).mono ?_
        rintro e w3 ⟨rfl, hb3⟩
        replace D1 := D1.next hb3
        replace D2 := D2.next hb3
        replace hab := Below.next hab hb3
        clear c0 c1 c2 c3 c4 c5 c6 x0 x1 x2 x3 x4
        have c0 := D1.c 0 rfl
        have c1 := D1.c 1 rfl
        have c2 := D1.c 2 rfl
        have c3 := D1.c 3 rfl
        have c4 := D1.c 4 rfl
        have c5 := D1.c 5 rfl
        have c6 := D1.c 6 rfl
        have x0 := D2.c 0 rfl
        have x1 := D2.c 1 rfl
        have x2 := D2.c 2 rfl
        have x3 := D2.c 3 rfl
        have x4 := D2.c 4 rfl
        go_wp2_with fail
        go_ret
        exact ⟨rfl, hab⟩
      | true =>
        rw [if_pos ⟨rfl, rfl, rfl⟩]
        replace cS := cS rfl rfl rfl
        go_enter Tryz.func74, Tryz.ntmps74
        go_wp2_with fail
        refine (cP _ hab).mono ?_
        rintro e w2 ⟨rfl, hb2⟩
        replace D1 := D1.next hb2
        replace D2 := D2.next hb2
        replace hab := Below.next hab hb2
        have c0 := D1.c 0 rfl
        have c1 := D1.c 1 rfl
        have c2 := D1.c 2 rfl
        have c3 := D1.c 3 rfl
        have c4 := D1.c 4 rfl
        have c5 := D1.c 5 rfl
        have c6 := D1.c 6 rfl
        have x0 := D2.c 0 rfl
        have x1 := D2.c 1 rfl
        have x2 := D2.c 2 rfl
        have x3 := D2.c 3 rfl
        have x4 := D2.c 4 rfl
        go_wp2_with fail
        refine (cI _).mono ?_
        rintro e w3 ⟨rfl, hb3⟩
        replace D1 := D1.next hb3
        replace D2 := D2.next hb3
        replace hab := Below.next hab hb3
        clear c0 c1 c2 c3 c4 c5 c6 x0 x1 x2 x3 x4
        have c0 := D1.c 0 rfl
        have c1 := D1.c 1 rfl
        have c2 := D1.c 2 rfl
        have c3 := D1.c 3 rfl
        have c4 := D1.c 4 rfl
        have c5 := D1.c 5 rfl
        have c6 := D1.c 6 rfl
        have x0 := D2.c 0 rfl
        have x1 := D2.c 1 rfl
        have x2 := D2.c 2 rfl
        have x3 := D2.c 3 rfl
        have x4 := D2.c 4 rfl
        go_wp2_with fail
        refine (cS _ hab).mono ?_
        rintro e w4 ⟨rfl, hb4⟩
        go_wp2_with fail
        go_ret
        exact ⟨rfl, Below.next hab hb4⟩
    · have dq : (q != k) = true := by simpa using hq
      rw [if_neg (fun h => hq h.2.1)]
      clear cS cI hq
      go_enter Tryz.func74, Tryz.ntmps74
      go_wp2_with fail
      refine (cP _ hab).mono ?_
      rintro e w2 ⟨rfl, hb2⟩
      replace D1 := D1.next hb2
      replace D2 := D2.next hb2
      replace hab := Below.next hab hb2
      have c0 := D1.c 0 rfl
      have c1 := D1.c 1 rfl
      have c2 := D1.c 2 rfl
      have c3 := D1.c 3 rfl
      have c4 := D1.c 4 rfl
      have c5 := D1.c 5 rfl
      have c6 := D1.c 6 rfl
      have x0 := D2.c 0 rfl
      have x1 := D2.c 1 rfl
      have x2 := D2.c 2 rfl
      have x3 := D2.c 3 rfl
      have x4 := D2.c 4 rfl
      go_wp2_with fail
      go_ret
      exact ⟨rfl, hab⟩
set_option maxRecDepth 100000 in
set_option maxHeartbeats 8000000 in
theorem admit_text (ver : Int) (E : Option Addr) (e1 e2 : Nat) (F : Option Addr) (f1 f2 : Nat) (k s : Int) (nm : ByteArray) (G : Option Addr) (g1 g2 : Nat) (q n : Int) (st : List UInt8) (A : Option Addr) (a1 a2 : Nat) (B : Option Addr) (b1 b2 : Nat) (p : Bool) (r : Int) (w : World)
    (cP : ∀ W, Below w.heap.size w W → Calls Tryz.prog 32 #[.agg #[.int .i64 ver, .slice E e1 e2, .slice F f1 f2], .agg #[.int .i64 k, .int .i64 s, .string nm, .slice G g1 g2]] W (Ib (.bool p) W))
    (cS : p = true → q = k → pur q n st a1 b1 = true → ∀ W, Below w.heap.size w W → Calls Tryz.prog 78 #[.agg #[.int .i64 ver, .slice E e1 e2, .slice F f1 f2, .int .i64 k, .int .i64 s, .string nm, .slice G g1 g2], .agg #[.int .i64 q, .int .i64 n, .string (bs st), .slice A a1 a2, .slice B b1 b2]] W (Ib (.int .i64 r) W)) :
    Calls Tryz.prog 74 #[.agg #[.int .i64 ver, .slice E e1 e2, .slice F f1 f2, .int .i64 k, .int .i64 s, .string nm, .slice G g1 g2], .agg #[.int .i64 q, .int .i64 n, .string (bs st), .slice A a1 a2, .slice B b1 b2], .func (.func 78) #[.agg #[.int .i64 ver, .slice E e1 e2, .slice F f1 f2, .int .i64 k, .int .i64 s, .string nm, .slice G g1 g2]] #[]] w (Ib (.int .i64 (if p = true ∧ q = k ∧ pur q n st a1 b1 = true then r else 13)) w) := by
  have cI := fun W => isPure_any q n st A a1 a2 B b1 b2 W
  have D1 := (Bx.new7 w 81 (.int .i64 ver) (.slice E e1 e2) (.slice F f1 f2) (.int .i64 k) (.int .i64 s) (.string nm) (.slice G g1 g2)).next (ab1 _ (Obj.cells #[.int .i64 q, .int .i64 n, .string (bs st), .slice A a1 a2, .slice B b1 b2] 34))
  have D2 := Bx.new5 (w.alloc (Obj.cells #[.int .i64 ver, .slice E e1 e2, .slice F f1 f2, .int .i64 k, .int .i64 s, .string nm, .slice G g1 g2] 81)) 34 (.int .i64 q) (.int .i64 n) (.string (bs st)) (.slice A a1 a2) (.slice B b1 b2)
  have hab := ab2 w (Obj.cells #[.int .i64 ver, .slice E e1 e2, .slice F f1 f2, .int .i64 k, .int .i64 s, .string nm, .slice G g1 g2] 81) (Obj.cells #[.int .i64 q, .int .i64 n, .string (bs st), .slice A a1 a2, .slice B b1 b2] 34)
  rw [show (w.alloc (Obj.cells #[.int .i64 ver, .slice E e1 e2, .slice F f1 f2, .int .i64 k, .int .i64 s, .string nm, .slice G g1 g2] 81)).heap.size = w.heap.size + 1 by simp] at D2
  generalize pur q n st a1 b1 = u at *
  cases p with
  | false =>
    rw [if_neg (fun h => by cases h.1)]
    clear cS cI
    go_enter Tryz.func74, Tryz.ntmps74
    go_wp2_with fail
    refine (cP _ hab).mono ?_
    rintro e w2 ⟨rfl, hb2⟩
    replace D1 := D1.next hb2
    replace D2 := D2.next hb2
    replace hab := Below.next hab hb2
    have c0 := D1.c 0 rfl
    have c1 := D1.c 1 rfl
    have c2 := D1.c 2 rfl
    have c3 := D1.c 3 rfl
    have c4 := D1.c 4 rfl
    have c5 := D1.c 5 rfl
    have c6 := D1.c 6 rfl
    have x0 := D2.c 0 rfl
    have x1 := D2.c 1 rfl
    have x2 := D2.c 2 rfl
    have x3 := D2.c 3 rfl
    have x4 := D2.c 4 rfl
    go_wp2_with fail
    go_ret
    exact ⟨rfl, hab⟩
  | true =>
    by_cases hq : q = k
    · subst hq
      have dq : (q != q) = false := by simp
      cases u with
      | false =>
        rw [if_neg (fun h => by cases h.2.2)]
        clear cS
        go_enter Tryz.func74, Tryz.ntmps74
        go_wp2_with fail
        refine (cP _ hab).mono ?_
        rintro e w2 ⟨rfl, hb2⟩
        replace D1 := D1.next hb2
        replace D2 := D2.next hb2
        replace hab := Below.next hab hb2
        have c0 := D1.c 0 rfl
        have c1 := D1.c 1 rfl
        have c2 := D1.c 2 rfl
        have c3 := D1.c 3 rfl
        have c4 := D1.c 4 rfl
        have c5 := D1.c 5 rfl
        have c6 := D1.c 6 rfl
        have x0 := D2.c 0 rfl
        have x1 := D2.c 1 rfl
        have x2 := D2.c 2 rfl
        have x3 := D2.c 3 rfl
        have x4 := D2.c 4 rfl
        go_wp2_with fail
        refine (cI _).mono ?_
        rintro e w3 ⟨rfl, hb3⟩
        replace D1 := D1.next hb3
        replace D2 := D2.next hb3
        replace hab := Below.next hab hb3
        clear c0 c1 c2 c3 c4 c5 c6 x0 x1 x2 x3 x4
        have c0 := D1.c 0 rfl
        have c1 := D1.c 1 rfl
        have c2 := D1.c 2 rfl
        have c3 := D1.c 3 rfl
        have c4 := D1.c 4 rfl
        have c5 := D1.c 5 rfl
        have c6 := D1.c 6 rfl
        have x0 := D2.c 0 rfl
        have x1 := D2.c 1 rfl
        have x2 := D2.c 2 rfl
        have x3 := D2.c 3 rfl
        have x4 := D2.c 4 rfl
        go_wp2_with fail
        go_ret
        exact ⟨rfl, hab⟩
      | true =>
        rw [if_pos ⟨rfl, rfl, rfl⟩]
        replace cS := cS rfl rfl rfl
        go_enter Tryz.func74, Tryz.ntmps74
        go_wp2_with fail
        refine (cP _ hab).mono ?_
        rintro e w2 ⟨rfl, hb2⟩
        replace D1 := D1.next hb2
        replace D2 := D2.next hb2
        replace hab := Below.next hab hb2
        have c0 := D1.c 0 rfl
        have c1 := D1.c 1 rfl
        have c2 := D1.c 2 rfl
        have c3 := D1.c 3 rfl
        have c4 := D1.c 4 rfl
        have c5 := D1.c 5 rfl
        have c6 := D1.c 6 rfl
        have x0 := D2.c 0 rfl
        have x1 := D2.c 1 rfl
        have x2 := D2.c 2 rfl
        have x3 := D2.c 3 rfl
        have x4 := D2.c 4 rfl
        go_wp2_with fail
        refine (cI _).mono ?_
        rintro e w3 ⟨rfl, hb3⟩
        replace D1 := D1.next hb3
        replace D2 := D2.next hb3
        replace hab := Below.next hab hb3
        clear c0 c1 c2 c3 c4 c5 c6 x0 x1 x2 x3 x4
        have c0 := D1.c 0 rfl
        have c1 := D1.c 1 rfl
        have c2 := D1.c 2 rfl
        have c3 := D1.c 3 rfl
        have c4 := D1.c 4 rfl
        have c5 := D1.c 5 rfl
        have c6 := D1.c 6 rfl
        have x0 := D2.c 0 rfl
        have x1 := D2.c 1 rfl
        have x2 := D2.c 2 rfl
        have x3 := D2.c 3 rfl
        have x4 := D2.c 4 rfl
        go_wp2_with fail
        refine (cS _ hab).mono ?_
        rintro e w4 ⟨rfl, hb4⟩
        go_wp2_with fail
        go_ret
        exact ⟨rfl, Below.next hab hb4⟩
    · have dq : (q != k) = true := by simpa using hq
      rw [if_neg (fun h => hq h.2.1)]
      clear cS cI hq
      go_enter Tryz.func74, Tryz.ntmps74
      go_wp2_with fail
      refine (cP _ hab).mono ?_
      rintro e w2 ⟨rfl, hb2⟩
      replace D1 := D1.next hb2
      replace D2 := D2.next hb2
      replace hab := Below.next hab hb2
      have c0 := D1.c 0 rfl
      have c1 := D1.c 1 rfl
      have c2 := D1.c 2 rfl
      have c3 := D1.c 3 rfl
      have c4 := D1.c 4 rfl
      have c5 := D1.c 5 rfl
      have c6 := D1.c 6 rfl
      have x0 := D2.c 0 rfl
      have x1 := D2.c 1 rfl
      have x2 := D2.c 2 rfl
      have x3 := D2.c 3 rfl
      have x4 := D2.c 4 rfl
      go_wp2_with fail
      go_ret
      exact ⟨rfl, hab⟩
set_option maxRecDepth 100000 in
set_option maxHeartbeats 8000000 in
theorem admit_list (ver : Int) (E : Option Addr) (e1 e2 : Nat) (F : Option Addr) (f1 f2 : Nat) (k s : Int) (nm : ByteArray) (G : Option Addr) (g1 g2 : Nat) (q n : Int) (st : List UInt8) (A : Option Addr) (a1 a2 : Nat) (B : Option Addr) (b1 b2 : Nat) (p : Bool) (r : Int) (w : World)
    (cP : ∀ W, Below w.heap.size w W → Calls Tryz.prog 32 #[.agg #[.int .i64 ver, .slice E e1 e2, .slice F f1 f2], .agg #[.int .i64 k, .int .i64 s, .string nm, .slice G g1 g2]] W (Ib (.bool p) W))
    (cS : p = true → q = k → pur q n st a1 b1 = true → ∀ W, Below w.heap.size w W → Calls Tryz.prog 79 #[.agg #[.int .i64 ver, .slice E e1 e2, .slice F f1 f2, .int .i64 k, .int .i64 s, .string nm, .slice G g1 g2], .agg #[.int .i64 q, .int .i64 n, .string (bs st), .slice A a1 a2, .slice B b1 b2]] W (Ib (.int .i64 r) W)) :
    Calls Tryz.prog 74 #[.agg #[.int .i64 ver, .slice E e1 e2, .slice F f1 f2, .int .i64 k, .int .i64 s, .string nm, .slice G g1 g2], .agg #[.int .i64 q, .int .i64 n, .string (bs st), .slice A a1 a2, .slice B b1 b2], .func (.func 79) #[.agg #[.int .i64 ver, .slice E e1 e2, .slice F f1 f2, .int .i64 k, .int .i64 s, .string nm, .slice G g1 g2]] #[]] w (Ib (.int .i64 (if p = true ∧ q = k ∧ pur q n st a1 b1 = true then r else 13)) w) := by
  have cI := fun W => isPure_any q n st A a1 a2 B b1 b2 W
  have D1 := (Bx.new7 w 81 (.int .i64 ver) (.slice E e1 e2) (.slice F f1 f2) (.int .i64 k) (.int .i64 s) (.string nm) (.slice G g1 g2)).next (ab1 _ (Obj.cells #[.int .i64 q, .int .i64 n, .string (bs st), .slice A a1 a2, .slice B b1 b2] 34))
  have D2 := Bx.new5 (w.alloc (Obj.cells #[.int .i64 ver, .slice E e1 e2, .slice F f1 f2, .int .i64 k, .int .i64 s, .string nm, .slice G g1 g2] 81)) 34 (.int .i64 q) (.int .i64 n) (.string (bs st)) (.slice A a1 a2) (.slice B b1 b2)
  have hab := ab2 w (Obj.cells #[.int .i64 ver, .slice E e1 e2, .slice F f1 f2, .int .i64 k, .int .i64 s, .string nm, .slice G g1 g2] 81) (Obj.cells #[.int .i64 q, .int .i64 n, .string (bs st), .slice A a1 a2, .slice B b1 b2] 34)
  rw [show (w.alloc (Obj.cells #[.int .i64 ver, .slice E e1 e2, .slice F f1 f2, .int .i64 k, .int .i64 s, .string nm, .slice G g1 g2] 81)).heap.size = w.heap.size + 1 by simp] at D2
  generalize pur q n st a1 b1 = u at *
  cases p with
  | false =>
    rw [if_neg (fun h => by cases h.1)]
    clear cS cI
    go_enter Tryz.func74, Tryz.ntmps74
    go_wp2_with fail
    refine (cP _ hab).mono ?_
    rintro e w2 ⟨rfl, hb2⟩
    replace D1 := D1.next hb2
    replace D2 := D2.next hb2
    replace hab := Below.next hab hb2
    have c0 := D1.c 0 rfl
    have c1 := D1.c 1 rfl
    have c2 := D1.c 2 rfl
    have c3 := D1.c 3 rfl
    have c4 := D1.c 4 rfl
    have c5 := D1.c 5 rfl
    have c6 := D1.c 6 rfl
    have x0 := D2.c 0 rfl
    have x1 := D2.c 1 rfl
    have x2 := D2.c 2 rfl
    have x3 := D2.c 3 rfl
    have x4 := D2.c 4 rfl
    go_wp2_with fail
    go_ret
    exact ⟨rfl, hab⟩
  | true =>
    by_cases hq : q = k
    · subst hq
      have dq : (q != q) = false := by simp
      cases u with
      | false =>
        rw [if_neg (fun h => by cases h.2.2)]
        clear cS
        go_enter Tryz.func74, Tryz.ntmps74
        go_wp2_with fail
        refine (cP _ hab).mono ?_
        rintro e w2 ⟨rfl, hb2⟩
        replace D1 := D1.next hb2
        replace D2 := D2.next hb2
        replace hab := Below.next hab hb2
        have c0 := D1.c 0 rfl
        have c1 := D1.c 1 rfl
        have c2 := D1.c 2 rfl
        have c3 := D1.c 3 rfl
        have c4 := D1.c 4 rfl
        have c5 := D1.c 5 rfl
        have c6 := D1.c 6 rfl
        have x0 := D2.c 0 rfl
        have x1 := D2.c 1 rfl
        have x2 := D2.c 2 rfl
        have x3 := D2.c 3 rfl
        have x4 := D2.c 4 rfl
        go_wp2_with fail
        refine (cI _).mono ?_
        rintro e w3 ⟨rfl, hb3⟩
        replace D1 := D1.next hb3
        replace D2 := D2.next hb3
        replace hab := Below.next hab hb3
        clear c0 c1 c2 c3 c4 c5 c6 x0 x1 x2 x3 x4
        have c0 := D1.c 0 rfl
        have c1 := D1.c 1 rfl
        have c2 := D1.c 2 rfl
        have c3 := D1.c 3 rfl
        have c4 := D1.c 4 rfl
        have c5 := D1.c 5 rfl
        have c6 := D1.c 6 rfl
        have x0 := D2.c 0 rfl
        have x1 := D2.c 1 rfl
        have x2 := D2.c 2 rfl
        have x3 := D2.c 3 rfl
        have x4 := D2.c 4 rfl
        go_wp2_with fail
        go_ret
        exact ⟨rfl, hab⟩
      | true =>
        rw [if_pos ⟨rfl, rfl, rfl⟩]
        replace cS := cS rfl rfl rfl
        go_enter Tryz.func74, Tryz.ntmps74
        go_wp2_with fail
        refine (cP _ hab).mono ?_
        rintro e w2 ⟨rfl, hb2⟩
        replace D1 := D1.next hb2
        replace D2 := D2.next hb2
        replace hab := Below.next hab hb2
        have c0 := D1.c 0 rfl
        have c1 := D1.c 1 rfl
        have c2 := D1.c 2 rfl
        have c3 := D1.c 3 rfl
        have c4 := D1.c 4 rfl
        have c5 := D1.c 5 rfl
        have c6 := D1.c 6 rfl
        have x0 := D2.c 0 rfl
        have x1 := D2.c 1 rfl
        have x2 := D2.c 2 rfl
        have x3 := D2.c 3 rfl
        have x4 := D2.c 4 rfl
        go_wp2_with fail
        refine (cI _).mono ?_
        rintro e w3 ⟨rfl, hb3⟩
        replace D1 := D1.next hb3
        replace D2 := D2.next hb3
        replace hab := Below.next hab hb3
        clear c0 c1 c2 c3 c4 c5 c6 x0 x1 x2 x3 x4
        have c0 := D1.c 0 rfl
        have c1 := D1.c 1 rfl
        have c2 := D1.c 2 rfl
        have c3 := D1.c 3 rfl
        have c4 := D1.c 4 rfl
        have c5 := D1.c 5 rfl
        have c6 := D1.c 6 rfl
        have x0 := D2.c 0 rfl
        have x1 := D2.c 1 rfl
        have x2 := D2.c 2 rfl
        have x3 := D2.c 3 rfl
        have x4 := D2.c 4 rfl
        go_wp2_with fail
        refine (cS _ hab).mono ?_
        rintro e w4 ⟨rfl, hb4⟩
        go_wp2_with fail
        go_ret
        exact ⟨rfl, Below.next hab hb4⟩
    · have dq : (q != k) = true := by simpa using hq
      rw [if_neg (fun h => hq h.2.1)]
      clear cS cI hq
      go_enter Tryz.func74, Tryz.ntmps74
      go_wp2_with fail
      refine (cP _ hab).mono ?_
      rintro e w2 ⟨rfl, hb2⟩
      replace D1 := D1.next hb2
      replace D2 := D2.next hb2
      replace hab := Below.next hab hb2
      have c0 := D1.c 0 rfl
      have c1 := D1.c 1 rfl
      have c2 := D1.c 2 rfl
      have c3 := D1.c 3 rfl
      have c4 := D1.c 4 rfl
      have c5 := D1.c 5 rfl
      have c6 := D1.c 6 rfl
      have x0 := D2.c 0 rfl
      have x1 := D2.c 1 rfl
      have x2 := D2.c 2 rfl
      have x3 := D2.c 3 rfl
      have x4 := D2.c 4 rfl
      go_wp2_with fail
      go_ret
      exact ⟨rfl, hab⟩
set_option maxRecDepth 100000 in
set_option maxHeartbeats 8000000 in
theorem admit_structure (ver : Int) (E : Option Addr) (e1 e2 : Nat) (F : Option Addr) (f1 f2 : Nat) (k s : Int) (nm : ByteArray) (G : Option Addr) (g1 g2 : Nat) (q n : Int) (st : List UInt8) (A : Option Addr) (a1 a2 : Nat) (B : Option Addr) (b1 b2 : Nat) (p : Bool) (r : Int) (w : World)
    (cP : ∀ W, Below w.heap.size w W → Calls Tryz.prog 32 #[.agg #[.int .i64 ver, .slice E e1 e2, .slice F f1 f2], .agg #[.int .i64 k, .int .i64 s, .string nm, .slice G g1 g2]] W (Ib (.bool p) W))
    (cS : p = true → q = k → pur q n st a1 b1 = true → ∀ W, Below w.heap.size w W → Calls Tryz.prog 80 #[.agg #[.int .i64 ver, .slice E e1 e2, .slice F f1 f2, .int .i64 k, .int .i64 s, .string nm, .slice G g1 g2], .agg #[.int .i64 q, .int .i64 n, .string (bs st), .slice A a1 a2, .slice B b1 b2]] W (Ib (.int .i64 r) W)) :
    Calls Tryz.prog 74 #[.agg #[.int .i64 ver, .slice E e1 e2, .slice F f1 f2, .int .i64 k, .int .i64 s, .string nm, .slice G g1 g2], .agg #[.int .i64 q, .int .i64 n, .string (bs st), .slice A a1 a2, .slice B b1 b2], .func (.func 80) #[.agg #[.int .i64 ver, .slice E e1 e2, .slice F f1 f2, .int .i64 k, .int .i64 s, .string nm, .slice G g1 g2]] #[]] w (Ib (.int .i64 (if p = true ∧ q = k ∧ pur q n st a1 b1 = true then r else 13)) w) := by
  have cI := fun W => isPure_any q n st A a1 a2 B b1 b2 W
  have D1 := (Bx.new7 w 81 (.int .i64 ver) (.slice E e1 e2) (.slice F f1 f2) (.int .i64 k) (.int .i64 s) (.string nm) (.slice G g1 g2)).next (ab1 _ (Obj.cells #[.int .i64 q, .int .i64 n, .string (bs st), .slice A a1 a2, .slice B b1 b2] 34))
  have D2 := Bx.new5 (w.alloc (Obj.cells #[.int .i64 ver, .slice E e1 e2, .slice F f1 f2, .int .i64 k, .int .i64 s, .string nm, .slice G g1 g2] 81)) 34 (.int .i64 q) (.int .i64 n) (.string (bs st)) (.slice A a1 a2) (.slice B b1 b2)
  have hab := ab2 w (Obj.cells #[.int .i64 ver, .slice E e1 e2, .slice F f1 f2, .int .i64 k, .int .i64 s, .string nm, .slice G g1 g2] 81) (Obj.cells #[.int .i64 q, .int .i64 n, .string (bs st), .slice A a1 a2, .slice B b1 b2] 34)
  rw [show (w.alloc (Obj.cells #[.int .i64 ver, .slice E e1 e2, .slice F f1 f2, .int .i64 k, .int .i64 s, .string nm, .slice G g1 g2] 81)).heap.size = w.heap.size + 1 by simp] at D2
  generalize pur q n st a1 b1 = u at *
  cases p with
  | false =>
    rw [if_neg (fun h => by cases h.1)]
    clear cS cI
    go_enter Tryz.func74, Tryz.ntmps74
    go_wp2_with fail
    refine (cP _ hab).mono ?_
    rintro e w2 ⟨rfl, hb2⟩
    replace D1 := D1.next hb2
    replace D2 := D2.next hb2
    replace hab := Below.next hab hb2
    have c0 := D1.c 0 rfl
    have c1 := D1.c 1 rfl
    have c2 := D1.c 2 rfl
    have c3 := D1.c 3 rfl
    have c4 := D1.c 4 rfl
    have c5 := D1.c 5 rfl
    have c6 := D1.c 6 rfl
    have x0 := D2.c 0 rfl
    have x1 := D2.c 1 rfl
    have x2 := D2.c 2 rfl
    have x3 := D2.c 3 rfl
    have x4 := D2.c 4 rfl
    go_wp2_with fail
    go_ret
    exact ⟨rfl, hab⟩
  | true =>
    by_cases hq : q = k
    · subst hq
      have dq : (q != q) = false := by simp
      cases u with
      | false =>
        rw [if_neg (fun h => by cases h.2.2)]
        clear cS
        go_enter Tryz.func74, Tryz.ntmps74
        go_wp2_with fail
        refine (cP _ hab).mono ?_
        rintro e w2 ⟨rfl, hb2⟩
        replace D1 := D1.next hb2
        replace D2 := D2.next hb2
        replace hab := Below.next hab hb2
        have c0 := D1.c 0 rfl
        have c1 := D1.c 1 rfl
        have c2 := D1.c 2 rfl
        have c3 := D1.c 3 rfl
        have c4 := D1.c 4 rfl
        have c5 := D1.c 5 rfl
        have c6 := D1.c 6 rfl
        have x0 := D2.c 0 rfl
        have x1 := D2.c 1 rfl
        have x2 := D2.c 2 rfl
        have x3 := D2.c 3 rfl
        have x4 := D2.c 4 rfl
        go_wp2_with fail
        refine (cI _).mono ?_
        rintro e w3 ⟨rfl, hb3⟩
        replace D1 := D1.next hb3
        replace D2 := D2.next hb3
        replace hab := Below.next hab hb3
        clear c0 c1 c2 c3 c4 c5 c6 x0 x1 x2 x3 x4
        have c0 := D1.c 0 rfl
        have c1 := D1.c 1 rfl
        have c2 := D1.c 2 rfl
        have c3 := D1.c 3 rfl
        have c4 := D1.c 4 rfl
        have c5 := D1.c 5 rfl
        have c6 := D1.c 6 rfl
        have x0 := D2.c 0 rfl
        have x1 := D2.c 1 rfl
        have x2 := D2.c 2 rfl
        have x3 := D2.c 3 rfl
        have x4 := D2.c 4 rfl
        go_wp2_with fail
        go_ret
        exact ⟨rfl, hab⟩
      | true =>
        rw [if_pos ⟨rfl, rfl, rfl⟩]
        replace cS := cS rfl rfl rfl
        go_enter Tryz.func74, Tryz.ntmps74
        go_wp2_with fail
        refine (cP _ hab).mono ?_
        rintro e w2 ⟨rfl, hb2⟩
        replace D1 := D1.next hb2
        replace D2 := D2.next hb2
        replace hab := Below.next hab hb2
        have c0 := D1.c 0 rfl
        have c1 := D1.c 1 rfl
        have c2 := D1.c 2 rfl
        have c3 := D1.c 3 rfl
        have c4 := D1.c 4 rfl
        have c5 := D1.c 5 rfl
        have c6 := D1.c 6 rfl
        have x0 := D2.c 0 rfl
        have x1 := D2.c 1 rfl
        have x2 := D2.c 2 rfl
        have x3 := D2.c 3 rfl
        have x4 := D2.c 4 rfl
        go_wp2_with fail
        refine (cI _).mono ?_
        rintro e w3 ⟨rfl, hb3⟩
        replace D1 := D1.next hb3
        replace D2 := D2.next hb3
        replace hab := Below.next hab hb3
        clear c0 c1 c2 c3 c4 c5 c6 x0 x1 x2 x3 x4
        have c0 := D1.c 0 rfl
        have c1 := D1.c 1 rfl
        have c2 := D1.c 2 rfl
        have c3 := D1.c 3 rfl
        have c4 := D1.c 4 rfl
        have c5 := D1.c 5 rfl
        have c6 := D1.c 6 rfl
        have x0 := D2.c 0 rfl
        have x1 := D2.c 1 rfl
        have x2 := D2.c 2 rfl
        have x3 := D2.c 3 rfl
        have x4 := D2.c 4 rfl
        go_wp2_with fail
        refine (cS _ hab).mono ?_
        rintro e w4 ⟨rfl, hb4⟩
        go_wp2_with fail
        go_ret
        exact ⟨rfl, Below.next hab hb4⟩
    · have dq : (q != k) = true := by simpa using hq
      rw [if_neg (fun h => hq h.2.1)]
      clear cS cI hq
      go_enter Tryz.func74, Tryz.ntmps74
      go_wp2_with fail
      refine (cP _ hab).mono ?_
      rintro e w2 ⟨rfl, hb2⟩
      replace D1 := D1.next hb2
      replace D2 := D2.next hb2
      replace hab := Below.next hab hb2
      have c0 := D1.c 0 rfl
      have c1 := D1.c 1 rfl
      have c2 := D1.c 2 rfl
      have c3 := D1.c 3 rfl
      have c4 := D1.c 4 rfl
      have c5 := D1.c 5 rfl
      have c6 := D1.c 6 rfl
      have x0 := D2.c 0 rfl
      have x1 := D2.c 1 rfl
      have x2 := D2.c 2 rfl
      have x3 := D2.c 3 rfl
      have x4 := D2.c 4 rfl
      go_wp2_with fail
      go_ret
      exact ⟨rfl, hab⟩
set_option maxRecDepth 100000 in
set_option maxHeartbeats 8000000 in
theorem admit_enum (ver : Int) (E : Option Addr) (e1 e2 : Nat) (F : Option Addr) (f1 f2 : Nat) (k s : Int) (nm : ByteArray) (G : Option Addr) (g1 g2 : Nat) (q n : Int) (st : List UInt8) (A : Option Addr) (a1 a2 : Nat) (B : Option Addr) (b1 b2 : Nat) (p : Bool) (r : Int) (w : World)
    (cP : ∀ W, Below w.heap.size w W → Calls Tryz.prog 32 #[.agg #[.int .i64 ver, .slice E e1 e2, .slice F f1 f2], .agg #[.int .i64 k, .int .i64 s, .string nm, .slice G g1 g2]] W (Ib (.bool p) W))
    (cS : p = true → q = k → pur q n st a1 b1 = true → ∀ W, Below w.heap.size w W → Calls Tryz.prog 81 #[.agg #[.int .i64 ver, .slice E e1 e2, .slice F f1 f2, .int .i64 k, .int .i64 s, .string nm, .slice G g1 g2], .agg #[.int .i64 q, .int .i64 n, .string (bs st), .slice A a1 a2, .slice B b1 b2]] W (Ib (.int .i64 r) W)) :
    Calls Tryz.prog 74 #[.agg #[.int .i64 ver, .slice E e1 e2, .slice F f1 f2, .int .i64 k, .int .i64 s, .string nm, .slice G g1 g2], .agg #[.int .i64 q, .int .i64 n, .string (bs st), .slice A a1 a2, .slice B b1 b2], .func (.func 81) #[.agg #[.int .i64 ver, .slice E e1 e2, .slice F f1 f2, .int .i64 k, .int .i64 s, .string nm, .slice G g1 g2]] #[]] w (Ib (.int .i64 (if p = true ∧ q = k ∧ pur q n st a1 b1 = true then r else 13)) w) := by
  have cI := fun W => isPure_any q n st A a1 a2 B b1 b2 W
  have D1 := (Bx.new7 w 81 (.int .i64 ver) (.slice E e1 e2) (.slice F f1 f2) (.int .i64 k) (.int .i64 s) (.string nm) (.slice G g1 g2)).next (ab1 _ (Obj.cells #[.int .i64 q, .int .i64 n, .string (bs st), .slice A a1 a2, .slice B b1 b2] 34))
  have D2 := Bx.new5 (w.alloc (Obj.cells #[.int .i64 ver, .slice E e1 e2, .slice F f1 f2, .int .i64 k, .int .i64 s, .string nm, .slice G g1 g2] 81)) 34 (.int .i64 q) (.int .i64 n) (.string (bs st)) (.slice A a1 a2) (.slice B b1 b2)
  have hab := ab2 w (Obj.cells #[.int .i64 ver, .slice E e1 e2, .slice F f1 f2, .int .i64 k, .int .i64 s, .string nm, .slice G g1 g2] 81) (Obj.cells #[.int .i64 q, .int .i64 n, .string (bs st), .slice A a1 a2, .slice B b1 b2] 34)
  rw [show (w.alloc (Obj.cells #[.int .i64 ver, .slice E e1 e2, .slice F f1 f2, .int .i64 k, .int .i64 s, .string nm, .slice G g1 g2] 81)).heap.size = w.heap.size + 1 by simp] at D2
  generalize pur q n st a1 b1 = u at *
  cases p with
  | false =>
    rw [if_neg (fun h => by cases h.1)]
    clear cS cI
    go_enter Tryz.func74, Tryz.ntmps74
    go_wp2_with fail
    refine (cP _ hab).mono ?_
    rintro e w2 ⟨rfl, hb2⟩
    replace D1 := D1.next hb2
    replace D2 := D2.next hb2
    replace hab := Below.next hab hb2
    have c0 := D1.c 0 rfl
    have c1 := D1.c 1 rfl
    have c2 := D1.c 2 rfl
    have c3 := D1.c 3 rfl
    have c4 := D1.c 4 rfl
    have c5 := D1.c 5 rfl
    have c6 := D1.c 6 rfl
    have x0 := D2.c 0 rfl
    have x1 := D2.c 1 rfl
    have x2 := D2.c 2 rfl
    have x3 := D2.c 3 rfl
    have x4 := D2.c 4 rfl
    go_wp2_with fail
    go_ret
    exact ⟨rfl, hab⟩
  | true =>
    by_cases hq : q = k
    · subst hq
      have dq : (q != q) = false := by simp
      cases u with
      | false =>
        rw [if_neg (fun h => by cases h.2.2)]
        clear cS
        go_enter Tryz.func74, Tryz.ntmps74
        go_wp2_with fail
        refine (cP _ hab).mono ?_
        rintro e w2 ⟨rfl, hb2⟩
        replace D1 := D1.next hb2
        replace D2 := D2.next hb2
        replace hab := Below.next hab hb2
        have c0 := D1.c 0 rfl
        have c1 := D1.c 1 rfl
        have c2 := D1.c 2 rfl
        have c3 := D1.c 3 rfl
        have c4 := D1.c 4 rfl
        have c5 := D1.c 5 rfl
        have c6 := D1.c 6 rfl
        have x0 := D2.c 0 rfl
        have x1 := D2.c 1 rfl
        have x2 := D2.c 2 rfl
        have x3 := D2.c 3 rfl
        have x4 := D2.c 4 rfl
        go_wp2_with fail
        refine (cI _).mono ?_
        rintro e w3 ⟨rfl, hb3⟩
        replace D1 := D1.next hb3
        replace D2 := D2.next hb3
        replace hab := Below.next hab hb3
        clear c0 c1 c2 c3 c4 c5 c6 x0 x1 x2 x3 x4
        have c0 := D1.c 0 rfl
        have c1 := D1.c 1 rfl
        have c2 := D1.c 2 rfl
        have c3 := D1.c 3 rfl
        have c4 := D1.c 4 rfl
        have c5 := D1.c 5 rfl
        have c6 := D1.c 6 rfl
        have x0 := D2.c 0 rfl
        have x1 := D2.c 1 rfl
        have x2 := D2.c 2 rfl
        have x3 := D2.c 3 rfl
        have x4 := D2.c 4 rfl
        go_wp2_with fail
        go_ret
        exact ⟨rfl, hab⟩
      | true =>
        rw [if_pos ⟨rfl, rfl, rfl⟩]
        replace cS := cS rfl rfl rfl
        go_enter Tryz.func74, Tryz.ntmps74
        go_wp2_with fail
        refine (cP _ hab).mono ?_
        rintro e w2 ⟨rfl, hb2⟩
        replace D1 := D1.next hb2
        replace D2 := D2.next hb2
        replace hab := Below.next hab hb2
        have c0 := D1.c 0 rfl
        have c1 := D1.c 1 rfl
        have c2 := D1.c 2 rfl
        have c3 := D1.c 3 rfl
        have c4 := D1.c 4 rfl
        have c5 := D1.c 5 rfl
        have c6 := D1.c 6 rfl
        have x0 := D2.c 0 rfl
        have x1 := D2.c 1 rfl
        have x2 := D2.c 2 rfl
        have x3 := D2.c 3 rfl
        have x4 := D2.c 4 rfl
        go_wp2_with fail
        refine (cI _).mono ?_
        rintro e w3 ⟨rfl, hb3⟩
        replace D1 := D1.next hb3
        replace D2 := D2.next hb3
        replace hab := Below.next hab hb3
        clear c0 c1 c2 c3 c4 c5 c6 x0 x1 x2 x3 x4
        have c0 := D1.c 0 rfl
        have c1 := D1.c 1 rfl
        have c2 := D1.c 2 rfl
        have c3 := D1.c 3 rfl
        have c4 := D1.c 4 rfl
        have c5 := D1.c 5 rfl
        have c6 := D1.c 6 rfl
        have x0 := D2.c 0 rfl
        have x1 := D2.c 1 rfl
        have x2 := D2.c 2 rfl
        have x3 := D2.c 3 rfl
        have x4 := D2.c 4 rfl
        go_wp2_with fail
        refine (cS _ hab).mono ?_
        rintro e w4 ⟨rfl, hb4⟩
        go_wp2_with fail
        go_ret
        exact ⟨rfl, Below.next hab hb4⟩
    · have dq : (q != k) = true := by simpa using hq
      rw [if_neg (fun h => hq h.2.1)]
      clear cS cI hq
      go_enter Tryz.func74, Tryz.ntmps74
      go_wp2_with fail
      refine (cP _ hab).mono ?_
      rintro e w2 ⟨rfl, hb2⟩
      replace D1 := D1.next hb2
      replace D2 := D2.next hb2
      replace hab := Below.next hab hb2
      have c0 := D1.c 0 rfl
      have c1 := D1.c 1 rfl
      have c2 := D1.c 2 rfl
      have c3 := D1.c 3 rfl
      have c4 := D1.c 4 rfl
      have c5 := D1.c 5 rfl
      have c6 := D1.c 6 rfl
      have x0 := D2.c 0 rfl
      have x1 := D2.c 1 rfl
      have x2 := D2.c 2 rfl
      have x3 := D2.c 3 rfl
      have x4 := D2.c 4 rfl
      go_wp2_with fail
      go_ret
      exact ⟨rfl, hab⟩
end Go.Proofs.YthfodpbecddheaaGreatDoor


/-
  The reference's ranged, of enumerations. No conditions beyond those that each names.
-/
import Derived.Test.YtlebppjldoodgaaM12
import Derived.Deep.QuietTactic
import Derived.BigQuiet
import Derived.Test.YtlebppjldoodgaaM10
import Derived.Test.YtlebppjldoodgaaM09
import Derived.Test.YtlebppjldoodgaaM11
import Derived.Test.YtlebppjldoodgaaM07
namespace Go.Proofs.Ytlebppjldoodgaa
open Go.RowKit
theorem has_not {l : List Int} {n : Int} (h : ∀ j (hj : j < l.length), (l[j]'hj) ≠ n) : l.contains n = false := by
  rw [Bool.eq_false_iff]
  intro hc
  rw [List.contains_iff_mem] at hc
  obtain ⟨j, hj, e⟩ := List.getElem_of_mem hc
  exact h j hj e
theorem has_at {l : List Int} {n : Int} {j : Nat} (hj : j < l.length) (e : (l[j]'hj) = n) : l.contains n = true := by
  rw [List.contains_iff_mem, ← e]
  exact List.getElem_mem hj
set_option maxRecDepth 100000 in
set_option maxHeartbeats 8000000 in
theorem ranged7_any (S : Sch) (A : Option Addr) (c : Nat) (A2 : Option Addr) (c2 : Nat) (nm : List UInt8) (G : Option Addr) (g1 g2 : Nat) (q n : Int) (st : List UInt8) (B1 : Option Addr) (b1 b2 : Nat) (B3 : Option Addr) (b3 b4 : Nat) (w : World) (hS : Sc w S A A2) (hn : S.enums.length ≤ 1000) (hw : ((fst_ En.name S.enums nm).getD en0).nums.length ≤ 1000) :
    Calls Try.prog 62 #[.agg #[.int .i64 S.ver, .slice A S.enums.length c, .slice A2 S.structs.length c2], .agg #[.int .i64 7, .int .i64 0, .string (bs nm), .slice G g1 g2], .agg #[.int .i64 q, .int .i64 n, .string (bs st), .slice B1 b1 b2, .slice B3 b3 b4]] w (Ib (.bool (((fst_ En.name S.enums nm).getD en0).nums.contains n)) w) := by
  have cE := fun W h => r9Enum_any S nm (.agg #[.int .i64 S.ver, .slice A S.enums.length c, .slice A2 S.structs.length c2]) W ⟨A, c, A2, c2, rfl, Sc.next h hS⟩ hn
  unfold EnO at cE
  obtain ⟨x, hx⟩ : ∃ x, (fst_ En.name S.enums nm).getD en0 = x := ⟨_, rfl⟩
  obtain ⟨o, ho⟩ : ∃ o, (fst_ En.name S.enums nm).isSome = o := ⟨_, rfl⟩
  rw [hx, ho] at cE
  rw [hx] at hw ⊢
  clear hx ho
  obtain ⟨b, hb⟩ : ∃ b, x.nums.contains n = b := ⟨_, rfl⟩
  have HB := Lib.hid hb
  rw [hb]
  clear hb
  obtain ⟨m, hm⟩ : ∃ m, x.nums.length = m := ⟨_, rfl⟩
  have HM := Lib.hid hm
  rw [hm] at hw
  have D1 := (Bx.new3 w 33 (.int .i64 S.ver) (.slice A S.enums.length c) (.slice A2 S.structs.length c2)).next (ab2 _ (Obj.cells #[.int .i64 7, .int .i64 0, .string (bs nm), .slice G g1 g2] 37) (Obj.cells #[.int .i64 q, .int .i64 n, .string (bs st), .slice B1 b1 b2, .slice B3 b3 b4] 25))
  have D2 := (Bx.new4 (w.alloc (Obj.cells #[.int .i64 S.ver, .slice A S.enums.length c, .slice A2 S.structs.length c2] 33)) 37 (.int .i64 7) (.int .i64 0) (.string (bs nm)) (.slice G g1 g2)).next (ab1 _ (Obj.cells #[.int .i64 q, .int .i64 n, .string (bs st), .slice B1 b1 b2, .slice B3 b3 b4] 25))
  have D3 := Bx.new5 ((w.alloc (Obj.cells #[.int .i64 S.ver, .slice A S.enums.length c, .slice A2 S.structs.length c2] 33)).alloc (Obj.cells #[.int .i64 7, .int .i64 0, .string (bs nm), .slice G g1 g2] 37)) 25 (.int .i64 q) (.int .i64 n) (.string (bs st)) (.slice B1 b1 b2) (.slice B3 b3 b4)
  rw [show (w.alloc (Obj.cells #[.int .i64 S.ver, .slice A S.enums.length c, .slice A2 S.structs.length c2] 33)).heap.size = w.heap.size + 1 by simp] at D2
  rw [show ((w.alloc (Obj.cells #[.int .i64 S.ver, .slice A S.enums.length c, .slice A2 S.structs.length c2] 33)).alloc (Obj.cells #[.int .i64 7, .int .i64 0, .string (bs nm), .slice G g1 g2] 37)).heap.size = w.heap.size + 1 + 1 by simp] at D3
  have hab := ab3 w (Obj.cells #[.int .i64 S.ver, .slice A S.enums.length c, .slice A2 S.structs.length c2] 33) (Obj.cells #[.int .i64 7, .int .i64 0, .string (bs nm), .slice G g1 g2] 37) (Obj.cells #[.int .i64 q, .int .i64 n, .string (bs st), .slice B1 b1 b2, .slice B3 b3 b4] 25)
  have i0 := D2.c 0 rfl
  have i1 := D2.c 1 rfl
  have i2 := D2.c 2 rfl
  have l0 := D1.c 0 rfl
  have l1 := D1.c 1 rfl
  have l2 := D1.c 2 rfl
  go_enter Try.func62, Try.ntmps62
  go_wp2_with fail
  generalize ((w.alloc (Obj.cells #[.int .i64 S.ver, .slice A S.enums.length c, .slice A2 S.structs.length c2] 33)).alloc (Obj.cells #[.int .i64 7, .int .i64 0, .string (bs nm), .slice G g1 g2] 37)).alloc (Obj.cells #[.int .i64 q, .int .i64 n, .string (bs st), .slice B1 b1 b2, .slice B3 b3 b4] 25) = w1 at *
  go_loopw [7, 8] (fun u i wr => i = .int .i64 1 ∧ u = .int .i64 1 ∧ wr = w1) (fun _ _ _ => 0)
  case atStart => exact ⟨rfl, rfl, rfl⟩
  case round =>
    obtain ⟨rfl, rfl, rfl⟩ := hrel
    go_wp2_with fail
    refine (cE _ hab).mono ?_
    rintro e w2 ⟨v2, rfl, hV2, hb2⟩
    obtain ⟨A3, c3, A4, c4, rfl, -, hN⟩ := hV2
    have hbx := ab1 w2 (Obj.cells #[.string (bs x.name), .slice A3 x.names.length c3, .slice A4 x.nums.length c4] 59)
    have B1 := Bx.new3 w2 59 (.string (bs x.name)) (.slice A3 x.names.length c3) (.slice A4 x.nums.length c4)
    rw [hm] at B1 hbx ⊢
    obtain ⟨ge, hge⟩ : ∃ ge, w2.heap.size = ge := ⟨_, rfl⟩
    have D4 := (D3.next hb2).next hbx
    have hN2 := Lib.hid (hN.next fun x p => TyI.next hbx (t := x) (p := p))
    have hab2 := Below.next hab (Below.next hb2 hbx)
    rw [hge] at B1
    clear i0 i1 i2 l0 l1 l2 cE hN D1 D2 D3 hm
    go_wp2_with fail
    try rw [hge]
    have HD4 := Lib.hid D4
    have HB1 := Lib.hid B1
    clear D4 B1
    generalize w2.alloc (Obj.cells #[.string (bs x.name), .slice A3 x.names.length c3, .slice A4 m c4] 59) = w3 at *
    go_loopw [11] (fun i w5 => ∃ j : Nat, j ≤ m ∧ i = .int .i64 (j : Int) ∧ Hid (∀ t (ht : t < x.nums.length), t < j → (x.nums[t]'ht) ≠ n) ∧ Hid (Bx w5 (w.heap.size + 1 + 1) [.int .i64 q, .int .i64 n, .string (bs st), .slice B1 b1 b2, .slice B3 b3 b4]) ∧ Hid (Bx w5 ge [.string (bs x.name), .slice A3 x.names.length c3, .slice A4 m c4]) ∧ Hid (Rw TyI 1 w5 x.nums A4) ∧ Below w.heap.size w w5) (fun i _ => m - (intOf i).toNat)
    case atStart => exact ⟨0, by omega, rfl, Lib.hid fun t _ h => by omega, HD4, HB1, hN2, hab2⟩
    case round =>
      obtain ⟨j, hj, rfl, HJ, HD, HX, HN, hb5⟩ := hrel
      clear HD4 HB1 hN2 hab2 hab hb2 hbx
      rename World => w5
      have x2 := HX.out.c 2 rfl
      have y1 := HD.out.c 1 rfl
      by_cases hlt : j < m
      · have hk1 := Lib.hid hlt
        have hjl : j < x.nums.length := by rw [HM.out]; exact hlt
        obtain ⟨a, rfl, hA⟩ := HN.out.get hjl
        rw [Nat.mul_one] at hA
        have hA : w5.cell? (a.add j) = some (.int .i64 (x.nums[j]'hjl)) := hA
        have hblk : (a.add j).block < w5.heap.size := blk_lt hA
        by_cases he : (x.nums[j]'hjl) = n
        · have hb : b = true := by rw [← HB.out]; exact has_at hjl he
          subst hb
          rw [he] at hA
          have q1 : (n == n) = true := by simp
          clear he
          go_wp2_with fail
          go_quiet (fail)
          go_wp2_with fail
          go_ret
          exact ⟨rfl, below_drewN hb5 _⟩
        · have HJ2 := Lib.hid (show ∀ t (ht : t < x.nums.length), t < j + 1 → (x.nums[t]'ht) ≠ n from fun t ht h => by
            by_cases h2 : t < j
            · exact HJ.out t ht h2
            · obtain rfl : t = j := by omega
              exact he)
          have q1 : ((x.nums[j]'hjl) == n) = false := by simpa using he
          generalize (x.nums[j]'hjl) = y at *
          clear he HJ
          go_wp2_with fail
          go_quiet (fail)
          go_wp2_with fail
          go_roundw
          case rel => exact ⟨j + 1, hk1.out, by go_num, HJ2, Lib.hid (HD.out.next (below_drewN (Below.refl _ _) _)), Lib.hid (HX.out.next (below_drewN (Below.refl _ _) _)), Lib.hid (HN.out.next fun x p => TyI.next (below_drewN (Below.refl _ _) _) (t := x) (p := p)), below_drewN hb5 _⟩
          case measure => have := hk1.out; simp [intOf]; omega
      · obtain rfl : j = m := by omega
        have hb : b = false := by rw [← HB.out]; exact has_not fun t ht => HJ.out t ht (by rw [← HM.out]; exact ht)
        subst hb
        clear HJ
        go_wp2_with fail
        go_ret
        exact ⟨rfl, hb5⟩
end Go.Proofs.Ytlebppjldoodgaa
/-
  The developers' renew of a value without lists. No conditions beyond those that each names.
-/
namespace Go.Proofs.Ytlebppjldoodgaa
open Go.RowKit Go.Shelf
set_option maxRecDepth 100000 in
set_option maxHeartbeats 4000000 in
theorem renewNil_any (k n : Int) (s : List UInt8) (w : World) : Calls Try.prog 40 #[(.agg #[.int .i64 k, .int .i64 n, .string (bs s), .slice none 0 0, .slice none 0 0])] w (Ib (.agg #[.int .i64 k, .int .i64 n, .string (bs s), .slice none 0 0, .slice none 0 0]) w) := by
  have cV := fun W => (AnyE.slices_Clone_nil Try.clone68 0 0 W).mono fun e w' (h : _ ∧ _) => (show Ib (.slice none 0 0) W e w' from ⟨h.1, by rw [h.2]; exact Below.refl _ _⟩)
  have cE := fun W => (AnyE.slices_Clone_nil Try.clone69 0 0 W).mono fun e w' (h : _ ∧ _) => (show Ib (.slice none 0 0) W e w' from ⟨h.1, by rw [h.2]; exact Below.refl _ _⟩)
  have z1 : (w.alloc (Obj.cells #[.int .i64 k, .int .i64 n, .string (bs s), .slice none 0 0, .slice none 0 0] 25)).heap.size = w.heap.size + 1 := by simp
  have hab := ab2 w (Obj.cells #[.int .i64 k, .int .i64 n, .string (bs s), .slice none 0 0, .slice none 0 0] 25) (Obj.cells #[.int .i64 0, .int .i64 0, .string ⟨#[]⟩, .slice none 0 0, .slice none 0 0] 25)
  have C1 := (Bx.new5 w 25 (.int .i64 k) (.int .i64 n) (.string (bs s)) (.slice none 0 0) (.slice none 0 0)).next (ab1 _ (Obj.cells #[.int .i64 0, .int .i64 0, .string ⟨#[]⟩, .slice none 0 0, .slice none 0 0] 25))
  have C2 := Bx.new5 (w.alloc (Obj.cells #[.int .i64 k, .int .i64 n, .string (bs s), .slice none 0 0, .slice none 0 0] 25)) 25 (.int .i64 0) (.int .i64 0) (.string ⟨#[]⟩) (.slice none 0 0) (.slice none 0 0)
  rw [z1] at C2
  have s3 := C1.c 3 rfl
  have s4 := C1.c 4 rfl
  clear z1
  go_enter Try.func40, Try.ntmps40
  go_upto_region 1 with (fail)
  generalize (w.alloc (Obj.cells #[.int .i64 k, .int .i64 n, .string (bs s), .slice none 0 0, .slice none 0 0] 25)).alloc (Obj.cells #[.int .i64 0, .int .i64 0, .string ⟨#[]⟩, .slice none 0 0, .slice none 0 0] 25) = W1 at *
  refine wp_region_seqN (by kernel_rfl) (FF [(1, Fact.at_ W1 (.pointer (some ⟨w.heap.size, 0, none⟩))), (7, Fact.at_ W1 (.pointer (some ⟨w.heap.size, 3, none⟩))), (8, Fact.at_ W1 (.slice none 0 0)), (9, Fact.at_ W1 (.slice none 0 0)), (10, Fact.at_ W1 (.pointer (some ⟨w.heap.size, 4, none⟩))), (11, Fact.at_ W1 (.slice none 0 0)), (12, Fact.at_ W1 (.slice none 0 0)), (13, Fact.at_ W1 (.pointer (some ⟨w.heap.size, 3, none⟩)))]) [1] [] 48 7 [7, 8, 9, 10, 11, 12, 13] rfl (by kernel_rfl) (by kernel_rfl) (by decide) (by kernel_rfl) (by kernel_rfl) ?_ ?_ ?_
  · intro t9 ht9
    simp only [List.mem_cons, List.not_mem_nil, or_false] at ht9
    rcases ht9 with rfl
    · exact ⟨rfl, Below.refl _ _⟩
  · refine fcs ⟨Ob.new_ (at1 1 7 (.pointer (some ⟨w.heap.size, 0, none⟩)) (.pointer (some ⟨w.heap.size, 3, none⟩)) rfl (by first | exact .inl rfl | exact .inr ⟨_, _, _, rfl, rfl, by kernel_rfl, by decide, rfl⟩) (by kernel_rfl) rfl rfl (fun a9 W9 hb9 h9 => by simp [execOp, h9] <;> go_simp)) (by kernel_rfl), ?_⟩
    refine fcs ⟨Ob.new_ (at1 7 8 (.pointer (some ⟨w.heap.size, 3, none⟩)) (.slice none 0 0) rfl (by first | exact .inl rfl | exact .inr ⟨_, _, _, rfl, rfl, by kernel_rfl, by decide, rfl⟩) (by kernel_rfl) rfl rfl (fun a9 W9 hb9 h9 => by have g0 := cell_next hb9 s3; simp [execOp, h9] <;> go_simp)) (by kernel_rfl), ?_⟩
    refine fcs ⟨Ob.new_ (atc1 68 8 9 (.slice none 0 0) (.slice none 0 0) _ rfl rfl (by first | exact .inl rfl | exact .inr ⟨_, _, _, rfl, rfl, by kernel_rfl, by decide, rfl⟩) (by kernel_rfl) rfl (by kernel_rfl) rfl (fun W9 hb9 => cV W9)) (by kernel_rfl), ?_⟩
    refine fcs ⟨Ob.new_ (at1 1 10 (.pointer (some ⟨w.heap.size, 0, none⟩)) (.pointer (some ⟨w.heap.size, 4, none⟩)) rfl (by first | exact .inl rfl | exact .inr ⟨_, _, _, rfl, rfl, by kernel_rfl, by decide, rfl⟩) (by kernel_rfl) rfl rfl (fun a9 W9 hb9 h9 => by simp [execOp, h9] <;> go_simp)) (by kernel_rfl), ?_⟩
    refine fcs ⟨Ob.new_ (at1 10 11 (.pointer (some ⟨w.heap.size, 4, none⟩)) (.slice none 0 0) rfl (by first | exact .inl rfl | exact .inr ⟨_, _, _, rfl, rfl, by kernel_rfl, by decide, rfl⟩) (by kernel_rfl) rfl rfl (fun a9 W9 hb9 h9 => by have g0 := cell_next hb9 s4; simp [execOp, h9] <;> go_simp)) (by kernel_rfl), ?_⟩
    refine fcs ⟨Ob.new_ (atc1 69 11 12 (.slice none 0 0) (.slice none 0 0) _ rfl rfl (by first | exact .inl rfl | exact .inr ⟨_, _, _, rfl, rfl, by kernel_rfl, by decide, rfl⟩) (by kernel_rfl) rfl (by kernel_rfl) rfl (fun W9 hb9 => cE W9)) (by kernel_rfl), ?_⟩
    refine fcs ⟨Ob.new_ (at1 1 13 (.pointer (some ⟨w.heap.size, 0, none⟩)) (.pointer (some ⟨w.heap.size, 3, none⟩)) rfl (by first | exact .inl rfl | exact .inr ⟨_, _, _, rfl, rfl, by kernel_rfl, by decide, rfl⟩) (by kernel_rfl) rfl rfl (fun a9 W9 hb9 h9 => by simp [execOp, h9] <;> go_simp)) (by kernel_rfl), ?_⟩
    exact fnl
  intro vv wv hvv hbv _ _
  have hv9 : vv 9 = (.slice none 0 0) := (hvv 9 (by decide)).1
  have hv12 : vv 12 = (.slice none 0 0) := (hvv 12 (by decide)).1
  have hv13 : vv 13 = (.pointer (some ⟨w.heap.size, 3, none⟩)) := (hvv 13 (by decide)).1
  simp only [lay, List.foldl_cons, List.foldl_nil, List.setIfInBounds_toArray, List.set_cons_succ, List.set_cons_zero, hv9, hv12, hv13, List.drop_succ_cons, List.drop_zero]
  clear hvv cV cE s3 s4 hv9 hv12 hv13
  replace hab := Below.next hab hbv
  replace C1 := C1.next hbv
  replace C2 := C2.next hbv
  have q3 := C1.c 3 rfl
  have q4 := C1.c 4 rfl
  have f3 := C1.f 3 rfl
  have f4 := C1.f 4 rfl
  have ql := C1.lt
  have D1 := (C1.put1 3 (.slice none 0 0)).put1 4 (.slice none 0 0)
  have hgr := ((gb_set1 wv ⟨w.heap.size, 3, none⟩ (.slice none 0 0)).trans (gb_set1 _ ⟨w.heap.size, 4, none⟩ (.slice none 0 0)))
  have D2 := C2.gb hgr (by show w.heap.size + 1 ≠ w.heap.size; omega)
  have hb2 := (hab.setCell (p := ⟨w.heap.size, 3, none⟩) (Nat.le_refl _) (.slice none 0 0)).setCell (p := ⟨w.heap.size, 4, none⟩) (Nat.le_refl _) (.slice none 0 0)
  clear C1 C2 hab hgr hbv
  go_wp2_with fail
  go_loopw [18] (fun i wr => i = .int .i64 0 ∧ Bx wr w.heap.size [.int .i64 k, .int .i64 n, .string (bs s), .slice none 0 0, .slice none 0 0] ∧ Bx wr (w.heap.size + 1) [.int .i64 0, .int .i64 0, .string ⟨#[]⟩, .slice none 0 0, .slice none 0 0] ∧ Below w.heap.size w wr) (fun _ _ => 0)
  case atStart => exact ⟨rfl, D1, D2, hb2⟩
  case round =>
    clear q3 q4 f3 f4 ql D1 D2 hb2
    obtain ⟨rfl, D1, D2, hb⟩ := hrel
    have q4 := D1.c 4 rfl
    go_wp2_with fail
    go_loopw [33] (fun i wr => i = .int .i64 0 ∧ Bx wr w.heap.size [.int .i64 k, .int .i64 n, .string (bs s), .slice none 0 0, .slice none 0 0] ∧ Bx wr (w.heap.size + 1) [.int .i64 0, .int .i64 0, .string ⟨#[]⟩, .slice none 0 0, .slice none 0 0] ∧ Below w.heap.size w wr) (fun _ _ => 0)
    case atStart => exact ⟨rfl, D1, D2, hb⟩
    case round =>
      clear q4 D1 D2 hb
      obtain ⟨rfl, D1, D2, hb⟩ := hrel
      have c0 := D1.c 0 rfl
      have c1 := D1.c 1 rfl
      have c2 := D1.c 2 rfl
      have c3 := D1.c 3 rfl
      have c4 := D1.c 4 rfl
      have r0 := D2.c 0 rfl
      have r1 := D2.c 1 rfl
      have r2 := D2.c 2 rfl
      have r3 := D2.c 3 rfl
      have r4 := D2.c 4 rfl
      have f0 := D2.f 0 rfl
      have f1 := D2.f 1 rfl
      have f2 := D2.f 2 rfl
      have f3 := D2.f 3 rfl
      have f4 := D2.f 4 rfl
      have l1 := D1.lt
      have l2 := D2.lt
      go_wp2_with fail
      exact bodyPost_ret (v := (.agg #[.int .i64 k, .int .i64 n, .string (bs s), .slice none 0 0, .slice none 0 0])) (by simp [results, Try.results40, go_sem, r0, r1, r2, r3, r4]) rfl ⟨rfl, ((((hb.setCell (Nat.le_succ _) _).setCell (Nat.le_succ _) _).setCell (Nat.le_succ _) _).setCell (Nat.le_succ _) _).setCell (Nat.le_succ _) _⟩
end Go.Proofs.Ytlebppjldoodgaa
/-
  slices.Insert at the end of a row of the call's own. No conditions beyond those that each names.
-/
namespace Go.Proofs.Ytlebppjldoodgaa
open Go.RowKit Go.Shelf
theorem IL.snoc {α β : Type} {z : Nat} {enc : α → β → List Value} {P : Nat → α → β → Prop} {l : List α} {xs : List Value} (h : IL z enc P l xs) (y : α) (b : β) (hz : (enc y b).length = z) (hP : P l.length y b) : IL z enc P (l ++ [y]) (xs ++ enc y b) := by
  refine ⟨by rw [List.length_append, List.length_append, h.1, hz, Nat.add_mul]; simp, fun j hj => ?_⟩
  rw [List.length_append] at hj
  by_cases e : j < l.length
  · obtain ⟨b', h1, h2⟩ := h.2 j e
    rw [List.getElem_append_left e]
    refine ⟨b', fun i hi => ?_, h2⟩
    rw [List.getElem?_append_left (by rw [h.1]; exact mulz e hi)]
    exact h1 i hi
  · have e2 : j = l.length := by simp at hj; omega
    subst e2
    rw [List.getElem_append_right (Nat.le_refl _)]
    simp only [Nat.sub_self, List.getElem_cons_zero]
    refine ⟨b, fun i hi => ?_, hP⟩
    rw [List.getElem?_append_right (by rw [h.1]; omega), h.1, Nat.add_sub_cancel_left]
set_option maxRecDepth 100000 in
set_option maxHeartbeats 4000000 in
theorem insertEnd_any (B0 : Nat) (A : Option Addr) (n d : Nat) (xs : List Value) (x : Int × Vl) (s : Sb) (g c : Nat) (w : World) (hn : n ≤ 2000000) (ho : w.ownsRow B0 72 6 (.slice A n d) n xs) (hg : Bx w g [.int .i64 x.1, .int .i64 x.2.kind, .int .i64 x.2.n, .string (bs x.2.s), .slice s.A x.2.l.length s.c, .slice s.B x.2.f.length s.d]) (hB : B0 ≤ w.heap.size) :
    Calls Try.prog 44 #[.slice A n d, .int .i64 (n : Int), .slice (some ⟨g, 0, none⟩) 1 c] w (fun e w' => ∃ v', e = .returned v' ∧ w'.ownsRow B0 72 6 v' (n + 1) (xs ++ encE x s) ∧ w.grownBy w' (Value.slice A n d).ownBlock) := by
  obtain ⟨i, hi, hz, hs5, hby⟩ := info_parts infoE
  have e0 : w.cell? ((⟨g, 0, none⟩ : Addr).add 0) = _ := hg.c 0 rfl
  have AP : ∀ (ops : Array Oper) (rest : List Oper) (o : Oper) (a : Act) (Q : Exit → Act → World → Prop), o.guard = none → ∀ (t u : Operand), o.op = .call { callee := .builtin .append, args := #[t, u], argTypes := #[23, 23] } → a.eval t = .slice A n d → a.eval u = .slice (some ⟨g, 0, none⟩) 1 c → (∀ v' w', w'.ownsRow B0 72 6 v' (n + 1) (xs ++ encE x s) → w.grownBy w' (Value.slice A n d).ownBlock → wpList Try.prog ops Q rest (a.put o.dst v') w') → wpList Try.prog ops Q (o :: rest) a w := fun ops rest o a Q hgd t u hop ht hu hk =>
    wpList_append_own_at w hgd t u 23 hop B0 72 i _ 6 88 Try.underlying23 hi hz hs5 hby rfl (by omega) _ n xs ht ho ⟨g, 0, none⟩ 1 c (encE x s) hu rfl
      (by intro j u hj
          match j, hj with
          | 0, hj => simp [encE] at hj; subst hj; exact hg.c 0 rfl
          | 1, hj => simp [encE] at hj; subst hj; exact hg.c 1 rfl
          | 2, hj => simp [encE] at hj; subst hj; exact hg.c 2 rfl
          | 3, hj => simp [encE] at hj; subst hj; exact hg.c 3 rfl
          | 4, hj => simp [encE] at hj; subst hj; exact hg.c 4 rfl
          | 5, hj => simp [encE] at hj; subst hj; exact hg.c 5 rfl) (fun u hu => oneE x s u hu) (by simp only [maxLen]; omega) (by omega) hB (fun v' w' h1 h2 _ _ => hk v' w' h1 h2)
  clear e0 hi hz hs5 hby i
  by_cases h0 : n = 0
  · subst h0
    have hA : A = none ∧ d = 0 ∨ ∃ b, A = some ⟨b, 0, none⟩ := by
      rcases ho.2 with ⟨h, -⟩ | ⟨b, cap, cur, h, -⟩
      · injection h with h1 _ h2; exact .inl ⟨h1, h2⟩
      · injection h with h1; exact .inr ⟨b, h1⟩
    rcases hA with ⟨rfl, rfl⟩ | ⟨b, rfl⟩
    · clear ho
      go_enter Try.func44, Try.ntmps44
      go_wp2_with (at_builtin; refine AP _ _ _ _ _ rfl _ _ rfl rfl rfl ?_)
      intro v' w1 hown hgr
      go_wp2
      go_ret
      exact ⟨v', rfl, hown, hgr⟩
    · have hl := (ho.lt b rfl).2
      clear ho
      by_cases hd : d = 0
      · subst hd
        go_enter Try.func44, Try.ntmps44
        go_wp2_with (at_builtin; refine AP _ _ _ _ _ rfl _ _ rfl rfl rfl ?_)
        intro v' w1 hown hgr
        go_wp2
        go_ret
        exact ⟨v', rfl, hown, hgr⟩
      · go_enter Try.func44, Try.ntmps44
        go_wp2_with (at_builtin; refine AP _ _ _ _ _ rfl _ _ rfl rfl rfl ?_)
        intro v' w1 hown hgr
        go_wp2
        go_ret
        exact ⟨v', rfl, hown, hgr⟩
  · obtain ⟨b, rfl⟩ := own_some ho h0
    have hl := (ho.lt b rfl).2
    have hcap : n ≤ d := by
      rcases ho.2 with ⟨h, -⟩ | ⟨b, cap, cur, h, -, -, hc, -⟩
      · cases h
      · injection h with _ _ h2; omega
    clear ho
    by_cases hd : d = n
    · subst hd
      go_enter Try.func44, Try.ntmps44
      go_wp2_with (at_builtin; refine AP _ _ _ _ _ rfl _ _ rfl rfl rfl ?_)
      intro v' w1 hown hgr
      go_wp2
      go_ret
      exact ⟨v', rfl, hown, hgr⟩
    · go_enter Try.func44, Try.ntmps44
      go_wp2_with (at_builtin; refine AP _ _ _ _ _ rfl _ _ rfl rfl rfl ?_)
      intro v' w1 hown hgr
      go_wp2
      go_ret
      exact ⟨v', rfl, hown, hgr⟩
end Go.Proofs.Ytlebppjldoodgaa
/-
  The developers' With of a struct without entries. No conditions beyond those that each names.
-/
namespace Go.Proofs.Ytlebppjldoodgaa
open Go.RowKit Go.Shelf
def WtP (u : Vl) (w : World) (e : Ending) (w' : World) : Prop := ∃ s, e = .returned (.agg #[.int .i64 u.kind, .int .i64 u.n, .string (bs u.s), .slice s.A u.l.length s.c, .slice s.B u.f.length s.d]) ∧ RdV w' u s ∧ Below w.heap.size w w'
theorem Bx.put6 {w : World} {b : Nat} {x y z u p q : Value} (h : Bx w b [x, y, z, u, p, q]) (x' y' z' u' p' q' : Value) : Bx ((((((w.setCell ⟨b, 0, none⟩ x').setCell ⟨b, 1, none⟩ y').setCell ⟨b, 2, none⟩ z').setCell ⟨b, 3, none⟩ u').setCell ⟨b, 4, none⟩ p').setCell ⟨b, 5, none⟩ q') b [x', y', z', u', p', q'] := (((((h.put1 0 x').put1 1 y').put1 2 z').put1 3 u').put1 4 p').put1 5 q'
theorem Bx.put5 {w : World} {b : Nat} {x y z u p : Value} (h : Bx w b [x, y, z, u, p]) (x' y' z' u' p' : Value) : Bx (((((w.setCell ⟨b, 0, none⟩ x').setCell ⟨b, 1, none⟩ y').setCell ⟨b, 2, none⟩ z').setCell ⟨b, 3, none⟩ u').setCell ⟨b, 4, none⟩ p') b [x', y', z', u', p'] := ((((h.put1 0 x').put1 1 y').put1 2 z').put1 3 u').put1 4 p'
theorem gb_set5 (w : World) (b : Nat) (x y z u p : Value) : w.grownBy (((((w.setCell ⟨b, 0, none⟩ x).setCell ⟨b, 1, none⟩ y).setCell ⟨b, 2, none⟩ z).setCell ⟨b, 3, none⟩ u).setCell ⟨b, 4, none⟩ p) (some b) := ((gb_set3 w b x y z).trans (gb_set1 _ ⟨b, 3, none⟩ u)).trans (gb_set1 _ ⟨b, 4, none⟩ p)
theorem gb_set6 (w : World) (b : Nat) (x y z u p q : Value) : w.grownBy ((((((w.setCell ⟨b, 0, none⟩ x).setCell ⟨b, 1, none⟩ y).setCell ⟨b, 2, none⟩ z).setCell ⟨b, 3, none⟩ u).setCell ⟨b, 4, none⟩ p).setCell ⟨b, 5, none⟩ q) (some b) := (gb_set5 w b x y z u p).trans (gb_set1 _ ⟨b, 5, none⟩ q)
theorem below_of_gb {w w' : World} (h : w.grownBy w' none) : Below w.heap.size w w' := ⟨h.os, h.tape, h.output, h.size, fun i hi => h.block i hi (by simp)⟩
set_option maxRecDepth 100000 in
set_option maxHeartbeats 8000000 in
theorem with0_any (n : Int) (s : List UInt8) (z k n' : Int) (s' : List UInt8) (w : World) :
    Calls Try.prog 16 #[.agg #[.int .i64 6, .int .i64 n, .string (bs s), .slice none 0 0, .slice none 0 0], .int .i64 z, (.agg #[.int .i64 k, .int .i64 n', .string (bs s'), .slice none 0 0, .slice none 0 0])] w (WtP (.mk 6 n s [] [(z, .mk k n' s' [] [])]) w) := by
  have cR := fun W => renewNil_any 6 n s W
  have cN := fun W => renewNil_any k n' s' W
  have cI := fun W => indexOf_any [] none 0 z W (by decide) (.inl rfl)
  have hW : ∃ W, (((w.alloc (Obj.cells #[.int .i64 6, .int .i64 n, .string (bs s), .slice none 0 0, .slice none 0 0] 25)).alloc (Obj.cells #[.int .i64 z] 3)).alloc (Obj.cells #[.int .i64 k, .int .i64 n', .string (bs s'), .slice none 0 0, .slice none 0 0] 25)).alloc (Obj.cells #[.int .i64 0, .int .i64 0, .string ⟨#[]⟩, .slice none 0 0, .slice none 0 0] 25) = W := ⟨_, rfl⟩
  have D1 := (Bx.new5 w 25 (.int .i64 6) (.int .i64 n) (.string (bs s)) (.slice none 0 0) (.slice none 0 0)).next (ab3 _ (Obj.cells #[.int .i64 z] 3) (Obj.cells #[.int .i64 k, .int .i64 n', .string (bs s'), .slice none 0 0, .slice none 0 0] 25) (Obj.cells #[.int .i64 0, .int .i64 0, .string ⟨#[]⟩, .slice none 0 0, .slice none 0 0] 25))
  have D2 := (Bx.new1 (w.alloc (Obj.cells #[.int .i64 6, .int .i64 n, .string (bs s), .slice none 0 0, .slice none 0 0] 25)) 3 (.int .i64 z)).next (ab2 _ (Obj.cells #[.int .i64 k, .int .i64 n', .string (bs s'), .slice none 0 0, .slice none 0 0] 25) (Obj.cells #[.int .i64 0, .int .i64 0, .string ⟨#[]⟩, .slice none 0 0, .slice none 0 0] 25))
  have D3 := (Bx.new5 ((w.alloc (Obj.cells #[.int .i64 6, .int .i64 n, .string (bs s), .slice none 0 0, .slice none 0 0] 25)).alloc (Obj.cells #[.int .i64 z] 3)) 25 (.int .i64 k) (.int .i64 n') (.string (bs s')) (.slice none 0 0) (.slice none 0 0)).next (ab1 _ (Obj.cells #[.int .i64 0, .int .i64 0, .string ⟨#[]⟩, .slice none 0 0, .slice none 0 0] 25))
  have D4 := Bx.new5 (((w.alloc (Obj.cells #[.int .i64 6, .int .i64 n, .string (bs s), .slice none 0 0, .slice none 0 0] 25)).alloc (Obj.cells #[.int .i64 z] 3)).alloc (Obj.cells #[.int .i64 k, .int .i64 n', .string (bs s'), .slice none 0 0, .slice none 0 0] 25)) 25 (.int .i64 0) (.int .i64 0) (.string ⟨#[]⟩) (.slice none 0 0) (.slice none 0 0)
  have hab := ab4 w (Obj.cells #[.int .i64 6, .int .i64 n, .string (bs s), .slice none 0 0, .slice none 0 0] 25) (Obj.cells #[.int .i64 z] 3) (Obj.cells #[.int .i64 k, .int .i64 n', .string (bs s'), .slice none 0 0, .slice none 0 0] 25) (Obj.cells #[.int .i64 0, .int .i64 0, .string ⟨#[]⟩, .slice none 0 0, .slice none 0 0] 25)
  rw [show (w.alloc (Obj.cells #[.int .i64 6, .int .i64 n, .string (bs s), .slice none 0 0, .slice none 0 0] 25)).heap.size = w.heap.size + 1 by simp] at D2
  rw [show ((w.alloc (Obj.cells #[.int .i64 6, .int .i64 n, .string (bs s), .slice none 0 0, .slice none 0 0] 25)).alloc (Obj.cells #[.int .i64 z] 3)).heap.size = w.heap.size + 1 + 1 by simp] at D3
  rw [show (((w.alloc (Obj.cells #[.int .i64 6, .int .i64 n, .string (bs s), .slice none 0 0, .slice none 0 0] 25)).alloc (Obj.cells #[.int .i64 z] 3)).alloc (Obj.cells #[.int .i64 k, .int .i64 n', .string (bs s'), .slice none 0 0, .slice none 0 0] 25)).heap.size = w.heap.size + 1 + 1 + 1 by simp] at D4
  clear hW
  go_enter Try.func16, Try.ntmps16
  go_wp2_with fail
  generalize (((w.alloc (Obj.cells #[.int .i64 6, .int .i64 n, .string (bs s), .slice none 0 0, .slice none 0 0] 25)).alloc (Obj.cells #[.int .i64 z] 3)).alloc (Obj.cells #[.int .i64 k, .int .i64 n', .string (bs s'), .slice none 0 0, .slice none 0 0] 25)).alloc (Obj.cells #[.int .i64 0, .int .i64 0, .string ⟨#[]⟩, .slice none 0 0, .slice none 0 0] 25) = W0 at *
  refine (cR _).mono ?_
  rintro e w2 ⟨rfl, hb2⟩
  replace D1 := D1.next hb2
  replace D2 := D2.next hb2
  replace D3 := D3.next hb2
  replace D4 := D4.next hb2
  replace hab := Below.next hab hb2
  clear cR hb2
  have s0 := D1.c 0 rfl
  have s1 := D1.c 1 rfl
  have s2 := D1.c 2 rfl
  have s3 := D1.c 3 rfl
  have s4 := D1.c 4 rfl
  have t0 := D1.f 0 rfl
  have t1 := D1.f 1 rfl
  have t2 := D1.f 2 rfl
  have t3 := D1.f 3 rfl
  have t4 := D1.f 4 rfl
  have l1 := D1.lt
  have E1 := D1.put5 (.int .i64 6) (.int .i64 n) (.string (bs s)) (.slice none 0 0) (.slice none 0 0)
  have hgr := gb_set5 w2 w.heap.size (.int .i64 6) (.int .i64 n) (.string (bs s)) (.slice none 0 0) (.slice none 0 0)
  replace D2 := D2.gb hgr (by omega)
  replace D3 := D3.gb hgr (by omega)
  replace D4 := D4.gb hgr (by omega)
  replace hab := hab.grown hgr hab.size (fun j hj => by cases hj; exact Nat.le_refl _)
  clear hgr D1
  go_upto_region 4 with (fail)
  generalize (((((w2.setCell ⟨w.heap.size, 0, none⟩ (.int .i64 6)).setCell ⟨w.heap.size, 1, none⟩ (.int .i64 n)).setCell ⟨w.heap.size, 2, none⟩ (.string (bs s))).setCell ⟨w.heap.size, 3, none⟩ (.slice none 0 0)).setCell ⟨w.heap.size, 4, none⟩ (.slice none 0 0)) = W1 at *
  clear s0 s1 s2 s3 s4 t0 t1 t2 t3 t4 l1
  have p0 := D2.c 0 rfl
  have x0 := D3.c 0 rfl
  have x1 := D3.c 1 rfl
  have x2 := D3.c 2 rfl
  have x3 := D3.c 3 rfl
  have x4 := D3.c 4 rfl
  refine wp_region_box (by kernel_rfl) (FF [(4, Fact.at_ W1 (.pointer (some ⟨(w.heap.size + 1), 0, none⟩))), (5, Fact.at_ W1 (.pointer (some ⟨(w.heap.size + 1 + 1), 0, none⟩))), (16, Fact.at_ W1 (.int .i64 z)), (17, Fact.at_ W1 (.agg #[.int .i64 k, .int .i64 n', .string (bs s'), .slice none 0 0, .slice none 0 0])), (18, Fact.at_ W1 (.agg #[.int .i64 k, .int .i64 n', .string (bs s'), .slice none 0 0, .slice none 0 0])), (19, Fact.at_ W1 (.agg #[.int .i64 z, .int .i64 k, .int .i64 n', .string (bs s'), .slice none 0 0, .slice none 0 0]))]) [4, 5] 49 7 5 19 [.int .i64 0, .int .i64 0, .int .i64 0, .string ⟨#[]⟩, .slice none 0 0, .slice none 0 0] [.int .i64 z, .int .i64 k, .int .i64 n', .string (bs s'), .slice none 0 0, .slice none 0 0] [16, 17, 18, 19, 7] rfl (by kernel_rfl) (by kernel_rfl) (by kernel_rfl) (by kernel_rfl) (FF_soft (fcs ⟨at_soft W1 (.pointer (some ⟨(w.heap.size + 1), 0, none⟩)), fcs ⟨at_soft W1 (.pointer (some ⟨(w.heap.size + 1 + 1), 0, none⟩)), fcs ⟨at_soft W1 (.int .i64 z), fcs ⟨at_soft W1 (.agg #[.int .i64 k, .int .i64 n', .string (bs s'), .slice none 0 0, .slice none 0 0]), fcs ⟨at_soft W1 (.agg #[.int .i64 k, .int .i64 n', .string (bs s'), .slice none 0 0, .slice none 0 0]), fcs ⟨at_soft W1 (.agg #[.int .i64 z, .int .i64 k, .int .i64 n', .string (bs s'), .slice none 0 0, .slice none 0 0]), fnl⟩⟩⟩⟩⟩⟩)) ?_ ?_ ?_
  · intro t9 ht9
    simp only [List.mem_cons, List.not_mem_nil, or_false] at ht9
    rcases ht9 with rfl | rfl
    · exact ⟨rfl, Below.refl _ _⟩
    · exact ⟨rfl, Below.refl _ _⟩
  · refine fcs ⟨.plain (at1 4 16 (.pointer (some ⟨(w.heap.size + 1), 0, none⟩)) (.int .i64 z) rfl (by first | exact .inl rfl | exact .inr ⟨_, _, _, rfl, rfl, by kernel_rfl, by decide, rfl⟩) (by kernel_rfl) rfl rfl (fun a9 W9 hb9 h9 => by have g0 := cell_next hb9 p0; simp [execOp, h9] <;> go_simp)) (by decide) (by decide), ?_⟩
    refine fcs ⟨.plain (at1 5 17 (.pointer (some ⟨(w.heap.size + 1 + 1), 0, none⟩)) (.agg #[.int .i64 k, .int .i64 n', .string (bs s'), .slice none 0 0, .slice none 0 0]) rfl (by first | exact .inl rfl | exact .inr ⟨_, _, _, rfl, rfl, by kernel_rfl, by decide, rfl⟩) (by kernel_rfl) rfl rfl (fun a9 W9 hb9 h9 => by have g0 := cell_next hb9 x0; have g1 := cell_next hb9 x1; have g2 := cell_next hb9 x2; have g3 := cell_next hb9 x3; have g4 := cell_next hb9 x4; simp [execOp, h9] <;> go_simp)) (by decide) (by decide), ?_⟩
    refine fcs ⟨.plain (atc1 40 17 18 (.agg #[.int .i64 k, .int .i64 n', .string (bs s'), .slice none 0 0, .slice none 0 0]) (.agg #[.int .i64 k, .int .i64 n', .string (bs s'), .slice none 0 0, .slice none 0 0]) _ rfl rfl (by first | exact .inl rfl | exact .inr ⟨_, _, _, rfl, rfl, by kernel_rfl, by decide, rfl⟩) (by kernel_rfl) rfl (by kernel_rfl) rfl (fun W9 hb9 => cN W9)) (by decide) (by decide), ?_⟩
    refine fcs ⟨.plain (at2 16 18 19 (.int .i64 z) (.agg #[.int .i64 k, .int .i64 n', .string (bs s'), .slice none 0 0, .slice none 0 0]) (.agg #[.int .i64 z, .int .i64 k, .int .i64 n', .string (bs s'), .slice none 0 0, .slice none 0 0]) rfl (by first | exact .inl rfl | exact .inr ⟨_, _, _, rfl, rfl, by kernel_rfl, by decide, rfl⟩) (by kernel_rfl) (by kernel_rfl) rfl rfl rfl (fun a9 W9 hb9 h9 h8 => by simp [execOp, h9, h8] <;> go_simp)) (by decide) (by decide), ?_⟩
    refine fcs ⟨.alloc rfl rfl rfl (by decide) (fun a9 w9 => ⟨_, by simp [execOp, ptr0] <;> go_simp, ab1 _ (Obj.cells #[.int .i64 0, .int .i64 0, .int .i64 0, .string ⟨#[]⟩, .slice none 0 0, .slice none 0 0] 72), Bx.new6 _ _ _ _ _ _ _ _⟩), ?_⟩
    refine fcs ⟨.store rfl rfl rfl (by kernel_rfl) (by kernel_rfl) (fun a9 w9 b9 h9 hx9 hf9 => (by have k1 : a9.eval (.tmp 7) = .pointer (some ⟨b9, 0, none⟩) := h9; have k2 : a9.eval (.tmp 19) = .agg #[.int .i64 z, .int .i64 k, .int .i64 n', .string (bs s'), .slice none 0 0, .slice none 0 0] := hf9.1; have g0 := hx9.c 0 rfl; have f0 := hx9.f 0 rfl; have g1 := hx9.c 1 rfl; have f1 := hx9.f 1 rfl; have g2 := hx9.c 2 rfl; have f2 := hx9.f 2 rfl; have g3 := hx9.c 3 rfl; have f3 := hx9.f 3 rfl; have g4 := hx9.c 4 rfl; have f4 := hx9.f 4 rfl; have g5 := hx9.c 5 rfl; have f5 := hx9.f 5 rfl; have l9 := hx9.lt; exact ⟨_, by simp [execOp, k1, k2] <;> go_simp, gb_set6 _ _ _ _ _ _ _ _, hx9.put6 _ _ _ _ _ _⟩)), ?_⟩
    exact fnl
  rintro vv wv hvv ⟨gx, hgx, hgl, hX⟩ hbv
  have hv19 : vv 19 = (.agg #[.int .i64 z, .int .i64 k, .int .i64 n', .string (bs s'), .slice none 0 0, .slice none 0 0]) := (hvv 19 (by decide)).1
  unfold ptr0 at hgx
  simp only [lay, List.foldl_cons, List.foldl_nil, List.setIfInBounds_toArray, List.set_cons_succ, List.set_cons_zero, hgx, hv19]
  replace E1 := E1.next hbv
  replace D2 := D2.next hbv
  replace D4 := D4.next hbv
  replace hab := Below.next hab hbv
  clear hvv hgx hgl hbv p0 x0 x1 x2 x3 x4 D3 cN hv19
  have s4 := E1.c 4 rfl
  have p0 := D2.c 0 rfl
  have l1 := D2.lt
  have cI1 := cI wv
  have hix : ixI (List.findIdx? (fun x : Int × Vl => (x.1 == z)) []) = -1 := rfl
  rw [hix] at cI1
  clear cI hix
  go_wp2_with fail
  refine cI1.mono ?_
  rintro e w4 ⟨rfl, hb4⟩
  replace E1 := E1.next hb4
  replace D2 := D2.next hb4
  replace D4 := D4.next hb4
  replace hX := hX.next hb4
  replace hab := Below.next hab hb4
  clear cI1 hb4 s4 p0 l1
  have s4 := E1.c 4 rfl
  have p0 := D2.c 0 rfl
  have cG := gtIx_any [] none 0 z (w.heap.size + 1) w4 (by decide) (.inl rfl) p0
  have hix : ixI (List.findIdx? (fun x : Int × Vl => decide (z < x.1)) []) = -1 := rfl
  rw [hix] at cG
  go_wp2_with fail
  refine cG.mono ?_
  rintro e w5 ⟨rfl, hb5⟩
  replace E1 := E1.next hb5
  replace D4 := D4.next hb5
  replace hX := hX.next hb5
  replace hab := Below.next hab hb5
  clear cG hb5 s4 p0 D2 hix
  have s4 := E1.c 4 rfl
  have y0 := hX.c 0 rfl
  have y1 := hX.c 1 rfl
  have y2 := hX.c 2 rfl
  have y3 := hX.c 3 rfl
  have y4 := hX.c 4 rfl
  have y5 := hX.c 5 rfl
  have hbx := ab1 w5 (Obj.cells #[.int .i64 z, .int .i64 k, .int .i64 n', .string (bs s'), .slice none 0 0, .slice none 0 0] 72)
  have hQ := Bx.new6 w5 72 (.int .i64 z) (.int .i64 k) (.int .i64 n') (.string (bs s')) (.slice none 0 0) (.slice none 0 0)
  have cX := insertEnd_any (w5.alloc (Obj.cells #[.int .i64 z, .int .i64 k, .int .i64 n', .string (bs s'), .slice none 0 0, .slice none 0 0] 72)).heap.size none 0 0 [] (z, .mk k n' s' [] []) ⟨none, 0, none, 0⟩ w5.heap.size 1 (w5.alloc (Obj.cells #[.int .i64 z, .int .i64 k, .int .i64 n', .string (bs s'), .slice none 0 0, .slice none 0 0] 72)) (by decide) (World.ownsRow_nil _ _ _ _) hQ (Nat.le_refl _)
  replace E1 := E1.next hbx
  have D40 := D4
  replace D4 := D4.next hbx
  have hab2 := Below.next hab hbx
  have s5 := E1.c 4 rfl
  go_wp2_with fail
  refine cX.mono ?_
  rintro e w6 ⟨v', rfl, hown, hgr⟩
  obtain ⟨B', d', rfl⟩ := own_form hown
  have hb6 : Below (w5.alloc (Obj.cells #[.int .i64 z, .int .i64 k, .int .i64 n', .string (bs s'), .slice none 0 0, .slice none 0 0] 72)).heap.size (w5.alloc (Obj.cells #[.int .i64 z, .int .i64 k, .int .i64 n', .string (bs s'), .slice none 0 0, .slice none 0 0] 72)) w6 := below_of_gb hgr
  replace E1 := E1.next hb6
  replace D4 := D4.next hb6
  have hl5 := Nat.lt_of_lt_of_le D40.lt hbx.size
  replace hab := Below.next hab2 hb6
  clear cX hb6 hab2 hgr hX y0 y1 y2 y3 y4 y5 s4 s5 hQ
  have s0 := E1.c 0 rfl
  have s1 := E1.c 1 rfl
  have s2 := E1.c 2 rfl
  have s3 := E1.c 3 rfl
  have s4 := E1.c 4 rfl
  have f4 := E1.f 4 rfl
  have r0 := D4.c 0 rfl
  have r1 := D4.c 1 rfl
  have r2 := D4.c 2 rfl
  have r3 := D4.c 3 rfl
  have r4 := D4.c 4 rfl
  have q0 := D4.f 0 rfl
  have q1 := D4.f 1 rfl
  have q2 := D4.f 2 rfl
  have q3 := D4.f 3 rfl
  have q4 := D4.f 4 rfl
  have l1 := E1.lt
  have l2 := D4.lt
  obtain ⟨g, rfl⟩ := own_some hown (by decide)
  have hg := hown.lt g rfl
  generalize (w5.alloc (Obj.cells #[.int .i64 z, .int .i64 k, .int .i64 n', .string (bs s'), .slice none 0 0, .slice none 0 0] 72)).heap.size = lo at *
  go_wp2_with fail
  have hK := (((((((Kpl.refl lo w6).set (p := ⟨w.heap.size, 4, none⟩) (by show w.heap.size < lo; omega) (.slice (some ⟨g, 0, none⟩) 1 d')).set (p := ⟨w.heap.size + 1 + 1 + 1, 0, none⟩) hl5 (.int .i64 6)).set (p := ⟨w.heap.size + 1 + 1 + 1, 1, none⟩) hl5 (.int .i64 n)).set (p := ⟨w.heap.size + 1 + 1 + 1, 2, none⟩) hl5 (.string (bs s))).set (p := ⟨w.heap.size + 1 + 1 + 1, 3, none⟩) hl5 (.slice none 0 0)).set (p := ⟨w.heap.size + 1 + 1 + 1, 4, none⟩) hl5 (.slice (some ⟨g, 0, none⟩) 1 d'))
  have hb9 := (hab.setCell (p := ⟨w.heap.size, 4, none⟩) (Nat.le_refl _) (.slice (some ⟨g, 0, none⟩) 1 d'))
  refine bodyPost_ret (v := .agg #[.int .i64 6, .int .i64 n, .string (bs s), .slice none 0 0, .slice (some ⟨g, 0, none⟩) 1 d']) (by simp [results, Try.results16, go_sem, r0, r1, r2, r3, r4]) rfl ⟨⟨none, 0, some ⟨g, 0, none⟩, d'⟩, rfl, ⟨.inl rfl, rowE_of hown (hK.blk g hg.1 hg.2) rfl (IL.snoc (IL.nil 6 encE _) (z, .mk k n' s' [] []) ⟨none, 0, none, 0⟩ rfl ⟨.inl rfl, .inl rfl⟩)⟩, ((((hb9.setCell (by show _ ≤ w.heap.size + 1 + 1 + 1; omega) _).setCell (by show _ ≤ w.heap.size + 1 + 1 + 1; omega) _).setCell (by show _ ≤ w.heap.size + 1 + 1 + 1; omega) _).setCell (by show _ ≤ w.heap.size + 1 + 1 + 1; omega) _).setCell (by show _ ≤ w.heap.size + 1 + 1 + 1; omega) _⟩
end Go.Proofs.Ytlebppjldoodgaa
/-
  A region whose order Go leaves open, with one new variable into which one value is stored of which only a predicate is known. No conditions beyond those that it names.
-/
namespace Go.Proofs.Ytlebppjldoodgaa
open Go.RowKit
section
variable (ops : Array Oper) (F : Nat → Fact) (base : List Nat) (N : Nat) (g : Nat) (p k : Nat) (zs : List Value) (V : List Value → Prop)
structure YInv (a0 : Act) (w0 : World) (listed : Array Bool) (a : Act) (w : World) : Prop where
  tsize : a.tmps.size = N
  defers : a.defers = a0.defers
  base : ∀ t ∈ base, (F t).holds (a.tmps.getD t undef) w
  done : ∀ (i t : Nat), listed.getD i false = true → (ops[i]?).bind Oper.dst = some t → (F t).holds (a.tmps.getD t undef) w
  other : ∀ (t : Nat), (∀ (i : Nat), (ops[i]?).bind Oper.dst ≠ some t) → a.tmps.getD t undef = a0.tmps.getD t undef
  below : Below g w0 w
  gle : g ≤ w.heap.size
  made : ∀ i, listed.getD i false = true → (ops[i]?).bind Oper.dst = some p → ∃ b, a.tmps.getD p undef = ptr0 b ∧ g ≤ b ∧ (listed.getD k false = false → Bx w b zs) ∧ (listed.getD k false = true → ∃ vs, V vs ∧ Bx w b vs)
  closed : ∀ i o, ops[i]? = some o → listed.getD i false = true → ∀ e ∈ o.after, Region.binds .any e = true → listed.getD e.on false = true
/-- What an operation of such a region must show. -/
inductive YOb (f : Nat) (Q : Exit → Act → World → Prop) (i : Nat) (o : Oper) : Prop
  | plain (h : Ob ops Q F base N o) (hp : o.dst ≠ some p) (hk : i ≠ k) : YOb f Q i o
  | alloc (hd : o.dst = some p) (hg : o.guard = none) (hF : F p = Fact.any) (hk : i ≠ k) (hrun : ∀ (a : Act) (w : World), ∃ w', (execOp a.eval o).run Try.prog w = .ok (.value (ptr0 w.heap.size)) w' ∧ Below w.heap.size w w' ∧ Bx w' w.heap.size zs) : YOb f Q i o
  | store (hi : i = k) (hd : o.dst = none) (hg : o.guard = none) (hkn : known ops [] o p = true) (hk2 : known ops base o f = true)
      (hrun : ∀ (a : Act) (w : World) (b : Nat), a.tmps.getD p undef = ptr0 b → Bx w b zs → (F f).holds (a.tmps.getD f undef) w → ∃ w', (execOp a.eval o).run Try.prog w = .ok .skip w' ∧ w.grownBy w' (some b) ∧ ∃ vs, V vs ∧ Bx w' b vs) : YOb f Q i o
end
section
variable {ops : Array Oper} {Q : Exit → Act → World → Prop} {F : Nat → Fact} {base : List Nat} {N g : Nat} {p k f : Nat} {zs : List Value} {V : List Value → Prop}
theorem YInv.closed' {a0 : Act} {w0 : World} {listed : Array Bool} {a : Act} {w : World} (h : YInv ops F base N g p k zs V a0 w0 listed a w) (hs : listed.size = ops.size) {i : Nat} {o : Oper} (ho : ops[i]? = some o)
    (he : ∀ e ∈ o.after, Region.binds .any e = true → listed.getD e.on false = true) : ∀ j o', ops[j]? = some o' → (listed.setIfInBounds i true).getD j false = true → ∀ e ∈ o'.after, Region.binds .any e = true → (listed.setIfInBounds i true).getD e.on false = true := by
  have hlt : i < listed.size := by rw [hs]; exact (Array.getElem?_eq_some_iff.1 ho).1
  intro j o' ho' hl e hm hb
  rw [listed_set hlt] at hl ⊢
  rcases hl with rfl | hl
  · rw [ho] at ho'
    injection ho' with ho'
    subst ho'
    exact .inr (he e hm hb)
  · exact .inr (h.closed j o' ho' hl e hm hb)
theorem YInv.step (hok : formOk ops base N = true) (hsoft : ∀ t, (F t).SoftG g) (hobs : ∀ j o', ops[j]? = some o' → YOb ops F base N p k zs V f Q j o') {a0 : Act} {w0 : World} {listed : Array Bool} {a : Act} {w : World} (h : YInv ops F base N g p k zs V a0 w0 listed a w) (hs : listed.size = ops.size) {i : Nat} {o : Oper} (ho : ops[i]? = some o)
    (hl0 : listed.getD i false = false) (he : ∀ e ∈ o.after, Region.binds .any e = true → listed.getD e.on false = true) (K : Act → World → Prop) (hK : ∀ a' w', YInv ops F base N g p k zs V a0 w0 (listed.setIfInBounds i true) a' w' → K a' w') :
    (if Region.wanted o (yielded ops a.tmps) = true then Oper.wp Try.prog o a w K Q else K (a.put o.dst undef) w) := by
  have hdone : ∀ e ∈ o.after, Region.binds .any e = true → ∀ t, (ops[e.on]?).bind Oper.dst = some t → (F t).holds (a.tmps.getD t undef) w := fun e hm hb t ht => h.done e.on t (he e hm hb) ht
  have hlt : i < listed.size := by rw [hs]; exact (Array.getElem?_eq_some_iff.1 ho).1
  obtain ⟨_, hd⟩ := formOk_at hok ho
  cases hobs i o ho with
  | plain hob hp hk =>
    refine hob a w K h.tsize h.base hdone fun v w' hb hF => hK _ _ ?_
    refine ⟨?_, ?_, fun t ht => ?_, fun j t hj hjt => ?_, fun t ht => ?_, h.below.trans (hb.mono h.gle), Nat.le_trans h.gle hb.size, fun j hj hjd => ?_, h.closed' hs ho he⟩
    · cases o.dst <;> simpa [Act.put] using h.tsize
    · cases o.dst <;> simpa [Act.put] using h.defers
    · rw [getD_put_other (fun e => (hd t e).2.1 ht)]
      exact (F t).stable _ _ _ (h.base t ht) hb
    · by_cases hji : j = i
      · subst hji
        rw [ho] at hjt
        have hjt' : o.dst = some t := hjt
        rw [hjt', getD_put_same (by rw [h.tsize]; exact (hd t hjt').1)]
        exact hF t hjt'
      · have hl : listed.getD j false = true := ((listed_set hlt).1 hj).resolve_left hji
        rw [getD_put_other (fun e => (hd t e).2.2 j hji hjt)]
        exact (F t).stable _ _ _ (h.done j t hl hjt) hb
    · rw [getD_put_other (fun e => ht i (by rw [ho]; exact e))]
      exact h.other t ht
    · have hj' : listed.getD j false = true := ((listed_set hlt).1 hj).resolve_left (by
        rintro rfl
        rw [ho] at hjd
        exact hp hjd)
      obtain ⟨b, h1, h2, h3, h4⟩ := h.made j hj' hjd
      have hkk : (listed.setIfInBounds i true).getD k false = listed.getD k false := by
        have := listed_set (j := k) hlt
        cases hx : listed.getD k false
        · rw [Bool.eq_false_iff]
          intro hc
          rcases this.1 hc with e | e
          · exact hk e.symm
          · rw [hx] at e; cases e
        · exact this.2 (.inr hx)
      rw [hkk]
      exact ⟨b, by rw [getD_put_other hp]; exact h1, h2, fun hl => (h3 hl).next hb, fun hl => by obtain ⟨vs, hv, hx⟩ := h4 hl; exact ⟨vs, hv, hx.next hb⟩⟩
  | alloc hds hg hF hk hrun =>
    obtain ⟨w', hr, hb, hx⟩ := hrun a w
    rw [if_pos (by simp [Region.wanted, hg])]
    unfold Oper.wp
    rw [hr]
    have hps := (hd p hds)
    have hput : (a.put o.dst (ptr0 w.heap.size)).tmps.getD p undef = ptr0 w.heap.size := by
      rw [hds, getD_put_same (by rw [h.tsize]; exact hps.1)]
    have hold : ∀ t, t ≠ p → (a.put o.dst (ptr0 w.heap.size)).tmps.getD t undef = a.tmps.getD t undef := fun t ht => getD_put_other (by rw [hds]; intro e; injection e with e; exact ht e.symm)
    have hnk : listed.getD k false = false := by
      cases hc : listed.getD k false with
      | false => rfl
      | true =>
        exfalso
        have hlt2 : k < ops.size := by
          rcases Nat.lt_or_ge k listed.size with h1 | h1
          · rw [← hs]; exact h1
          · rw [Array.getD_eq_getD_getElem?, Array.getElem?_eq_none h1] at hc; cases hc
        have ho' : ops[k]? = some ops[k] := Array.getElem?_eq_getElem hlt2
        cases hobs k _ ho' with
        | plain _ _ h2 => exact h2 rfl
        | alloc _ _ _ h2 => exact h2 rfl
        | store _ _ _ hkn _ _ =>
          obtain ⟨e, hem, hb', hdst⟩ := known_opX hkn
          have h4 := h.closed _ _ ho' hc e hem hb'
          have h5 : e.on = i := by
            by_cases h6 : e.on = i
            · exact h6
            · exact absurd hdst (hps.2.2 e.on h6)
          rw [h5, hl0] at h4
          cases h4
    have hnk2 : (listed.setIfInBounds i true).getD k false = false := by
      rw [Bool.eq_false_iff]
      intro hc
      rcases (listed_set hlt).1 hc with e | e
      · exact hk e.symm
      · rw [hnk] at e; cases e
    refine hK _ _ ⟨?_, ?_, fun t ht => ?_, fun j t hj hjt => ?_, fun t ht => ?_, h.below.trans (hb.mono h.gle), Nat.le_trans h.gle hb.size, fun j hj hjd => ?_, h.closed' hs ho he⟩
    · cases o.dst <;> simpa [Act.put] using h.tsize
    · cases o.dst <;> simpa [Act.put] using h.defers
    · rw [hold t (fun e => hps.2.1 (e ▸ ht))]
      exact (F t).stable _ _ _ (h.base t ht) hb
    · by_cases hts : t = p
      · subst hts
        rw [hF]
        trivial
      · rw [hold t hts]
        refine (F t).stable _ _ _ (h.done j t (((listed_set hlt).1 hj).resolve_left ?_) hjt) hb
        rintro rfl
        rw [ho] at hjt
        exact hts (by have h5 : o.dst = some t := hjt; rw [hds] at h5; injection h5 with h5; exact h5.symm)
    · rw [hold t (by rintro rfl; exact ht i (by rw [ho]; exact hds))]
      exact h.other t ht
    · exact ⟨w.heap.size, hput, h.gle, fun _ => hx, fun hl => by rw [hnk2] at hl; cases hl⟩
  | store hi hd0 hg hkn hk2 hrun =>
    have hlk : listed.getD k false = false := by rw [← hi]; exact hl0
    rw [if_pos (by simp [Region.wanted, hg])]
    obtain ⟨e, hem, heb, hed⟩ := known_opX hkn
    obtain ⟨b, h1, h2, h3, _⟩ := h.made e.on (he e hem heb) hed
    have hf := known_fact h.base hdone hk2
    obtain ⟨w', hr, hgw, hx⟩ := hrun a w b h1 (h3 hlk) hf
    unfold Oper.wp
    rw [hr]
    have hput : a.put o.dst undef = a := by rw [hd0]; rfl
    show K (a.put o.dst undef) _
    rw [hput]
    have hold : ∀ m d, (listed.setIfInBounds i true).getD m false = true → (ops[m]?).bind Oper.dst = some d → listed.getD m false = true := fun m d hm hmd => ((listed_set hlt).1 hm).resolve_left (by
      rintro rfl
      rw [ho] at hmd
      have h5 : o.dst = some d := hmd
      rw [hd0] at h5; cases h5)
    have hii : (listed.setIfInBounds i true).getD k false = true := (listed_set hlt).2 (.inl hi.symm)
    exact hK _ _ ⟨h.tsize, h.defers, fun t ht => hsoft t _ _ _ _ (h.base t ht) h.gle h2 hgw, fun m t hm hmt => hsoft t _ _ _ _ (h.done m t (hold m t hm hmt) hmt) h.gle h2 hgw, h.other, h.below.grown hgw h.gle (fun j hj => by cases hj; exact h2), Nat.le_trans h.gle hgw.size, fun m hm hmd => ⟨b, h1, h2, fun hl => (by rw [hii] at hl; cases hl), fun _ => hx⟩, h.closed' hs ho he⟩
end
/-- **A region that makes one new variable and stores into it once**, whatever its order, and what comes behind it. -/
theorem wp_region_boxd {Q : Exit → Act → World → Prop} {id : Nat} {l : List Oper} {a : Act} {w : World} (hm : Try.prog.follows .mixedOrders = true) (F : Nat → Fact) (base : List Nat) (N : Nat) (p k f : Nat) (zs : List Value) (V : List Value → Prop) (ds : List Nat) (hN : a.tmps.size = N) (hok : formOk l.toArray base N = true) (hback : backOk l.toArray = true) (hds : dstsOk l ds = true) (hpk : (ds.contains p && decide (k < l.length)) = true)
    (hsoft : ∀ t, (F t).SoftG w.heap.size) (hbase : ∀ t ∈ base, (F t).holds (a.tmps.getD t undef) w) (hstep : ∀ q ∈ l.zipIdx, YOb l.toArray F base N p k zs V f Q q.2 q.1)
    (hend : ∀ (v : Nat → Value) w', (∀ t ∈ ds, (F t).holds (v t) w') → (∃ b, v p = ptr0 b ∧ w.heap.size ≤ b ∧ ∃ vs, V vs ∧ Bx w' b vs) → Below w.heap.size w w' → Q .normal { tmps := lay a.tmps ds v, defers := a.defers } w') : (Code.region id l.toArray true).wp Try.prog Q a w := by
  have hobs : ∀ j o', l.toArray[j]? = some o' → YOb l.toArray F base N p k zs V f Q j o' := fun j o' h => by
    rw [List.getElem?_toArray] at h
    exact hstep (o', j) (List.mem_of_getElem? (i := j) (by rw [List.getElem?_zipIdx, h]; simp))
  have hnone : ∀ i, (Array.replicate l.length false).getD i false = true → False := fun i hi => by
    rw [Array.getD_eq_getD_getElem?, Array.getElem?_replicate] at hi
    split at hi <;> simp at hi
  simp only [Bool.and_eq_true, decide_eq_true_eq] at hpk
  refine wp_region_inv hm hback (YInv l.toArray F base N w.heap.size p k zs V a w) ?_ (fun i o listed a' w' ho hs hl0 he h K hK => h.step hok hsoft hobs hs ho hl0 he K hK) fun listed a' w' hs hl h => ?_
  · exact ⟨hN, rfl, fun t ht => (F t).stable _ _ _ (hbase t ht) (Below.refl _ _).drew, fun i _ hi _ => (hnone i hi).elim, fun _ _ => rfl, (Below.refl _ _).drew, Nat.le_refl _, fun i hi _ => (hnone i hi).elim, fun i _ _ hi => (hnone i hi).elim⟩
  · have hw : ∀ t ∈ ds, ∃ i, listed.getD i false = true ∧ (l.toArray[i]?).bind Oper.dst = some t := fun t ht => by
      have h1 := hds
      simp only [dstsOk, Bool.and_eq_true] at h1
      have h2 := List.any_eq_true.1 (List.all_eq_true.1 h1.2 t ht)
      obtain ⟨o, ho, hd⟩ := h2
      obtain ⟨i, hi⟩ := List.getElem?_of_mem ho
      have hlt : i < l.toArray.size := by simpa using (List.getElem?_eq_some_iff.1 hi).1
      exact ⟨i, hl i hlt, by rw [List.getElem?_toArray, hi]; exact (by simpa using hd)⟩
    have hq := hend (fun t => a'.tmps.getD t undef) w' (fun t ht => by
      obtain ⟨i, hi, hd⟩ := hw t ht
      exact h.done i t hi hd) (by
      obtain ⟨i, hi, hd⟩ := hw p (by simpa using hpk.1)
      obtain ⟨b, h1, h2, _, h4⟩ := h.made i hi hd
      exact ⟨b, h1, h2, h4 (hl k (by simpa using hpk.2))⟩) h.below
    have heq : a' = { tmps := lay a.tmps ds fun t => a'.tmps.getD t undef, defers := a.defers } := by
      have hoth := h.other
      have hsz := h.tsize
      have hdef := h.defers
      clear hq hw h hs hl hobs hstep hend hbase
      obtain ⟨ts, df⟩ := a'
      have hdef' : df = a.defers := hdef
      subst hdef'
      congr 1
      have hsz' : ts.size = N := hsz
      refine Array.ext_getElem? fun t => ?_
      rcases Nat.lt_or_ge t N with hlt | hge
      · by_cases htd : t ∈ ds
        · rw [lay_at ds _ _ t htd (by omega), Array.getD_eq_getD_getElem?, Array.getElem?_eq_getElem (by omega)]; rfl
        · rw [lay_other ds _ _ t htd]
          have := hoth t fun i hi => by
            have h1 := hds
            simp only [dstsOk, Bool.and_eq_true] at h1
            rw [List.getElem?_toArray] at hi
            cases hl : l[i]? with
            | none => rw [hl] at hi; cases hi
            | some o =>
              rw [hl] at hi
              have h2 := List.all_eq_true.1 h1.1 o (List.mem_of_getElem? hl)
              have h3 : o.dst = some t := hi
              rw [h3] at h2
              exact htd (by simpa using h2)
          have h2 : ts.getD t undef = a.tmps.getD t undef := this
          rw [Array.getD_eq_getD_getElem?, Array.getD_eq_getD_getElem?, Array.getElem?_eq_getElem (by omega), Array.getElem?_eq_getElem (by omega)] at h2
          rw [Array.getElem?_eq_getElem (by omega), Array.getElem?_eq_getElem (by omega)]
          exact congrArg some h2
      · rw [Array.getElem?_eq_none (by omega), Array.getElem?_eq_none (by rw [lay_size]; omega)]
    rw [heq]
    exact hq
/-- A slot of whose value a predicate is known. -/
def FP (p : Value → Prop) (W0 : World) : Fact := ⟨fun v w => p v ∧ Below W0.heap.size W0 w, fun _ _ _ ⟨h, hb⟩ hb' => ⟨h, upG hb hb'⟩⟩
theorem fp_soft (p : Value → Prop) (W0 : World) : (FP p W0).SoftG W0.heap.size := fun _ w _ _ ⟨h1, h2⟩ hg hb hgr => ⟨h1, h2.grown hgr hg (fun j hj => by cases hj; exact hb)⟩
section
variable {ops : Array Oper} {Q : Exit → Act → World → Prop} {F : Nat → Fact} {base : List Nat} {N : Nat} {o : Oper} {W0 : World}
theorem atP (t d : Nat) (p q : Value → Prop) (hd : o.dst = some d) (hg : Gd W0 ops F base N o) (hk : known ops base o t = true) (hv : F t = FP p W0) (hF : F d = FP q W0)
    (h : ∀ (a : Act) (w : World) (u : Value), p u → a.eval (.tmp t) = u → ∃ r, (execOp a.eval o).run Try.prog w = .ok (.value r) w ∧ q r) : Ob ops Q F base N o :=
  at_val hg fun a w hf => by
    have h1 := hf t hk
    rw [hv] at h1
    obtain ⟨r, e1, e2⟩ := h a w _ h1.1 rfl
    exact ⟨r, w, e1, Below.refl _ _, fun s hs => by rw [hd] at hs; injection hs with hs; subst hs; rw [hF]; exact ⟨e2, h1.2⟩⟩
end
/-- A struct of two cells and of three, and a pair of one with a flag. -/
def A2 (u : Value) : Prop := ∃ s A n c, u = .agg #[.string s, .slice A n c]
def A3 (u : Value) : Prop := ∃ s A n c B m d, u = .agg #[.string s, .slice A n c, .slice B m d]
def T2 (P : Value → Prop) (b : Bool) (u : Value) : Prop := ∃ x, P x ∧ u = .tuple #[x, .bool b]
end Go.Proofs.Ytlebppjldoodgaa

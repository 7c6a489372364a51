/-
  The number of an enumeration's constant: the developers' search. No conditions beyond those that each names.
-/
import Derived.Test.YtlebppjldoodgaaM16
import Derived.Test.YtlebppjldoodgaaM17
import Derived.Test.YtlebppjldoodgaaM12
namespace Go.Proofs.Ytlebppjldoodgaa
open Go.RowKit Go.Sort
set_option maxRecDepth 100000 in
set_option maxHeartbeats 4000000 in
theorem enum1_any (y n : Int) (g : Nat) (w : World) (hg : w.cell? ⟨g, 1, none⟩ = some (.int .i64 n)) :
    Calls Try.prog 81 #[.int .i64 y, .pointer (some ⟨g, 0, none⟩)] w (Is (.bool (decide (y = n))) w) := by
  have hl := blk_lt hg
  by_cases h : y = n
  · have d : (y == n) = true := by simpa using h
    rw [decide_eq_true h]
    clear h
    go_enter Try.func81, Try.ntmps81
    go_wp2_with fail
    go_ret
    exact ⟨rfl, rfl⟩
  · have d : (y == n) = false := by simpa using h
    rw [decide_eq_false h]
    clear h
    go_enter Try.func81, Try.ntmps81
    go_wp2_with fail
    go_ret
    exact ⟨rfl, rfl⟩
set_option maxRecDepth 100000 in
set_option maxHeartbeats 4000000 in
theorem indexEnum_any (l : List Int) (z : Int) (A : Option Addr) (c : Nat) (g : Nat) (w : World) (hl : l.length ≤ 9223372036854775807) (hR : Rw TyI 1 w l A) (hg : w.cell? ⟨g, 1, none⟩ = some (.int .i64 z)) :
    Calls Try.prog 91 #[.slice A l.length c, .func (.func 81) #[] #[.pointer (some ⟨g, 0, none⟩)]] w (Is (.int .i64 (ixI (l.findIdx? fun y => decide (y = z)))) w) := by
  have cE := fun y => enum1_any y z g w hg
  obtain ⟨n, hn⟩ : ∃ n, l.length = n := ⟨_, rfl⟩
  obtain ⟨r, hr⟩ : ∃ r, ixI (l.findIdx? fun y => decide (y = z)) = r := ⟨_, rfl⟩
  have HN := Lib.hid hn
  have HR := Lib.hid hr
  rw [hn] at hl
  rw [hn, hr]
  clear hn hr
  have H0 : Hid (∀ j (hj : j < l.length), j < 0 → decide (l[j]'hj = z) = false) := Lib.hid fun j _ h => by omega
  go_enter Try.func91, Try.ntmps91
  go_wp2_with fail
  go_loopw [8] (fun i wr => ∃ k : Nat, k ≤ n ∧ i = .int .i64 (k : Int) ∧ Hid (∀ j (hj : j < l.length), j < k → decide (l[j]'hj = z) = false) ∧ w = wr) (fun i _ => n - (intOf i).toNat)
  case atStart => exact ⟨0, by omega, rfl, H0, rfl⟩
  case round =>
    obtain ⟨k, hk, rfl, HK, rfl⟩ := hrel
    clear H0
    by_cases hlt : k < n
    · have h1 : k < l.length := by rw [HN.out]; exact hlt
      have hk1 := Lib.hid hlt
      obtain ⟨a, rfl, hA⟩ := hR.get h1
      rw [Nat.mul_one] at hA
      have hA : w.cell? (a.add k) = some (.int .i64 (l[k]'h1)) := hA
      have HF := Lib.hid (fun (h : decide (l[k]'h1 = z) = false) => show ∀ j (hj : j < l.length), j < k + 1 → decide (l[j]'hj = z) = false from fun j hj h2 => by
        by_cases e : j = k
        · subst e; exact h
        · exact HK.out j hj (by omega))
      have HT := Lib.hid (fun (h : decide (l[k]'h1 = z) = true) => show r = (k : Int) by rw [← HR.out, findIdx_at h1 h HK.out]; rfl)
      have cC := cE (l[k]'h1)
      obtain ⟨b, hbb⟩ : ∃ b, decide (l[k]'h1 = z) = b := ⟨_, rfl⟩
      rw [hbb] at cC HF HT
      generalize l[k]'h1 = u at *
      clear hR HK hbb hg cE
      cases b
      · have HF2 := Lib.hid (HF.out rfl)
        clear HF HT
        go_wp2_with fail
        refine cC.mono ?_
        rintro e w2 ⟨rfl, rfl⟩
        go_wp2_with fail
        go_roundw
        case rel => exact ⟨k + 1, hk1.out, by go_num, HF2, by first | trivial | rfl⟩
        case measure => have := hk1.out; simp [intOf]; omega
      · have HT2 := HT.out rfl
        clear HF HT
        subst HT2
        go_wp2_with fail
        refine cC.mono ?_
        rintro e w2 ⟨rfl, rfl⟩
        go_wp2_with fail
        go_ret
        exact ⟨rfl, rfl⟩
    · obtain rfl : k = n := by omega
      have HE : r = -1 := by rw [← HR.out, findIdx_none fun j hj => HK.out j hj (by rw [← HN.out]; exact hj)]; rfl
      subst HE
      clear HK hR cE
      go_wp2_with fail
      go_ret
      exact ⟨rfl, rfl⟩
set_option maxRecDepth 100000 in
set_option maxHeartbeats 4000000 in
theorem containsEnum_any (l : List Int) (z : Int) (A : Option Addr) (c : Nat) (g : Nat) (w : World) (hl : l.length ≤ 9223372036854775807) (hR : Rw TyI 1 w l A) (hg : w.cell? ⟨g, 1, none⟩ = some (.int .i64 z)) :
    Calls Try.prog 80 #[.slice A l.length c, .func (.func 81) #[] #[.pointer (some ⟨g, 0, none⟩)]] w (Is (.bool (l.contains z)) w) := by
  have cI := indexEnum_any l z A c g w hl hR hg
  have e := any_ix (fun y => decide (y = z)) l
  have e2 : l.contains z = l.any fun y => decide (y = z) := by
    rw [Bool.eq_iff_iff, List.contains_iff_mem, List.any_eq_true]
    exact ⟨fun h => ⟨z, h, by simp⟩, fun ⟨y, h, h2⟩ => by rw [decide_eq_true_eq] at h2; exact h2 ▸ h⟩
  rw [e2, ← e]
  generalize ixI (l.findIdx? fun y => decide (y = z)) = r at cI ⊢
  clear e e2
  generalize l.length = n at *
  go_enter Try.func80, Try.ntmps80
  go_wp2_with fail
  refine cI.mono ?_
  rintro e w2 ⟨rfl, rfl⟩
  go_wp2_with fail
  go_ret
  exact ⟨rfl, rfl⟩
end Go.Proofs.Ytlebppjldoodgaa
/-
  The developers' check of an enumeration's number. No conditions beyond those that each names.
-/
namespace Go.Proofs.Ytlebppjldoodgaa
open Go.RowKit Go.Sort
set_option maxRecDepth 100000 in
set_option maxHeartbeats 8000000 in
theorem enum_any (S : Sch) (A A2 : Option Addr) (c c2 : Nat) (k s : Int) (nm : List UInt8) (G : Option Addr) (g1 g2 : Nat) (q n : Int) (st : ByteArray) (A3 : Option Addr) (a1 a2 : Nat) (B : Option Addr) (b1 b2 : Nat) (w : World) (hf : Few9 S) (hS : Sc w S A A2) :
    Calls Try.prog 60 #[.agg #[.int .i64 S.ver, .slice A S.enums.length c, .slice A2 S.structs.length c2, .int .i64 k, .int .i64 s, .string (bs nm), .slice G g1 g2], .agg #[.int .i64 q, .int .i64 n, .string st, .slice A3 a1 a2, .slice B b1 b2]] w (Ib (.int .i64 (if ((fst_ En.name S.enums nm).getD en0).nums.contains n = true then 0 else 4)) w) := by
  have cF := fun W h => devEnum_any S nm (.agg #[.int .i64 S.ver, .slice A S.enums.length c, .slice A2 S.structs.length c2]) W ⟨A, c, A2, c2, rfl, hS.next h⟩ hf.el hf.en
  have hlN : ((fst_ En.name S.enums nm).getD en0).nums.length ≤ 9223372036854775807 := by
    cases h : fst_ En.name S.enums nm with
    | none => simp [en0]
    | some t =>
      have := (hf.en t (List.mem_of_find?_eq_some h)).2
      simp
      omega
  have D1 := (Bx.new7 w 55 (.int .i64 S.ver) (.slice A S.enums.length c) (.slice A2 S.structs.length c2) (.int .i64 k) (.int .i64 s) (.string (bs nm)) (.slice G g1 g2)).next (ab1 _ (Obj.cells #[.int .i64 q, .int .i64 n, .string st, .slice A3 a1 a2, .slice B b1 b2] 25))
  have D2 := Bx.new5 (w.alloc (Obj.cells #[.int .i64 S.ver, .slice A S.enums.length c, .slice A2 S.structs.length c2, .int .i64 k, .int .i64 s, .string (bs nm), .slice G g1 g2] 55)) 25 (.int .i64 q) (.int .i64 n) (.string st) (.slice A3 a1 a2) (.slice B b1 b2)
  have hab := ab2 w (Obj.cells #[.int .i64 S.ver, .slice A S.enums.length c, .slice A2 S.structs.length c2, .int .i64 k, .int .i64 s, .string (bs nm), .slice G g1 g2] 55) (Obj.cells #[.int .i64 q, .int .i64 n, .string st, .slice A3 a1 a2, .slice B b1 b2] 25)
  rw [show (w.alloc (Obj.cells #[.int .i64 S.ver, .slice A S.enums.length c, .slice A2 S.structs.length c2, .int .i64 k, .int .i64 s, .string (bs nm), .slice G g1 g2] 55)).heap.size = w.heap.size + 1 by simp] at D2
  generalize fst_ En.name S.enums nm = o at *
  clear hS
  obtain ⟨b, hb⟩ : ∃ b, (o.getD en0).nums.contains n = b := ⟨_, rfl⟩
  rw [hb]
  have HB := Lib.hid hb
  clear hb
  generalize S.structs.length = sl at *
  generalize S.enums.length = el at *
  cases b with
  | false =>
    rw [if_neg (by decide)]
    go_enter Try.func60, Try.ntmps60
    go_wp2_with fail
    refine (cF _ hab).mono ?_
    rintro e1 w1 ⟨v1, rfl, hV, hb1⟩
    obtain ⟨A4, c4, A5, c5, rfl, -, hR⟩ := hV
    clear cF
    replace D2 := D2.next hb1
    have cC := fun W (h : Below w1.heap.size w1 W) => containsEnum_any _ n A5 c5 (w.heap.size + 1) W hlN (hR.next fun x p => TyI.next h) (cell_next h (D2.c 1 rfl))
    rw [HB.out] at cC
    generalize (o.getD en0).nums.length = nl at *
    generalize (o.getD en0).names.length = ml at *
    generalize (o.getD en0).name = en at *
    clear hR HB hlN
    go_wp2_with fail
    refine (cC _ (ab1 _ _)).mono ?_
    rintro e2 w2 ⟨rfl, rfl⟩
    go_wp2_with fail
    go_ret
    exact ⟨rfl, Below.next (Below.next hab hb1) (ab1 _ _)⟩
  | true =>
    rw [if_pos rfl]
    go_enter Try.func60, Try.ntmps60
    go_wp2_with fail
    refine (cF _ hab).mono ?_
    rintro e1 w1 ⟨v1, rfl, hV, hb1⟩
    obtain ⟨A4, c4, A5, c5, rfl, -, hR⟩ := hV
    clear cF
    replace D2 := D2.next hb1
    have cC := fun W (h : Below w1.heap.size w1 W) => containsEnum_any _ n A5 c5 (w.heap.size + 1) W hlN (hR.next fun x p => TyI.next h) (cell_next h (D2.c 1 rfl))
    rw [HB.out] at cC
    generalize (o.getD en0).nums.length = nl at *
    generalize (o.getD en0).names.length = ml at *
    generalize (o.getD en0).name = en at *
    clear hR HB hlN
    go_wp2_with fail
    refine (cC _ (ab1 _ _)).mono ?_
    rintro e2 w2 ⟨rfl, rfl⟩
    go_wp2_with fail
    go_ret
    exact ⟨rfl, Below.next (Below.next hab hb1) (ab1 _ _)⟩
end Go.Proofs.Ytlebppjldoodgaa
/-
  The developers' admit. No conditions beyond those that each names.
-/
namespace Go.Proofs.Ytlebppjldoodgaa
open Go.RowKit Go.Shelf
set_option maxRecDepth 100000 in
set_option maxHeartbeats 8000000 in
theorem admit_boolean (ver : Int) (E : Option Addr) (e1 e2 : Nat) (F : Option Addr) (f1 f2 : Nat) (k s : Int) (nm : ByteArray) (G : Option Addr) (g1 g2 : Nat) (q n : Int) (st : List UInt8) (A : Option Addr) (a1 a2 : Nat) (B : Option Addr) (b1 b2 : Nat) (p : Bool) (r : Int) (w : World)
    (cP : ∀ W, Below w.heap.size w W → Calls Try.prog 74 #[.agg #[.int .i64 ver, .slice E e1 e2, .slice F f1 f2], .agg #[.int .i64 k, .int .i64 s, .string nm, .slice G g1 g2]] W (Ib (.bool p) W))
    (cS : p = true → q = k → pur q n st a1 b1 = true → ∀ W, Below w.heap.size w W → Calls Try.prog 54 #[.agg #[.int .i64 ver, .slice E e1 e2, .slice F f1 f2, .int .i64 k, .int .i64 s, .string nm, .slice G g1 g2], .agg #[.int .i64 q, .int .i64 n, .string (bs st), .slice A a1 a2, .slice B b1 b2]] W (Ib (.int .i64 r) W)) :
    Calls Try.prog 53 #[.agg #[.int .i64 ver, .slice E e1 e2, .slice F f1 f2, .int .i64 k, .int .i64 s, .string nm, .slice G g1 g2], .agg #[.int .i64 q, .int .i64 n, .string (bs st), .slice A a1 a2, .slice B b1 b2], .func (.func 54) #[.agg #[.int .i64 ver, .slice E e1 e2, .slice F f1 f2, .int .i64 k, .int .i64 s, .string nm, .slice G g1 g2]] #[]] w (Ib (.int .i64 (if p = true ∧ q = k ∧ pur q n st a1 b1 = true then r else 13)) w) := by
  have cI := fun W => isPure_any q n st A a1 a2 B b1 b2 W
  have D1 := (Bx.new7 w 55 (.int .i64 ver) (.slice E e1 e2) (.slice F f1 f2) (.int .i64 k) (.int .i64 s) (.string nm) (.slice G g1 g2)).next (ab1 _ (Obj.cells #[.int .i64 q, .int .i64 n, .string (bs st), .slice A a1 a2, .slice B b1 b2] 25))
  have D2 := Bx.new5 (w.alloc (Obj.cells #[.int .i64 ver, .slice E e1 e2, .slice F f1 f2, .int .i64 k, .int .i64 s, .string nm, .slice G g1 g2] 55)) 25 (.int .i64 q) (.int .i64 n) (.string (bs st)) (.slice A a1 a2) (.slice B b1 b2)
  have hab := ab2 w (Obj.cells #[.int .i64 ver, .slice E e1 e2, .slice F f1 f2, .int .i64 k, .int .i64 s, .string nm, .slice G g1 g2] 55) (Obj.cells #[.int .i64 q, .int .i64 n, .string (bs st), .slice A a1 a2, .slice B b1 b2] 25)
  rw [show (w.alloc (Obj.cells #[.int .i64 ver, .slice E e1 e2, .slice F f1 f2, .int .i64 k, .int .i64 s, .string nm, .slice G g1 g2] 55)).heap.size = w.heap.size + 1 by simp] at D2
  generalize pur q n st a1 b1 = u at *
  cases p with
  | false =>
    rw [if_neg (fun h => by cases h.1)]
    clear cS cI
    go_enter Try.func53, Try.ntmps53
    go_wp2_with fail
    refine (cP _ hab).mono ?_
    rintro e w2 ⟨rfl, hb2⟩
    replace D1 := D1.next hb2
    replace D2 := D2.next hb2
    replace hab := Below.next hab hb2
    have c0 := D1.c 0 rfl
    have c1 := D1.c 1 rfl
    have c2 := D1.c 2 rfl
    have c3 := D1.c 3 rfl
    have c4 := D1.c 4 rfl
    have c5 := D1.c 5 rfl
    have c6 := D1.c 6 rfl
    have x0 := D2.c 0 rfl
    have x1 := D2.c 1 rfl
    have x2 := D2.c 2 rfl
    have x3 := D2.c 3 rfl
    have x4 := D2.c 4 rfl
    go_wp2_with fail
    go_ret
    exact ⟨rfl, hab⟩
  | true =>
    by_cases hq : q = k
    · subst hq
      have dq : (q != q) = false := by simp
      cases u with
      | false =>
        rw [if_neg (fun h => by cases h.2.2)]
        clear cS
        go_enter Try.func53, Try.ntmps53
        go_wp2_with fail
        refine (cP _ hab).mono ?_
        rintro e w2 ⟨rfl, hb2⟩
        replace D1 := D1.next hb2
        replace D2 := D2.next hb2
        replace hab := Below.next hab hb2
        have c0 := D1.c 0 rfl
        have c1 := D1.c 1 rfl
        have c2 := D1.c 2 rfl
        have c3 := D1.c 3 rfl
        have c4 := D1.c 4 rfl
        have c5 := D1.c 5 rfl
        have c6 := D1.c 6 rfl
        have x0 := D2.c 0 rfl
        have x1 := D2.c 1 rfl
        have x2 := D2.c 2 rfl
        have x3 := D2.c 3 rfl
        have x4 := D2.c 4 rfl
        go_wp2_with fail
        refine (cI _).mono ?_
        rintro e w3 ⟨rfl, hb3⟩
        replace D1 := D1.next hb3
        replace D2 := D2.next hb3
        replace hab := Below.next hab hb3
        clear c0 c1 c2 c3 c4 c5 c6 x0 x1 x2 x3 x4
        have c0 := D1.c 0 rfl
        have c1 := D1.c 1 rfl
        have c2 := D1.c 2 rfl
        have c3 := D1.c 3 rfl
        have c4 := D1.c 4 rfl
        have c5 := D1.c 5 rfl
        have c6 := D1.c 6 rfl
        have x0 := D2.c 0 rfl
        have x1 := D2.c 1 rfl
        have x2 := D2.c 2 rfl
        have x3 := D2.c 3 rfl
        have x4 := D2.c 4 rfl
        go_wp2_with fail
        go_ret
        exact ⟨rfl, hab⟩
      | true =>
        rw [if_pos ⟨rfl, rfl, rfl⟩]
        replace cS := cS rfl rfl rfl
        go_enter Try.func53, Try.ntmps53
        go_wp2_with fail
        refine (cP _ hab).mono ?_
        rintro e w2 ⟨rfl, hb2⟩
        replace D1 := D1.next hb2
        replace D2 := D2.next hb2
        replace hab := Below.next hab hb2
        have c0 := D1.c 0 rfl
        have c1 := D1.c 1 rfl
        have c2 := D1.c 2 rfl
        have c3 := D1.c 3 rfl
        have c4 := D1.c 4 rfl
        have c5 := D1.c 5 rfl
        have c6 := D1.c 6 rfl
        have x0 := D2.c 0 rfl
        have x1 := D2.c 1 rfl
        have x2 := D2.c 2 rfl
        have x3 := D2.c 3 rfl
        have x4 := D2.c 4 rfl
        go_wp2_with fail
        refine (cI _).mono ?_
        rintro e w3 ⟨rfl, hb3⟩
        replace D1 := D1.next hb3
        replace D2 := D2.next hb3
        replace hab := Below.next hab hb3
        clear c0 c1 c2 c3 c4 c5 c6 x0 x1 x2 x3 x4
        have c0 := D1.c 0 rfl
        have c1 := D1.c 1 rfl
        have c2 := D1.c 2 rfl
        have c3 := D1.c 3 rfl
        have c4 := D1.c 4 rfl
        have c5 := D1.c 5 rfl
        have c6 := D1.c 6 rfl
        have x0 := D2.c 0 rfl
        have x1 := D2.c 1 rfl
        have x2 := D2.c 2 rfl
        have x3 := D2.c 3 rfl
        have x4 := D2.c 4 rfl
        go_wp2_with fail
        refine (cS _ hab).mono ?_
        rintro e w4 ⟨rfl, hb4⟩
        go_wp2_with fail
        go_ret
        exact ⟨rfl, Below.next hab hb4⟩
    · have dq : (q != k) = true := by simpa using hq
      rw [if_neg (fun h => hq h.2.1)]
      clear cS cI hq
      go_enter Try.func53, Try.ntmps53
      go_wp2_with fail
      refine (cP _ hab).mono ?_
      rintro e w2 ⟨rfl, hb2⟩
      replace D1 := D1.next hb2
      replace D2 := D2.next hb2
      replace hab := Below.next hab hb2
      have c0 := D1.c 0 rfl
      have c1 := D1.c 1 rfl
      have c2 := D1.c 2 rfl
      have c3 := D1.c 3 rfl
      have c4 := D1.c 4 rfl
      have c5 := D1.c 5 rfl
      have c6 := D1.c 6 rfl
      have x0 := D2.c 0 rfl
      have x1 := D2.c 1 rfl
      have x2 := D2.c 2 rfl
      have x3 := D2.c 3 rfl
      have x4 := D2.c 4 rfl
      go_wp2_with fail
      go_ret
      exact ⟨rfl, hab⟩
set_option maxRecDepth 100000 in
set_option maxHeartbeats 8000000 in
theorem admit_signed (ver : Int) (E : Option Addr) (e1 e2 : Nat) (F : Option Addr) (f1 f2 : Nat) (k s : Int) (nm : ByteArray) (G : Option Addr) (g1 g2 : Nat) (q n : Int) (st : List UInt8) (A : Option Addr) (a1 a2 : Nat) (B : Option Addr) (b1 b2 : Nat) (p : Bool) (r : Int) (w : World)
    (cP : ∀ W, Below w.heap.size w W → Calls Try.prog 74 #[.agg #[.int .i64 ver, .slice E e1 e2, .slice F f1 f2], .agg #[.int .i64 k, .int .i64 s, .string nm, .slice G g1 g2]] W (Ib (.bool p) W))
    (cS : p = true → q = k → pur q n st a1 b1 = true → ∀ W, Below w.heap.size w W → Calls Try.prog 55 #[.agg #[.int .i64 ver, .slice E e1 e2, .slice F f1 f2, .int .i64 k, .int .i64 s, .string nm, .slice G g1 g2], .agg #[.int .i64 q, .int .i64 n, .string (bs st), .slice A a1 a2, .slice B b1 b2]] W (Ib (.int .i64 r) W)) :
    Calls Try.prog 53 #[.agg #[.int .i64 ver, .slice E e1 e2, .slice F f1 f2, .int .i64 k, .int .i64 s, .string nm, .slice G g1 g2], .agg #[.int .i64 q, .int .i64 n, .string (bs st), .slice A a1 a2, .slice B b1 b2], .func (.func 55) #[.agg #[.int .i64 ver, .slice E e1 e2, .slice F f1 f2, .int .i64 k, .int .i64 s, .string nm, .slice G g1 g2]] #[]] w (Ib (.int .i64 (if p = true ∧ q = k ∧ pur q n st a1 b1 = true then r else 13)) w) := by
  have cI := fun W => isPure_any q n st A a1 a2 B b1 b2 W
  have D1 := (Bx.new7 w 55 (.int .i64 ver) (.slice E e1 e2) (.slice F f1 f2) (.int .i64 k) (.int .i64 s) (.string nm) (.slice G g1 g2)).next (ab1 _ (Obj.cells #[.int .i64 q, .int .i64 n, .string (bs st), .slice A a1 a2, .slice B b1 b2] 25))
  have D2 := Bx.new5 (w.alloc (Obj.cells #[.int .i64 ver, .slice E e1 e2, .slice F f1 f2, .int .i64 k, .int .i64 s, .string nm, .slice G g1 g2] 55)) 25 (.int .i64 q) (.int .i64 n) (.string (bs st)) (.slice A a1 a2) (.slice B b1 b2)
  have hab := ab2 w (Obj.cells #[.int .i64 ver, .slice E e1 e2, .slice F f1 f2, .int .i64 k, .int .i64 s, .string nm, .slice G g1 g2] 55) (Obj.cells #[.int .i64 q, .int .i64 n, .string (bs st), .slice A a1 a2, .slice B b1 b2] 25)
  rw [show (w.alloc (Obj.cells #[.int .i64 ver, .slice E e1 e2, .slice F f1 f2, .int .i64 k, .int .i64 s, .string nm, .slice G g1 g2] 55)).heap.size = w.heap.size + 1 by simp] at D2
  generalize pur q n st a1 b1 = u at *
  cases p with
  | false =>
    rw [if_neg (fun h => by cases h.1)]
    clear cS cI
    go_enter Try.func53, Try.ntmps53
    go_wp2_with fail
    refine (cP _ hab).mono ?_
    rintro e w2 ⟨rfl, hb2⟩
    replace D1 := D1.next hb2
    replace D2 := D2.next hb2
    replace hab := Below.next hab hb2
    have c0 := D1.c 0 rfl
    have c1 := D1.c 1 rfl
    have c2 := D1.c 2 rfl
    have c3 := D1.c 3 rfl
    have c4 := D1.c 4 rfl
    have c5 := D1.c 5 rfl
    have c6 := D1.c 6 rfl
    have x0 := D2.c 0 rfl
    have x1 := D2.c 1 rfl
    have x2 := D2.c 2 rfl
    have x3 := D2.c 3 rfl
    have x4 := D2.c 4 rfl
    go_wp2_with fail
    go_ret
    exact ⟨rfl, hab⟩
  | true =>
    by_cases hq : q = k
    · subst hq
      have dq : (q != q) = false := by simp
      cases u with
      | false =>
        rw [if_neg (fun h => by cases h.2.2)]
        clear cS
        go_enter Try.func53, Try.ntmps53
        go_wp2_with fail
        refine (cP _ hab).mono ?_
        rintro e w2 ⟨rfl, hb2⟩
        replace D1 := D1.next hb2
        replace D2 := D2.next hb2
        replace hab := Below.next hab hb2
        have c0 := D1.c 0 rfl
        have c1 := D1.c 1 rfl
        have c2 := D1.c 2 rfl
        have c3 := D1.c 3 rfl
        have c4 := D1.c 4 rfl
        have c5 := D1.c 5 rfl
        have c6 := D1.c 6 rfl
        have x0 := D2.c 0 rfl
        have x1 := D2.c 1 rfl
        have x2 := D2.c 2 rfl
        have x3 := D2.c 3 rfl
        have x4 := D2.c 4 rfl
        go_wp2_with fail
        refine (cI _).mono ?_
        rintro e w3 ⟨rfl, hb3⟩
        replace D1 := D1.next hb3
        replace D2 := D2.next hb3
        replace hab := Below.next hab hb3
        clear c0 c1 c2 c3 c4 c5 c6 x0 x1 x2 x3 x4
        have c0 := D1.c 0 rfl
        have c1 := D1.c 1 rfl
        have c2 := D1.c 2 rfl
        have c3 := D1.c 3 rfl
        have c4 := D1.c 4 rfl
        have c5 := D1.c 5 rfl
        have c6 := D1.c 6 rfl
        have x0 := D2.c 0 rfl
        have x1 := D2.c 1 rfl
        have x2 := D2.c 2 rfl
        have x3 := D2.c 3 rfl
        have x4 := D2.c 4 rfl
        go_wp2_with fail
        go_ret
        exact ⟨rfl, hab⟩
      | true =>
        rw [if_pos ⟨rfl, rfl, rfl⟩]
        replace cS := cS rfl rfl rfl
        go_enter Try.func53, Try.ntmps53
        go_wp2_with fail
        refine (cP _ hab).mono ?_
        rintro e w2 ⟨rfl, hb2⟩
        replace D1 := D1.next hb2
        replace D2 := D2.next hb2
        replace hab := Below.next hab hb2
        have c0 := D1.c 0 rfl
        have c1 := D1.c 1 rfl
        have c2 := D1.c 2 rfl
        have c3 := D1.c 3 rfl
        have c4 := D1.c 4 rfl
        have c5 := D1.c 5 rfl
        have c6 := D1.c 6 rfl
        have x0 := D2.c 0 rfl
        have x1 := D2.c 1 rfl
        have x2 := D2.c 2 rfl
        have x3 := D2.c 3 rfl
        have x4 := D2.c 4 rfl
        go_wp2_with fail
        refine (cI _).mono ?_
        rintro e w3 ⟨rfl, hb3⟩
        replace D1 := D1.next hb3
        replace D2 := D2.next hb3
        replace hab := Below.next hab hb3
        clear c0 c1 c2 c3 c4 c5 c6 x0 x1 x2 x3 x4
        have c0 := D1.c 0 rfl
        have c1 := D1.c 1 rfl
        have c2 := D1.c 2 rfl
        have c3 := D1.c 3 rfl
        have c4 := D1.c 4 rfl
        have c5 := D1.c 5 rfl
        have c6 := D1.c 6 rfl
        have x0 := D2.c 0 rfl
        have x1 := D2.c 1 rfl
        have x2 := D2.c 2 rfl
        have x3 := D2.c 3 rfl
        have x4 := D2.c 4 rfl
        go_wp2_with fail
        refine (cS _ hab).mono ?_
        rintro e w4 ⟨rfl, hb4⟩
        go_wp2_with fail
        go_ret
        exact ⟨rfl, Below.next hab hb4⟩
    · have dq : (q != k) = true := by simpa using hq
      rw [if_neg (fun h => hq h.2.1)]
      clear cS cI hq
      go_enter Try.func53, Try.ntmps53
      go_wp2_with fail
      refine (cP _ hab).mono ?_
      rintro e w2 ⟨rfl, hb2⟩
      replace D1 := D1.next hb2
      replace D2 := D2.next hb2
      replace hab := Below.next hab hb2
      have c0 := D1.c 0 rfl
      have c1 := D1.c 1 rfl
      have c2 := D1.c 2 rfl
      have c3 := D1.c 3 rfl
      have c4 := D1.c 4 rfl
      have c5 := D1.c 5 rfl
      have c6 := D1.c 6 rfl
      have x0 := D2.c 0 rfl
      have x1 := D2.c 1 rfl
      have x2 := D2.c 2 rfl
      have x3 := D2.c 3 rfl
      have x4 := D2.c 4 rfl
      go_wp2_with fail
      go_ret
      exact ⟨rfl, hab⟩
set_option maxRecDepth 100000 in
set_option maxHeartbeats 8000000 in
theorem admit_unsigned (ver : Int) (E : Option Addr) (e1 e2 : Nat) (F : Option Addr) (f1 f2 : Nat) (k s : Int) (nm : ByteArray) (G : Option Addr) (g1 g2 : Nat) (q n : Int) (st : List UInt8) (A : Option Addr) (a1 a2 : Nat) (B : Option Addr) (b1 b2 : Nat) (p : Bool) (r : Int) (w : World)
    (cP : ∀ W, Below w.heap.size w W → Calls Try.prog 74 #[.agg #[.int .i64 ver, .slice E e1 e2, .slice F f1 f2], .agg #[.int .i64 k, .int .i64 s, .string nm, .slice G g1 g2]] W (Ib (.bool p) W))
    (cS : p = true → q = k → pur q n st a1 b1 = true → ∀ W, Below w.heap.size w W → Calls Try.prog 56 #[.agg #[.int .i64 ver, .slice E e1 e2, .slice F f1 f2, .int .i64 k, .int .i64 s, .string nm, .slice G g1 g2], .agg #[.int .i64 q, .int .i64 n, .string (bs st), .slice A a1 a2, .slice B b1 b2]] W (Ib (.int .i64 r) W)) :
    Calls Try.prog 53 #[.agg #[.int .i64 ver, .slice E e1 e2, .slice F f1 f2, .int .i64 k, .int .i64 s, .string nm, .slice G g1 g2], .agg #[.int .i64 q, .int .i64 n, .string (bs st), .slice A a1 a2, .slice B b1 b2], .func (.func 56) #[.agg #[.int .i64 ver, .slice E e1 e2, .slice F f1 f2, .int .i64 k, .int .i64 s, .string nm, .slice G g1 g2]] #[]] w (Ib (.int .i64 (if p = true ∧ q = k ∧ pur q n st a1 b1 = true then r else 13)) w) := by
  have cI := fun W => isPure_any q n st A a1 a2 B b1 b2 W
  have D1 := (Bx.new7 w 55 (.int .i64 ver) (.slice E e1 e2) (.slice F f1 f2) (.int .i64 k) (.int .i64 s) (.string nm) (.slice G g1 g2)).next (ab1 _ (Obj.cells #[.int .i64 q, .int .i64 n, .string (bs st), .slice A a1 a2, .slice B b1 b2] 25))
  have D2 := Bx.new5 (w.alloc (Obj.cells #[.int .i64 ver, .slice E e1 e2, .slice F f1 f2, .int .i64 k, .int .i64 s, .string nm, .slice G g1 g2] 55)) 25 (.int .i64 q) (.int .i64 n) (.string (bs st)) (.slice A a1 a2) (.slice B b1 b2)
  have hab := ab2 w (Obj.cells #[.int .i64 ver, .slice E e1 e2, .slice F f1 f2, .int .i64 k, .int .i64 s, .string nm, .slice G g1 g2] 55) (Obj.cells #[.int .i64 q, .int .i64 n, .string (bs st), .slice A a1 a2, .slice B b1 b2] 25)
  rw [show (w.alloc (Obj.cells #[.int .i64 ver, .slice E e1 e2, .slice F f1 f2, .int .i64 k, .int .i64 s, .string nm, .slice G g1 g2] 55)).heap.size = w.heap.size + 1 by simp] at D2
  generalize pur q n st a1 b1 = u at *
  cases p with
  | false =>
    rw [if_neg (fun h => by cases h.1)]
    clear cS cI
    go_enter Try.func53, Try.ntmps53
    go_wp2_with fail
    refine (cP _ hab).mono ?_
    rintro e w2 ⟨rfl, hb2⟩
    replace D1 := D1.next hb2
    replace D2 := D2.next hb2
    replace hab := Below.next hab hb2
    have c0 := D1.c 0 rfl
    have c1 := D1.c 1 rfl
    have c2 := D1.c 2 rfl
    have c3 := D1.c 3 rfl
    have c4 := D1.c 4 rfl
    have c5 := D1.c 5 rfl
    have c6 := D1.c 6 rfl
    have x0 := D2.c 0 rfl
    have x1 := D2.c 1 rfl
    have x2 := D2.c 2 rfl
    have x3 := D2.c 3 rfl
    have x4 := D2.c 4 rfl
    go_wp2_with fail
    go_ret
    exact ⟨rfl, hab⟩
  | true =>
    by_cases hq : q = k
    · subst hq
      have dq : (q != q) = false := by simp
      cases u with
      | false =>
        rw [if_neg (fun h => by cases h.2.2)]
        clear cS
        go_enter Try.func53, Try.ntmps53
        go_wp2_with fail
        refine (cP _ hab).mono ?_
        rintro e w2 ⟨rfl, hb2⟩
        replace D1 := D1.next hb2
        replace D2 := D2.next hb2
        replace hab := Below.next hab hb2
        have c0 := D1.c 0 rfl
        have c1 := D1.c 1 rfl
        have c2 := D1.c 2 rfl
        have c3 := D1.c 3 rfl
        have c4 := D1.c 4 rfl
        have c5 := D1.c 5 rfl
        have c6 := D1.c 6 rfl
        have x0 := D2.c 0 rfl
        have x1 := D2.c 1 rfl
        have x2 := D2.c 2 rfl
        have x3 := D2.c 3 rfl
        have x4 := D2.c 4 rfl
        go_wp2_with fail
        refine (cI _).mono ?_
        rintro e w3 ⟨rfl, hb3⟩
        replace D1 := D1.next hb3
        replace D2 := D2.next hb3
        replace hab := Below.next hab hb3
        clear c0 c1 c2 c3 c4 c5 c6 x0 x1 x2 x3 x4
        have c0 := D1.c 0 rfl
        have c1 := D1.c 1 rfl
        have c2 := D1.c 2 rfl
        have c3 := D1.c 3 rfl
        have c4 := D1.c 4 rfl
        have c5 := D1.c 5 rfl
        have c6 := D1.c 6 rfl
        have x0 := D2.c 0 rfl
        have x1 := D2.c 1 rfl
        have x2 := D2.c 2 rfl
        have x3 := D2.c 3 rfl
        have x4 := D2.c 4 rfl
        go_wp2_with fail
        go_ret
        exact ⟨rfl, hab⟩
      | true =>
        rw [if_pos ⟨rfl, rfl, rfl⟩]
        replace cS := cS rfl rfl rfl
        go_enter Try.func53, Try.ntmps53
        go_wp2_with fail
        refine (cP _ hab).mono ?_
        rintro e w2 ⟨rfl, hb2⟩
        replace D1 := D1.next hb2
        replace D2 := D2.next hb2
        replace hab := Below.next hab hb2
        have c0 := D1.c 0 rfl
        have c1 := D1.c 1 rfl
        have c2 := D1.c 2 rfl
        have c3 := D1.c 3 rfl
        have c4 := D1.c 4 rfl
        have c5 := D1.c 5 rfl
        have c6 := D1.c 6 rfl
        have x0 := D2.c 0 rfl
        have x1 := D2.c 1 rfl
        have x2 := D2.c 2 rfl
        have x3 := D2.c 3 rfl
        have x4 := D2.c 4 rfl
        go_wp2_with fail
        refine (cI _).mono ?_
        rintro e w3 ⟨rfl, hb3⟩
        replace D1 := D1.next hb3
        replace D2 := D2.next hb3
        replace hab := Below.next hab hb3
        clear c0 c1 c2 c3 c4 c5 c6 x0 x1 x2 x3 x4
        have c0 := D1.c 0 rfl
        have c1 := D1.c 1 rfl
        have c2 := D1.c 2 rfl
        have c3 := D1.c 3 rfl
        have c4 := D1.c 4 rfl
        have c5 := D1.c 5 rfl
        have c6 := D1.c 6 rfl
        have x0 := D2.c 0 rfl
        have x1 := D2.c 1 rfl
        have x2 := D2.c 2 rfl
        have x3 := D2.c 3 rfl
        have x4 := D2.c 4 rfl
        go_wp2_with fail
        refine (cS _ hab).mono ?_
        rintro e w4 ⟨rfl, hb4⟩
        go_wp2_with fail
        go_ret
        exact ⟨rfl, Below.next hab hb4⟩
    · have dq : (q != k) = true := by simpa using hq
      rw [if_neg (fun h => hq h.2.1)]
      clear cS cI hq
      go_enter Try.func53, Try.ntmps53
      go_wp2_with fail
      refine (cP _ hab).mono ?_
      rintro e w2 ⟨rfl, hb2⟩
      replace D1 := D1.next hb2
      replace D2 := D2.next hb2
      replace hab := Below.next hab hb2
      have c0 := D1.c 0 rfl
      have c1 := D1.c 1 rfl
      have c2 := D1.c 2 rfl
      have c3 := D1.c 3 rfl
      have c4 := D1.c 4 rfl
      have c5 := D1.c 5 rfl
      have c6 := D1.c 6 rfl
      have x0 := D2.c 0 rfl
      have x1 := D2.c 1 rfl
      have x2 := D2.c 2 rfl
      have x3 := D2.c 3 rfl
      have x4 := D2.c 4 rfl
      go_wp2_with fail
      go_ret
      exact ⟨rfl, hab⟩
set_option maxRecDepth 100000 in
set_option maxHeartbeats 8000000 in
theorem admit_text (ver : Int) (E : Option Addr) (e1 e2 : Nat) (F : Option Addr) (f1 f2 : Nat) (k s : Int) (nm : ByteArray) (G : Option Addr) (g1 g2 : Nat) (q n : Int) (st : List UInt8) (A : Option Addr) (a1 a2 : Nat) (B : Option Addr) (b1 b2 : Nat) (p : Bool) (r : Int) (w : World)
    (cP : ∀ W, Below w.heap.size w W → Calls Try.prog 74 #[.agg #[.int .i64 ver, .slice E e1 e2, .slice F f1 f2], .agg #[.int .i64 k, .int .i64 s, .string nm, .slice G g1 g2]] W (Ib (.bool p) W))
    (cS : p = true → q = k → pur q n st a1 b1 = true → ∀ W, Below w.heap.size w W → Calls Try.prog 57 #[.agg #[.int .i64 ver, .slice E e1 e2, .slice F f1 f2, .int .i64 k, .int .i64 s, .string nm, .slice G g1 g2], .agg #[.int .i64 q, .int .i64 n, .string (bs st), .slice A a1 a2, .slice B b1 b2]] W (Ib (.int .i64 r) W)) :
    Calls Try.prog 53 #[.agg #[.int .i64 ver, .slice E e1 e2, .slice F f1 f2, .int .i64 k, .int .i64 s, .string nm, .slice G g1 g2], .agg #[.int .i64 q, .int .i64 n, .string (bs st), .slice A a1 a2, .slice B b1 b2], .func (.func 57) #[.agg #[.int .i64 ver, .slice E e1 e2, .slice F f1 f2, .int .i64 k, .int .i64 s, .string nm, .slice G g1 g2]] #[]] w (Ib (.int .i64 (if p = true ∧ q = k ∧ pur q n st a1 b1 = true then r else 13)) w) := by
  have cI := fun W => isPure_any q n st A a1 a2 B b1 b2 W
  have D1 := (Bx.new7 w 55 (.int .i64 ver) (.slice E e1 e2) (.slice F f1 f2) (.int .i64 k) (.int .i64 s) (.string nm) (.slice G g1 g2)).next (ab1 _ (Obj.cells #[.int .i64 q, .int .i64 n, .string (bs st), .slice A a1 a2, .slice B b1 b2] 25))
  have D2 := Bx.new5 (w.alloc (Obj.cells #[.int .i64 ver, .slice E e1 e2, .slice F f1 f2, .int .i64 k, .int .i64 s, .string nm, .slice G g1 g2] 55)) 25 (.int .i64 q) (.int .i64 n) (.string (bs st)) (.slice A a1 a2) (.slice B b1 b2)
  have hab := ab2 w (Obj.cells #[.int .i64 ver, .slice E e1 e2, .slice F f1 f2, .int .i64 k, .int .i64 s, .string nm, .slice G g1 g2] 55) (Obj.cells #[.int .i64 q, .int .i64 n, .string (bs st), .slice A a1 a2, .slice B b1 b2] 25)
  rw [show (w.alloc (Obj.cells #[.int .i64 ver, .slice E e1 e2, .slice F f1 f2, .int .i64 k, .int .i64 s, .string nm, .slice G g1 g2] 55)).heap.size = w.heap.size + 1 by simp] at D2
  generalize pur q n st a1 b1 = u at *
  cases p with
  | false =>
    rw [if_neg (fun h => by cases h.1)]
    clear cS cI
    go_enter Try.func53, Try.ntmps53
    go_wp2_with fail
    refine (cP _ hab).mono ?_
    rintro e w2 ⟨rfl, hb2⟩
    replace D1 := D1.next hb2
    replace D2 := D2.next hb2
    replace hab := Below.next hab hb2
    have c0 := D1.c 0 rfl
    have c1 := D1.c 1 rfl
    have c2 := D1.c 2 rfl
    have c3 := D1.c 3 rfl
    have c4 := D1.c 4 rfl
    have c5 := D1.c 5 rfl
    have c6 := D1.c 6 rfl
    have x0 := D2.c 0 rfl
    have x1 := D2.c 1 rfl
    have x2 := D2.c 2 rfl
    have x3 := D2.c 3 rfl
    have x4 := D2.c 4 rfl
    go_wp2_with fail
    go_ret
    exact ⟨rfl, hab⟩
  | true =>
    by_cases hq : q = k
    · subst hq
      have dq : (q != q) = false := by simp
      cases u with
      | false =>
        rw [if_neg (fun h => by cases h.2.2)]
        clear cS
        go_enter Try.func53, Try.ntmps53
        go_wp2_with fail
        refine (cP _ hab).mono ?_
        rintro e w2 ⟨rfl, hb2⟩
        replace D1 := D1.next hb2
        replace D2 := D2.next hb2
        replace hab := Below.next hab hb2
        have c0 := D1.c 0 rfl
        have c1 := D1.c 1 rfl
        have c2 := D1.c 2 rfl
        have c3 := D1.c 3 rfl
        have c4 := D1.c 4 rfl
        have c5 := D1.c 5 rfl
        have c6 := D1.c 6 rfl
        have x0 := D2.c 0 rfl
        have x1 := D2.c 1 rfl
        have x2 := D2.c 2 rfl
        have x3 := D2.c 3 rfl
        have x4 := D2.c 4 rfl
        go_wp2_with fail
        refine (cI _).mono ?_
        rintro e w3 ⟨rfl, hb3⟩
        replace D1 := D1.next hb3
        replace D2 := D2.next hb3
        replace hab := Below.next hab hb3
        clear c0 c1 c2 c3 c4 c5 c6 x0 x1 x2 x3 x4
        have c0 := D1.c 0 rfl
        have c1 := D1.c 1 rfl
        have c2 := D1.c 2 rfl
        have c3 := D1.c 3 rfl
        have c4 := D1.c 4 rfl
        have c5 := D1.c 5 rfl
        have c6 := D1.c 6 rfl
        have x0 := D2.c 0 rfl
        have x1 := D2.c 1 rfl
        have x2 := D2.c 2 rfl
        have x3 := D2.c 3 rfl
        have x4 := D2.c 4 rfl
        go_wp2_with fail
        go_ret
        exact ⟨rfl, hab⟩
      | true =>
        rw [if_pos ⟨rfl, rfl, rfl⟩]
        replace cS := cS rfl rfl rfl
        go_enter Try.func53, Try.ntmps53
        go_wp2_with fail
        refine (cP _ hab).mono ?_
        rintro e w2 ⟨rfl, hb2⟩
        replace D1 := D1.next hb2
        replace D2 := D2.next hb2
        replace hab := Below.next hab hb2
        have c0 := D1.c 0 rfl
        have c1 := D1.c 1 rfl
        have c2 := D1.c 2 rfl
        have c3 := D1.c 3 rfl
        have c4 := D1.c 4 rfl
        have c5 := D1.c 5 rfl
        have c6 := D1.c 6 rfl
        have x0 := D2.c 0 rfl
        have x1 := D2.c 1 rfl
        have x2 := D2.c 2 rfl
        have x3 := D2.c 3 rfl
        have x4 := D2.c 4 rfl
        go_wp2_with fail
        refine (cI _).mono ?_
        rintro e w3 ⟨rfl, hb3⟩
        replace D1 := D1.next hb3
        replace D2 := D2.next hb3
        replace hab := Below.next hab hb3
        clear c0 c1 c2 c3 c4 c5 c6 x0 x1 x2 x3 x4
        have c0 := D1.c 0 rfl
        have c1 := D1.c 1 rfl
        have c2 := D1.c 2 rfl
        have c3 := D1.c 3 rfl
        have c4 := D1.c 4 rfl
        have c5 := D1.c 5 rfl
        have c6 := D1.c 6 rfl
        have x0 := D2.c 0 rfl
        have x1 := D2.c 1 rfl
        have x2 := D2.c 2 rfl
        have x3 := D2.c 3 rfl
        have x4 := D2.c 4 rfl
        go_wp2_with fail
        refine (cS _ hab).mono ?_
        rintro e w4 ⟨rfl, hb4⟩
        go_wp2_with fail
        go_ret
        exact ⟨rfl, Below.next hab hb4⟩
    · have dq : (q != k) = true := by simpa using hq
      rw [if_neg (fun h => hq h.2.1)]
      clear cS cI hq
      go_enter Try.func53, Try.ntmps53
      go_wp2_with fail
      refine (cP _ hab).mono ?_
      rintro e w2 ⟨rfl, hb2⟩
      replace D1 := D1.next hb2
      replace D2 := D2.next hb2
      replace hab := Below.next hab hb2
      have c0 := D1.c 0 rfl
      have c1 := D1.c 1 rfl
      have c2 := D1.c 2 rfl
      have c3 := D1.c 3 rfl
      have c4 := D1.c 4 rfl
      have c5 := D1.c 5 rfl
      have c6 := D1.c 6 rfl
      have x0 := D2.c 0 rfl
      have x1 := D2.c 1 rfl
      have x2 := D2.c 2 rfl
      have x3 := D2.c 3 rfl
      have x4 := D2.c 4 rfl
      go_wp2_with fail
      go_ret
      exact ⟨rfl, hab⟩
set_option maxRecDepth 100000 in
set_option maxHeartbeats 8000000 in
theorem admit_list (ver : Int) (E : Option Addr) (e1 e2 : Nat) (F : Option Addr) (f1 f2 : Nat) (k s : Int) (nm : ByteArray) (G : Option Addr) (g1 g2 : Nat) (q n : Int) (st : List UInt8) (A : Option Addr) (a1 a2 : Nat) (B : Option Addr) (b1 b2 : Nat) (p : Bool) (r : Int) (w : World)
    (cP : ∀ W, Below w.heap.size w W → Calls Try.prog 74 #[.agg #[.int .i64 ver, .slice E e1 e2, .slice F f1 f2], .agg #[.int .i64 k, .int .i64 s, .string nm, .slice G g1 g2]] W (Ib (.bool p) W))
    (cS : p = true → q = k → pur q n st a1 b1 = true → ∀ W, Below w.heap.size w W → Calls Try.prog 58 #[.agg #[.int .i64 ver, .slice E e1 e2, .slice F f1 f2, .int .i64 k, .int .i64 s, .string nm, .slice G g1 g2], .agg #[.int .i64 q, .int .i64 n, .string (bs st), .slice A a1 a2, .slice B b1 b2]] W (Ib (.int .i64 r) W)) :
    Calls Try.prog 53 #[.agg #[.int .i64 ver, .slice E e1 e2, .slice F f1 f2, .int .i64 k, .int .i64 s, .string nm, .slice G g1 g2], .agg #[.int .i64 q, .int .i64 n, .string (bs st), .slice A a1 a2, .slice B b1 b2], .func (.func 58) #[.agg #[.int .i64 ver, .slice E e1 e2, .slice F f1 f2, .int .i64 k, .int .i64 s, .string nm, .slice G g1 g2]] #[]] w (Ib (.int .i64 (if p = true ∧ q = k ∧ pur q n st a1 b1 = true then r else 13)) w) := by
  have cI := fun W => isPure_any q n st A a1 a2 B b1 b2 W
  have D1 := (Bx.new7 w 55 (.int .i64 ver) (.slice E e1 e2) (.slice F f1 f2) (.int .i64 k) (.int .i64 s) (.string nm) (.slice G g1 g2)).next (ab1 _ (Obj.cells #[.int .i64 q, .int .i64 n, .string (bs st), .slice A a1 a2, .slice B b1 b2] 25))
  have D2 := Bx.new5 (w.alloc (Obj.cells #[.int .i64 ver, .slice E e1 e2, .slice F f1 f2, .int .i64 k, .int .i64 s, .string nm, .slice G g1 g2] 55)) 25 (.int .i64 q) (.int .i64 n) (.string (bs st)) (.slice A a1 a2) (.slice B b1 b2)
  have hab := ab2 w (Obj.cells #[.int .i64 ver, .slice E e1 e2, .slice F f1 f2, .int .i64 k, .int .i64 s, .string nm, .slice G g1 g2] 55) (Obj.cells #[.int .i64 q, .int .i64 n, .string (bs st), .slice A a1 a2, .slice B b1 b2] 25)
  rw [show (w.alloc (Obj.cells #[.int .i64 ver, .slice E e1 e2, .slice F f1 f2, .int .i64 k, .int .i64 s, .string nm, .slice G g1 g2] 55)).heap.size = w.heap.size + 1 by simp] at D2
  generalize pur q n st a1 b1 = u at *
  cases p with
  | false =>
    rw [if_neg (fun h => by cases h.1)]
    clear cS cI
    go_enter Try.func53, Try.ntmps53
    go_wp2_with fail
    refine (cP _ hab).mono ?_
    rintro e w2 ⟨rfl, hb2⟩
    replace D1 := D1.next hb2
    replace D2 := D2.next hb2
    replace hab := Below.next hab hb2
    have c0 := D1.c 0 rfl
    have c1 := D1.c 1 rfl
    have c2 := D1.c 2 rfl
    have c3 := D1.c 3 rfl
    have c4 := D1.c 4 rfl
    have c5 := D1.c 5 rfl
    have c6 := D1.c 6 rfl
    have x0 := D2.c 0 rfl
    have x1 := D2.c 1 rfl
    have x2 := D2.c 2 rfl
    have x3 := D2.c 3 rfl
    have x4 := D2.c 4 rfl
    go_wp2_with fail
    go_ret
    exact ⟨rfl, hab⟩
  | true =>
    by_cases hq : q = k
    · subst hq
      have dq : (q != q) = false := by simp
      cases u with
      | false =>
        rw [if_neg (fun h => by cases h.2.2)]
        clear cS
        go_enter Try.func53, Try.ntmps53
        go_wp2_with fail
        refine (cP _ hab).mono ?_
        rintro e w2 ⟨rfl, hb2⟩
        replace D1 := D1.next hb2
        replace D2 := D2.next hb2
        replace hab := Below.next hab hb2
        have c0 := D1.c 0 rfl
        have c1 := D1.c 1 rfl
        have c2 := D1.c 2 rfl
        have c3 := D1.c 3 rfl
        have c4 := D1.c 4 rfl
        have c5 := D1.c 5 rfl
        have c6 := D1.c 6 rfl
        have x0 := D2.c 0 rfl
        have x1 := D2.c 1 rfl
        have x2 := D2.c 2 rfl
        have x3 := D2.c 3 rfl
        have x4 := D2.c 4 rfl
        go_wp2_with fail
        refine (cI _).mono ?_
        rintro e w3 ⟨rfl, hb3⟩
        replace D1 := D1.next hb3
        replace D2 := D2.next hb3
        replace hab := Below.next hab hb3
        clear c0 c1 c2 c3 c4 c5 c6 x0 x1 x2 x3 x4
        have c0 := D1.c 0 rfl
        have c1 := D1.c 1 rfl
        have c2 := D1.c 2 rfl
        have c3 := D1.c 3 rfl
        have c4 := D1.c 4 rfl
        have c5 := D1.c 5 rfl
        have c6 := D1.c 6 rfl
        have x0 := D2.c 0 rfl
        have x1 := D2.c 1 rfl
        have x2 := D2.c 2 rfl
        have x3 := D2.c 3 rfl
        have x4 := D2.c 4 rfl
        go_wp2_with fail
        go_ret
        exact ⟨rfl, hab⟩
      | true =>
        rw [if_pos ⟨rfl, rfl, rfl⟩]
        replace cS := cS rfl rfl rfl
        go_enter Try.func53, Try.ntmps53
        go_wp2_with fail
        refine (cP _ hab).mono ?_
        rintro e w2 ⟨rfl, hb2⟩
        replace D1 := D1.next hb2
        replace D2 := D2.next hb2
        replace hab := Below.next hab hb2
        have c0 := D1.c 0 rfl
        have c1 := D1.c 1 rfl
        have c2 := D1.c 2 rfl
        have c3 := D1.c 3 rfl
        have c4 := D1.c 4 rfl
        have c5 := D1.c 5 rfl
        have c6 := D1.c 6 rfl
        have x0 := D2.c 0 rfl
        have x1 := D2.c 1 rfl
        have x2 := D2.c 2 rfl
        have x3 := D2.c 3 rfl
        have x4 := D2.c 4 rfl
        go_wp2_with fail
        refine (cI _).mono ?_
        rintro e w3 ⟨rfl, hb3⟩
        replace D1 := D1.next hb3
        replace D2 := D2.next hb3
        replace hab := Below.next hab hb3
        clear c0 c1 c2 c3 c4 c5 c6 x0 x1 x2 x3 x4
        have c0 := D1.c 0 rfl
        have c1 := D1.c 1 rfl
        have c2 := D1.c 2 rfl
        have c3 := D1.c 3 rfl
        have c4 := D1.c 4 rfl
        have c5 := D1.c 5 rfl
        have c6 := D1.c 6 rfl
        have x0 := D2.c 0 rfl
        have x1 := D2.c 1 rfl
        have x2 := D2.c 2 rfl
        have x3 := D2.c 3 rfl
        have x4 := D2.c 4 rfl
        go_wp2_with fail
        refine (cS _ hab).mono ?_
        rintro e w4 ⟨rfl, hb4⟩
        go_wp2_with fail
        go_ret
        exact ⟨rfl, Below.next hab hb4⟩
    · have dq : (q != k) = true := by simpa using hq
      rw [if_neg (fun h => hq h.2.1)]
      clear cS cI hq
      go_enter Try.func53, Try.ntmps53
      go_wp2_with fail
      refine (cP _ hab).mono ?_
      rintro e w2 ⟨rfl, hb2⟩
      replace D1 := D1.next hb2
      replace D2 := D2.next hb2
      replace hab := Below.next hab hb2
      have c0 := D1.c 0 rfl
      have c1 := D1.c 1 rfl
      have c2 := D1.c 2 rfl
      have c3 := D1.c 3 rfl
      have c4 := D1.c 4 rfl
      have c5 := D1.c 5 rfl
      have c6 := D1.c 6 rfl
      have x0 := D2.c 0 rfl
      have x1 := D2.c 1 rfl
      have x2 := D2.c 2 rfl
      have x3 := D2.c 3 rfl
      have x4 := D2.c 4 rfl
      go_wp2_with fail
      go_ret
      exact ⟨rfl, hab⟩
set_option maxRecDepth 100000 in
set_option maxHeartbeats 8000000 in
theorem admit_structure (ver : Int) (E : Option Addr) (e1 e2 : Nat) (F : Option Addr) (f1 f2 : Nat) (k s : Int) (nm : ByteArray) (G : Option Addr) (g1 g2 : Nat) (q n : Int) (st : List UInt8) (A : Option Addr) (a1 a2 : Nat) (B : Option Addr) (b1 b2 : Nat) (p : Bool) (r : Int) (w : World)
    (cP : ∀ W, Below w.heap.size w W → Calls Try.prog 74 #[.agg #[.int .i64 ver, .slice E e1 e2, .slice F f1 f2], .agg #[.int .i64 k, .int .i64 s, .string nm, .slice G g1 g2]] W (Ib (.bool p) W))
    (cS : p = true → q = k → pur q n st a1 b1 = true → ∀ W, Below w.heap.size w W → Calls Try.prog 59 #[.agg #[.int .i64 ver, .slice E e1 e2, .slice F f1 f2, .int .i64 k, .int .i64 s, .string nm, .slice G g1 g2], .agg #[.int .i64 q, .int .i64 n, .string (bs st), .slice A a1 a2, .slice B b1 b2]] W (Ib (.int .i64 r) W)) :
    Calls Try.prog 53 #[.agg #[.int .i64 ver, .slice E e1 e2, .slice F f1 f2, .int .i64 k, .int .i64 s, .string nm, .slice G g1 g2], .agg #[.int .i64 q, .int .i64 n, .string (bs st), .slice A a1 a2, .slice B b1 b2], .func (.func 59) #[.agg #[.int .i64 ver, .slice E e1 e2, .slice F f1 f2, .int .i64 k, .int .i64 s, .string nm, .slice G g1 g2]] #[]] w (Ib (.int .i64 (if p = true ∧ q = k ∧ pur q n st a1 b1 = true then r else 13)) w) := by
  have cI := fun W => isPure_any q n st A a1 a2 B b1 b2 W
  have D1 := (Bx.new7 w 55 (.int .i64 ver) (.slice E e1 e2) (.slice F f1 f2) (.int .i64 k) (.int .i64 s) (.string nm) (.slice G g1 g2)).next (ab1 _ (Obj.cells #[.int .i64 q, .int .i64 n, .string (bs st), .slice A a1 a2, .slice B b1 b2] 25))
  have D2 := Bx.new5 (w.alloc (Obj.cells #[.int .i64 ver, .slice E e1 e2, .slice F f1 f2, .int .i64 k, .int .i64 s, .string nm, .slice G g1 g2] 55)) 25 (.int .i64 q) (.int .i64 n) (.string (bs st)) (.slice A a1 a2) (.slice B b1 b2)
  have hab := ab2 w (Obj.cells #[.int .i64 ver, .slice E e1 e2, .slice F f1 f2, .int .i64 k, .int .i64 s, .string nm, .slice G g1 g2] 55) (Obj.cells #[.int .i64 q, .int .i64 n, .string (bs st), .slice A a1 a2, .slice B b1 b2] 25)
  rw [show (w.alloc (Obj.cells #[.int .i64 ver, .slice E e1 e2, .slice F f1 f2, .int .i64 k, .int .i64 s, .string nm, .slice G g1 g2] 55)).heap.size = w.heap.size + 1 by simp] at D2
  generalize pur q n st a1 b1 = u at *
  cases p with
  | false =>
    rw [if_neg (fun h => by cases h.1)]
    clear cS cI
    go_enter Try.func53, Try.ntmps53
    go_wp2_with fail
    refine (cP _ hab).mono ?_
    rintro e w2 ⟨rfl, hb2⟩
    replace D1 := D1.next hb2
    replace D2 := D2.next hb2
    replace hab := Below.next hab hb2
    have c0 := D1.c 0 rfl
    have c1 := D1.c 1 rfl
    have c2 := D1.c 2 rfl
    have c3 := D1.c 3 rfl
    have c4 := D1.c 4 rfl
    have c5 := D1.c 5 rfl
    have c6 := D1.c 6 rfl
    have x0 := D2.c 0 rfl
    have x1 := D2.c 1 rfl
    have x2 := D2.c 2 rfl
    have x3 := D2.c 3 rfl
    have x4 := D2.c 4 rfl
    go_wp2_with fail
    go_ret
    exact ⟨rfl, hab⟩
  | true =>
    by_cases hq : q = k
    · subst hq
      have dq : (q != q) = false := by simp
      cases u with
      | false =>
        rw [if_neg (fun h => by cases h.2.2)]
        clear cS
        go_enter Try.func53, Try.ntmps53
        go_wp2_with fail
        refine (cP _ hab).mono ?_
        rintro e w2 ⟨rfl, hb2⟩
        replace D1 := D1.next hb2
        replace D2 := D2.next hb2
        replace hab := Below.next hab hb2
        have c0 := D1.c 0 rfl
        have c1 := D1.c 1 rfl
        have c2 := D1.c 2 rfl
        have c3 := D1.c 3 rfl
        have c4 := D1.c 4 rfl
        have c5 := D1.c 5 rfl
        have c6 := D1.c 6 rfl
        have x0 := D2.c 0 rfl
        have x1 := D2.c 1 rfl
        have x2 := D2.c 2 rfl
        have x3 := D2.c 3 rfl
        have x4 := D2.c 4 rfl
        go_wp2_with fail
        refine (cI _).mono ?_
        rintro e w3 ⟨rfl, hb3⟩
        replace D1 := D1.next hb3
        replace D2 := D2.next hb3
        replace hab := Below.next hab hb3
        clear c0 c1 c2 c3 c4 c5 c6 x0 x1 x2 x3 x4
        have c0 := D1.c 0 rfl
        have c1 := D1.c 1 rfl
        have c2 := D1.c 2 rfl
        have c3 := D1.c 3 rfl
        have c4 := D1.c 4 rfl
        have c5 := D1.c 5 rfl
        have c6 := D1.c 6 rfl
        have x0 := D2.c 0 rfl
        have x1 := D2.c 1 rfl
        have x2 := D2.c 2 rfl
        have x3 := D2.c 3 rfl
        have x4 := D2.c 4 rfl
        go_wp2_with fail
        go_ret
        exact ⟨rfl, hab⟩
      | true =>
        rw [if_pos ⟨rfl, rfl, rfl⟩]
        replace cS := cS rfl rfl rfl
        go_enter Try.func53, Try.ntmps53
        go_wp2_with fail
        refine (cP _ hab).mono ?_
        rintro e w2 ⟨rfl, hb2⟩
        replace D1 := D1.next hb2
        replace D2 := D2.next hb2
        replace hab := Below.next hab hb2
        have c0 := D1.c 0 rfl
        have c1 := D1.c 1 rfl
        have c2 := D1.c 2 rfl
        have c3 := D1.c 3 rfl
        have c4 := D1.c 4 rfl
        have c5 := D1.c 5 rfl
        have c6 := D1.c 6 rfl
        have x0 := D2.c 0 rfl
        have x1 := D2.c 1 rfl
        have x2 := D2.c 2 rfl
        have x3 := D2.c 3 rfl
        have x4 := D2.c 4 rfl
        go_wp2_with fail
        refine (cI _).mono ?_
        rintro e w3 ⟨rfl, hb3⟩
        replace D1 := D1.next hb3
        replace D2 := D2.next hb3
        replace hab := Below.next hab hb3
        clear c0 c1 c2 c3 c4 c5 c6 x0 x1 x2 x3 x4
        have c0 := D1.c 0 rfl
        have c1 := D1.c 1 rfl
        have c2 := D1.c 2 rfl
        have c3 := D1.c 3 rfl
        have c4 := D1.c 4 rfl
        have c5 := D1.c 5 rfl
        have c6 := D1.c 6 rfl
        have x0 := D2.c 0 rfl
        have x1 := D2.c 1 rfl
        have x2 := D2.c 2 rfl
        have x3 := D2.c 3 rfl
        have x4 := D2.c 4 rfl
        go_wp2_with fail
        refine (cS _ hab).mono ?_
        rintro e w4 ⟨rfl, hb4⟩
        go_wp2_with fail
        go_ret
        exact ⟨rfl, Below.next hab hb4⟩
    · have dq : (q != k) = true := by simpa using hq
      rw [if_neg (fun h => hq h.2.1)]
      clear cS cI hq
      go_enter Try.func53, Try.ntmps53
      go_wp2_with fail
      refine (cP _ hab).mono ?_
      rintro e w2 ⟨rfl, hb2⟩
      replace D1 := D1.next hb2
      replace D2 := D2.next hb2
      replace hab := Below.next hab hb2
      have c0 := D1.c 0 rfl
      have c1 := D1.c 1 rfl
      have c2 := D1.c 2 rfl
      have c3 := D1.c 3 rfl
      have c4 := D1.c 4 rfl
      have c5 := D1.c 5 rfl
      have c6 := D1.c 6 rfl
      have x0 := D2.c 0 rfl
      have x1 := D2.c 1 rfl
      have x2 := D2.c 2 rfl
      have x3 := D2.c 3 rfl
      have x4 := D2.c 4 rfl
      go_wp2_with fail
      go_ret
      exact ⟨rfl, hab⟩
set_option maxRecDepth 100000 in
set_option maxHeartbeats 8000000 in
theorem admit_enum (ver : Int) (E : Option Addr) (e1 e2 : Nat) (F : Option Addr) (f1 f2 : Nat) (k s : Int) (nm : ByteArray) (G : Option Addr) (g1 g2 : Nat) (q n : Int) (st : List UInt8) (A : Option Addr) (a1 a2 : Nat) (B : Option Addr) (b1 b2 : Nat) (p : Bool) (r : Int) (w : World)
    (cP : ∀ W, Below w.heap.size w W → Calls Try.prog 74 #[.agg #[.int .i64 ver, .slice E e1 e2, .slice F f1 f2], .agg #[.int .i64 k, .int .i64 s, .string nm, .slice G g1 g2]] W (Ib (.bool p) W))
    (cS : p = true → q = k → pur q n st a1 b1 = true → ∀ W, Below w.heap.size w W → Calls Try.prog 60 #[.agg #[.int .i64 ver, .slice E e1 e2, .slice F f1 f2, .int .i64 k, .int .i64 s, .string nm, .slice G g1 g2], .agg #[.int .i64 q, .int .i64 n, .string (bs st), .slice A a1 a2, .slice B b1 b2]] W (Ib (.int .i64 r) W)) :
    Calls Try.prog 53 #[.agg #[.int .i64 ver, .slice E e1 e2, .slice F f1 f2, .int .i64 k, .int .i64 s, .string nm, .slice G g1 g2], .agg #[.int .i64 q, .int .i64 n, .string (bs st), .slice A a1 a2, .slice B b1 b2], .func (.func 60) #[.agg #[.int .i64 ver, .slice E e1 e2, .slice F f1 f2, .int .i64 k, .int .i64 s, .string nm, .slice G g1 g2]] #[]] w (Ib (.int .i64 (if p = true ∧ q = k ∧ pur q n st a1 b1 = true then r else 13)) w) := by
  have cI := fun W => isPure_any q n st A a1 a2 B b1 b2 W
  have D1 := (Bx.new7 w 55 (.int .i64 ver) (.slice E e1 e2) (.slice F f1 f2) (.int .i64 k) (.int .i64 s) (.string nm) (.slice G g1 g2)).next (ab1 _ (Obj.cells #[.int .i64 q, .int .i64 n, .string (bs st), .slice A a1 a2, .slice B b1 b2] 25))
  have D2 := Bx.new5 (w.alloc (Obj.cells #[.int .i64 ver, .slice E e1 e2, .slice F f1 f2, .int .i64 k, .int .i64 s, .string nm, .slice G g1 g2] 55)) 25 (.int .i64 q) (.int .i64 n) (.string (bs st)) (.slice A a1 a2) (.slice B b1 b2)
  have hab := ab2 w (Obj.cells #[.int .i64 ver, .slice E e1 e2, .slice F f1 f2, .int .i64 k, .int .i64 s, .string nm, .slice G g1 g2] 55) (Obj.cells #[.int .i64 q, .int .i64 n, .string (bs st), .slice A a1 a2, .slice B b1 b2] 25)
  rw [show (w.alloc (Obj.cells #[.int .i64 ver, .slice E e1 e2, .slice F f1 f2, .int .i64 k, .int .i64 s, .string nm, .slice G g1 g2] 55)).heap.size = w.heap.size + 1 by simp] at D2
  generalize pur q n st a1 b1 = u at *
  cases p with
  | false =>
    rw [if_neg (fun h => by cases h.1)]
    clear cS cI
    go_enter Try.func53, Try.ntmps53
    go_wp2_with fail
    refine (cP _ hab).mono ?_
    rintro e w2 ⟨rfl, hb2⟩
    replace D1 := D1.next hb2
    replace D2 := D2.next hb2
    replace hab := Below.next hab hb2
    have c0 := D1.c 0 rfl
    have c1 := D1.c 1 rfl
    have c2 := D1.c 2 rfl
    have c3 := D1.c 3 rfl
    have c4 := D1.c 4 rfl
    have c5 := D1.c 5 rfl
    have c6 := D1.c 6 rfl
    have x0 := D2.c 0 rfl
    have x1 := D2.c 1 rfl
    have x2 := D2.c 2 rfl
    have x3 := D2.c 3 rfl
    have x4 := D2.c 4 rfl
    go_wp2_with fail
    go_ret
    exact ⟨rfl, hab⟩
  | true =>
    by_cases hq : q = k
    · subst hq
      have dq : (q != q) = false := by simp
      cases u with
      | false =>
        rw [if_neg (fun h => by cases h.2.2)]
        clear cS
        go_enter Try.func53, Try.ntmps53
        go_wp2_with fail
        refine (cP _ hab).mono ?_
        rintro e w2 ⟨rfl, hb2⟩
        replace D1 := D1.next hb2
        replace D2 := D2.next hb2
        replace hab := Below.next hab hb2
        have c0 := D1.c 0 rfl
        have c1 := D1.c 1 rfl
        have c2 := D1.c 2 rfl
        have c3 := D1.c 3 rfl
        have c4 := D1.c 4 rfl
        have c5 := D1.c 5 rfl
        have c6 := D1.c 6 rfl
        have x0 := D2.c 0 rfl
        have x1 := D2.c 1 rfl
        have x2 := D2.c 2 rfl
        have x3 := D2.c 3 rfl
        have x4 := D2.c 4 rfl
        go_wp2_with fail
        refine (cI _).mono ?_
        rintro e w3 ⟨rfl, hb3⟩
        replace D1 := D1.next hb3
        replace D2 := D2.next hb3
        replace hab := Below.next hab hb3
        clear c0 c1 c2 c3 c4 c5 c6 x0 x1 x2 x3 x4
        have c0 := D1.c 0 rfl
        have c1 := D1.c 1 rfl
        have c2 := D1.c 2 rfl
        have c3 := D1.c 3 rfl
        have c4 := D1.c 4 rfl
        have c5 := D1.c 5 rfl
        have c6 := D1.c 6 rfl
        have x0 := D2.c 0 rfl
        have x1 := D2.c 1 rfl
        have x2 := D2.c 2 rfl
        have x3 := D2.c 3 rfl
        have x4 := D2.c 4 rfl
        go_wp2_with fail
        go_ret
        exact ⟨rfl, hab⟩
      | true =>
        rw [if_pos ⟨rfl, rfl, rfl⟩]
        replace cS := cS rfl rfl rfl
        go_enter Try.func53, Try.ntmps53
        go_wp2_with fail
        refine (cP _ hab).mono ?_
        rintro e w2 ⟨rfl, hb2⟩
        replace D1 := D1.next hb2
        replace D2 := D2.next hb2
        replace hab := Below.next hab hb2
        have c0 := D1.c 0 rfl
        have c1 := D1.c 1 rfl
        have c2 := D1.c 2 rfl
        have c3 := D1.c 3 rfl
        have c4 := D1.c 4 rfl
        have c5 := D1.c 5 rfl
        have c6 := D1.c 6 rfl
        have x0 := D2.c 0 rfl
        have x1 := D2.c 1 rfl
        have x2 := D2.c 2 rfl
        have x3 := D2.c 3 rfl
        have x4 := D2.c 4 rfl
        go_wp2_with fail
        refine (cI _).mono ?_
        rintro e w3 ⟨rfl, hb3⟩
        replace D1 := D1.next hb3
        replace D2 := D2.next hb3
        replace hab := Below.next hab hb3
        clear c0 c1 c2 c3 c4 c5 c6 x0 x1 x2 x3 x4
        have c0 := D1.c 0 rfl
        have c1 := D1.c 1 rfl
        have c2 := D1.c 2 rfl
        have c3 := D1.c 3 rfl
        have c4 := D1.c 4 rfl
        have c5 := D1.c 5 rfl
        have c6 := D1.c 6 rfl
        have x0 := D2.c 0 rfl
        have x1 := D2.c 1 rfl
        have x2 := D2.c 2 rfl
        have x3 := D2.c 3 rfl
        have x4 := D2.c 4 rfl
        go_wp2_with fail
        refine (cS _ hab).mono ?_
        rintro e w4 ⟨rfl, hb4⟩
        go_wp2_with fail
        go_ret
        exact ⟨rfl, Below.next hab hb4⟩
    · have dq : (q != k) = true := by simpa using hq
      rw [if_neg (fun h => hq h.2.1)]
      clear cS cI hq
      go_enter Try.func53, Try.ntmps53
      go_wp2_with fail
      refine (cP _ hab).mono ?_
      rintro e w2 ⟨rfl, hb2⟩
      replace D1 := D1.next hb2
      replace D2 := D2.next hb2
      replace hab := Below.next hab hb2
      have c0 := D1.c 0 rfl
      have c1 := D1.c 1 rfl
      have c2 := D1.c 2 rfl
      have c3 := D1.c 3 rfl
      have c4 := D1.c 4 rfl
      have c5 := D1.c 5 rfl
      have c6 := D1.c 6 rfl
      have x0 := D2.c 0 rfl
      have x1 := D2.c 1 rfl
      have x2 := D2.c 2 rfl
      have x3 := D2.c 3 rfl
      have x4 := D2.c 4 rfl
      go_wp2_with fail
      go_ret
      exact ⟨rfl, hab⟩
end Go.Proofs.Ytlebppjldoodgaa

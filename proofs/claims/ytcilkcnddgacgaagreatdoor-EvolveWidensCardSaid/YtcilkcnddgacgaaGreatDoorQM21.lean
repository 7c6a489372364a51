/-
  The developers' names of types, and names that are admitted. No conditions beyond those that each names, and what the library's variables hold.
-/
import Derived.Test.YtcilkcnddgacgaaGreatDoorQM20
import Derived.Test.YtcilkcnddgacgaaGreatDoorQM09
import Derived.Test.YtcilkcnddgacgaaGreatDoorQM08
import Derived.Test.YtcilkcnddgacgaaGreatDoorQM11
import Derived.Test.YtcilkcnddgacgaaGreatDoorQM10
namespace Go.Proofs.YtcilkcnddgacgaaGreatDoor
open Go.RowKit Go.Maps
set_option maxRecDepth 100000 in
theorem isTypeName_any (l : List UInt8) (w : World) (hl : l.length ≤ 140737488355328) (hE : Env w) :
    Calls Tryz.prog 108 #[.string (bs l)] w (Ib (.bool (isTn l)) w) := by
  have hsz : (bs l).size = l.length := rfl
  have c1 := isNameD_any l w hl hE
  cases h : isN l
  · rw [h] at c1
    rw [show isTn l = false by unfold isTn; rw [h]; rfl]
    go_enter Tryz.func108, Tryz.ntmps108
    go_wp2_with fail
    refine c1.mono ?_
    rintro e w' ⟨rfl, hb⟩
    go_wp2_with fail
    go_ret
    exact ⟨rfl, hb⟩
  · obtain ⟨c, h0, hc, e⟩ : ∃ (c : UInt8) (h0 : 0 < l.length), l[0]'h0 = c ∧ isTn l = (decide (65 ≤ c.toNat) && decide (c.toNat ≤ 90)) := by
      match l, isN_ne h with
      | c :: r, _ => exact ⟨c, by simp, rfl, by unfold isTn; rw [h, Bool.true_and]⟩
    rw [h] at c1
    obtain ⟨r, hr⟩ : ∃ r, isTn l = r := ⟨_, rfl⟩
    rw [hr]
    rw [e] at hr
    have h00 : 0 < (bs l).size := h0
    have hb : ((bs l)[0]'h00).toNat = c.toNat := by rw [← hc]; rfl
    generalize c.toNat = n at *
    have HR := Lib.hid hr
    clear hc e h hr
    by_cases g1 : 65 ≤ n
    · have d1 : decide ((65 : Int) ≤ (n : Int)) = true := by rw [decide_eq_true_eq]; omega
      by_cases g2 : n ≤ 90
      · have d2 : decide ((n : Int) ≤ 90) = true := by rw [decide_eq_true_eq]; omega
        obtain rfl : r = true := by rw [← HR.out, decide_eq_true g1, decide_eq_true g2]; rfl
        clear HR g1 g2
        go_enter Tryz.func108, Tryz.ntmps108
        go_wp2_with fail
        refine c1.mono ?_
        rintro e w' ⟨rfl, hb⟩
        go_wp2_with fail
        go_ret
        exact ⟨rfl, hb⟩
      · have d2 : decide ((n : Int) ≤ 90) = false := by rw [decide_eq_false_iff_not]; omega
        obtain rfl : r = false := by rw [← HR.out, decide_eq_false g2, Bool.and_false]
        clear HR g1 g2
        go_enter Tryz.func108, Tryz.ntmps108
        go_wp2_with fail
        refine c1.mono ?_
        rintro e w' ⟨rfl, hb⟩
        go_wp2_with fail
        go_ret
        exact ⟨rfl, hb⟩
    · have d1 : decide ((65 : Int) ≤ (n : Int)) = false := by rw [decide_eq_false_iff_not]; omega
      obtain rfl : r = false := by rw [← HR.out, decide_eq_false g1, Bool.false_and]
      clear HR g1
      go_enter Tryz.func108, Tryz.ntmps108
      go_wp2_with fail
      refine c1.mono ?_
      rintro e w' ⟨rfl, hb⟩
      go_wp2_with fail
      go_ret
      exact ⟨rfl, hb⟩
/-- The names of a list, as a map to true. -/
def setF (l : List (List UInt8)) (x : List UInt8) : Option Value := if l.contains x = true then some (.bool true) else none
theorem setF_nil : setF [] = fun _ => none := by funext x; rfl
theorem setF_put (l : List (List UInt8)) (x : List UInt8) : putF (setF l) x (.bool true) = setF (l ++ [x]) := by
  funext y
  unfold putF setF
  by_cases e : y = x
  · subst e; simp
  · simp [e]
theorem setF_getD (l : List (List UInt8)) (x : List UInt8) : (setF l x).getD (.bool false) = .bool (l.contains x) := by
  unfold setF
  cases h : l.contains x <;> simp
def Ms (w : World) (b n : Nat) (l : List (List UInt8)) : Prop := ∃ D, Mp w b n (setF l) D
theorem Ms.made (w : World) : Ms (w.alloc (.map #[] 0)) w.heap.size 0 [] := ⟨_, by rw [setF_nil]; exact Mp.made w⟩
theorem Ms.next {w w' : World} {b n : Nat} {l : List (List UInt8)} (h : Ms w b n l) (hb : Below w.heap.size w w') : Ms w' b n l := by obtain ⟨D, h⟩ := h; exact ⟨D, h.next hb⟩
theorem Ms.kept {w w' : World} {b n : Nat} {l : List (List UInt8)} {row : Option Nat} (h : Ms w b n l) (hg : w.grownBy w' row) (hne : some b ≠ row) : Ms w' b n l := by obtain ⟨D, h⟩ := h; exact ⟨D, h.kept hg hne⟩
theorem Ms.lt {w : World} {b n : Nat} {l : List (List UInt8)} (h : Ms w b n l) : b < w.heap.size := by obtain ⟨D, h⟩ := h; exact h.lt
theorem gb_of {w w' : World} (hb : Below w.heap.size w w') (row : Option Nat) : w.grownBy w' row := ⟨hb.os, hb.tape, hb.output, hb.size, fun i hi _ => hb.block i hi⟩
theorem gb_next {w w1 w2 : World} {b : Nat} (h : w.grownBy w1 (some b)) (k : Below w1.heap.size w1 w2) : w.grownBy w2 (some b) := h.trans (gb_of k _)
theorem Bx.kept {w w' : World} {c b : Nat} {vs : List Value} (h : Bx w c vs) (hg : w.grownBy w' (some b)) (hne : c ≠ b) : Bx w' c vs := by
  have e : w'.heap[c]? = w.heap[c]? := hg.block c h.lt (fun h => hne (by cases h; rfl))
  refine ⟨Nat.lt_of_lt_of_le h.lt hg.size, fun j v hv => ⟨?_, ?_⟩⟩
  · exact (World.cell?_of_block (w := w) e).trans (h.at_ j v hv).1
  · exact (World.frozen?_of_block (w := w) e).trans (h.at_ j v hv).2
/-- The error of a name that is admitted. -/
def adE (p : Bool) (l : List (List UInt8)) (x : List UInt8) : Nat := if p = false then 5 else if l.contains x = true then 7 else 0
/-- What admit leaves. -/
def AdP (p : Bool) (l : List (List UInt8)) (x : List UInt8) (b n : Nat) (w : World) (e : Ending) (w' : World) : Prop :=
  e = .returned (.int .i64 (adE p l x : Int)) ∧ w.grownBy w' (some b) ∧ (adE p l x ≠ 0 → Below w.heap.size w w') ∧ (adE p l x = 0 → Ms w' b (n + 1) (l ++ [x]))
theorem zeroBool (w : World) : (zeroValue 4).run Tryz.prog w = .ok (.bool false) w := by kernel_rfl
set_option maxRecDepth 100000 in
set_option maxHeartbeats 1000000 in
theorem admitT_any (x : List UInt8) (b n : Nat) (l : List (List UInt8)) (w : World) (hx : x.length ≤ 140737488355328) (hE : Env w) (hM : Ms w b n l) (hn : n ≤ 1000) :
    Calls Tryz.prog 107 #[.string (bs x), .func (.func 108) #[] #[], .map (some b)] w (AdP (isTn x) l x b n w) := by
  have c1 := isTypeName_any x w hx hE
  have hx2 : x.length ≤ 9223372036854775807 := by omega
  cases hp : isTn x
  · rw [hp] at c1
    have HA : AdP false l x b n w = fun e w' => e = .returned (.int .i64 5) ∧ w.grownBy w' (some b) ∧ (5 ≠ 0 → Below w.heap.size w w') ∧ (5 = 0 → Ms w' b (n + 1) (l ++ [x])) := rfl
    clear HA hp
    go_enter Tryz.func107, Tryz.ntmps107
    go_wp2_with fail
    refine c1.mono ?_
    rintro e w1 ⟨rfl, hb⟩
    go_wp2_with fail
    go_ret
    exact ⟨rfl, gb_of hb _, fun _ => hb, fun h => absurd (show (5 : Nat) = 0 from h) (by decide)⟩
  · rw [hp] at c1
    clear hp
    obtain ⟨D, hM⟩ := hM
    have hv := setF_getD l x
    cases hc : l.contains x
    · rw [hc] at hv
      have he : adE true l x = 0 := by unfold adE; rw [hc]; rfl
      have HQ := Lib.hid he
      clear he hc
      go_enter Tryz.func107, Tryz.ntmps107
      go_wp2_with fail
      refine c1.mono ?_
      rintro e w1 ⟨rfl, hb⟩
      have hM1 := hM.next hb
      go_wp2_with (first | (at_lookup; refine wpList_look _ rfl (.tmp 11) (.tmp 12) 106 4 rfl Tryz.underlying106 (zeroBool _) hM1 rfl hx2 rfl ?_; rw [hv]) | (at_mapUpdate; refine wpList_put (u := .bool true) (k := x) _ rfl (.tmp 14) (.tmp 15) (.const (.bool true)) 106 4 rfl Tryz.underlying106 hM1 (by omega) rfl hx2 rfl rfl ?_; intro w2 hM2 hg2))
      go_ret
      refine ⟨by rw [HQ.out]; rfl, (gb_of hb _).trans hg2, fun h => absurd HQ.out h, fun _ => ⟨D.put (.string x) (.held (.bool true)), ?_⟩⟩
      rw [← setF_put]
      exact hM2
    · rw [hc] at hv
      have he : adE true l x = 7 := by unfold adE; rw [hc]; rfl
      have HQ := Lib.hid he
      clear he hc
      go_enter Tryz.func107, Tryz.ntmps107
      go_wp2_with fail
      refine c1.mono ?_
      rintro e w1 ⟨rfl, hb⟩
      have hM1 := hM.next hb
      go_wp2_with (at_lookup; refine wpList_look _ rfl (.tmp 11) (.tmp 12) 106 4 rfl Tryz.underlying106 (zeroBool _) hM1 rfl hx2 rfl ?_; rw [hv])
      go_ret
      exact ⟨by rw [HQ.out]; rfl, gb_of hb _, fun _ => hb, fun h => by rw [HQ.out] at h; cases h⟩
set_option maxRecDepth 100000 in
set_option maxHeartbeats 1000000 in
theorem admitN_any (x : List UInt8) (b n : Nat) (l : List (List UInt8)) (w : World) (hx : x.length ≤ 140737488355328) (hE : Env w) (hM : Ms w b n l) (hn : n ≤ 1000) :
    Calls Tryz.prog 107 #[.string (bs x), .func (.func 109) #[] #[], .map (some b)] w (AdP (isN x) l x b n w) := by
  have c1 := isNameD_any x w hx hE
  have hx2 : x.length ≤ 9223372036854775807 := by omega
  cases hp : isN x
  · rw [hp] at c1
    have HA : AdP false l x b n w = fun e w' => e = .returned (.int .i64 5) ∧ w.grownBy w' (some b) ∧ (5 ≠ 0 → Below w.heap.size w w') ∧ (5 = 0 → Ms w' b (n + 1) (l ++ [x])) := rfl
    clear HA hp
    go_enter Tryz.func107, Tryz.ntmps107
    go_wp2_with fail
    refine c1.mono ?_
    rintro e w1 ⟨rfl, hb⟩
    go_wp2_with fail
    go_ret
    exact ⟨rfl, gb_of hb _, fun _ => hb, fun h => absurd (show (5 : Nat) = 0 from h) (by decide)⟩
  · rw [hp] at c1
    clear hp
    obtain ⟨D, hM⟩ := hM
    have hv := setF_getD l x
    cases hc : l.contains x
    · rw [hc] at hv
      have he : adE true l x = 0 := by unfold adE; rw [hc]; rfl
      have HQ := Lib.hid he
      clear he hc
      go_enter Tryz.func107, Tryz.ntmps107
      go_wp2_with fail
      refine c1.mono ?_
      rintro e w1 ⟨rfl, hb⟩
      have hM1 := hM.next hb
      go_wp2_with (first | (at_lookup; refine wpList_look _ rfl (.tmp 11) (.tmp 12) 106 4 rfl Tryz.underlying106 (zeroBool _) hM1 rfl hx2 rfl ?_; rw [hv]) | (at_mapUpdate; refine wpList_put (u := .bool true) (k := x) _ rfl (.tmp 14) (.tmp 15) (.const (.bool true)) 106 4 rfl Tryz.underlying106 hM1 (by omega) rfl hx2 rfl rfl ?_; intro w2 hM2 hg2))
      go_ret
      refine ⟨by rw [HQ.out]; rfl, (gb_of hb _).trans hg2, fun h => absurd HQ.out h, fun _ => ⟨D.put (.string x) (.held (.bool true)), ?_⟩⟩
      rw [← setF_put]
      exact hM2
    · rw [hc] at hv
      have he : adE true l x = 7 := by unfold adE; rw [hc]; rfl
      have HQ := Lib.hid he
      clear he hc
      go_enter Tryz.func107, Tryz.ntmps107
      go_wp2_with fail
      refine c1.mono ?_
      rintro e w1 ⟨rfl, hb⟩
      have hM1 := hM.next hb
      go_wp2_with (at_lookup; refine wpList_look _ rfl (.tmp 11) (.tmp 12) 106 4 rfl Tryz.underlying106 (zeroBool _) hM1 rfl hx2 rfl ?_; rw [hv])
      go_ret
      exact ⟨by rw [HQ.out]; rfl, gb_of hb _, fun _ => hb, fun h => by rw [HQ.out] at h; cases h⟩
end Go.Proofs.YtcilkcnddgacgaaGreatDoor
/-
  The developers' test of an enumeration. No conditions beyond those that each names, and what the library's variables hold.
-/
namespace Go.Proofs.YtcilkcnddgacgaaGreatDoor
open Go.RowKit Go.Maps
/-- What a test of a definition leaves. -/
def CkP (r : Nat) (x : List UInt8) (l : List (List UInt8)) (b n : Nat) (w : World) (e : Ending) (w' : World) : Prop :=
  e = .returned (.int .i64 (r : Int)) ∧ w.grownBy w' (some b) ∧ (r = 0 → Ms w' b (n + 1) (l ++ [x]))
theorem CkP.bad {r : Nat} {x : List UInt8} {l : List (List UInt8)} {b n : Nat} {w w' : World} {i : Int} (h0 : r ≠ 0) (hi : i = (r : Int)) (hg : w.grownBy w' (some b)) : CkP r x l b n w (.returned (.int .i64 i)) w' := ⟨by rw [hi], hg, fun h => absurd h h0⟩
theorem CkP.ok {r : Nat} {x : List UInt8} {l : List (List UInt8)} {b n : Nat} {w w' : World} (h0 : r = 0) (hg : w.grownBy w' (some b)) (hM : Ms w' b (n + 1) (l ++ [x])) : CkP r x l b n w (.returned (.int .i64 0)) w' := ⟨by rw [h0]; rfl, hg, fun _ => hM⟩
theorem gb_alloc (w : World) (o : Obj) (row : Option Nat) : w.grownBy (w.alloc o) row := gb_of (ab1 w o) row
theorem getD_of {α : Type} {l : List α} {k : Nat} (h : k < l.length) (d : α) : l.getD k d = l[k]'h := by simp [List.getD_eq_getElem?_getD, h]
set_option maxRecDepth 100000 in
set_option maxHeartbeats 4000000 in
theorem checkEnum_any (W0 : World) (x : En) (v : Value) (b n : Nat) (l : List (List UInt8)) (w : World) (hv : EnV W0 x v) (hb0 : Below W0.heap.size W0 w) (hlow : W0.heap.size ≤ b) (hM : Ms w b n l) (hE : Env W0) (hn : n ≤ 1000)
    (h40 : x.name.length ≤ 40) (hq : x.names.length ≤ 18) (hs : ∀ y ∈ x.names, y.length ≤ 40) :
    Calls Tryz.prog 65 #[v, .map (some b)] w (CkP (enErr l x) x.name l b n w) := by
  have hmm := @run_makeMap Tryz.prog
  obtain ⟨A, c, A2, c2, rfl, hVn, hVi⟩ := hv
  have hbne : w.heap.size ≠ b := by have := hM.lt; omega
  obtain ⟨m, hm⟩ : ∃ m, x.names.length = m := ⟨_, rfl⟩
  obtain ⟨q, hq2⟩ : ∃ q, x.nums.length = q := ⟨_, rfl⟩
  have HM := Lib.hid hm
  have HQ := Lib.hid hq2
  rw [hm] at hq ⊢
  rw [hq2]
  have hB0 := Bx.new3 w 94 (.string (bs x.name)) (.slice A m c) (.slice A2 q c2)
  have cA := admitT_any x.name b n l (w.alloc (Obj.cells #[.string (bs x.name), .slice A m c, .slice A2 q c2] 94)) (by omega) (hE.next (hb0.alloc hb0.size _)) (hM.next (ab1 _ _)) hn
  have hga := gb_alloc w (Obj.cells #[.string (bs x.name), .slice A m c, .slice A2 q c2] 94) (some b)
  have hba := hb0.alloc hb0.size (Obj.cells #[.string (bs x.name), .slice A m c, .slice A2 q c2] 94)
  obtain ⟨r, hr⟩ : ∃ r, enErr l x = r := ⟨_, rfl⟩
  rw [hr]
  unfold enErr at hr
  rw [hm, hq2] at hr
  clear hm hq2 hM
  cases g1 : isTn x.name
  · rw [g1] at cA hr
    rw [if_pos rfl] at hr
    subst hr
    clear g1
    go_enter Tryz.func65, Tryz.ntmps65
    go_wp2_with fail
    refine cA.mono ?_
    rintro e w1 ⟨rfl, hg, -, -⟩
    rw [show adE false l x.name = 5 from rfl]
    go_wp2_with fail
    go_ret
    exact CkP.bad (by decide) rfl (hga.trans hg)
  · rw [g1] at cA hr
    rw [if_neg (by decide)] at hr
    cases g2 : l.contains x.name
    · rw [g2, if_neg (by decide)] at hr
      have ha : adE true l x.name = 0 := by unfold adE; rw [g2]; rfl
      clear g1 g2
      by_cases g3 : m = 0
      · rw [if_pos (.inl g3)] at hr
        subst hr
        subst g3
        go_enter Tryz.func65, Tryz.ntmps65
        go_wp2_with fail
        refine cA.mono ?_
        rintro e w1 ⟨rfl, hg, -, -⟩
        rw [ha]
        have hB1 := hB0.kept hg hbne
        have b0 := hB1.c 0 rfl
        have b1 := hB1.c 1 rfl
        have b2 := hB1.c 2 rfl
        go_wp2_with fail
        go_ret
        exact CkP.bad (by decide) rfl (hga.trans hg)
      · have d3 : ((m : Int) == 0) = false := by rw [beq_eq_false_iff_ne]; omega
        by_cases g4 : q = m
        · subst g4
          have d4 : ((q : Int) != (q : Int)) = false := by simp
          rw [if_neg (by rintro (h | h); exact g3 h; exact h rfl)] at hr
          have HR := Lib.hid hr
          have ha := Lib.hid ha
          clear hr g3
          go_enter Tryz.func65, Tryz.ntmps65
          go_wp2_with fail
          refine cA.mono ?_
          rintro e w1 ⟨rfl, hg, -, hz⟩
          rw [ha.out]
          have hM1 := hz ha.out
          have hB1 := hB0.kept hg hbne
          have b0 := hB1.c 0 rfl
          have b1 := hB1.c 1 rfl
          have b2 := hB1.c 2 rfl
          have hb1 := hba.grown hg hba.size (fun k hk => by cases hk; exact hlow)
          have hE1 : Env w1 := hE.next hb1
          have hgw := hga.trans hg
          have hN0 := Ms.made w1
          have hB2 := hB1.next (ab1 w1 (.map #[] 0))
          have hlt0 := hB1.lt
          clear hz hB0 cA hga hba
          go_wp2_with fail
          clear b0 b1 b2 d3 d4
          go_loopw [35] (fun i wr => ∃ k : Nat, k ≤ q ∧ i = .int .i64 (k : Int) ∧ Hid (∀ j, j < k → nmErr x j = 0) ∧ Bx wr w.heap.size [.string (bs x.name), .slice A q c, .slice A2 q c2] ∧ Ms wr w1.heap.size k (x.names.take k) ∧ Below w1.heap.size w1 wr) (fun i _ => q - (intOf i).toNat)
          case atStart => exact ⟨0, by omega, rfl, Lib.hid fun j h => by omega, hB2, hN0, ab1 _ _⟩
          case round =>
            obtain ⟨k, hk, rfl, hI, hBr, hN, hbr⟩ := hrel
            have b0 := hBr.c 0 rfl
            have b1 := hBr.c 1 rfl
            have b2 := hBr.c 2 rfl
            have hbW := Below.next hb1 hbr
            have hlt1 : w1.heap.size < wr.heap.size := hN.lt
            have hw1 : w.heap.size < w1.heap.size := hB1.lt
            clear hN0 hB2
            by_cases hlt : k < q
            · obtain ⟨a, rfl, hA⟩ := hVn.get (i := k) (by rw [HM.out]; exact hlt)
              obtain ⟨a2, rfl, hA2⟩ := hVi.get (i := k) (by rw [HQ.out]; exact hlt)
              rw [Nat.mul_one] at hA hA2
              have hkm : k < x.names.length := by rw [HM.out]; exact hlt
              have hkq : k < x.nums.length := by rw [HQ.out]; exact hlt
              have hnx : x.names.take (k + 1) = x.names.take k ++ [x.names[k]'hkm] := List.take_succ_eq_append_getElem hkm
              have hcs := nmErr_cases x k
              rw [getD_of hkm, getD_of hkq] at hcs
              have hsk := hs _ (List.getElem_mem hkm)
              have hcell : ∀ W, Below W0.heap.size W0 W → W.cell? (a2.add k) = some (.int .i64 (x.nums[k]'hkq)) ∧ True := fun W hW => ⟨cell_next hW hA2, trivial⟩
              have e0 : wr.cell? (a.add k) = some (.string (bs (x.names[k]'hkm))) := cell_next hbW hA
              have i0 : wr.cell? (a2.add k) = some (.int .i64 (x.nums[k]'hkq)) := cell_next hbW hA2
              have cN := admitN_any (x.names[k]'hkm) w1.heap.size k (x.names.take k) wr (by omega) (hE1.next hbr) hN (by omega)
              have hprev : ∀ W, Below W0.heap.size W0 W → ∀ f, k - 1 = f → 0 < k → W.cell? (a2.add f) = some (.int .i64 (x.nums.getD (k - 1) 0)) := fun W hW f hf h0 => by
                subst hf
                obtain ⟨a3, h3, hA3⟩ := hVi.get (i := k - 1) (by rw [HQ.out]; omega)
                cases h3
                rw [Nat.mul_one] at hA3
                rw [getD_of (by rw [HQ.out]; omega)]
                exact cell_next hW hA3
              generalize x.names[k]'hkm = y at *
              generalize x.nums[k]'hkq = z at *
              have hfe : ∀ e, nmErr x k = e → e ≠ 0 → r = e := fun e he h0 => by rw [← HR.out]; exact fe_at hlt hI.out he h0
              have hnxt := fun h => before_succ (p := fun j => nmErr x j = 0) hI.out (k := k) h
              clear hA hA2
              rcases hcs with ⟨p1, p2⟩ | ⟨p1, p2, p3⟩ | ⟨p1, p2, p3, p4⟩ | ⟨p1, p2, p3, p4, p5, p6⟩ | ⟨p1, p2, p3, p4, p5, p6, p7⟩
              · obtain rfl := hfe _ p2 (by decide)
                have ha2 : adE (isN y) (x.names.take k) y = 5 := by unfold adE; rw [p1]; rfl
                have HA2 := Lib.hid ha2
                clear hfe hnxt hprev p1 p2 ha2
                go_wp2_with fail
                refine cN.mono ?_
                rintro e w2 ⟨rfl, hg2, -, -⟩
                rw [HA2.out]
                go_wp2_with fail
                go_ret
                exact CkP.bad (by decide) rfl (gb_next hgw (hbr.grown hg2 hbr.size (fun k hk => by cases hk; exact Nat.le_refl _)))
              · obtain rfl := hfe _ p3 (by decide)
                have ha2 : adE (isN y) (x.names.take k) y = 7 := by unfold adE; rw [p1, p2]; rfl
                have HA2 := Lib.hid ha2
                clear hfe hnxt hprev p1 p2 p3 ha2
                go_wp2_with fail
                refine cN.mono ?_
                rintro e w2 ⟨rfl, hg2, -, -⟩
                rw [HA2.out]
                go_wp2_with fail
                go_ret
                exact CkP.bad (by decide) rfl (gb_next hgw (hbr.grown hg2 hbr.size (fun k hk => by cases hk; exact Nat.le_refl _)))
              · obtain rfl := hfe _ p4 (by decide)
                clear hfe hnxt hprev p4
                have ha2 : adE (isN y) (x.names.take k) y = 0 := by unfold adE; rw [p1, p2]; rfl
                have HA2 := Lib.hid ha2
                clear p1 p2 ha2
                go_wp2_with fail
                refine cN.mono ?_
                rintro e w2 ⟨rfl, hg2, -, hz2⟩
                rw [HA2.out]
                have hN2 := hz2 HA2.out
                have hBr2 := hBr.kept hg2 (by omega)
                have b0 := hBr2.c 0 rfl
                have b1 := hBr2.c 1 rfl
                have b2 := hBr2.c 2 rfl
                have hbr2 := hbr.grown hg2 hbr.size (fun k hk => by cases hk; exact Nat.le_refl _)
                have hbW2 := hbW.grown hg2 hbW.size (fun k hk => by cases hk; exact hb1.size)
                replace i0 : w2.cell? (a2.add k) = some (.int .i64 z) := (hcell w2 hbW2).1
                clear hcell
                by_cases g5 : z < 0
                · have d5 : decide (z < 0) = true := decide_eq_true g5
                  clear p3 g5
                  go_wp2_with fail
                  go_ret
                  exact CkP.bad (by decide) rfl (gb_next hgw hbr2)
                · have d5 : decide (z < 0) = false := decide_eq_false g5
                  have d6 : decide (127 < z) = true := by rw [decide_eq_true_eq]; omega
                  clear p3 g5
                  go_wp2_with fail
                  go_ret
                  exact CkP.bad (by decide) rfl (gb_next hgw hbr2)
              · obtain rfl := hfe _ p6 (by decide)
                clear hfe hnxt p6
                have ha2 : adE (isN y) (x.names.take k) y = 0 := by unfold adE; rw [p1, p2]; rfl
                have HA2 := Lib.hid ha2
                have d5 : decide (z < 0) = false := by rw [decide_eq_false_iff_not]; omega
                have d6 : decide (127 < z) = false := by rw [decide_eq_false_iff_not]; omega
                clear p1 p2 ha2
                go_wp2_with fail
                refine cN.mono ?_
                rintro e w2 ⟨rfl, hg2, -, hz2⟩
                rw [HA2.out]
                have hN2 := hz2 HA2.out
                have hBr2 := hBr.kept hg2 (by omega)
                have b0 := hBr2.c 0 rfl
                have b1 := hBr2.c 1 rfl
                have b2 := hBr2.c 2 rfl
                have hbr2 := hbr.grown hg2 hbr.size (fun k hk => by cases hk; exact Nat.le_refl _)
                have hbW2 := hbW.grown hg2 hbW.size (fun k hk => by cases hk; exact hb1.size)
                replace i0 : w2.cell? (a2.add k) = some (.int .i64 z) := (hcell w2 hbW2).1
                clear hcell
                clear p3 p4
                by_cases g5 : k = 0
                · subst g5
                  have i0 : w2.cell? a2 = some (.int .i64 z) := i0
                  have d7 : (z == 0) = false := by rw [beq_eq_false_iff_ne]; rcases p5 with h | h; exact h.2; omega
                  have d8 : (z != 0) = true := by rw [bne, d7]; rfl
                  clear p5 hprev
                  go_wp2_with fail
                  go_ret
                  exact CkP.bad (by decide) rfl (gb_next hgw hbr2)
                · have d7 : ((k : Int) == 0) = false := by rw [beq_eq_false_iff_ne]; omega
                  obtain ⟨f, hf⟩ : ∃ f, k - 1 = f := ⟨_, rfl⟩
                  have l11 : (k : Int) - 1 = (f : Int) := by omega
                  have j0 := hprev _ hbW2 f hf (by omega)
                  have hk0 : 0 < k := by omega
                  have hfk : f < q := by omega
                  obtain ⟨zp, hzp⟩ : ∃ zp, x.nums.getD (k - 1) 0 = zp := ⟨_, rfl⟩
                  rw [hzp] at p5 j0
                  have d8 : decide (z ≤ zp) = true := by rw [decide_eq_true_eq]; rcases p5 with h | h; exact absurd h.1 g5; exact h.2
                  clear p5 hprev hzp hf g5
                  go_wp2_with fail
                  go_ret
                  exact CkP.bad (by decide) rfl (gb_next hgw hbr2)
              · have HX := Lib.hid (hnxt p7)
                have HT := Lib.hid hnx
                clear hfe hnxt p7 hnx
                have ha2 : adE (isN y) (x.names.take k) y = 0 := by unfold adE; rw [p1, p2]; rfl
                have HA2 := Lib.hid ha2
                have d5 : decide (z < 0) = false := by rw [decide_eq_false_iff_not]; omega
                have d6 : decide (127 < z) = false := by rw [decide_eq_false_iff_not]; omega
                clear p1 p2 ha2
                go_wp2_with fail
                refine cN.mono ?_
                rintro e w2 ⟨rfl, hg2, -, hz2⟩
                rw [HA2.out]
                have hN2 := hz2 HA2.out
                have hBr2 := hBr.kept hg2 (by omega)
                have b0 := hBr2.c 0 rfl
                have b1 := hBr2.c 1 rfl
                have b2 := hBr2.c 2 rfl
                have hbr2 := hbr.grown hg2 hbr.size (fun k hk => by cases hk; exact Nat.le_refl _)
                have hbW2 := hbW.grown hg2 hbW.size (fun k hk => by cases hk; exact hb1.size)
                replace i0 : w2.cell? (a2.add k) = some (.int .i64 z) := (hcell w2 hbW2).1
                clear hcell
                clear p3 p4
                by_cases g5 : k = 0
                · subst g5
                  have d7 : z = 0 := p5 rfl
                  subst d7
                  have i0 : w2.cell? a2 = some (.int .i64 0) := i0
                  clear p5 p6 hprev
                  go_wp2_with fail
                  go_roundw
                  case rel => exact ⟨1, by omega, by go_num, HX, hBr2, HT.out ▸ hN2, hbr2⟩
                  case measure => simp [intOf]; omega
                · have d7 : ((k : Int) == 0) = false := by rw [beq_eq_false_iff_ne]; omega
                  obtain ⟨f, hf⟩ : ∃ f, k - 1 = f := ⟨_, rfl⟩
                  have l11 : (k : Int) - 1 = (f : Int) := by omega
                  have j0 := hprev _ hbW2 f hf (by omega)
                  have hk0 : 0 < k := by omega
                  have hfk : f < q := by omega
                  obtain ⟨zp, hzp⟩ : ∃ zp, x.nums.getD (k - 1) 0 = zp := ⟨_, rfl⟩
                  rw [hzp] at p6 j0
                  have d8 : decide (z ≤ zp) = false := by rw [decide_eq_false_iff_not]; have := p6 hk0; omega
                  clear p5 p6 hprev hzp hf g5
                  go_wp2_with fail
                  go_roundw
                  case rel => exact ⟨k + 1, by omega, by go_num, HX, hBr2, HT.out ▸ hN2, hbr2⟩
                  case measure => simp [intOf]; omega
            · obtain rfl : k = q := by omega
              have H0 := Lib.hid (show r = 0 by rw [← HR.out]; exact fe_zero hI.out)
              clear hI
              go_wp2_with fail
              go_ret
              exact CkP.ok H0.out (gb_next hgw hbr) (hM1.next hbr)
        · have d4 : ((q : Int) != (m : Int)) = true := by rw [bne_iff_ne]; omega
          rw [if_pos (.inr g4)] at hr
          subst hr
          clear g3 g4
          go_enter Tryz.func65, Tryz.ntmps65
          go_wp2_with fail
          refine cA.mono ?_
          rintro e w1 ⟨rfl, hg, -, -⟩
          rw [ha]
          have hB1 := hB0.kept hg hbne
          have b0 := hB1.c 0 rfl
          have b1 := hB1.c 1 rfl
          have b2 := hB1.c 2 rfl
          go_wp2_with fail
          go_ret
          exact CkP.bad (by decide) rfl (hga.trans hg)
    · rw [g2, if_pos rfl] at hr
      subst hr
      have ha : adE true l x.name = 7 := by unfold adE; rw [g2]; rfl
      clear g1 g2
      go_enter Tryz.func65, Tryz.ntmps65
      go_wp2_with fail
      refine cA.mono ?_
      rintro e w1 ⟨rfl, hg, -, -⟩
      rw [ha]
      go_wp2_with fail
      go_ret
      exact CkP.bad (by decide) rfl (hga.trans hg)
end Go.Proofs.YtcilkcnddgacgaaGreatDoor
/-
  The developers' definitions by name: sizes of kinds, which names there are, the type within all lists. No conditions beyond those that each names.
-/
namespace Go.Proofs.YtcilkcnddgacgaaGreatDoor
open Go.RowKit Go.Maps
/-- The definitions of a schema, in two maps. -/
structure DfM {α : Type} (W : World) (b : Nat) (l : List α) (key : α → List UInt8) (V : World → α → Value → Prop) (f : List UInt8 → Option Value) (D : DataW Value) : Prop where
  map : ∃ n, n ≤ 1000 ∧ Mp W b n f D
  is : ∀ x, (f x).isSome = (l.map key).contains x
  val : ∀ x u, f x = some u → ∃ t ∈ l, key t = x ∧ V W t u
theorem DfM.next {α : Type} {W W' : World} {b : Nat} {l : List α} {key : α → List UInt8} {V : World → α → Value → Prop} {f : List UInt8 → Option Value} {D : DataW Value} (hV : ∀ t u, V W t u → V W' t u) (h : DfM W b l key V f D) (hb : Below W.heap.size W W') : DfM W' b l key V f D := by
  obtain ⟨n, hn, hm⟩ := h.map
  refine ⟨⟨n, hn, hm.next hb⟩, h.is, fun x u e => ?_⟩
  obtain ⟨t, h1, h2, h3⟩ := h.val x u e
  exact ⟨t, h1, h2, hV _ _ h3⟩
structure Dm (W : World) (S : Sch) (b b2 : Nat) : Prop where
  st : ∃ f D, DfM W b S.structs St.name StV f D
  en : ∃ f D, DfM W b2 S.enums En.name EnV f D
theorem Dm.next {W W' : World} {S : Sch} {b b2 : Nat} (h : Dm W S b b2) (hb : Below W.heap.size W W') : Dm W' S b b2 := by
  obtain ⟨f, D, h1⟩ := h.st
  obtain ⟨f2, D2, h2⟩ := h.en
  exact ⟨⟨f, D, h1.next (fun _ _ => StV.next hb) hb⟩, ⟨f2, D2, h2.next (fun _ _ => EnV.next hb) hb⟩⟩
theorem zeroSt (w : World) : (zeroValue 37).run Tryz.prog w = .ok (.agg #[.string ⟨#[]⟩, .slice none 0 0]) w := by kernel_rfl
theorem zeroEn (w : World) : (zeroValue 94).run Tryz.prog w = .ok (.agg #[.string ⟨#[]⟩, .slice none 0 0, .slice none 0 0]) w := by kernel_rfl
set_option maxRecDepth 100000 in
set_option maxHeartbeats 1000000 in
theorem hasStruct_any (S : Sch) (b b2 : Nat) (x : List UInt8) (w : World) (hx : x.length ≤ 9223372036854775807) (hD : Dm w S b b2) :
    Calls Tryz.prog 150 #[.agg #[.map (some b), .map (some b2)], .string (bs x)] w (Ib (.bool ((sns S).contains x)) w) := by
  obtain ⟨f, D, hd⟩ := hD.st
  obtain ⟨n, hn, hM⟩ := hd.map
  have hM1 := hM.next (ab1 w (Obj.cells #[.map (some b), .map (some b2)] 104))
  have hi := hd.is x
  obtain ⟨r, hr⟩ : ∃ r, (sns S).contains x = r := ⟨_, rfl⟩
  rw [hr]
  rw [show (f x).isSome = r from hi.trans hr] at hi
  have hv := hd.val x
  clear hi
  have hi2 : (f x).isSome = r := hd.is x ▸ hr
  clear hr
  obtain ⟨o, ho⟩ : ∃ o, f x = o := ⟨_, rfl⟩
  rw [ho] at hi2 hv
  cases o with
  | none =>
    subst hi2
    have hz : (f x).getD (.agg #[.string ⟨#[]⟩, .slice none 0 0]) = .agg #[.string ⟨#[]⟩, .slice none 0 0] := by rw [ho]; rfl
    have hz2 : (f x).isSome = false := by rw [ho]; rfl
    clear hv ho
    go_enter Tryz.func150, Tryz.ntmps150
    go_wp2_with (at_lookup; refine wpList_look_ok _ rfl (.tmp 9) (.tmp 10) 101 37 rfl Tryz.underlying101 (zeroSt _) hM1 rfl hx rfl ?_; rw [hz, hz2])
    go_ret
    exact ⟨rfl, ab2 _ _ _⟩
  | some u =>
    obtain rfl : true = r := hi2
    obtain ⟨t, -, -, hV⟩ := hv u rfl
    obtain ⟨A, c, rfl, -⟩ := hV
    have hz := congrArg (fun o => o.getD (.agg #[.string ⟨#[]⟩, .slice none 0 0])) ho
    have hz2 : (f x).isSome = true := by rw [ho]; rfl
    simp only [Option.getD_some] at hz
    clear hv ho
    go_enter Tryz.func150, Tryz.ntmps150
    go_wp2_with (at_lookup; refine wpList_look_ok _ rfl (.tmp 9) (.tmp 10) 101 37 rfl Tryz.underlying101 (zeroSt _) hM1 rfl hx rfl ?_; rw [hz, hz2])
    go_ret
    exact ⟨rfl, ab2 _ _ _⟩
set_option maxRecDepth 100000 in
set_option maxHeartbeats 1000000 in
theorem hasEnum_any (S : Sch) (b b2 : Nat) (x : List UInt8) (w : World) (hx : x.length ≤ 9223372036854775807) (hD : Dm w S b b2) :
    Calls Tryz.prog 151 #[.agg #[.map (some b), .map (some b2)], .string (bs x)] w (Ib (.bool ((ens S).contains x)) w) := by
  obtain ⟨f, D, hd⟩ := hD.en
  obtain ⟨n, hn, hM⟩ := hd.map
  have hM1 := hM.next (ab1 w (Obj.cells #[.map (some b), .map (some b2)] 104))
  have hi := hd.is x
  obtain ⟨r, hr⟩ : ∃ r, (ens S).contains x = r := ⟨_, rfl⟩
  rw [hr]
  rw [show (f x).isSome = r from hi.trans hr] at hi
  have hv := hd.val x
  clear hi
  have hi2 : (f x).isSome = r := hd.is x ▸ hr
  clear hr
  obtain ⟨o, ho⟩ : ∃ o, f x = o := ⟨_, rfl⟩
  rw [ho] at hi2 hv
  cases o with
  | none =>
    subst hi2
    have hz : (f x).getD (.agg #[.string ⟨#[]⟩, .slice none 0 0, .slice none 0 0]) = .agg #[.string ⟨#[]⟩, .slice none 0 0, .slice none 0 0] := by rw [ho]; rfl
    have hz2 : (f x).isSome = false := by rw [ho]; rfl
    clear hv ho
    go_enter Tryz.func151, Tryz.ntmps151
    go_wp2_with (at_lookup; refine wpList_look_ok _ rfl (.tmp 9) (.tmp 10) 102 94 rfl Tryz.underlying102 (zeroEn _) hM1 rfl hx rfl ?_; rw [hz, hz2])
    go_ret
    exact ⟨rfl, ab2 _ _ _⟩
  | some u =>
    obtain rfl : true = r := hi2
    obtain ⟨t, -, -, hV⟩ := hv u rfl
    obtain ⟨A, c, A2, c2, rfl, -, -⟩ := hV
    have hz := congrArg (fun o => o.getD (.agg #[.string ⟨#[]⟩, .slice none 0 0, .slice none 0 0])) ho
    have hz2 : (f x).isSome = true := by rw [ho]; rfl
    simp only [Option.getD_some] at hz
    clear hv ho
    go_enter Tryz.func151, Tryz.ntmps151
    go_wp2_with (at_lookup; refine wpList_look_ok _ rfl (.tmp 9) (.tmp 10) 102 94 rfl Tryz.underlying102 (zeroEn _) hM1 rfl hx rfl ?_; rw [hz, hz2])
    go_ret
    exact ⟨rfl, ab2 _ _ _⟩
set_option maxRecDepth 100000 in
set_option maxHeartbeats 2000000 in
theorem isSize_any (k s : Int) (w : World) : Calls Tryz.prog 149 #[.int .i64 k, .int .i64 s] w (Is (.bool (szOk k s)) w) := by
  by_cases h1 : k = 1
  · subst h1
    go_enter Tryz.func149, Tryz.ntmps149
    go_wp2_with fail
    all_goals
      go_ret
      refine ret_bool3 ?_
      simp [szOk]
      try omega
  by_cases h2 : k = 2
  · subst h2
    go_enter Tryz.func149, Tryz.ntmps149
    go_wp2_with fail
    all_goals
      go_ret
      refine ret_bool3 ?_
      simp [szOk]
      try omega
  by_cases h3 : k = 3
  · subst h3
    go_enter Tryz.func149, Tryz.ntmps149
    go_wp2_with fail
    all_goals
      go_ret
      refine ret_bool3 ?_
      simp [szOk]
      try omega
  by_cases h4 : k = 4
  · subst h4
    go_enter Tryz.func149, Tryz.ntmps149
    go_wp2_with fail
    all_goals
      go_ret
      refine ret_bool3 ?_
      simp [szOk]
      try omega
  by_cases h5 : k = 5
  · subst h5
    go_enter Tryz.func149, Tryz.ntmps149
    go_wp2_with fail
    all_goals
      go_ret
      refine ret_bool3 ?_
      simp [szOk]
      try omega
  by_cases h6 : k = 6
  · subst h6
    go_enter Tryz.func149, Tryz.ntmps149
    go_wp2_with fail
    all_goals
      go_ret
      refine ret_bool3 ?_
      simp [szOk]
      try omega
  by_cases h7 : k = 7
  · subst h7
    go_enter Tryz.func149, Tryz.ntmps149
    go_wp2_with fail
    all_goals
      go_ret
      refine ret_bool3 ?_
      simp [szOk]
      try omega
  have hz : szOk k s = false := by simp [szOk, h1, h2, h3, h4, h5, h6, h7]
  rw [hz]
  have d1 : (k == 1) = false := by simpa using h1
  have d2 : (k == 2) = false := by simpa using h2
  have d3 : (k == 3) = false := by simpa using h3
  have d4 : (k == 4) = false := by simpa using h4
  have d5 : (k == 5) = false := by simpa using h5
  have d6 : (k == 6) = false := by simpa using h6
  have d7 : (k == 7) = false := by simpa using h7
  clear h1 h2 h3 h4 h5 h6 h7 hz
  go_enter Tryz.func149, Tryz.ntmps149
  go_wp2_with fail
  go_ret
  exact ret_bool rfl
end Go.Proofs.YtcilkcnddgacgaaGreatDoor
/-
  The developers' valid types. No conditions beyond those that each names.
-/
namespace Go.Proofs.YtcilkcnddgacgaaGreatDoor
open Go.RowKit Go.Maps Go.Sort
/-- Go's own bound of a name's length, in a type and within it. -/
def nok : Ty → Prop
  | .mk _ _ n e => n.length ≤ 9223372036854775807 ∧ noks e
where noks : List Ty → Prop
  | [] => True
  | t :: ts => nok t ∧ noks ts
theorem rights_len (S : Sch) (e : List Ty) (h : e.length ≠ 1) : rights S e = false := by
  match e, h with
  | [], _ => rw [rights]
  | [_], h => exact absurd rfl h
  | a :: b :: r, _ => rw [rights]; simp
set_option maxRecDepth 100000 in
set_option maxHeartbeats 4000000 in
theorem permits_any (N : Nat) : ∀ (S : Sch) (t : Ty) (b b2 : Nat) (u : Value) (w : World), SizeOf.sizeOf t < N → nok t → lok t → Dm w S b b2 → TyV w t u →
    Calls Tryz.prog 110 #[.agg #[.map (some b), .map (some b2)], u] w (Ib (.bool (right S t)) w) := by
  induction N with
  | zero => intro S t b b2 u w h; omega
  | succ N ih =>
    intro S t b b2 u w hN hnl hlk hD hT
    obtain ⟨k, s, n, e⟩ := t
    have hlen : e.length ≤ 9223372036854775807 := lok_len hlk
    have hnk := hnl
    have hn2 : n.length ≤ 9223372036854775807 := by rw [nok] at hnl; exact hnl.1
    obtain ⟨A3, c3, rfl, hR⟩ := TyV.mk_.1 hT
    obtain ⟨r, hr⟩ : ∃ r, right S (.mk k s n e) = r := ⟨_, rfl⟩
    rw [hr]
    rw [right_eq] at hr
    obtain ⟨z, hz⟩ : ∃ z, szOk k s = z := ⟨_, rfl⟩
    have cZ := fun W => isSize_any k s W
    rw [hz] at hr cZ
    cases z with
    | false =>
      rw [Bool.false_and] at hr
      subst hr
      clear hz hR hT hD ih
      go_enter Tryz.func110, Tryz.ntmps110
      go_wp2_with fail
      refine (cZ _).mono ?_
      rintro e1 w1 ⟨rfl, rfl⟩
      go_wp2_with fail
      go_ret
      exact ⟨rfl, ab2 _ _ _⟩
    | true =>
      rw [Bool.true_and] at hr
      by_cases h5 : k = 5
      · subst h5
        rw [if_pos rfl] at hr
        have hB1 := (Bx.new2 w 104 (.map (some b)) (.map (some b2))).next (ab1 _ (Obj.cells #[.int .i64 5, .int .i64 s, .string (bs n), .slice A3 e.length c3] 53))
        have hB2 := Bx.new4 (w.alloc (Obj.cells #[.map (some b), .map (some b2)] 104)) 53 (.int .i64 5) (.int .i64 s) (.string (bs n)) (.slice A3 e.length c3)
        have hz1 : (w.alloc (Obj.cells #[.map (some b), .map (some b2)] 104)).heap.size = w.heap.size + 1 := by simp
        rw [hz1] at hB2
        have hab := ab2 w (Obj.cells #[.map (some b), .map (some b2)] 104) (Obj.cells #[.int .i64 5, .int .i64 s, .string (bs n), .slice A3 e.length c3] 53)
        have k2 := fun d os => cell_regrown (hB2.c 2 rfl) d os
        have k3 := fun d os => cell_regrown (hB2.c 3 rfl) d os
        have j0 := fun d os => cell_regrown (hB1.c 0 rfl) d os
        have j1 := fun d os => cell_regrown (hB1.c 1 rfl) d os
        clear hB1 hB2 hz1 hz
        by_cases hn : n = []
        · subst hn
          rw [decide_eq_true rfl, Bool.true_and] at hr
          have q0 : (bs ([] : List UInt8)).toList = [] := toList_bs []
          have q1 : ((bs ([] : List UInt8)).toList == []) = true := by rw [toList_bs]; rfl
          by_cases hl : e.length = 1
          · obtain ⟨t, rfl⟩ : ∃ t, e = [t] := by
              match e, hl with
              | [t], _ => exact ⟨t, rfl⟩
            have hr2 : right S t = r := by rw [← hr, rights]; simp
            obtain ⟨a, rfl, hA⟩ := hR.get (i := 0) (by show 0 < 1; omega)
            rw [Nat.zero_mul] at hA
            have hA : TyA w t a := hA
            have e9 : ([t] : List Ty).length = 1 := rfl
            rw [e9] at k2 k3 j0 j1 hab ⊢
            obtain ⟨A4, c4, e0, e1, e2, e3, hV⟩ := hA.val
            have hblk : a.block < w.heap.size := blk_lt e0
            have cR := fun W h => ih S t b b2 _ W (by have h8 := Ty.mk.sizeOf_spec 5 s [] [t]; have h9 := List.cons.sizeOf_spec t []; omega) (by rw [nok, nok.noks] at hnk; exact hnk.2.1) (lok_get (t := .mk 5 s [] [t]) hlk (i := 0) (by show 0 < 1; omega)) (hD.next h) (TyV.next h hV)
            rw [hr2] at cR
            have i0 := fun d os => cell_regrown (cell_next hab e0) d os
            have i1 := fun d os => cell_regrown (cell_next hab e1) d os
            have i2 := fun d os => cell_regrown (cell_next hab e2) d os
            have i3 := fun d os => cell_regrown (cell_next hab e3) d os
            have cN := fun d os => Calls.regrown_of (cR (grow (redrawn ((w.alloc (Obj.cells #[.map (some b), .map (some b2)] 104)).alloc (Obj.cells #[.int .i64 5, .int .i64 s, .string (bs []), .slice (some a) 1 c3] 53)) d) os) (Below.next hab (below_regrown _ d os)))
            clear hT hr hr2 hR hV hA cR hlk hnk hab e0 e1 e2 e3 ih hD
            go_enter Tryz.func110, Tryz.ntmps110
            go_wp2_with fail
            refine (cZ _).mono ?_
            rintro e1 w1 ⟨rfl, rfl⟩
            go_wp2_with fail
            refine wp_region_quiet_below (by kernel_rfl) (by kernel_rfl) ?_
            repeat (quiet_step (exact cN _ _))
            refine wpQuiet_nil ?_
            intro _ hw'
            obtain ⟨⟨dq, osq⟩, hw''⟩ := hw'
            subst hw''
            go_wp2_with fail
            go_ret
            exact ⟨rfl, Below.next (ab2 _ _ _) (below_regrown _ _ _)⟩
          · have hr2 : false = r := by rw [← hr, rights_len S e hl]
            subst hr2
            generalize e.length = m at *
            have d4 : ((m : Int) == 1) = false := by rw [beq_eq_false_iff_ne]; omega
            clear hT hr hR hab ih hD hlk hnk hl j0 j1
            go_enter Tryz.func110, Tryz.ntmps110
            go_wp2_with fail
            refine (cZ _).mono ?_
            rintro e1 w1 ⟨rfl, rfl⟩
            go_wp2_with fail
            refine wp_region_quiet_below (by kernel_rfl) (by kernel_rfl) ?_
            repeat (quiet_step (fail))
            refine wpQuiet_nil ?_
            intro _ hw'
            obtain ⟨⟨dq, osq⟩, hw''⟩ := hw'
            subst hw''
            go_wp2_with fail
            go_ret
            exact ⟨rfl, Below.next (ab2 _ _ _) (below_regrown _ _ _)⟩
        · rw [decide_eq_false hn, Bool.false_and] at hr
          subst hr
          have q0 : ¬ (bs n).toList = [] := by rw [toList_bs]; exact hn
          have q1 : ((bs n).toList == []) = false := by rw [toList_bs]; simpa using hn
          generalize e.length = m at *
          clear hT hR hab ih hD hlk hnk hn j0 j1
          go_enter Tryz.func110, Tryz.ntmps110
          go_wp2_with fail
          refine (cZ _).mono ?_
          rintro e1 w1 ⟨rfl, rfl⟩
          go_wp2_with fail
          refine wp_region_quiet_below (by kernel_rfl) (by kernel_rfl) ?_
          repeat (quiet_step (fail))
          refine wpQuiet_nil ?_
          intro _ hw'
          obtain ⟨⟨dq, osq⟩, hw''⟩ := hw'
          subst hw''
          go_wp2_with fail
          go_ret
          exact ⟨rfl, Below.next (ab2 _ _ _) (below_regrown _ _ _)⟩
      · rw [if_neg h5] at hr
        have d5 : (k == 5) = false := by simpa using h5
        by_cases h6 : k = 6
        · subst h6
          rw [if_pos rfl] at hr
          have cS := fun W h => hasStruct_any S b b2 n W hn2 (hD.next h)
          generalize (sns S).contains n = y at *
          have e1 : decide (e.length = 0) = ((e.length : Int) == 0) := by rw [Bool.eq_iff_iff]; simp
          rw [e1] at hr
          have hB2 := Bx.new4 (w.alloc (Obj.cells #[.map (some b), .map (some b2)] 104)) 53 (.int .i64 6) (.int .i64 s) (.string (bs n)) (.slice A3 e.length c3)
          have hz1 : (w.alloc (Obj.cells #[.map (some b), .map (some b2)] 104)).heap.size = w.heap.size + 1 := by simp
          rw [hz1] at hB2
          generalize e.length = m at *
          clear hz hR hT hD ih hz1 hlk hnk e1
          cases y with
          | false =>
            rw [Bool.false_and] at hr
            subst hr
            go_enter Tryz.func110, Tryz.ntmps110
            go_wp2_with fail
            refine (cZ _).mono ?_
            rintro e1 w1 ⟨rfl, rfl⟩
            go_wp2_with fail
            refine (cS _ (ab2 _ _ _)).mono ?_
            rintro e1 w1 ⟨rfl, hb1⟩
            go_wp2_with fail
            go_ret
            exact ⟨rfl, Below.next (ab2 _ _ _) hb1⟩
          | true =>
            rw [Bool.true_and] at hr
            subst hr
            go_enter Tryz.func110, Tryz.ntmps110
            go_wp2_with fail
            refine (cZ _).mono ?_
            rintro e1 w1 ⟨rfl, rfl⟩
            go_wp2_with fail
            refine (cS _ (ab2 _ _ _)).mono ?_
            rintro e1 w1 ⟨rfl, hb1⟩
            have b3 := (hB2.next hb1).c 3 rfl
            clear hB2 cS
            go_wp2_with fail
            go_ret
            exact ⟨rfl, Below.next (ab2 _ _ _) hb1⟩
        · rw [if_neg h6] at hr
          have d6 : (k == 6) = false := by simpa using h6
          by_cases h7 : k = 7
          · subst h7
            rw [if_pos rfl] at hr
            have cS := fun W h => hasEnum_any S b b2 n W hn2 (hD.next h)
            generalize (ens S).contains n = y at *
            have e1 : decide (e.length = 0) = ((e.length : Int) == 0) := by rw [Bool.eq_iff_iff]; simp
            rw [e1] at hr
            have hB2 := Bx.new4 (w.alloc (Obj.cells #[.map (some b), .map (some b2)] 104)) 53 (.int .i64 7) (.int .i64 s) (.string (bs n)) (.slice A3 e.length c3)
            have hz1 : (w.alloc (Obj.cells #[.map (some b), .map (some b2)] 104)).heap.size = w.heap.size + 1 := by simp
            rw [hz1] at hB2
            generalize e.length = m at *
            clear hz hR hT hD ih hz1 hlk hnk e1
            cases y with
            | false =>
              rw [Bool.false_and] at hr
              subst hr
              go_enter Tryz.func110, Tryz.ntmps110
              go_wp2_with fail
              refine (cZ _).mono ?_
              rintro e1 w1 ⟨rfl, rfl⟩
              go_wp2_with fail
              refine (cS _ (ab2 _ _ _)).mono ?_
              rintro e1 w1 ⟨rfl, hb1⟩
              go_wp2_with fail
              go_ret
              exact ⟨rfl, Below.next (ab2 _ _ _) hb1⟩
            | true =>
              rw [Bool.true_and] at hr
              subst hr
              go_enter Tryz.func110, Tryz.ntmps110
              go_wp2_with fail
              refine (cZ _).mono ?_
              rintro e1 w1 ⟨rfl, rfl⟩
              go_wp2_with fail
              refine (cS _ (ab2 _ _ _)).mono ?_
              rintro e1 w1 ⟨rfl, hb1⟩
              have b3 := (hB2.next hb1).c 3 rfl
              clear hB2 cS
              go_wp2_with fail
              go_ret
              exact ⟨rfl, Below.next (ab2 _ _ _) hb1⟩
          · rw [if_neg h7] at hr
            have d7 : (k == 7) = false := by simpa using h7
            generalize e.length = m at *
            clear hz hR hT hD ih h5 h6 h7 hlk hnk
            by_cases hn : n = []
            · subst hn
              have q0 : (bs ([] : List UInt8)).toList = [] := toList_bs []
              have e1 : decide (m = 0) = ((m : Int) == 0) := by rw [Bool.eq_iff_iff]; simp
              rw [decide_eq_true rfl, Bool.true_and, e1] at hr
              subst hr
              go_enter Tryz.func110, Tryz.ntmps110
              go_wp2_with fail
              refine (cZ _).mono ?_
              rintro e1 w1 ⟨rfl, rfl⟩
              go_wp2_with fail
              go_ret
              exact ⟨rfl, ab2 _ _ _⟩
            · have q0 : ¬ (bs n).toList = [] := by rw [toList_bs]; exact hn
              rw [decide_eq_false hn, Bool.false_and] at hr
              subst hr
              clear hn
              go_enter Tryz.func110, Tryz.ntmps110
              go_wp2_with fail
              refine (cZ _).mono ?_
              rintro e1 w1 ⟨rfl, rfl⟩
              go_wp2_with fail
              go_ret
              exact ⟨rfl, ab2 _ _ _⟩
end Go.Proofs.YtcilkcnddgacgaaGreatDoor


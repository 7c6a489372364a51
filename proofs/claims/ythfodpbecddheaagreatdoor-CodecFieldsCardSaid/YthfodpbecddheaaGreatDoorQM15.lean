/-
  The developers' names of types, and names that are admitted. No conditions beyond those that each names, and what the library's variables hold.
-/
import Derived.Test.YthfodpbecddheaaGreatDoorQM14
import Derived.Test.YthfodpbecddheaaGreatDoorQM13
import Derived.Test.YthfodpbecddheaaGreatDoorQM06
namespace Go.Proofs.YthfodpbecddheaaGreatDoor
open Go.RowKit Go.Maps
set_option maxRecDepth 100000 in
theorem isTypeName_any (l : List UInt8) (w : World) (hl : l.length ≤ 140737488355328) (hE : Env w) :
    Calls Tryz.prog 115 #[.string (bs l)] w (Ib (.bool (isTn l)) w) := by
  have hsz : (bs l).size = l.length := rfl
  have c1 := isNameD_any l w hl hE
  cases h : isN l
  · rw [h] at c1
    rw [show isTn l = false by unfold isTn; rw [h]; rfl]
    go_enter Tryz.func115, Tryz.ntmps115
    go_wp2_with fail
    refine c1.mono ?_
    rintro e w' ⟨rfl, hb⟩
    go_wp2_with fail
    go_ret
    exact ⟨rfl, hb⟩
  · obtain ⟨c, h0, hc, e⟩ : ∃ (c : UInt8) (h0 : 0 < l.length), l[0]'h0 = c ∧ isTn l = (decide (65 ≤ c.toNat) && decide (c.toNat ≤ 90)) := by
      match l, isN_ne h with
      | c :: r, _ => exact ⟨c, by simp, rfl, by unfold isTn; rw [h, Bool.true_and]⟩
    rw [h] at c1
    obtain ⟨r, hr⟩ : ∃ r, isTn l = r := ⟨_, rfl⟩
    rw [hr]
    rw [e] at hr
    have h00 : 0 < (bs l).size := h0
    have hb : ((bs l)[0]'h00).toNat = c.toNat := by rw [← hc]; rfl
    generalize c.toNat = n at *
    have HR := Lib.hid hr
    clear hc e h hr
    by_cases g1 : 65 ≤ n
    · have d1 : decide ((65 : Int) ≤ (n : Int)) = true := by rw [decide_eq_true_eq]; omega
      by_cases g2 : n ≤ 90
      · have d2 : decide ((n : Int) ≤ 90) = true := by rw [decide_eq_true_eq]; omega
        obtain rfl : r = true := by rw [← HR.out, decide_eq_true g1, decide_eq_true g2]; rfl
        clear HR g1 g2
        go_enter Tryz.func115, Tryz.ntmps115
        go_wp2_with fail
        refine c1.mono ?_
        rintro e w' ⟨rfl, hb⟩
        go_wp2_with fail
        go_ret
        exact ⟨rfl, hb⟩
      · have d2 : decide ((n : Int) ≤ 90) = false := by rw [decide_eq_false_iff_not]; omega
        obtain rfl : r = false := by rw [← HR.out, decide_eq_false g2, Bool.and_false]
        clear HR g1 g2
        go_enter Tryz.func115, Tryz.ntmps115
        go_wp2_with fail
        refine c1.mono ?_
        rintro e w' ⟨rfl, hb⟩
        go_wp2_with fail
        go_ret
        exact ⟨rfl, hb⟩
    · have d1 : decide ((65 : Int) ≤ (n : Int)) = false := by rw [decide_eq_false_iff_not]; omega
      obtain rfl : r = false := by rw [← HR.out, decide_eq_false g1, Bool.false_and]
      clear HR g1
      go_enter Tryz.func115, Tryz.ntmps115
      go_wp2_with fail
      refine c1.mono ?_
      rintro e w' ⟨rfl, hb⟩
      go_wp2_with fail
      go_ret
      exact ⟨rfl, hb⟩
/-- The names of a list, as a map to true. -/
def setF (l : List (List UInt8)) (x : List UInt8) : Option Value := if l.contains x = true then some (.bool true) else none
theorem setF_nil : setF [] = fun _ => none := by funext x; rfl
theorem setF_put (l : List (List UInt8)) (x : List UInt8) : putF (setF l) x (.bool true) = setF (l ++ [x]) := by
  funext y
  unfold putF setF
  by_cases e : y = x
  · subst e; simp
  · simp [e]
theorem setF_getD (l : List (List UInt8)) (x : List UInt8) : (setF l x).getD (.bool false) = .bool (l.contains x) := by
  unfold setF
  cases h : l.contains x <;> simp
def Ms (w : World) (b n : Nat) (l : List (List UInt8)) : Prop := ∃ D, Mp w b n (setF l) D
theorem Ms.made (w : World) : Ms (w.alloc (.map #[] 0)) w.heap.size 0 [] := ⟨_, by rw [setF_nil]; exact Mp.made w⟩
theorem Ms.next {w w' : World} {b n : Nat} {l : List (List UInt8)} (h : Ms w b n l) (hb : Below w.heap.size w w') : Ms w' b n l := by obtain ⟨D, h⟩ := h; exact ⟨D, h.next hb⟩
theorem Ms.kept {w w' : World} {b n : Nat} {l : List (List UInt8)} {row : Option Nat} (h : Ms w b n l) (hg : w.grownBy w' row) (hne : some b ≠ row) : Ms w' b n l := by obtain ⟨D, h⟩ := h; exact ⟨D, h.kept hg hne⟩
theorem Ms.lt {w : World} {b n : Nat} {l : List (List UInt8)} (h : Ms w b n l) : b < w.heap.size := by obtain ⟨D, h⟩ := h; exact h.lt
theorem gb_of {w w' : World} (hb : Below w.heap.size w w') (row : Option Nat) : w.grownBy w' row := ⟨hb.os, hb.tape, hb.output, hb.size, fun i hi _ => hb.block i hi⟩
theorem gb_next {w w1 w2 : World} {b : Nat} (h : w.grownBy w1 (some b)) (k : Below w1.heap.size w1 w2) : w.grownBy w2 (some b) := h.trans (gb_of k _)
theorem Bx.kept {w w' : World} {c b : Nat} {vs : List Value} (h : Bx w c vs) (hg : w.grownBy w' (some b)) (hne : c ≠ b) : Bx w' c vs := by
  have e : w'.heap[c]? = w.heap[c]? := hg.block c h.lt (fun h => hne (by cases h; rfl))
  refine ⟨Nat.lt_of_lt_of_le h.lt hg.size, fun j v hv => ⟨?_, ?_⟩⟩
  · exact (World.cell?_of_block (w := w) e).trans (h.at_ j v hv).1
  · exact (World.frozen?_of_block (w := w) e).trans (h.at_ j v hv).2
/-- The error of a name that is admitted. -/
def adE (p : Bool) (l : List (List UInt8)) (x : List UInt8) : Nat := if p = false then 5 else if l.contains x = true then 7 else 0
/-- What admit leaves. -/
def AdP (p : Bool) (l : List (List UInt8)) (x : List UInt8) (b n : Nat) (w : World) (e : Ending) (w' : World) : Prop :=
  e = .returned (.int .i64 (adE p l x : Int)) ∧ w.grownBy w' (some b) ∧ (adE p l x ≠ 0 → Below w.heap.size w w') ∧ (adE p l x = 0 → Ms w' b (n + 1) (l ++ [x]))
theorem zeroBool (w : World) : (zeroValue 4).run Tryz.prog w = .ok (.bool false) w := by kernel_rfl
set_option maxRecDepth 100000 in
set_option maxHeartbeats 1000000 in
theorem admitT_any (x : List UInt8) (b n : Nat) (l : List (List UInt8)) (w : World) (hx : x.length ≤ 140737488355328) (hE : Env w) (hM : Ms w b n l) (hn : n ≤ 1000) :
    Calls Tryz.prog 114 #[.string (bs x), .func (.func 115) #[] #[], .map (some b)] w (AdP (isTn x) l x b n w) := by
  have c1 := isTypeName_any x w hx hE
  have hx2 : x.length ≤ 9223372036854775807 := by omega
  cases hp : isTn x
  · rw [hp] at c1
    have HA : AdP false l x b n w = fun e w' => e = .returned (.int .i64 5) ∧ w.grownBy w' (some b) ∧ (5 ≠ 0 → Below w.heap.size w w') ∧ (5 = 0 → Ms w' b (n + 1) (l ++ [x])) := rfl
    clear HA hp
    go_enter Tryz.func114, Tryz.ntmps114
    go_wp2_with fail
    refine c1.mono ?_
    rintro e w1 ⟨rfl, hb⟩
    go_wp2_with fail
    go_ret
    exact ⟨rfl, gb_of hb _, fun _ => hb, fun h => absurd (show (5 : Nat) = 0 from h) (by decide)⟩
  · rw [hp] at c1
    clear hp
    obtain ⟨D, hM⟩ := hM
    have hv := setF_getD l x
    cases hc : l.contains x
    · rw [hc] at hv
      have he : adE true l x = 0 := by unfold adE; rw [hc]; rfl
      have HQ := Lib.hid he
      clear he hc
      go_enter Tryz.func114, Tryz.ntmps114
      go_wp2_with fail
      refine c1.mono ?_
      rintro e w1 ⟨rfl, hb⟩
      have hM1 := hM.next hb
      go_wp2_with (first | (at_lookup; refine wpList_look _ rfl (.tmp 11) (.tmp 12) 113 4 rfl Tryz.underlying113 (zeroBool _) hM1 rfl hx2 rfl ?_; rw [hv]) | (at_mapUpdate; refine wpList_put (u := .bool true) (k := x) _ rfl (.tmp 14) (.tmp 15) (.const (.bool true)) 113 4 rfl Tryz.underlying113 hM1 (by omega) rfl hx2 rfl rfl ?_; intro w2 hM2 hg2))
      go_ret
      refine ⟨by rw [HQ.out]; rfl, (gb_of hb _).trans hg2, fun h => absurd HQ.out h, fun _ => ⟨D.put (.string x) (.held (.bool true)), ?_⟩⟩
      rw [← setF_put]
      exact hM2
    · rw [hc] at hv
      have he : adE true l x = 7 := by unfold adE; rw [hc]; rfl
      have HQ := Lib.hid he
      clear he hc
      go_enter Tryz.func114, Tryz.ntmps114
      go_wp2_with fail
      refine c1.mono ?_
      rintro e w1 ⟨rfl, hb⟩
      have hM1 := hM.next hb
      go_wp2_with (at_lookup; refine wpList_look _ rfl (.tmp 11) (.tmp 12) 113 4 rfl Tryz.underlying113 (zeroBool _) hM1 rfl hx2 rfl ?_; rw [hv])
      go_ret
      exact ⟨by rw [HQ.out]; rfl, gb_of hb _, fun _ => hb, fun h => by rw [HQ.out] at h; cases h⟩
set_option maxRecDepth 100000 in
set_option maxHeartbeats 1000000 in
theorem admitN_any (x : List UInt8) (b n : Nat) (l : List (List UInt8)) (w : World) (hx : x.length ≤ 140737488355328) (hE : Env w) (hM : Ms w b n l) (hn : n ≤ 1000) :
    Calls Tryz.prog 114 #[.string (bs x), .func (.func 116) #[] #[], .map (some b)] w (AdP (isN x) l x b n w) := by
  have c1 := isNameD_any x w hx hE
  have hx2 : x.length ≤ 9223372036854775807 := by omega
  cases hp : isN x
  · rw [hp] at c1
    have HA : AdP false l x b n w = fun e w' => e = .returned (.int .i64 5) ∧ w.grownBy w' (some b) ∧ (5 ≠ 0 → Below w.heap.size w w') ∧ (5 = 0 → Ms w' b (n + 1) (l ++ [x])) := rfl
    clear HA hp
    go_enter Tryz.func114, Tryz.ntmps114
    go_wp2_with fail
    refine c1.mono ?_
    rintro e w1 ⟨rfl, hb⟩
    go_wp2_with fail
    go_ret
    exact ⟨rfl, gb_of hb _, fun _ => hb, fun h => absurd (show (5 : Nat) = 0 from h) (by decide)⟩
  · rw [hp] at c1
    clear hp
    obtain ⟨D, hM⟩ := hM
    have hv := setF_getD l x
    cases hc : l.contains x
    · rw [hc] at hv
      have he : adE true l x = 0 := by unfold adE; rw [hc]; rfl
      have HQ := Lib.hid he
      clear he hc
      go_enter Tryz.func114, Tryz.ntmps114
      go_wp2_with fail
      refine c1.mono ?_
      rintro e w1 ⟨rfl, hb⟩
      have hM1 := hM.next hb
      go_wp2_with (first | (at_lookup; refine wpList_look _ rfl (.tmp 11) (.tmp 12) 113 4 rfl Tryz.underlying113 (zeroBool _) hM1 rfl hx2 rfl ?_; rw [hv]) | (at_mapUpdate; refine wpList_put (u := .bool true) (k := x) _ rfl (.tmp 14) (.tmp 15) (.const (.bool true)) 113 4 rfl Tryz.underlying113 hM1 (by omega) rfl hx2 rfl rfl ?_; intro w2 hM2 hg2))
      go_ret
      refine ⟨by rw [HQ.out]; rfl, (gb_of hb _).trans hg2, fun h => absurd HQ.out h, fun _ => ⟨D.put (.string x) (.held (.bool true)), ?_⟩⟩
      rw [← setF_put]
      exact hM2
    · rw [hc] at hv
      have he : adE true l x = 7 := by unfold adE; rw [hc]; rfl
      have HQ := Lib.hid he
      clear he hc
      go_enter Tryz.func114, Tryz.ntmps114
      go_wp2_with fail
      refine c1.mono ?_
      rintro e w1 ⟨rfl, hb⟩
      have hM1 := hM.next hb
      go_wp2_with (at_lookup; refine wpList_look _ rfl (.tmp 11) (.tmp 12) 113 4 rfl Tryz.underlying113 (zeroBool _) hM1 rfl hx2 rfl ?_; rw [hv])
      go_ret
      exact ⟨by rw [HQ.out]; rfl, gb_of hb _, fun _ => hb, fun h => by rw [HQ.out] at h; cases h⟩
end Go.Proofs.YthfodpbecddheaaGreatDoor
/-
  The developers' test of an enumeration. No conditions beyond those that each names, and what the library's variables hold.
-/
namespace Go.Proofs.YthfodpbecddheaaGreatDoor
open Go.RowKit Go.Maps
/-- What a test of a definition leaves. -/
def CkP (r : Nat) (x : List UInt8) (l : List (List UInt8)) (b n : Nat) (w : World) (e : Ending) (w' : World) : Prop :=
  e = .returned (.int .i64 (r : Int)) ∧ w.grownBy w' (some b) ∧ (r = 0 → Ms w' b (n + 1) (l ++ [x]))
theorem CkP.bad {r : Nat} {x : List UInt8} {l : List (List UInt8)} {b n : Nat} {w w' : World} {i : Int} (h0 : r ≠ 0) (hi : i = (r : Int)) (hg : w.grownBy w' (some b)) : CkP r x l b n w (.returned (.int .i64 i)) w' := ⟨by rw [hi], hg, fun h => absurd h h0⟩
theorem CkP.ok {r : Nat} {x : List UInt8} {l : List (List UInt8)} {b n : Nat} {w w' : World} (h0 : r = 0) (hg : w.grownBy w' (some b)) (hM : Ms w' b (n + 1) (l ++ [x])) : CkP r x l b n w (.returned (.int .i64 0)) w' := ⟨by rw [h0]; rfl, hg, fun _ => hM⟩
theorem gb_alloc (w : World) (o : Obj) (row : Option Nat) : w.grownBy (w.alloc o) row := gb_of (ab1 w o) row
theorem getD_of {α : Type} {l : List α} {k : Nat} (h : k < l.length) (d : α) : l.getD k d = l[k]'h := by simp [List.getD_eq_getElem?_getD, h]
set_option maxRecDepth 100000 in
set_option maxHeartbeats 4000000 in
theorem checkEnum_any (W0 : World) (x : En) (v : Value) (b n : Nat) (l : List (List UInt8)) (w : World) (hv : EnV W0 x v) (hb0 : Below W0.heap.size W0 w) (hlow : W0.heap.size ≤ b) (hM : Ms w b n l) (hE : Env W0) (hn : n ≤ 1000)
    (h40 : x.name.length ≤ 40) (hq : x.names.length ≤ 18) (hs : ∀ y ∈ x.names, y.length ≤ 40) :
    Calls Tryz.prog 60 #[v, .map (some b)] w (CkP (enErr l x) x.name l b n w) := by
  have hmm := @run_makeMap Tryz.prog
  obtain ⟨A, c, A2, c2, rfl, hVn, hVi⟩ := hv
  have hbne : w.heap.size ≠ b := by have := hM.lt; omega
  obtain ⟨m, hm⟩ : ∃ m, x.names.length = m := ⟨_, rfl⟩
  obtain ⟨q, hq2⟩ : ∃ q, x.nums.length = q := ⟨_, rfl⟩
  have HM := Lib.hid hm
  have HQ := Lib.hid hq2
  rw [hm] at hq ⊢
  rw [hq2]
  have hB0 := Bx.new3 w 75 (.string (bs x.name)) (.slice A m c) (.slice A2 q c2)
  have cA := admitT_any x.name b n l (w.alloc (Obj.cells #[.string (bs x.name), .slice A m c, .slice A2 q c2] 75)) (by omega) (hE.next (hb0.alloc hb0.size _)) (hM.next (ab1 _ _)) hn
  have hga := gb_alloc w (Obj.cells #[.string (bs x.name), .slice A m c, .slice A2 q c2] 75) (some b)
  have hba := hb0.alloc hb0.size (Obj.cells #[.string (bs x.name), .slice A m c, .slice A2 q c2] 75)
  obtain ⟨r, hr⟩ : ∃ r, enErr l x = r := ⟨_, rfl⟩
  rw [hr]
  unfold enErr at hr
  rw [hm, hq2] at hr
  clear hm hq2 hM
  cases g1 : isTn x.name
  · rw [g1] at cA hr
    rw [if_pos rfl] at hr
    subst hr
    clear g1
    go_enter Tryz.func60, Tryz.ntmps60
    go_wp2_with fail
    refine cA.mono ?_
    rintro e w1 ⟨rfl, hg, -, -⟩
    rw [show adE false l x.name = 5 from rfl]
    go_wp2_with fail
    go_ret
    exact CkP.bad (by decide) rfl (hga.trans hg)
  · rw [g1] at cA hr
    rw [if_neg (by decide)] at hr
    cases g2 : l.contains x.name
    · rw [g2, if_neg (by decide)] at hr
      have ha : adE true l x.name = 0 := by unfold adE; rw [g2]; rfl
      clear g1 g2
      by_cases g3 : m = 0
      · rw [if_pos (.inl g3)] at hr
        subst hr
        subst g3
        go_enter Tryz.func60, Tryz.ntmps60
        go_wp2_with fail
        refine cA.mono ?_
        rintro e w1 ⟨rfl, hg, -, -⟩
        rw [ha]
        have hB1 := hB0.kept hg hbne
        have b0 := hB1.c 0 rfl
        have b1 := hB1.c 1 rfl
        have b2 := hB1.c 2 rfl
        go_wp2_with fail
        go_ret
        exact CkP.bad (by decide) rfl (hga.trans hg)
      · have d3 : ((m : Int) == 0) = false := by rw [beq_eq_false_iff_ne]; omega
        by_cases g4 : q = m
        · subst g4
          have d4 : ((q : Int) != (q : Int)) = false := by simp
          rw [if_neg (by rintro (h | h); exact g3 h; exact h rfl)] at hr
          have HR := Lib.hid hr
          have ha := Lib.hid ha
          clear hr g3
          go_enter Tryz.func60, Tryz.ntmps60
          go_wp2_with fail
          refine cA.mono ?_
          rintro e w1 ⟨rfl, hg, -, hz⟩
          rw [ha.out]
          have hM1 := hz ha.out
          have hB1 := hB0.kept hg hbne
          have b0 := hB1.c 0 rfl
          have b1 := hB1.c 1 rfl
          have b2 := hB1.c 2 rfl
          have hb1 := hba.grown hg hba.size (fun k hk => by cases hk; exact hlow)
          have hE1 : Env w1 := hE.next hb1
          have hgw := hga.trans hg
          have hN0 := Ms.made w1
          have hB2 := hB1.next (ab1 w1 (.map #[] 0))
          have hlt0 := hB1.lt
          clear hz hB0 cA hga hba
          go_wp2_with fail
          clear b0 b1 b2 d3 d4
          go_loopw [35] (fun i wr => ∃ k : Nat, k ≤ q ∧ i = .int .i64 (k : Int) ∧ Hid (∀ j, j < k → nmErr x j = 0) ∧ Bx wr w.heap.size [.string (bs x.name), .slice A q c, .slice A2 q c2] ∧ Ms wr w1.heap.size k (x.names.take k) ∧ Below w1.heap.size w1 wr) (fun i _ => q - (intOf i).toNat)
          case atStart => exact ⟨0, by omega, rfl, Lib.hid fun j h => by omega, hB2, hN0, ab1 _ _⟩
          case round =>
            obtain ⟨k, hk, rfl, hI, hBr, hN, hbr⟩ := hrel
            have b0 := hBr.c 0 rfl
            have b1 := hBr.c 1 rfl
            have b2 := hBr.c 2 rfl
            have hbW := Below.next hb1 hbr
            have hlt1 : w1.heap.size < wr.heap.size := hN.lt
            have hw1 : w.heap.size < w1.heap.size := hB1.lt
            clear hN0 hB2
            by_cases hlt : k < q
            · obtain ⟨a, rfl, hA⟩ := hVn.get (i := k) (by rw [HM.out]; exact hlt)
              obtain ⟨a2, rfl, hA2⟩ := hVi.get (i := k) (by rw [HQ.out]; exact hlt)
              rw [Nat.mul_one] at hA hA2
              have hkm : k < x.names.length := by rw [HM.out]; exact hlt
              have hkq : k < x.nums.length := by rw [HQ.out]; exact hlt
              have hnx : x.names.take (k + 1) = x.names.take k ++ [x.names[k]'hkm] := List.take_succ_eq_append_getElem hkm
              have hcs := nmErr_cases x k
              rw [getD_of hkm, getD_of hkq] at hcs
              have hsk := hs _ (List.getElem_mem hkm)
              have hcell : ∀ W, Below W0.heap.size W0 W → W.cell? (a2.add k) = some (.int .i64 (x.nums[k]'hkq)) ∧ True := fun W hW => ⟨cell_next hW hA2, trivial⟩
              have e0 : wr.cell? (a.add k) = some (.string (bs (x.names[k]'hkm))) := cell_next hbW hA
              have i0 : wr.cell? (a2.add k) = some (.int .i64 (x.nums[k]'hkq)) := cell_next hbW hA2
              have cN := admitN_any (x.names[k]'hkm) w1.heap.size k (x.names.take k) wr (by omega) (hE1.next hbr) hN (by omega)
              have hprev : ∀ W, Below W0.heap.size W0 W → ∀ f, k - 1 = f → 0 < k → W.cell? (a2.add f) = some (.int .i64 (x.nums.getD (k - 1) 0)) := fun W hW f hf h0 => by
                subst hf
                obtain ⟨a3, h3, hA3⟩ := hVi.get (i := k - 1) (by rw [HQ.out]; omega)
                cases h3
                rw [Nat.mul_one] at hA3
                rw [getD_of (by rw [HQ.out]; omega)]
                exact cell_next hW hA3
              generalize x.names[k]'hkm = y at *
              generalize x.nums[k]'hkq = z at *
              have hfe : ∀ e, nmErr x k = e → e ≠ 0 → r = e := fun e he h0 => by rw [← HR.out]; exact fe_at hlt hI.out he h0
              have hnxt := fun h => before_succ (p := fun j => nmErr x j = 0) hI.out (k := k) h
              clear hA hA2
              rcases hcs with ⟨p1, p2⟩ | ⟨p1, p2, p3⟩ | ⟨p1, p2, p3, p4⟩ | ⟨p1, p2, p3, p4, p5, p6⟩ | ⟨p1, p2, p3, p4, p5, p6, p7⟩
              · obtain rfl := hfe _ p2 (by decide)
                have ha2 : adE (isN y) (x.names.take k) y = 5 := by unfold adE; rw [p1]; rfl
                have HA2 := Lib.hid ha2
                clear hfe hnxt hprev p1 p2 ha2
                go_wp2_with fail
                refine cN.mono ?_
                rintro e w2 ⟨rfl, hg2, -, -⟩
                rw [HA2.out]
                go_wp2_with fail
                go_ret
                exact CkP.bad (by decide) rfl (gb_next hgw (hbr.grown hg2 hbr.size (fun k hk => by cases hk; exact Nat.le_refl _)))
              · obtain rfl := hfe _ p3 (by decide)
                have ha2 : adE (isN y) (x.names.take k) y = 7 := by unfold adE; rw [p1, p2]; rfl
                have HA2 := Lib.hid ha2
                clear hfe hnxt hprev p1 p2 p3 ha2
                go_wp2_with fail
                refine cN.mono ?_
                rintro e w2 ⟨rfl, hg2, -, -⟩
                rw [HA2.out]
                go_wp2_with fail
                go_ret
                exact CkP.bad (by decide) rfl (gb_next hgw (hbr.grown hg2 hbr.size (fun k hk => by cases hk; exact Nat.le_refl _)))
              · obtain rfl := hfe _ p4 (by decide)
                clear hfe hnxt hprev p4
                have ha2 : adE (isN y) (x.names.take k) y = 0 := by unfold adE; rw [p1, p2]; rfl
                have HA2 := Lib.hid ha2
                clear p1 p2 ha2
                go_wp2_with fail
                refine cN.mono ?_
                rintro e w2 ⟨rfl, hg2, -, hz2⟩
                rw [HA2.out]
                have hN2 := hz2 HA2.out
                have hBr2 := hBr.kept hg2 (by omega)
                have b0 := hBr2.c 0 rfl
                have b1 := hBr2.c 1 rfl
                have b2 := hBr2.c 2 rfl
                have hbr2 := hbr.grown hg2 hbr.size (fun k hk => by cases hk; exact Nat.le_refl _)
                have hbW2 := hbW.grown hg2 hbW.size (fun k hk => by cases hk; exact hb1.size)
                replace i0 : w2.cell? (a2.add k) = some (.int .i64 z) := (hcell w2 hbW2).1
                clear hcell
                by_cases g5 : z < 0
                · have d5 : decide (z < 0) = true := decide_eq_true g5
                  clear p3 g5
                  go_wp2_with fail
                  go_ret
                  exact CkP.bad (by decide) rfl (gb_next hgw hbr2)
                · have d5 : decide (z < 0) = false := decide_eq_false g5
                  have d6 : decide (127 < z) = true := by rw [decide_eq_true_eq]; omega
                  clear p3 g5
                  go_wp2_with fail
                  go_ret
                  exact CkP.bad (by decide) rfl (gb_next hgw hbr2)
              · obtain rfl := hfe _ p6 (by decide)
                clear hfe hnxt p6
                have ha2 : adE (isN y) (x.names.take k) y = 0 := by unfold adE; rw [p1, p2]; rfl
                have HA2 := Lib.hid ha2
                have d5 : decide (z < 0) = false := by rw [decide_eq_false_iff_not]; omega
                have d6 : decide (127 < z) = false := by rw [decide_eq_false_iff_not]; omega
                clear p1 p2 ha2
                go_wp2_with fail
                refine cN.mono ?_
                rintro e w2 ⟨rfl, hg2, -, hz2⟩
                rw [HA2.out]
                have hN2 := hz2 HA2.out
                have hBr2 := hBr.kept hg2 (by omega)
                have b0 := hBr2.c 0 rfl
                have b1 := hBr2.c 1 rfl
                have b2 := hBr2.c 2 rfl
                have hbr2 := hbr.grown hg2 hbr.size (fun k hk => by cases hk; exact Nat.le_refl _)
                have hbW2 := hbW.grown hg2 hbW.size (fun k hk => by cases hk; exact hb1.size)
                replace i0 : w2.cell? (a2.add k) = some (.int .i64 z) := (hcell w2 hbW2).1
                clear hcell
                clear p3 p4
                by_cases g5 : k = 0
                · subst g5
                  have i0 : w2.cell? a2 = some (.int .i64 z) := i0
                  have d7 : (z == 0) = false := by rw [beq_eq_false_iff_ne]; rcases p5 with h | h; exact h.2; omega
                  have d8 : (z != 0) = true := by rw [bne, d7]; rfl
                  clear p5 hprev
                  go_wp2_with fail
                  go_ret
                  exact CkP.bad (by decide) rfl (gb_next hgw hbr2)
                · have d7 : ((k : Int) == 0) = false := by rw [beq_eq_false_iff_ne]; omega
                  obtain ⟨f, hf⟩ : ∃ f, k - 1 = f := ⟨_, rfl⟩
                  have l11 : (k : Int) - 1 = (f : Int) := by omega
                  have j0 := hprev _ hbW2 f hf (by omega)
                  have hk0 : 0 < k := by omega
                  have hfk : f < q := by omega
                  obtain ⟨zp, hzp⟩ : ∃ zp, x.nums.getD (k - 1) 0 = zp := ⟨_, rfl⟩
                  rw [hzp] at p5 j0
                  have d8 : decide (z ≤ zp) = true := by rw [decide_eq_true_eq]; rcases p5 with h | h; exact absurd h.1 g5; exact h.2
                  clear p5 hprev hzp hf g5
                  go_wp2_with fail
                  go_ret
                  exact CkP.bad (by decide) rfl (gb_next hgw hbr2)
              · have HX := Lib.hid (hnxt p7)
                have HT := Lib.hid hnx
                clear hfe hnxt p7 hnx
                have ha2 : adE (isN y) (x.names.take k) y = 0 := by unfold adE; rw [p1, p2]; rfl
                have HA2 := Lib.hid ha2
                have d5 : decide (z < 0) = false := by rw [decide_eq_false_iff_not]; omega
                have d6 : decide (127 < z) = false := by rw [decide_eq_false_iff_not]; omega
                clear p1 p2 ha2
                go_wp2_with fail
                refine cN.mono ?_
                rintro e w2 ⟨rfl, hg2, -, hz2⟩
                rw [HA2.out]
                have hN2 := hz2 HA2.out
                have hBr2 := hBr.kept hg2 (by omega)
                have b0 := hBr2.c 0 rfl
                have b1 := hBr2.c 1 rfl
                have b2 := hBr2.c 2 rfl
                have hbr2 := hbr.grown hg2 hbr.size (fun k hk => by cases hk; exact Nat.le_refl _)
                have hbW2 := hbW.grown hg2 hbW.size (fun k hk => by cases hk; exact hb1.size)
                replace i0 : w2.cell? (a2.add k) = some (.int .i64 z) := (hcell w2 hbW2).1
                clear hcell
                clear p3 p4
                by_cases g5 : k = 0
                · subst g5
                  have d7 : z = 0 := p5 rfl
                  subst d7
                  have i0 : w2.cell? a2 = some (.int .i64 0) := i0
                  clear p5 p6 hprev
                  go_wp2_with fail
                  go_roundw
                  case rel => exact ⟨1, by omega, by go_num, HX, hBr2, HT.out ▸ hN2, hbr2⟩
                  case measure => simp [intOf]; omega
                · have d7 : ((k : Int) == 0) = false := by rw [beq_eq_false_iff_ne]; omega
                  obtain ⟨f, hf⟩ : ∃ f, k - 1 = f := ⟨_, rfl⟩
                  have l11 : (k : Int) - 1 = (f : Int) := by omega
                  have j0 := hprev _ hbW2 f hf (by omega)
                  have hk0 : 0 < k := by omega
                  have hfk : f < q := by omega
                  obtain ⟨zp, hzp⟩ : ∃ zp, x.nums.getD (k - 1) 0 = zp := ⟨_, rfl⟩
                  rw [hzp] at p6 j0
                  have d8 : decide (z ≤ zp) = false := by rw [decide_eq_false_iff_not]; have := p6 hk0; omega
                  clear p5 p6 hprev hzp hf g5
                  go_wp2_with fail
                  go_roundw
                  case rel => exact ⟨k + 1, by omega, by go_num, HX, hBr2, HT.out ▸ hN2, hbr2⟩
                  case measure => simp [intOf]; omega
            · obtain rfl : k = q := by omega
              have H0 := Lib.hid (show r = 0 by rw [← HR.out]; exact fe_zero hI.out)
              clear hI
              go_wp2_with fail
              go_ret
              exact CkP.ok H0.out (gb_next hgw hbr) (hM1.next hbr)
        · have d4 : ((q : Int) != (m : Int)) = true := by rw [bne_iff_ne]; omega
          rw [if_pos (.inr g4)] at hr
          subst hr
          clear g3 g4
          go_enter Tryz.func60, Tryz.ntmps60
          go_wp2_with fail
          refine cA.mono ?_
          rintro e w1 ⟨rfl, hg, -, -⟩
          rw [ha]
          have hB1 := hB0.kept hg hbne
          have b0 := hB1.c 0 rfl
          have b1 := hB1.c 1 rfl
          have b2 := hB1.c 2 rfl
          go_wp2_with fail
          go_ret
          exact CkP.bad (by decide) rfl (hga.trans hg)
    · rw [g2, if_pos rfl] at hr
      subst hr
      have ha : adE true l x.name = 7 := by unfold adE; rw [g2]; rfl
      clear g1 g2
      go_enter Tryz.func60, Tryz.ntmps60
      go_wp2_with fail
      refine cA.mono ?_
      rintro e w1 ⟨rfl, hg, -, -⟩
      rw [ha]
      go_wp2_with fail
      go_ret
      exact CkP.bad (by decide) rfl (hga.trans hg)
end Go.Proofs.YthfodpbecddheaaGreatDoor
/-
  The developers' definitions by name: sizes of kinds, which names there are, the type within all lists. No conditions beyond those that each names.
-/
namespace Go.Proofs.YthfodpbecddheaaGreatDoor
open Go.RowKit Go.Maps
/-- The definitions of a schema, in two maps. -/
structure DfM {α : Type} (W : World) (b : Nat) (l : List α) (key : α → List UInt8) (V : World → α → Value → Prop) (f : List UInt8 → Option Value) (D : DataW Value) : Prop where
  map : ∃ n, n ≤ 1000 ∧ Mp W b n f D
  is : ∀ x, (f x).isSome = (l.map key).contains x
  val : ∀ x u, f x = some u → ∃ t ∈ l, key t = x ∧ V W t u
theorem DfM.next {α : Type} {W W' : World} {b : Nat} {l : List α} {key : α → List UInt8} {V : World → α → Value → Prop} {f : List UInt8 → Option Value} {D : DataW Value} (hV : ∀ t u, V W t u → V W' t u) (h : DfM W b l key V f D) (hb : Below W.heap.size W W') : DfM W' b l key V f D := by
  obtain ⟨n, hn, hm⟩ := h.map
  refine ⟨⟨n, hn, hm.next hb⟩, h.is, fun x u e => ?_⟩
  obtain ⟨t, h1, h2, h3⟩ := h.val x u e
  exact ⟨t, h1, h2, hV _ _ h3⟩
structure Dm (W : World) (S : Sch) (b b2 : Nat) : Prop where
  st : ∃ f D, DfM W b S.structs St.name StV f D
  en : ∃ f D, DfM W b2 S.enums En.name EnV f D
theorem Dm.next {W W' : World} {S : Sch} {b b2 : Nat} (h : Dm W S b b2) (hb : Below W.heap.size W W') : Dm W' S b b2 := by
  obtain ⟨f, D, h1⟩ := h.st
  obtain ⟨f2, D2, h2⟩ := h.en
  exact ⟨⟨f, D, h1.next (fun _ _ => StV.next hb) hb⟩, ⟨f2, D2, h2.next (fun _ _ => EnV.next hb) hb⟩⟩
theorem zeroSt (w : World) : (zeroValue 53).run Tryz.prog w = .ok (.agg #[.string ⟨#[]⟩, .slice none 0 0]) w := by kernel_rfl
theorem zeroEn (w : World) : (zeroValue 75).run Tryz.prog w = .ok (.agg #[.string ⟨#[]⟩, .slice none 0 0, .slice none 0 0]) w := by kernel_rfl
set_option maxRecDepth 100000 in
set_option maxHeartbeats 1000000 in
theorem hasStruct_any (S : Sch) (b b2 : Nat) (x : List UInt8) (w : World) (hx : x.length ≤ 9223372036854775807) (hD : Dm w S b b2) :
    Calls Tryz.prog 167 #[.agg #[.map (some b), .map (some b2)], .string (bs x)] w (Ib (.bool ((sns S).contains x)) w) := by
  obtain ⟨f, D, hd⟩ := hD.st
  obtain ⟨n, hn, hM⟩ := hd.map
  have hM1 := hM.next (ab1 w (Obj.cells #[.map (some b), .map (some b2)] 111))
  have hi := hd.is x
  obtain ⟨r, hr⟩ : ∃ r, (sns S).contains x = r := ⟨_, rfl⟩
  rw [hr]
  rw [show (f x).isSome = r from hi.trans hr] at hi
  have hv := hd.val x
  clear hi
  have hi2 : (f x).isSome = r := hd.is x ▸ hr
  clear hr
  obtain ⟨o, ho⟩ : ∃ o, f x = o := ⟨_, rfl⟩
  rw [ho] at hi2 hv
  cases o with
  | none =>
    subst hi2
    have hz : (f x).getD (.agg #[.string ⟨#[]⟩, .slice none 0 0]) = .agg #[.string ⟨#[]⟩, .slice none 0 0] := by rw [ho]; rfl
    have hz2 : (f x).isSome = false := by rw [ho]; rfl
    clear hv ho
    go_enter Tryz.func167, Tryz.ntmps167
    go_wp2_with (at_lookup; refine wpList_look_ok _ rfl (.tmp 9) (.tmp 10) 108 53 rfl Tryz.underlying108 (zeroSt _) hM1 rfl hx rfl ?_; rw [hz, hz2])
    go_ret
    exact ⟨rfl, ab2 _ _ _⟩
  | some u =>
    obtain rfl : true = r := hi2
    obtain ⟨t, -, -, hV⟩ := hv u rfl
    obtain ⟨A, c, rfl, -⟩ := hV
    have hz := congrArg (fun o => o.getD (.agg #[.string ⟨#[]⟩, .slice none 0 0])) ho
    have hz2 : (f x).isSome = true := by rw [ho]; rfl
    simp only [Option.getD_some] at hz
    clear hv ho
    go_enter Tryz.func167, Tryz.ntmps167
    go_wp2_with (at_lookup; refine wpList_look_ok _ rfl (.tmp 9) (.tmp 10) 108 53 rfl Tryz.underlying108 (zeroSt _) hM1 rfl hx rfl ?_; rw [hz, hz2])
    go_ret
    exact ⟨rfl, ab2 _ _ _⟩
set_option maxRecDepth 100000 in
set_option maxHeartbeats 1000000 in
theorem hasEnum_any (S : Sch) (b b2 : Nat) (x : List UInt8) (w : World) (hx : x.length ≤ 9223372036854775807) (hD : Dm w S b b2) :
    Calls Tryz.prog 168 #[.agg #[.map (some b), .map (some b2)], .string (bs x)] w (Ib (.bool ((ens S).contains x)) w) := by
  obtain ⟨f, D, hd⟩ := hD.en
  obtain ⟨n, hn, hM⟩ := hd.map
  have hM1 := hM.next (ab1 w (Obj.cells #[.map (some b), .map (some b2)] 111))
  have hi := hd.is x
  obtain ⟨r, hr⟩ : ∃ r, (ens S).contains x = r := ⟨_, rfl⟩
  rw [hr]
  rw [show (f x).isSome = r from hi.trans hr] at hi
  have hv := hd.val x
  clear hi
  have hi2 : (f x).isSome = r := hd.is x ▸ hr
  clear hr
  obtain ⟨o, ho⟩ : ∃ o, f x = o := ⟨_, rfl⟩
  rw [ho] at hi2 hv
  cases o with
  | none =>
    subst hi2
    have hz : (f x).getD (.agg #[.string ⟨#[]⟩, .slice none 0 0, .slice none 0 0]) = .agg #[.string ⟨#[]⟩, .slice none 0 0, .slice none 0 0] := by rw [ho]; rfl
    have hz2 : (f x).isSome = false := by rw [ho]; rfl
    clear hv ho
    go_enter Tryz.func168, Tryz.ntmps168
    go_wp2_with (at_lookup; refine wpList_look_ok _ rfl (.tmp 9) (.tmp 10) 109 75 rfl Tryz.underlying109 (zeroEn _) hM1 rfl hx rfl ?_; rw [hz, hz2])
    go_ret
    exact ⟨rfl, ab2 _ _ _⟩
  | some u =>
    obtain rfl : true = r := hi2
    obtain ⟨t, -, -, hV⟩ := hv u rfl
    obtain ⟨A, c, A2, c2, rfl, -, -⟩ := hV
    have hz := congrArg (fun o => o.getD (.agg #[.string ⟨#[]⟩, .slice none 0 0, .slice none 0 0])) ho
    have hz2 : (f x).isSome = true := by rw [ho]; rfl
    simp only [Option.getD_some] at hz
    clear hv ho
    go_enter Tryz.func168, Tryz.ntmps168
    go_wp2_with (at_lookup; refine wpList_look_ok _ rfl (.tmp 9) (.tmp 10) 109 75 rfl Tryz.underlying109 (zeroEn _) hM1 rfl hx rfl ?_; rw [hz, hz2])
    go_ret
    exact ⟨rfl, ab2 _ _ _⟩
set_option maxRecDepth 100000 in
set_option maxHeartbeats 2000000 in
theorem isSize_any (k s : Int) (w : World) : Calls Tryz.prog 166 #[.int .i64 k, .int .i64 s] w (Is (.bool (szOk k s)) w) := by
  by_cases h1 : k = 1
  · subst h1
    go_enter Tryz.func166, Tryz.ntmps166
    go_wp2_with fail
    all_goals
      go_ret
      refine ret_bool3 ?_
      simp [szOk]
      try omega
  by_cases h2 : k = 2
  · subst h2
    go_enter Tryz.func166, Tryz.ntmps166
    go_wp2_with fail
    all_goals
      go_ret
      refine ret_bool3 ?_
      simp [szOk]
      try omega
  by_cases h3 : k = 3
  · subst h3
    go_enter Tryz.func166, Tryz.ntmps166
    go_wp2_with fail
    all_goals
      go_ret
      refine ret_bool3 ?_
      simp [szOk]
      try omega
  by_cases h4 : k = 4
  · subst h4
    go_enter Tryz.func166, Tryz.ntmps166
    go_wp2_with fail
    all_goals
      go_ret
      refine ret_bool3 ?_
      simp [szOk]
      try omega
  by_cases h5 : k = 5
  · subst h5
    go_enter Tryz.func166, Tryz.ntmps166
    go_wp2_with fail
    all_goals
      go_ret
      refine ret_bool3 ?_
      simp [szOk]
      try omega
  by_cases h6 : k = 6
  · subst h6
    go_enter Tryz.func166, Tryz.ntmps166
    go_wp2_with fail
    all_goals
      go_ret
      refine ret_bool3 ?_
      simp [szOk]
      try omega
  by_cases h7 : k = 7
  · subst h7
    go_enter Tryz.func166, Tryz.ntmps166
    go_wp2_with fail
    all_goals
      go_ret
      refine ret_bool3 ?_
      simp [szOk]
      try omega
  have hz : szOk k s = false := by simp [szOk, h1, h2, h3, h4, h5, h6, h7]
  rw [hz]
  have d1 : (k == 1) = false := by simpa using h1
  have d2 : (k == 2) = false := by simpa using h2
  have d3 : (k == 3) = false := by simpa using h3
  have d4 : (k == 4) = false := by simpa using h4
  have d5 : (k == 5) = false := by simpa using h5
  have d6 : (k == 6) = false := by simpa using h6
  have d7 : (k == 7) = false := by simpa using h7
  clear h1 h2 h3 h4 h5 h6 h7 hz
  go_enter Tryz.func166, Tryz.ntmps166
  go_wp2_with fail
  go_ret
  exact ret_bool rfl
end Go.Proofs.YthfodpbecddheaaGreatDoor
/-
  The developers' valid types. No conditions beyond those that each names.
-/
namespace Go.Proofs.YthfodpbecddheaaGreatDoor
open Go.RowKit Go.Maps Go.Sort
/-- Go's own bound of a name's length, in a type and within it. -/
def nok : Ty → Prop
  | .mk _ _ n e => n.length ≤ 9223372036854775807 ∧ noks e
where noks : List Ty → Prop
  | [] => True
  | t :: ts => nok t ∧ noks ts
theorem rights_len (S : Sch) (e : List Ty) (h : e.length ≠ 1) : rights S e = false := by
  match e, h with
  | [], _ => rw [rights]
  | [_], h => exact absurd rfl h
  | a :: b :: r, _ => rw [rights]; simp
set_option maxRecDepth 100000 in
set_option maxHeartbeats 4000000 in
theorem permits_any (N : Nat) : ∀ (S : Sch) (t : Ty) (b b2 : Nat) (u : Value) (w : World), SizeOf.sizeOf t < N → nok t → lok t → Dm w S b b2 → TyV w t u →
    Calls Tryz.prog 117 #[.agg #[.map (some b), .map (some b2)], u] w (Ib (.bool (right S t)) w) := by
  induction N with
  | zero => intro S t b b2 u w h; omega
  | succ N ih =>
    intro S t b b2 u w hN hnl hlk hD hT
    obtain ⟨k, s, n, e⟩ := t
    have hlen : e.length ≤ 9223372036854775807 := lok_len hlk
    have hnk := hnl
    have hn2 : n.length ≤ 9223372036854775807 := by rw [nok] at hnl; exact hnl.1
    obtain ⟨A3, c3, rfl, hR⟩ := TyV.mk_.1 hT
    obtain ⟨r, hr⟩ : ∃ r, right S (.mk k s n e) = r := ⟨_, rfl⟩
    rw [hr]
    rw [right_eq] at hr
    obtain ⟨z, hz⟩ : ∃ z, szOk k s = z := ⟨_, rfl⟩
    have cZ := fun W => isSize_any k s W
    rw [hz] at hr cZ
    cases z with
    | false =>
      rw [Bool.false_and] at hr
      subst hr
      clear hz hR hT hD ih
      go_enter Tryz.func117, Tryz.ntmps117
      go_wp2_with fail
      refine (cZ _).mono ?_
      rintro e1 w1 ⟨rfl, rfl⟩
      go_wp2_with fail
      go_ret
      exact ⟨rfl, ab2 _ _ _⟩
    | true =>
      rw [Bool.true_and] at hr
      by_cases h5 : k = 5
      · subst h5
        rw [if_pos rfl] at hr
        have hB1 := (Bx.new2 w 111 (.map (some b)) (.map (some b2))).next (ab1 _ (Obj.cells #[.int .i64 5, .int .i64 s, .string (bs n), .slice A3 e.length c3] 29))
        have hB2 := Bx.new4 (w.alloc (Obj.cells #[.map (some b), .map (some b2)] 111)) 29 (.int .i64 5) (.int .i64 s) (.string (bs n)) (.slice A3 e.length c3)
        have hz1 : (w.alloc (Obj.cells #[.map (some b), .map (some b2)] 111)).heap.size = w.heap.size + 1 := by simp
        rw [hz1] at hB2
        have hab := ab2 w (Obj.cells #[.map (some b), .map (some b2)] 111) (Obj.cells #[.int .i64 5, .int .i64 s, .string (bs n), .slice A3 e.length c3] 29)
        have k2 := fun d os => cell_regrown (hB2.c 2 rfl) d os
        have k3 := fun d os => cell_regrown (hB2.c 3 rfl) d os
        have j0 := fun d os => cell_regrown (hB1.c 0 rfl) d os
        have j1 := fun d os => cell_regrown (hB1.c 1 rfl) d os
        clear hB1 hB2 hz1 hz
        by_cases hn : n = []
        · subst hn
          rw [decide_eq_true rfl, Bool.true_and] at hr
          have q0 : (bs ([] : List UInt8)).toList = [] := toList_bs []
          have q1 : ((bs ([] : List UInt8)).toList == []) = true := by rw [toList_bs]; rfl
          by_cases hl : e.length = 1
          · obtain ⟨t, rfl⟩ : ∃ t, e = [t] := by
              match e, hl with
              | [t], _ => exact ⟨t, rfl⟩
            have hr2 : right S t = r := by rw [← hr, rights]; simp
            obtain ⟨a, rfl, hA⟩ := hR.get (i := 0) (by show 0 < 1; omega)
            rw [Nat.zero_mul] at hA
            have hA : TyA w t a := hA
            have e9 : ([t] : List Ty).length = 1 := rfl
            rw [e9] at k2 k3 j0 j1 hab ⊢
            obtain ⟨A4, c4, e0, e1, e2, e3, hV⟩ := hA.val
            have hblk : a.block < w.heap.size := blk_lt e0
            have cR := fun W h => ih S t b b2 _ W (by have h8 := Ty.mk.sizeOf_spec 5 s [] [t]; have h9 := List.cons.sizeOf_spec t []; omega) (by rw [nok, nok.noks] at hnk; exact hnk.2.1) (lok_get (t := .mk 5 s [] [t]) hlk (i := 0) (by show 0 < 1; omega)) (hD.next h) (TyV.next h hV)
            rw [hr2] at cR
            have i0 := fun d os => cell_regrown (cell_next hab e0) d os
            have i1 := fun d os => cell_regrown (cell_next hab e1) d os
            have i2 := fun d os => cell_regrown (cell_next hab e2) d os
            have i3 := fun d os => cell_regrown (cell_next hab e3) d os
            have cN := fun d os => Calls.regrown_of (cR (grow (redrawn ((w.alloc (Obj.cells #[.map (some b), .map (some b2)] 111)).alloc (Obj.cells #[.int .i64 5, .int .i64 s, .string (bs []), .slice (some a) 1 c3] 29)) d) os) (Below.next hab (below_regrown _ d os)))
            clear hT hr hr2 hR hV hA cR hlk hnk hab e0 e1 e2 e3 ih hD
            go_enter Tryz.func117, Tryz.ntmps117
            go_wp2_with fail
            refine (cZ _).mono ?_
            rintro e1 w1 ⟨rfl, rfl⟩
            go_wp2_with fail
            refine wp_region_quiet_below (by kernel_rfl) (by kernel_rfl) ?_
            repeat (quiet_step (exact cN _ _))
            refine wpQuiet_nil ?_
            intro _ hw'
            obtain ⟨⟨dq, osq⟩, hw''⟩ := hw'
            subst hw''
            go_wp2_with fail
            go_ret
            exact ⟨rfl, Below.next (ab2 _ _ _) (below_regrown _ _ _)⟩
          · have hr2 : false = r := by rw [← hr, rights_len S e hl]
            subst hr2
            generalize e.length = m at *
            have d4 : ((m : Int) == 1) = false := by rw [beq_eq_false_iff_ne]; omega
            clear hT hr hR hab ih hD hlk hnk hl j0 j1
            go_enter Tryz.func117, Tryz.ntmps117
            go_wp2_with fail
            refine (cZ _).mono ?_
            rintro e1 w1 ⟨rfl, rfl⟩
            go_wp2_with fail
            refine wp_region_quiet_below (by kernel_rfl) (by kernel_rfl) ?_
            repeat (quiet_step (fail))
            refine wpQuiet_nil ?_
            intro _ hw'
            obtain ⟨⟨dq, osq⟩, hw''⟩ := hw'
            subst hw''
            go_wp2_with fail
            go_ret
            exact ⟨rfl, Below.next (ab2 _ _ _) (below_regrown _ _ _)⟩
        · rw [decide_eq_false hn, Bool.false_and] at hr
          subst hr
          have q0 : ¬ (bs n).toList = [] := by rw [toList_bs]; exact hn
          have q1 : ((bs n).toList == []) = false := by rw [toList_bs]; simpa using hn
          generalize e.length = m at *
          clear hT hR hab ih hD hlk hnk hn j0 j1
          go_enter Tryz.func117, Tryz.ntmps117
          go_wp2_with fail
          refine (cZ _).mono ?_
          rintro e1 w1 ⟨rfl, rfl⟩
          go_wp2_with fail
          refine wp_region_quiet_below (by kernel_rfl) (by kernel_rfl) ?_
          repeat (quiet_step (fail))
          refine wpQuiet_nil ?_
          intro _ hw'
          obtain ⟨⟨dq, osq⟩, hw''⟩ := hw'
          subst hw''
          go_wp2_with fail
          go_ret
          exact ⟨rfl, Below.next (ab2 _ _ _) (below_regrown _ _ _)⟩
      · rw [if_neg h5] at hr
        have d5 : (k == 5) = false := by simpa using h5
        by_cases h6 : k = 6
        · subst h6
          rw [if_pos rfl] at hr
          have cS := fun W h => hasStruct_any S b b2 n W hn2 (hD.next h)
          generalize (sns S).contains n = y at *
          have e1 : decide (e.length = 0) = ((e.length : Int) == 0) := by rw [Bool.eq_iff_iff]; simp
          rw [e1] at hr
          have hB2 := Bx.new4 (w.alloc (Obj.cells #[.map (some b), .map (some b2)] 111)) 29 (.int .i64 6) (.int .i64 s) (.string (bs n)) (.slice A3 e.length c3)
          have hz1 : (w.alloc (Obj.cells #[.map (some b), .map (some b2)] 111)).heap.size = w.heap.size + 1 := by simp
          rw [hz1] at hB2
          generalize e.length = m at *
          clear hz hR hT hD ih hz1 hlk hnk e1
          cases y with
          | false =>
            rw [Bool.false_and] at hr
            subst hr
            go_enter Tryz.func117, Tryz.ntmps117
            go_wp2_with fail
            refine (cZ _).mono ?_
            rintro e1 w1 ⟨rfl, rfl⟩
            go_wp2_with fail
            refine (cS _ (ab2 _ _ _)).mono ?_
            rintro e1 w1 ⟨rfl, hb1⟩
            go_wp2_with fail
            go_ret
            exact ⟨rfl, Below.next (ab2 _ _ _) hb1⟩
          | true =>
            rw [Bool.true_and] at hr
            subst hr
            go_enter Tryz.func117, Tryz.ntmps117
            go_wp2_with fail
            refine (cZ _).mono ?_
            rintro e1 w1 ⟨rfl, rfl⟩
            go_wp2_with fail
            refine (cS _ (ab2 _ _ _)).mono ?_
            rintro e1 w1 ⟨rfl, hb1⟩
            have b3 := (hB2.next hb1).c 3 rfl
            clear hB2 cS
            go_wp2_with fail
            go_ret
            exact ⟨rfl, Below.next (ab2 _ _ _) hb1⟩
        · rw [if_neg h6] at hr
          have d6 : (k == 6) = false := by simpa using h6
          by_cases h7 : k = 7
          · subst h7
            rw [if_pos rfl] at hr
            have cS := fun W h => hasEnum_any S b b2 n W hn2 (hD.next h)
            generalize (ens S).contains n = y at *
            have e1 : decide (e.length = 0) = ((e.length : Int) == 0) := by rw [Bool.eq_iff_iff]; simp
            rw [e1] at hr
            have hB2 := Bx.new4 (w.alloc (Obj.cells #[.map (some b), .map (some b2)] 111)) 29 (.int .i64 7) (.int .i64 s) (.string (bs n)) (.slice A3 e.length c3)
            have hz1 : (w.alloc (Obj.cells #[.map (some b), .map (some b2)] 111)).heap.size = w.heap.size + 1 := by simp
            rw [hz1] at hB2
            generalize e.length = m at *
            clear hz hR hT hD ih hz1 hlk hnk e1
            cases y with
            | false =>
              rw [Bool.false_and] at hr
              subst hr
              go_enter Tryz.func117, Tryz.ntmps117
              go_wp2_with fail
              refine (cZ _).mono ?_
              rintro e1 w1 ⟨rfl, rfl⟩
              go_wp2_with fail
              refine (cS _ (ab2 _ _ _)).mono ?_
              rintro e1 w1 ⟨rfl, hb1⟩
              go_wp2_with fail
              go_ret
              exact ⟨rfl, Below.next (ab2 _ _ _) hb1⟩
            | true =>
              rw [Bool.true_and] at hr
              subst hr
              go_enter Tryz.func117, Tryz.ntmps117
              go_wp2_with fail
              refine (cZ _).mono ?_
              rintro e1 w1 ⟨rfl, rfl⟩
              go_wp2_with fail
              refine (cS _ (ab2 _ _ _)).mono ?_
              rintro e1 w1 ⟨rfl, hb1⟩
              have b3 := (hB2.next hb1).c 3 rfl
              clear hB2 cS
              go_wp2_with fail
              go_ret
              exact ⟨rfl, Below.next (ab2 _ _ _) hb1⟩
          · rw [if_neg h7] at hr
            have d7 : (k == 7) = false := by simpa using h7
            generalize e.length = m at *
            clear hz hR hT hD ih h5 h6 h7 hlk hnk
            by_cases hn : n = []
            · subst hn
              have q0 : (bs ([] : List UInt8)).toList = [] := toList_bs []
              have e1 : decide (m = 0) = ((m : Int) == 0) := by rw [Bool.eq_iff_iff]; simp
              rw [decide_eq_true rfl, Bool.true_and, e1] at hr
              subst hr
              go_enter Tryz.func117, Tryz.ntmps117
              go_wp2_with fail
              refine (cZ _).mono ?_
              rintro e1 w1 ⟨rfl, rfl⟩
              go_wp2_with fail
              go_ret
              exact ⟨rfl, ab2 _ _ _⟩
            · have q0 : ¬ (bs n).toList = [] := by rw [toList_bs]; exact hn
              rw [decide_eq_false hn, Bool.false_and] at hr
              subst hr
              clear hn
              go_enter Tryz.func117, Tryz.ntmps117
              go_wp2_with fail
              refine (cZ _).mono ?_
              rintro e1 w1 ⟨rfl, rfl⟩
              go_wp2_with fail
              go_ret
              exact ⟨rfl, ab2 _ _ _⟩
end Go.Proofs.YthfodpbecddheaaGreatDoor
/-
  The developers' test of a struct. No conditions beyond those that each names, and what the library's variables hold.
-/
namespace Go.Proofs.YthfodpbecddheaaGreatDoor
open Go.RowKit Go.Maps
/-- A field's number before number k. -/
def prv (l : List Fd) (k : Nat) : Int := if k = 0 then 0 else (l.getD (k - 1) fd0).num
set_option maxRecDepth 100000 in
set_option maxHeartbeats 4000000 in
theorem checkStruct_any (W0 : World) (S : Sch) (t : St) (v : Value) (b n b1 b2 : Nat) (l : List (List UInt8)) (w : World) (hv : StV W0 t v) (hD : Dm W0 S b1 b2) (hb0 : Below W0.heap.size W0 w) (hlow : W0.heap.size ≤ b) (hM : Ms w b n l) (hE : Env W0) (hn : n ≤ 1000)
    (h40 : t.name.length ≤ 40) (hq : t.fields.length ≤ 18) (hs : ∀ f ∈ t.fields, f.name.length ≤ 40 ∧ nok f.type ∧ lok f.type) :
    Calls Tryz.prog 61 #[v, .map (some b), .agg #[.map (some b1), .map (some b2)]] w (CkP (stErr S l t) t.name l b n w) := by
  have hmm := @run_makeMap Tryz.prog
  obtain ⟨A, c, rfl, hVf⟩ := hv
  have hblt := hM.lt
  obtain ⟨q, hm⟩ : ∃ q, t.fields.length = q := ⟨_, rfl⟩
  have HM := Lib.hid hm
  rw [hm] at hq ⊢
  have hz0 : (w.alloc (Obj.cells #[.string (bs t.name), .slice A q c] 53)).heap.size = w.heap.size + 1 := by simp
  have hB0 := (Bx.new2 w 53 (.string (bs t.name)) (.slice A q c)).next (ab1 _ (Obj.cells #[.map (some b1), .map (some b2)] 111))
  have hC0 := Bx.new2 (w.alloc (Obj.cells #[.string (bs t.name), .slice A q c] 53)) 111 (.map (some b1)) (.map (some b2))
  rw [hz0] at hC0
  obtain ⟨wa, hwa⟩ : ∃ wa, (w.alloc (Obj.cells #[.string (bs t.name), .slice A q c] 53)).alloc (Obj.cells #[.map (some b1), .map (some b2)] 111) = wa := ⟨_, rfl⟩
  have hga : w.grownBy wa (some b) := by rw [← hwa]; exact gb_of (ab2 w _ _) _
  have hba : Below W0.heap.size W0 wa := by rw [← hwa]; exact (hb0.alloc hb0.size _).alloc (Nat.le_trans hb0.size (ab1 _ _).size) _
  have hMa : Ms wa b n l := by rw [← hwa]; exact hM.next (ab2 _ _ _)
  have cA := admitT_any t.name b n l wa (by omega) (hE.next hba) hMa hn
  rw [← hwa] at cA
  rw [hwa] at hB0 hC0
  obtain ⟨r, hr⟩ : ∃ r, stErr S l t = r := ⟨_, rfl⟩
  rw [hr]
  unfold stErr at hr
  rw [hm] at hr
  have HWA := Lib.hid hwa
  clear hm hM hMa hz0 hwa
  cases g1 : isTn t.name
  · rw [g1] at cA hr
    rw [if_pos rfl] at hr
    subst hr
    clear g1
    go_enter Tryz.func61, Tryz.ntmps61
    go_wp2_with fail
    refine cA.mono ?_
    rintro e w1 ⟨rfl, hg, -, -⟩
    rw [HWA.out] at hg
    rw [show adE false l t.name = 5 from rfl]
    go_wp2_with fail
    go_ret
    exact CkP.bad (by decide) rfl (hga.trans hg)
  · rw [g1] at cA hr
    rw [if_neg (by decide)] at hr
    cases g2 : l.contains t.name
    · rw [g2, if_neg (by decide)] at hr
      have ha : adE true l t.name = 0 := by unfold adE; rw [g2]; rfl
      have HR := Lib.hid hr
      have ha := Lib.hid ha
      clear g1 g2 hr
      go_enter Tryz.func61, Tryz.ntmps61
      go_wp2_with fail
      refine cA.mono ?_
      rintro e w1 ⟨rfl, hg, -, hz⟩
      rw [HWA.out] at hg
      rw [ha.out]
      have hM1 := hz ha.out
      have hB1 := hB0.kept hg (by omega)
      have hC1 := hC0.kept hg (by omega)
      have x0 := hB1.c 0 rfl
      have x1 := hB1.c 1 rfl
      have hb1 := hba.grown hg hba.size (fun k hk => by cases hk; exact hlow)
      have hE1 : Env w1 := hE.next hb1
      have hgw := hga.trans hg
      have hN0 := Ms.made w1
      have hlt0 := hC1.lt
      have hltb := hB1.lt
      have hB2 := hB1.next (ab1 w1 (.map #[] 0))
      have hC2 := hC1.next (ab1 w1 (.map #[] 0))
      clear hz hB0 hC0 cA hga hba HWA
      go_wp2_with fail
      clear x0 x1
      go_loopw [9, 24] (fun p i wr => ∃ (k : Nat) (z : Int), k ≤ q ∧ i = .int .i64 (k : Int) ∧ p = .int .i64 z ∧ Hid (z = prv t.fields k) ∧ Hid (∀ j, j < k → fdErr S t j = 0) ∧ Bx wr w.heap.size [.string (bs t.name), .slice A q c] ∧ Bx wr (w.heap.size + 1) [.map (some b1), .map (some b2)] ∧ Ms wr w1.heap.size k ((t.fields.take k).map Fd.name) ∧ Below w1.heap.size w1 wr) (fun _ i _ => q - (intOf i).toNat)
      case atStart => exact ⟨0, 0, by omega, rfl, rfl, Lib.hid rfl, Lib.hid fun j h => by omega, hB2, hC2, hN0, ab1 _ _⟩
      case round =>
        obtain ⟨k, zp, hk, rfl, rfl, hZ, hI, hBr, hCr, hN, hbr⟩ := hrel
        have hbW := Below.next hb1 hbr
        have hlt1 : w1.heap.size < wr.heap.size := hN.lt
        clear hN0 hB2 hC2
        by_cases hlt : k < q
        · obtain ⟨a, rfl, hA⟩ := hVf.get (i := k) (by rw [HM.out]; exact hlt)
          have hkm : k < t.fields.length := by rw [HM.out]; exact hlt
          have hnx : (t.fields.take (k + 1)).map Fd.name = (t.fields.take k).map Fd.name ++ [(t.fields[k]'hkm).name] := by rw [List.take_succ_eq_append_getElem hkm, List.map_append]; rfl
          have hcs := fdErr_cases S t k
          have hpv : prv t.fields (k + 1) = (t.fields[k]'hkm).num := by unfold prv; rw [if_neg (by omega), Nat.add_sub_cancel, getD_of hkm]
          have hz1 : (0 < k ∧ (t.fields[k]'hkm).num ≤ (t.fields.getD (k - 1) fd0).num) → (t.fields[k]'hkm).num ≤ zp := fun h => by
            rw [hZ.out]; unfold prv; rw [if_neg (by omega)]; exact h.2
          have hz2 : 1 ≤ (t.fields[k]'hkm).num → (0 < k → (t.fields.getD (k - 1) fd0).num < (t.fields[k]'hkm).num) → ¬ (t.fields[k]'hkm).num ≤ zp := fun h0 h => by
            rw [hZ.out]; unfold prv
            by_cases hk0 : k = 0
            · rw [if_pos hk0]; omega
            · rw [if_neg hk0]; have := h (by omega); omega
          rw [getD_of hkm] at hcs
          obtain ⟨hs1, hs2, hs3⟩ := hs _ (List.getElem_mem hkm)
          obtain ⟨A3, c3, f0, f1, f2, f3, f4, f5, f6, -, hT⟩ := hA.val
          replace f0 := cell_next hbW f0
          replace f1 := cell_next hbW f1
          replace f2 := cell_next hbW f2
          replace f3 := cell_next hbW f3
          replace f4 := cell_next hbW f4
          replace f5 := cell_next hbW f5
          replace f6 := cell_next hbW f6
          have hblk : (a.add (k * 7)).block < wr.heap.size := blk_lt f0
          obtain ⟨o, ho⟩ : ∃ o, Obj.cells #[Value.int .i64 (t.fields[k]'hkm).num, .string (bs (t.fields[k]'hkm).name), .int .i64 (t.fields[k]'hkm).type.kind, .int .i64 (t.fields[k]'hkm).type.size, .string (bs (t.fields[k]'hkm).type.name), .slice A3 (t.fields[k]'hkm).type.elem.length c3, .bool (t.fields[k]'hkm).opt] 57 = o := ⟨_, rfl⟩
          have hG := Bx.new7 wr 57 (.int .i64 (t.fields[k]'hkm).num) (.string (bs (t.fields[k]'hkm).name)) (.int .i64 (t.fields[k]'hkm).type.kind) (.int .i64 (t.fields[k]'hkm).type.size) (.string (bs (t.fields[k]'hkm).type.name)) (.slice A3 (t.fields[k]'hkm).type.elem.length c3) (.bool (t.fields[k]'hkm).opt)
          have hbx := Below.next hbW (ab1 wr o)
          have cN := admitN_any (t.fields[k]'hkm).name w1.heap.size k ((t.fields.take k).map Fd.name) (wr.alloc o) (by omega) (hE.next hbx) (hN.next (ab1 _ _)) (by omega)
          have cP := fun W hW => permits_any (SizeOf.sizeOf (t.fields[k]'hkm).type + 1) S (t.fields[k]'hkm).type b1 b2 _ W (by omega) hs2 hs3 (hD.next hW) (hT.next hW)
          have hfe : ∀ e, fdErr S t k = e → e ≠ 0 → r = e := fun e he h0 => by rw [← HR.out]; exact fe_at hlt hI.out he h0
          have hnxt := fun h => before_succ (p := fun j => fdErr S t j = 0) hI.out (k := k) h
          have x0 := hBr.c 0 rfl
          have x1 := hBr.c 1 rfl
          rw [← ho] at cN hbx
          generalize t.fields[k]'hkm = f at *
          clear ho o
          rcases hcs with ⟨p1, pe⟩ | ⟨p1, p2, p3, pe⟩ | ⟨p1, p2, p3, p4, pe⟩ | ⟨p1, p2, p3, p4, p5, pe⟩ | ⟨p1, p2, p3, p4, p5, p6, pe⟩ | ⟨p1, p2, p3, p4, p5, p6, pe⟩
          · obtain rfl := hfe _ pe (by decide)
            clear hfe hnxt hz1 hz2 hpv hnx hA hT cN cP pe
            by_cases g5 : f.num < 1
            · have d1 : decide (f.num < 1) = true := decide_eq_true g5
              clear p1 g5
              go_wp2_with fail
              go_ret
              exact CkP.bad (by decide) rfl (gb_next hgw (Below.next hbr (ab1 _ _)))
            · have d1 : decide (f.num < 1) = false := decide_eq_false g5
              have d2 : decide (127 < f.num) = true := by rw [decide_eq_true_eq]; omega
              clear p1 g5
              go_wp2_with fail
              go_ret
              exact CkP.bad (by decide) rfl (gb_next hgw (Below.next hbr (ab1 _ _)))
          · obtain rfl := hfe _ pe (by decide)
            have d1 : decide (f.num < 1) = false := by rw [decide_eq_false_iff_not]; omega
            have d2 : decide (127 < f.num) = false := by rw [decide_eq_false_iff_not]; omega
            have d3 : decide (f.num ≤ zp) = true := decide_eq_true (hz1 p3)
            clear hfe hnxt hz1 hz2 hpv hnx hA hT cN cP pe p1 p2 p3
            go_wp2_with fail
            go_ret
            exact CkP.bad (by decide) rfl (gb_next hgw (Below.next hbr (ab1 _ _)))
          · obtain rfl := hfe _ pe (by decide)
            have pe2 := Lib.hid (hz2 p1 p3)
            have d3 : decide (f.num ≤ zp) = false := decide_eq_false pe2.out
            clear hfe hnxt hz1 hpv hnx hA hT cP pe
            have d1 : decide (f.num < 1) = false := by rw [decide_eq_false_iff_not]; omega
            have d2 : decide (127 < f.num) = false := by rw [decide_eq_false_iff_not]; omega
            have d3 : decide (f.num ≤ zp) = false := decide_eq_false (hz2 p1 p3)
            have HA2 := Lib.hid (show adE (isN f.name) ((t.fields.take k).map Fd.name) f.name = 5 by unfold adE; rw [p4]; rfl)
            go_wp2_with fail
            refine cN.mono ?_
            rintro e w2 ⟨rfl, hg2, -, hq2⟩
            rw [HA2.out]
            clear hq2 p1 p2 p3 p4 hz2
            go_wp2_with fail
            go_ret
            exact CkP.bad (by decide) rfl (gb_next hgw ((Below.next hbr (ab1 _ _)).grown hg2 (Below.next hbr (ab1 _ _)).size (fun k hk => by cases hk; exact Nat.le_refl _)))
          · obtain rfl := hfe _ pe (by decide)
            clear hfe hnxt hz1 hpv hnx hA hT cP pe
            have d1 : decide (f.num < 1) = false := by rw [decide_eq_false_iff_not]; omega
            have d2 : decide (127 < f.num) = false := by rw [decide_eq_false_iff_not]; omega
            have d3 : decide (f.num ≤ zp) = false := decide_eq_false (hz2 p1 p3)
            have HA2 := Lib.hid (show adE (isN f.name) ((t.fields.take k).map Fd.name) f.name = 7 by unfold adE; rw [p4, p5]; rfl)
            go_wp2_with fail
            refine cN.mono ?_
            rintro e w2 ⟨rfl, hg2, -, hq2⟩
            rw [HA2.out]
            clear hq2 p1 p2 p3 p4 p5 hz2
            go_wp2_with fail
            go_ret
            exact CkP.bad (by decide) rfl (gb_next hgw ((Below.next hbr (ab1 _ _)).grown hg2 (Below.next hbr (ab1 _ _)).size (fun k hk => by cases hk; exact Nat.le_refl _)))
          · obtain rfl := hfe _ pe (by decide)
            clear hfe hnxt hz1 hpv hnx hA hT pe
            have d1 : decide (f.num < 1) = false := by rw [decide_eq_false_iff_not]; omega
            have d2 : decide (127 < f.num) = false := by rw [decide_eq_false_iff_not]; omega
            have d3 : decide (f.num ≤ zp) = false := decide_eq_false (hz2 p1 p3)
            have HA2 := Lib.hid (show adE (isN f.name) ((t.fields.take k).map Fd.name) f.name = 0 by unfold adE; rw [p4, p5]; rfl)
            go_wp2_with fail
            refine cN.mono ?_
            rintro e w2 ⟨rfl, hg2, -, hq2⟩
            rw [HA2.out]
            have hN2 := hq2 HA2.out
            have hB3 := (hBr.next (ab1 _ _)).kept hg2 (by omega)
            have hC3 := (hCr.next (ab1 _ _)).kept hg2 (by omega)
            have hG3 := hG.kept hg2 (by omega)
            have hb3 := (Below.next hbr (ab1 _ _)).grown hg2 (Below.next hbr (ab1 _ _)).size (fun k hk => by cases hk; exact Nat.le_refl _)
            have hbW3 := hbx.grown hg2 hbx.size (fun k hk => by cases hk; exact hb1.size)
            have c0 := hC3.c 0 rfl
            have c1 := hC3.c 1 rfl
            have k0 := hG3.c 0 rfl
            have k2 := hG3.c 2 rfl
            have k3 := hG3.c 3 rfl
            have k4 := hG3.c 4 rfl
            have k5 := hG3.c 5 rfl
            clear hq2 hz2 cN
            go_wp2_with fail
            refine (cP _ hbW3).mono ?_
            rintro e w3 ⟨rfl, hb4⟩
            rw [p6]
            clear p1 p2 p3 p4 p5 p6 cP c0 c1 k0 k2 k3 k4 k5
            go_wp2_with fail
            go_ret
            exact CkP.bad (by decide) rfl (gb_next hgw (Below.next hb3 hb4))
          · have HX := Lib.hid (hnxt pe)
            have HT := Lib.hid hnx
            have HP := Lib.hid hpv.symm
            clear hfe hnxt hz1 hpv hnx hA hT pe
            have d1 : decide (f.num < 1) = false := by rw [decide_eq_false_iff_not]; omega
            have d2 : decide (127 < f.num) = false := by rw [decide_eq_false_iff_not]; omega
            have d3 : decide (f.num ≤ zp) = false := decide_eq_false (hz2 p1 p3)
            have HA2 := Lib.hid (show adE (isN f.name) ((t.fields.take k).map Fd.name) f.name = 0 by unfold adE; rw [p4, p5]; rfl)
            go_wp2_with fail
            refine cN.mono ?_
            rintro e w2 ⟨rfl, hg2, -, hq2⟩
            rw [HA2.out]
            have hN2 := hq2 HA2.out
            have hB3 := (hBr.next (ab1 _ _)).kept hg2 (by omega)
            have hC3 := (hCr.next (ab1 _ _)).kept hg2 (by omega)
            have hG3 := hG.kept hg2 (by omega)
            have hb3 := (Below.next hbr (ab1 _ _)).grown hg2 (Below.next hbr (ab1 _ _)).size (fun k hk => by cases hk; exact Nat.le_refl _)
            have hbW3 := hbx.grown hg2 hbx.size (fun k hk => by cases hk; exact hb1.size)
            have c0 := hC3.c 0 rfl
            have c1 := hC3.c 1 rfl
            have k0 := hG3.c 0 rfl
            have k2 := hG3.c 2 rfl
            have k3 := hG3.c 3 rfl
            have k4 := hG3.c 4 rfl
            have k5 := hG3.c 5 rfl
            clear hq2 hz2 cN
            go_wp2_with fail
            refine (cP _ hbW3).mono ?_
            rintro e w3 ⟨rfl, hb4⟩
            rw [p6]
            clear p1 p2 p3 p4 p5 p6 cP c0 c1 k0 k2 k3 k4 k5
            have k0 := (hG3.next hb4).c 0 rfl
            go_wp2_with fail
            go_roundw
            case rel => exact ⟨k + 1, f.num, by omega, by go_num, rfl, HP, HX, hB3.next hb4, hC3.next hb4, HT.out ▸ hN2.next hb4, Below.next hb3 hb4⟩
            case measure => simp [intOf]; omega
        · obtain rfl : k = q := by omega
          have H0 := Lib.hid (show r = 0 by rw [← HR.out]; exact fe_zero hI.out)
          have x0 := hBr.c 0 rfl
          have x1 := hBr.c 1 rfl
          clear hI
          go_wp2_with fail
          go_ret
          exact CkP.ok H0.out (gb_next hgw hbr) (hM1.next hbr)
    · rw [g2, if_pos rfl] at hr
      subst hr
      have ha : adE true l t.name = 7 := by unfold adE; rw [g2]; rfl
      clear g1 g2
      go_enter Tryz.func61, Tryz.ntmps61
      go_wp2_with fail
      refine cA.mono ?_
      rintro e w1 ⟨rfl, hg, -, -⟩
      rw [HWA.out] at hg
      rw [ha]
      go_wp2_with fail
      go_ret
      exact CkP.bad (by decide) rfl (hga.trans hg)
end Go.Proofs.YthfodpbecddheaaGreatDoor
/-
  The developers' definitions by name: how they are made; the type within all lists. No conditions beyond those that each names.
-/
namespace Go.Proofs.YthfodpbecddheaaGreatDoor
open Go.RowKit Go.Maps
theorem DfM.nil {α : Type} (W : World) (b : Nat) (key : α → List UInt8) (V : World → α → Value → Prop) {D : DataW Value} (h : Mp W b 0 (fun _ => none) D) : DfM W b [] key V (fun _ => none) D :=
  ⟨⟨0, by omega, h⟩, fun _ => rfl, fun _ _ h => by cases h⟩
/-- One definition more. -/
theorem putF_is {α : Type} {l : List α} {key : α → List UInt8} {f : List UInt8 → Option Value} (h : ∀ x, (f x).isSome = (l.map key).contains x) (t : α) (u : Value) (x : List UInt8) : (putF f (key t) u x).isSome = ((l ++ [t]).map key).contains x := by
  unfold putF
  by_cases e : x = key t
  · subst e; rw [if_pos rfl]; simp
  · rw [if_neg e, h x]; simp [e]
theorem putF_val {α : Type} {l : List α} {key : α → List UInt8} {V : α → Value → Prop} {f : List UInt8 → Option Value} (h : ∀ x u, f x = some u → ∃ t ∈ l, key t = x ∧ V t u) {t : α} {u : Value} (hV : V t u) (x : List UInt8) (u' : Value) (e : putF f (key t) u x = some u') : ∃ t' ∈ l ++ [t], key t' = x ∧ V t' u' := by
  unfold putF at e
  split at e
  · rename_i e1
    cases e
    exact ⟨t, by simp, e1.symm, hV⟩
  · obtain ⟨t', h1, h2, h3⟩ := h x u' e
    exact ⟨t', by simp [h1], h2, h3⟩
theorem gb_setCell (w : World) (p : Addr) (u : Value) : w.grownBy (w.setCell p u) (some p.block) :=
  have b := Below.setCell (Below.refl 0 w) (Nat.zero_le p.block) u
  ⟨b.os, b.tape, b.output, b.size, fun i _ hne => Below.heap_setCell w p u i (fun e => hne (by rw [e]))⟩
/-- A map of so many definitions, whose values were read in the world w. -/
structure Dq {α : Type} (W w : World) (b n : Nat) (l : List α) (key : α → List UInt8) (V : World → α → Value → Prop) : Prop where
  ex : ∃ f D, Mp W b n f D ∧ (∀ x, (f x).isSome = (l.map key).contains x) ∧ ∀ x u, f x = some u → ∃ t ∈ l, key t = x ∧ V w t u
theorem Dq.kept {α : Type} {W W' w : World} {b n : Nat} {l : List α} {key : α → List UInt8} {V : World → α → Value → Prop} {row : Option Nat} (h : Dq W w b n l key V) (hg : W.grownBy W' row) (hne : some b ≠ row) : Dq W' w b n l key V := by
  obtain ⟨f, D, hm, h1, h2⟩ := h.ex
  exact ⟨f, D, hm.kept hg hne, h1, h2⟩
theorem Dq.lt {α : Type} {W w : World} {b n : Nat} {l : List α} {key : α → List UInt8} {V : World → α → Value → Prop} (h : Dq W w b n l key V) : b < W.heap.size := by
  obtain ⟨f, D, hm, -⟩ := h.ex
  exact hm.lt
theorem Dq.dm {α : Type} {W w : World} {b n : Nat} {l : List α} {key : α → List UInt8} {V : World → α → Value → Prop} (h : Dq W w b n l key V) (hn : n ≤ 1000) (hV : ∀ t u, V w t u → V W t u) : ∃ f D, DfM W b l key V f D := by
  obtain ⟨f, D, hm, h1, h2⟩ := h.ex
  exact ⟨f, D, ⟨n, hn, hm⟩, h1, fun x u e => by obtain ⟨t, a, c, d⟩ := h2 x u e; exact ⟨t, a, c, hV _ _ d⟩⟩
def DfP (S : Sch) (w : World) (e : Ending) (w' : World) : Prop := ∃ b1 b2, e = .returned (.agg #[.map (some b1), .map (some b2)]) ∧ Dm w' S b1 b2 ∧ Below w.heap.size w w'
/-- The same, with the world in which the values were read. -/
def DfQ (W0 : World) (S : Sch) (w : World) (e : Ending) (w' : World) : Prop := ∃ b1 b2, e = .returned (.agg #[.map (some b1), .map (some b2)]) ∧ Dq w' W0 b1 S.structs.length S.structs St.name StV ∧ Dq w' W0 b2 S.enums.length S.enums En.name EnV ∧ w.heap.size ≤ b1 ∧ w.heap.size ≤ b2 ∧ Below w.heap.size w w'
set_option maxRecDepth 100000 in
set_option maxHeartbeats 4000000 in
theorem define_at (W0 : World) (S : Sch) (v : Value) (w : World) (hv : ScV W0 S v) (h0 : Below W0.heap.size W0 w) (hn : S.enums.length ≤ 1000) (hm : S.structs.length ≤ 1000) (h1 : ∀ t ∈ S.structs, t.name.length ≤ 40) (h2 : ∀ x ∈ S.enums, x.name.length ≤ 40) :
    Calls Tryz.prog 59 #[v] w (DfQ W0 S w) := by
  have hmm := @run_makeMap Tryz.prog
  obtain ⟨A, c, A2, c2, rfl, hS⟩ := hv
  have hSe := hS.en
  have hSs := hS.st
  clear hS
  unfold DfQ
  obtain ⟨n, hn2⟩ : ∃ n, S.enums.length = n := ⟨_, rfl⟩
  obtain ⟨m, hm2⟩ : ∃ m, S.structs.length = m := ⟨_, rfl⟩
  have HN := Lib.hid hn2
  have HM := Lib.hid hm2
  rw [hn2] at hn ⊢
  rw [hm2] at hm ⊢
  clear hn2 hm2
  go_enter Tryz.func59, Tryz.ntmps59
  go_wp2_with fail
  have z1 : (w.alloc (Obj.cells #[.int .i64 S.ver, .slice A n c, .slice A2 m c2] 25)).heap.size = w.heap.size + 1 := by simp
  have z2 : ((w.alloc (Obj.cells #[.int .i64 S.ver, .slice A n c, .slice A2 m c2] 25)).alloc (Obj.cells #[.map none, .map none] 111)).heap.size = w.heap.size + 1 + 1 := by simp
  have z3 : (((w.alloc (Obj.cells #[.int .i64 S.ver, .slice A n c, .slice A2 m c2] 25)).alloc (Obj.cells #[.map none, .map none] 111)).alloc (Obj.map #[] 0)).heap.size = w.heap.size + 1 + 1 + 1 := by simp
  have z4 : ((((w.alloc (Obj.cells #[.int .i64 S.ver, .slice A n c, .slice A2 m c2] 25)).alloc (Obj.cells #[.map none, .map none] 111)).alloc (Obj.map #[] 0)).alloc (Obj.map #[] 0)).heap.size = w.heap.size + 1 + 1 + 1 + 1 := by simp
  have B1 := (Bx.new3 w 25 (.int .i64 S.ver) (.slice A n c) (.slice A2 m c2)).next (ab4 _ (Obj.cells #[.map none, .map none] 111) (Obj.map #[] 0) (Obj.map #[] 0) (Obj.cells #[.map (some (w.heap.size + 1 + 1)), .map (some (w.heap.size + 1 + 1 + 1))] 111))
  have B2 := (Bx.new2 (w.alloc (Obj.cells #[.int .i64 S.ver, .slice A n c, .slice A2 m c2] 25)) 111 (.map none) (.map none)).next (ab3 _ (Obj.map #[] 0) (Obj.map #[] 0) (Obj.cells #[.map (some (w.heap.size + 1 + 1)), .map (some (w.heap.size + 1 + 1 + 1))] 111))
  have M1 := (Mp.made ((w.alloc (Obj.cells #[.int .i64 S.ver, .slice A n c, .slice A2 m c2] 25)).alloc (Obj.cells #[.map none, .map none] 111))).next (ab2 _ (Obj.map #[] 0) (Obj.cells #[.map (some (w.heap.size + 1 + 1)), .map (some (w.heap.size + 1 + 1 + 1))] 111))
  have M2 := (Mp.made (((w.alloc (Obj.cells #[.int .i64 S.ver, .slice A n c, .slice A2 m c2] 25)).alloc (Obj.cells #[.map none, .map none] 111)).alloc (Obj.map #[] 0))).next (ab1 _ (Obj.cells #[.map (some (w.heap.size + 1 + 1)), .map (some (w.heap.size + 1 + 1 + 1))] 111))
  have B5 := Bx.new2 ((((w.alloc (Obj.cells #[.int .i64 S.ver, .slice A n c, .slice A2 m c2] 25)).alloc (Obj.cells #[.map none, .map none] 111)).alloc (Obj.map #[] 0)).alloc (Obj.map #[] 0)) 111 (.map (some (w.heap.size + 1 + 1))) (.map (some (w.heap.size + 1 + 1 + 1)))
  rw [z1] at B2
  rw [z2] at M1
  rw [z3] at M2
  rw [z4] at B5
  have hab : Below w.heap.size w (((((w.alloc (Obj.cells #[.int .i64 S.ver, .slice A n c, .slice A2 m c2] 25)).alloc (Obj.cells #[.map none, .map none] 111)).alloc (Obj.map #[] 0)).alloc (Obj.map #[] 0)).alloc (Obj.cells #[.map (some (w.heap.size + 1 + 1)), .map (some (w.heap.size + 1 + 1 + 1))] 111)) := (ab4 w _ _ _ _).alloc (by rw [z4]; omega) _
  have Q1 : Dq _ W0 (w.heap.size + 1 + 1) 0 ([] : List St) St.name StV := ⟨_, _, M1, fun _ => rfl, fun _ _ h => by cases h⟩
  have Q2 : Dq _ W0 (w.heap.size + 1 + 1 + 1) 0 ([] : List En) En.name EnV := ⟨_, _, M2, fun _ => rfl, fun _ _ h => by cases h⟩
  clear z1 z2 z3 z4 M1 M2
  go_loopw [14] (fun i wr => ∃ k : Nat, k ≤ m ∧ i = .int .i64 (k : Int) ∧ Bx wr w.heap.size [.int .i64 S.ver, .slice A n c, .slice A2 m c2] ∧ Bx wr (w.heap.size + 1) [.map none, .map none] ∧ Bx wr (w.heap.size + 1 + 1 + 1 + 1) [.map (some (w.heap.size + 1 + 1)), .map (some (w.heap.size + 1 + 1 + 1))] ∧ Dq wr W0 (w.heap.size + 1 + 1) k (S.structs.take k) St.name StV ∧ Dq wr W0 (w.heap.size + 1 + 1 + 1) 0 [] En.name EnV ∧ Below w.heap.size w wr) (fun i _ => m - (intOf i).toNat)
  case atStart => exact ⟨0, by omega, rfl, B1, B2, B5, Q1, Q2, hab⟩
  case round =>
    obtain ⟨k, hk, rfl, C1, C2, C5, R1, R2, hb⟩ := hrel
    have s2 := C1.c 2 rfl
    have s1 := C1.c 1 rfl
    have l1 := C1.lt
    have l5 := C5.lt
    have d0 := C5.c 0 rfl
    have d1 := C5.c 1 rfl
    clear B1 B2 B5 Q1 Q2 hab
    by_cases hlt : k < m
    · obtain ⟨a, rfl, hA⟩ := hSs.get (i := k) (by rw [HM.out]; exact hlt)
      have hkm : k < S.structs.length := by rw [HM.out]; exact hlt
      obtain ⟨A3, c3, e0, e1, hV⟩ := hA.val
      replace e0 := cell_next (Below.next h0 hb) e0
      replace e1 := cell_next (Below.next h0 hb) e1
      have hblk : (a.add (k * 2)).block < wr.heap.size := blk_lt e0
      have hT : S.structs.take (k + 1) = S.structs.take k ++ [S.structs[k]'hkm] := List.take_succ_eq_append_getElem hkm
      have h40 := h1 _ (List.getElem_mem hkm)
      generalize S.structs[k]'hkm = t at *
      obtain ⟨f, D, hMp, hi, hva⟩ := R1.ex
      have hM2 := hMp.next (ab1 wr (Obj.cells #[.string (bs t.name), .slice A3 t.fields.length c3] 53))
      have hk40 : t.name.length ≤ 9223372036854775807 := by omega
      have HT := Lib.hid hT
      have hb2 := Below.next hb (ab1 wr (Obj.cells #[.string (bs t.name), .slice A3 t.fields.length c3] 53))
      clear hT h40 hA
      go_wp2_with (at_mapUpdate; refine wpList_put (u := .agg #[.string (bs t.name), .slice A3 t.fields.length c3]) (k := t.name) _ rfl (.tmp 19) (.tmp 21) (.tmp 22) 108 53 rfl Tryz.underlying108 hM2 (by omega) rfl hk40 rfl rfl ?_; intro w2 hM3 hg2)
      have hg3 := (gb_of (ab1 wr (Obj.cells #[.string (bs t.name), .slice A3 t.fields.length c3] 53)) (some (w.heap.size + 1 + 1))).trans hg2
      have T1 : Dq w2 W0 (w.heap.size + 1 + 1) (k + 1) (S.structs.take (k + 1)) St.name StV := ⟨_, _, hM3, by rw [HT.out]; exact putF_is hi t _, by rw [HT.out]; exact putF_val hva hV⟩
      go_wp2_with fail
      go_roundw
      case rel => exact ⟨k + 1, by omega, by go_num, C1.kept hg3 (by omega), C2.kept hg3 (by omega), C5.kept hg3 (by omega), T1, R2.kept hg3 (by intro h; injection h with h; omega), hb.grown hg3 hb.size (fun j hj => by cases hj; omega)⟩
      case measure => simp [intOf]; omega
    · obtain rfl : k = m := by omega
      rw [List.take_of_length_le (by rw [HM.out]; exact Nat.le_refl _)] at R1
      go_wp2_with fail
      clear s1 s2 l1 l5 d0 d1
      rename World => wo
      go_loopw [27] (fun i wr => ∃ y : Nat, y ≤ n ∧ i = .int .i64 (y : Int) ∧ Bx wr w.heap.size [.int .i64 S.ver, .slice A n c, .slice A2 k c2] ∧ Bx wr (w.heap.size + 1) [.map none, .map none] ∧ Bx wr (w.heap.size + 1 + 1 + 1 + 1) [.map (some (w.heap.size + 1 + 1)), .map (some (w.heap.size + 1 + 1 + 1))] ∧ Dq wr W0 (w.heap.size + 1 + 1) k S.structs St.name StV ∧ Dq wr W0 (w.heap.size + 1 + 1 + 1) y (S.enums.take y) En.name EnV ∧ Below w.heap.size w wr) (fun i _ => n - (intOf i).toNat)
      case atStart => exact ⟨0, by omega, rfl, C1, C2, C5, R1, R2, hb⟩
      case round =>
        clear C1 C2 C5 R1 R2 hb
        obtain ⟨y, hy, rfl, C1, C2, C5, R1, R2, hb⟩ := hrel
        have s2 := C1.c 2 rfl
        have s1 := C1.c 1 rfl
        have l1 := C1.lt
        have l5 := C5.lt
        have l2 := C2.lt
        have d0 := C5.c 0 rfl
        have d1 := C5.c 1 rfl
        by_cases hlt : y < n
        · obtain ⟨a, rfl, hA⟩ := hSe.get (i := y) (by rw [HN.out]; exact hlt)
          have hkm : y < S.enums.length := by rw [HN.out]; exact hlt
          obtain ⟨A3, c3, A4, c4, e0, e1, e2, hV⟩ := hA.val
          replace e0 := cell_next (Below.next h0 hb) e0
          replace e1 := cell_next (Below.next h0 hb) e1
          replace e2 := cell_next (Below.next h0 hb) e2
          have hblk : (a.add (y * 3)).block < wr.heap.size := blk_lt e0
          have hT : S.enums.take (y + 1) = S.enums.take y ++ [S.enums[y]'hkm] := List.take_succ_eq_append_getElem hkm
          have h40 := h2 _ (List.getElem_mem hkm)
          generalize S.enums[y]'hkm = t at *
          obtain ⟨f, D, hMp, hi, hva⟩ := R2.ex
          have hM2 := hMp.next (ab1 wr (Obj.cells #[.string (bs t.name), .slice A3 t.names.length c3, .slice A4 t.nums.length c4] 75))
          have hk40 : t.name.length ≤ 9223372036854775807 := by omega
          have HT := Lib.hid hT
          clear hT h40 hA
          go_wp2_with (at_mapUpdate; refine wpList_put (u := .agg #[.string (bs t.name), .slice A3 t.names.length c3, .slice A4 t.nums.length c4]) (k := t.name) _ rfl (.tmp 32) (.tmp 34) (.tmp 35) 109 75 rfl Tryz.underlying109 hM2 (by omega) rfl hk40 rfl rfl ?_; intro w2 hM3 hg2)
          have hg3 := (gb_of (ab1 wr (Obj.cells #[.string (bs t.name), .slice A3 t.names.length c3, .slice A4 t.nums.length c4] 75)) (some (w.heap.size + 1 + 1 + 1))).trans hg2
          have T2 : Dq w2 W0 (w.heap.size + 1 + 1 + 1) (y + 1) (S.enums.take (y + 1)) En.name EnV := ⟨_, _, hM3, by rw [HT.out]; exact putF_is hi t _, by rw [HT.out]; exact putF_val hva hV⟩
          go_wp2_with fail
          go_roundw
          case rel => exact ⟨y + 1, by omega, by go_num, C1.kept hg3 (by omega), C2.kept hg3 (by omega), C5.kept hg3 (by omega), R1.kept hg3 (by intro h; injection h with h; omega), T2, hb.grown hg3 hb.size (fun j hj => by cases hj; omega)⟩
          case measure => simp [intOf]; omega
        · obtain rfl : y = n := by omega
          rw [List.take_of_length_le (by rw [HN.out]; exact Nat.le_refl _)] at R2
          have r0 := C2.f 0 rfl
          have r1 := C2.f 1 rfl
          have q0 := C2.c 0 rfl
          have q1 := C2.c 1 rfl
          go_wp2_with fail
          have hs := (gb_setCell wr ⟨w.heap.size + 1, 0, none⟩ (.map (some (w.heap.size + 1 + 1)))).trans (gb_setCell (wr.setCell ⟨w.heap.size + 1, 0, none⟩ (.map (some (w.heap.size + 1 + 1)))) ⟨w.heap.size + 1, 1, none⟩ (.map (some (w.heap.size + 1 + 1 + 1))))
          have hb9 := hb.grown hs hb.size (fun j hj => by cases hj; show w.heap.size ≤ w.heap.size + 1; omega)
          refine bodyPost_ret (v := .agg #[.map (some (w.heap.size + 1 + 1)), .map (some (w.heap.size + 1 + 1 + 1))]) (by simp [results, Tryz.results59, go_sem, q0, q1]) rfl ⟨_, _, rfl, ?_, ?_, by omega, by omega, hb9⟩
          · exact R1.kept hs (by intro h; injection h with h; have h : w.heap.size + 1 + 1 = w.heap.size + 1 := h; omega)
          · exact R2.kept hs (by intro h; injection h with h; have h : w.heap.size + 1 + 1 + 1 = w.heap.size + 1 := h; omega)
theorem define_any (S : Sch) (v : Value) (w : World) (hv : ScV w S v) (hn : S.enums.length ≤ 1000) (hm : S.structs.length ≤ 1000) (h1 : ∀ t ∈ S.structs, t.name.length ≤ 40) (h2 : ∀ x ∈ S.enums, x.name.length ≤ 40) :
    Calls Tryz.prog 59 #[v] w (DfP S w) :=
  (define_at w S v w hv (Below.refl _ _) hn hm h1 h2).mono fun _ _ ⟨b1, b2, e, q1, q2, _, _, hb⟩ => ⟨b1, b2, e, ⟨q1.dm hm fun _ _ => StV.next hb, q2.dm hn fun _ _ => EnV.next hb⟩, hb⟩
end Go.Proofs.YthfodpbecddheaaGreatDoor


/-
  The reference's sizes of types: level, FewType. No conditions beyond those that each names.
-/
import Derived.Test.YthbhbpcjcnkkkaaGreatDoorK07
import Derived.Lib.QuietBelow
namespace Go.Proofs.YthbhbpcjcnkkkaaGreatDoor
open Go.RowKit
/-- How many lists a type has within one another. -/
def dpt : Ty → Nat
  | .mk _ _ _ e => dpts e
where dpts : List Ty → Nat
  | [] => 0
  | t :: ts => max (1 + dpt t) (dpts ts)
def dpe (e : List Ty) (left k : Nat) : Nat := ((e.take k).map fun t => 1 + min left (dpt t)).foldl max 0
theorem foldl_max_snoc (l : List Nat) (x : Nat) : (l ++ [x]).foldl max 0 = max (l.foldl max 0) x := by rw [List.foldl_append]; rfl
theorem foldl_max_cons (a : Nat) (l : List Nat) (z : Nat) : (a :: l).foldl max z = max a (l.foldl max z) := by
  induction l generalizing a z with
  | nil => simp [Nat.max_comm]
  | cons b l ih =>
    rw [List.foldl_cons, ih b (max z a)]
    rw [ih b z]
    have : l.foldl max (max z a) = max a (l.foldl max z) := by
      have := ih a z
      rwa [List.foldl_cons] at this
    rw [this]
    omega
theorem dpts_le (n : Nat) : ∀ e : List Ty, (e.map fun t => 1 + min n (dpt t)).foldl max 0 = min (n + 1) (dpt.dpts e)
  | [] => by rw [dpt.dpts]; simp
  | t :: ts => by
    rw [List.map_cons, foldl_max_cons, dpts_le n ts, dpt.dpts]
    omega
theorem dpt_elem (t : Ty) : dpt t = dpt.dpts t.elem := by cases t; rw [dpt]; rfl
theorem dpe_all (t : Ty) (n : Nat) : dpe t.elem n t.elem.length = min (n + 1) (dpt t) := by
  unfold dpe
  rw [List.take_length, dpts_le, dpt_elem]
theorem dpe_succ {e : List Ty} {k : Nat} (h : k < e.length) (n : Nat) : dpe e n (k + 1) = max (dpe e n k) (1 + min n (dpt (e[k]'h))) := by
  unfold dpe
  rw [List.take_succ_eq_append_getElem h, List.map_append, List.map_singleton, foldl_max_snoc]
theorem dpe_le (e : List Ty) (n k : Nat) : dpe e n k ≤ n + 1 := by
  unfold dpe
  rw [foldl_max_le]
  exact ⟨by omega, fun x hx => by
    obtain ⟨t, -, rfl⟩ := List.mem_map.1 hx
    omega⟩
theorem size_elem {t : Ty} {i : Nat} (h : i < t.elem.length) : SizeOf.sizeOf (t.elem[i]'h) < SizeOf.sizeOf t := by
  obtain ⟨k, s, n, e⟩ := t
  have h1 : SizeOf.sizeOf (e[i]'h) < SizeOf.sizeOf e := List.sizeOf_lt_of_mem (List.getElem_mem h)
  have h2 := Ty.mk.sizeOf_spec k s n e
  show SizeOf.sizeOf (e[i]'h) < SizeOf.sizeOf (Ty.mk k s n e)
  omega
/-- Go's own bound of a slice's length, at each list of elements. -/
def lok : Ty → Prop
  | .mk _ _ _ e => e.length ≤ 9223372036854775807 ∧ loks e
where loks : List Ty → Prop
  | [] => True
  | t :: ts => lok t ∧ loks ts
theorem loks_get : ∀ {e : List Ty} {i : Nat} (h : i < e.length), lok.loks e → lok (e[i]'h)
  | t :: ts, 0, _, hl => by rw [lok.loks] at hl; exact hl.1
  | t :: ts, i + 1, h, hl => by
    rw [lok.loks] at hl
    have := loks_get (e := ts) (i := i) (by simpa using h) hl.2
    simpa using this
theorem lok_get {t : Ty} (hl : lok t) {i : Nat} (h : i < t.elem.length) : lok (t.elem[i]'h) := by
  obtain ⟨k, s, n, e⟩ := t
  rw [lok] at hl
  exact loks_get h hl.2
theorem lok_len {t : Ty} (hl : lok t) : t.elem.length ≤ 9223372036854775807 := by
  obtain ⟨k, s, n, e⟩ := t
  rw [lok] at hl
  exact hl.1
set_option maxRecDepth 100000 in
set_option maxHeartbeats 2000000 in
theorem level_any (N : Nat) : ∀ (t : Ty) (n : Nat) (v : Value) (w : World), SizeOf.sizeOf t < N → n ≤ 1000 → lok t → TyV w t v →
    Calls Tryz.prog 60 #[v, .int .i64 (n : Int)] w (Ib (.int .i64 ((min n (dpt t) : Nat) : Int)) w) := by
  induction N with
  | zero => intro t n v w h; omega
  | succ N ih =>
    intro t n v w hN hn hlk hv
    have hmm := lok_len hlk
    obtain ⟨A, c, rfl, hR⟩ := hv
    have HR0 := hR
    obtain ⟨m, hm⟩ : ∃ m, t.elem.length = m := ⟨_, rfl⟩
    have HM := Lib.hid hm
    rw [hm] at hmm ⊢
    clear hm
    have hB := Bx.new4 w 45 (.int .i64 t.kind) (.int .i64 t.size) (.string (bs t.name)) (.slice A m c)
    cases n with
    | zero =>
      rw [Nat.zero_min]
      go_enter Tryz.func60, Tryz.ntmps60
      go_wp2_with fail
      go_loop [5, 6] (fun a i => a = .int .i64 0 ∧ i = .int .i64 0) (fun _ _ => 0)
      case atStart => exact ⟨rfl, rfl⟩
      case round =>
        obtain ⟨rfl, rfl⟩ := hrel
        by_cases h0 : 0 < m
        · go_wp2_with fail
          go_ret
          exact ⟨rfl, ab1 _ _⟩
        · obtain rfl : m = 0 := by omega
          go_wp2_with fail
          go_ret
          exact ⟨rfl, ab1 _ _⟩
    | succ n =>
      have hn1 : (((n + 1 : Nat) : Int)) - 1 = (n : Int) := by omega
      have hn0 : decide ((0 : Int) < ((n + 1 : Nat) : Int)) = true := by rw [decide_eq_true_eq]; omega
      have HD := Lib.hid (dpe_all t n)
      obtain ⟨q, hq⟩ : ∃ q, n + 1 = q := ⟨_, rfl⟩
      rw [hq] at HD hn hn1 hn0 ⊢
      obtain ⟨r, hr⟩ : ∃ r, min q (dpt t) = r := ⟨_, rfl⟩
      rw [hr] at HD ⊢
      have hqn : n ≤ 1000 := by omega
      clear hr
      have Hq := Lib.hid hq
      clear hq hR
      go_enter Tryz.func60, Tryz.ntmps60
      go_wp2_with fail
      go_loopw [5, 6] (fun a i wr => ∃ (k x : Nat), k ≤ m ∧ i = .int .i64 (k : Int) ∧ a = .int .i64 (x : Int) ∧ x ≤ 1001 ∧ Hid (x = dpe t.elem n k) ∧ Bx wr w.heap.size [.int .i64 t.kind, .int .i64 t.size, .string (bs t.name), .slice A m c] ∧ Below w.heap.size w wr) (fun _ i _ => m - (intOf i).toNat)
      case atStart => exact ⟨0, 0, by omega, rfl, rfl, by omega, Lib.hid rfl, hB, ab1 _ _⟩
      case round =>
        obtain ⟨k, x, hk, rfl, rfl, hx1, hx, hBr, hb⟩ := hrel
        have c3 := hBr.c 3 rfl
        by_cases hlt : k < m
        · obtain ⟨a, rfl, hA⟩ := HR0.get (i := k) (by rw [HM.out]; exact hlt)
          have hA := TyA.next hb _ _ hA
          obtain ⟨A3, c4, h0, h1, h2, h3, hV⟩ := hA.val
          have hblk : (a.add (k * 4)).block < wr.heap.size := blk_lt h0
          have cL := ih (t.elem[k]'(by rw [HM.out]; exact hlt)) n _ wr (by have := size_elem (t := t) (i := k) (by rw [HM.out]; exact hlt); omega) hqn (lok_get hlk _) hV
          have hsu := dpe_succ (e := t.elem) (k := k) (by rw [HM.out]; exact hlt) n
          rw [← hx.out] at hsu
          have hle := dpe_le t.elem n (k + 1)
          obtain ⟨y, hy⟩ : ∃ y, min n (dpt (t.elem[k]'(by rw [HM.out]; exact hlt))) = y := ⟨_, rfl⟩
          rw [hy] at cL hsu
          have hyn : y ≤ 1000 := by omega
          obtain ⟨x2, hx2⟩ : ∃ x2, dpe t.elem n (k + 1) = x2 := ⟨_, rfl⟩
          rw [hx2] at hsu hle
          have Hx2 := Lib.hid hx2.symm
          have Hs := Lib.hid hsu
          generalize t.elem[k]'(by rw [HM.out]; exact hlt) = u at *
          clear hy hx2 hsu HR0 hx hA HD ih hlk
          go_wp2_with fail
          refine cL.mono ?_
          rintro e w2 ⟨rfl, hb2⟩
          by_cases hxy : x < 1 + y
          · have d1 : decide ((x : Int) < 1 + (y : Int)) = true := by simp; omega
            have hx3 : (1 : Int) + (y : Int) = (x2 : Int) := by have := Hs.out; omega
            go_wp2_with fail
            go_roundw
            case rel => exact ⟨k + 1, x2, by omega, by go_num, rfl, by omega, Hx2, hBr.next hb2, Below.next hb hb2⟩
            case measure => simp [intOf]; omega
          · have d1 : decide ((x : Int) < 1 + (y : Int)) = false := by simp; omega
            have hx3 : x2 = x := by have := Hs.out; omega
            subst hx3
            go_wp2_with fail
            go_roundw
            case rel => exact ⟨k + 1, _, by omega, by go_num, rfl, by omega, Hx2, hBr.next hb2, Below.next hb hb2⟩
            case measure => simp [intOf]; omega
        · obtain rfl : k = m := by omega
          obtain rfl : x = r := by rw [hx.out, ← HD.out, HM.out]
          clear HR0 hx HD ih
          go_wp2_with fail
          go_ret
          exact ⟨rfl, hb⟩
/-- Small enough to be examined. -/
def fewT : Ty → Bool
  | .mk k s n e => decide (n.length ≤ 40) && (decide (e.length ≤ 3) && (decide (min 20 (dpt (.mk k s n e)) ≤ 8) && fews e))
where fews : List Ty → Bool
  | [] => true
  | t :: ts => fewT t && fews ts
theorem fews_all : ∀ e : List Ty, fewT.fews e = e.all fewT
  | [] => by rw [fewT.fews]; rfl
  | t :: ts => by rw [fewT.fews, fews_all ts]; rfl
theorem fewT_eq (t : Ty) : fewT t = (decide (t.name.length ≤ 40) && (decide (t.elem.length ≤ 3) && (decide (min 20 (dpt t) ≤ 8) && t.elem.all fewT))) := by
  obtain ⟨k, s, n, e⟩ := t
  rw [fewT, fews_all]
  rfl
theorem all_at {α : Type} {p : α → Bool} {l : List α} {k : Nat} (h : k < l.length) (hp : p (l[k]'h) = false) : l.all p = false := by
  rw [List.all_eq_false]
  exact ⟨_, List.getElem_mem h, by simp [hp]⟩
theorem all_end {α : Type} {p : α → Bool} {l : List α} (hp : ∀ j (h : j < l.length), p (l[j]'h) = true) : l.all p = true := by
  rw [List.all_eq_true]
  intro x hx
  obtain ⟨j, hj, rfl⟩ := List.mem_iff_getElem.1 hx
  exact hp j hj
set_option maxRecDepth 100000 in
set_option maxHeartbeats 2000000 in
theorem fewType_any (N : Nat) : ∀ (t : Ty) (v : Value) (w : World), SizeOf.sizeOf t < N → lok t → TyV w t v →
    Calls Tryz.prog 32 #[v] w (Ib (.bool (fewT t)) w) := by
  induction N with
  | zero => intro t v w h; omega
  | succ N ih =>
    intro t v w hN hlk hv
    have hmm := lok_len hlk
    have cL := fun W h => level_any (SizeOf.sizeOf t + 1) t 20 v W (by omega) (by omega) hlk (TyV.next h hv)
    obtain ⟨A, c, rfl, hR⟩ := hv
    have HR0 := hR
    obtain ⟨r, hr⟩ : ∃ r, fewT t = r := ⟨_, rfl⟩
    rw [hr]
    rw [fewT_eq] at hr
    obtain ⟨L, hL⟩ : ∃ L, min 20 (dpt t) = L := ⟨_, rfl⟩
    rw [hL] at hr cL
    obtain ⟨m, hm⟩ : ∃ m, t.elem.length = m := ⟨_, rfl⟩
    have HM := Lib.hid hm
    rw [hm] at hmm hr cL ⊢
    clear hm hL
    have hB := Bx.new4 w 45 (.int .i64 t.kind) (.int .i64 t.size) (.string (bs t.name)) (.slice A m c)
    have hsz : (bs t.name).size = t.name.length := rfl
    by_cases h1 : t.name.length ≤ 40
    · have d1 : decide ((40 : Int) < (t.name.length : Int)) = false := by rw [decide_eq_false_iff_not]; omega
      rw [decide_eq_true h1, Bool.true_and] at hr
      by_cases h2 : m ≤ 3
      · have d2 : decide ((3 : Int) < (m : Int)) = false := by rw [decide_eq_false_iff_not]; omega
        rw [decide_eq_true h2, Bool.true_and] at hr
        by_cases h3 : L ≤ 8
        · have d3 : decide ((8 : Int) < (L : Int)) = false := by rw [decide_eq_false_iff_not]; omega
          rw [decide_eq_true h3, Bool.true_and] at hr
          have HR := Lib.hid hr
          clear hr hR h1 h3
          go_enter Tryz.func32, Tryz.ntmps32
          go_wp2_with fail
          refine (cL _ (ab1 _ _)).mono ?_
          rintro e w1 ⟨rfl, hb1⟩
          have hB1 := hB.next hb1
          have hb2 := Below.next (ab1 _ _) hb1
          clear hB hb1
          go_wp2_with fail
          go_loopw [3] (fun i wr => ∃ k : Nat, k ≤ m ∧ i = .int .i64 (k : Int) ∧ Hid (∀ j (h : j < t.elem.length), j < k → fewT (t.elem[j]'h) = true) ∧ Bx wr w.heap.size [.int .i64 t.kind, .int .i64 t.size, .string (bs t.name), .slice A m c] ∧ Below w.heap.size w wr) (fun i _ => m - (intOf i).toNat)
          case atStart => exact ⟨0, by omega, rfl, Lib.hid fun j _ h => by omega, hB1, hb2⟩
          case round =>
            obtain ⟨k, hk, rfl, hI, hBr, hb⟩ := hrel
            have c3 := hBr.c 3 rfl
            clear cL d1 d2 d3 hB1 hb2
            by_cases hlt : k < m
            · obtain ⟨a, rfl, hA⟩ := HR0.get (i := k) (by rw [HM.out]; exact hlt)
              have hA := TyA.next hb _ _ hA
              obtain ⟨A3, c4, h0, h1, h2, h3, hV⟩ := hA.val
              have hblk : (a.add (k * 4)).block < wr.heap.size := blk_lt h0
              have cL := ih (t.elem[k]'(by rw [HM.out]; exact hlt)) _ wr (by have := size_elem (t := t) (i := k) (by rw [HM.out]; exact hlt); omega) (lok_get hlk _) hV
              have hx : fewT (t.elem[k]'(by rw [HM.out]; exact hlt)) = false → r = false := fun e => by rw [← HR.out]; exact all_at _ e
              have hy : fewT (t.elem[k]'(by rw [HM.out]; exact hlt)) = true → ∀ j (h : j < t.elem.length), j < k + 1 → fewT (t.elem[j]'h) = true := fun e j h hj => by
                by_cases hjk : j < k
                · exact hI.out j h hjk
                · obtain rfl : j = k := by omega
                  exact e
              generalize t.elem[k]'(by rw [HM.out]; exact hlt) = u at *
              generalize fewT u = b at *
              cases b
              · have E := Lib.hid (hx rfl)
                clear HR0 hA ih hlk hx hy hI
                go_wp2_with fail
                refine cL.mono ?_
                rintro e w2 ⟨rfl, hb2⟩
                go_wp2_with fail
                go_ret
                exact ⟨by rw [E.out]; rfl, Below.next hb hb2⟩
              · have E := Lib.hid (hy rfl)
                clear HR0 hA ih hlk hx hy hI
                go_wp2_with fail
                refine cL.mono ?_
                rintro e w2 ⟨rfl, hb2⟩
                go_wp2_with fail
                go_roundw
                case rel => exact ⟨k + 1, by omega, by go_num, E, hBr.next hb2, Below.next hb hb2⟩
                case measure => simp [intOf]; omega
            · obtain rfl : k = m := by omega
              obtain rfl : true = r := by rw [← HR.out]; exact (all_end fun j h => hI.out j h (by rw [← HM.out]; exact h)).symm
              clear HR0 ih hI
              go_wp2_with fail
              go_ret
              exact ⟨rfl, hb⟩
        · have d3 : decide ((8 : Int) < (L : Int)) = true := by rw [decide_eq_true_eq]; omega
          rw [decide_eq_false h3, Bool.false_and] at hr
          subst hr
          clear hR h1 h3 ih
          go_enter Tryz.func32, Tryz.ntmps32
          go_wp2_with fail
          refine (cL _ (ab1 _ _)).mono ?_
          rintro e w1 ⟨rfl, hb1⟩
          go_wp2_with fail
          go_ret
          exact ⟨rfl, Below.next (ab1 _ _) hb1⟩
      · have d2 : decide ((3 : Int) < (m : Int)) = true := by rw [decide_eq_true_eq]; omega
        rw [decide_eq_false h2, Bool.false_and] at hr
        subst hr
        clear hR h1 h2 ih cL
        go_enter Tryz.func32, Tryz.ntmps32
        go_wp2_with fail
        go_ret
        exact ⟨rfl, ab1 _ _⟩
    · have d1 : decide ((40 : Int) < (t.name.length : Int)) = true := by rw [decide_eq_true_eq]; omega
      rw [decide_eq_false h1, Bool.false_and] at hr
      subst hr
      clear hR h1 ih cL
      go_enter Tryz.func32, Tryz.ntmps32
      go_wp2_with fail
      go_ret
      exact ⟨rfl, ab1 _ _⟩
end Go.Proofs.YthbhbpcjcnkkkaaGreatDoor
/-
  The reference's sizes of schemas: Few. No conditions beyond those that each names.
-/
namespace Go.Proofs.YthbhbpcjcnkkkaaGreatDoor
open Go.RowKit
def shortN (x : List UInt8) : Bool := decide (x.length ≤ 40)
def fewE (x : En) : Bool := shortN x.name && (decide (x.names.length ≤ 18) && (decide (x.nums.length ≤ 18) && x.names.all shortN))
def fewF (f : Fd) : Bool := shortN f.name && fewT f.type
def fewS (t : St) : Bool := shortN t.name && (decide (t.fields.length ≤ 18) && t.fields.all fewF)
def few (S : Sch) : Bool := decide (S.enums.length ≤ 18) && (decide (S.structs.length ≤ 18) && (S.enums.all fewE && S.structs.all fewS))
def lokS (S : Sch) : Prop := ∀ t ∈ S.structs, ∀ f ∈ t.fields, lok f.type
theorem all_next {α : Type} {p : α → Bool} {l : List α} {k : Nat} (hI : ∀ j (h : j < l.length), j < k → p (l[j]'h) = true) (hk : k < l.length) (e : p (l[k]'hk) = true) : ∀ j (h : j < l.length), j < k + 1 → p (l[j]'h) = true := fun j h hj => by
  by_cases hjk : j < k
  · exact hI j h hjk
  · obtain rfl : j = k := by omega
    exact e
set_option maxRecDepth 100000 in
set_option maxHeartbeats 4000000 in
theorem few_any (S : Sch) (v : Value) (w : World) (hlk : lokS S) (hv : ScV w S v) :
    Calls Tryz.prog 9 #[v] w (Ib (.bool (few S)) w) := by
  obtain ⟨A, c, A2, c2, rfl, hS⟩ := hv
  have hSe := hS.en
  have hSs := hS.st
  clear hS
  obtain ⟨r, hr⟩ : ∃ r, few S = r := ⟨_, rfl⟩
  rw [hr]
  unfold few at hr
  obtain ⟨n, hn⟩ : ∃ n, S.enums.length = n := ⟨_, rfl⟩
  obtain ⟨m, hm⟩ : ∃ m, S.structs.length = m := ⟨_, rfl⟩
  have HN := Lib.hid hn
  have HM := Lib.hid hm
  rw [hn, hm] at hr
  rw [hn, hm]
  clear hn hm
  have hB := Bx.new3 w 25 (.int .i64 S.ver) (.slice A n c) (.slice A2 m c2)
  by_cases h1 : n ≤ 18
  · have d1 : decide ((18 : Int) < (n : Int)) = false := by rw [decide_eq_false_iff_not]; omega
    rw [decide_eq_true h1, Bool.true_and] at hr
    by_cases h2 : m ≤ 18
    · have d2 : decide ((18 : Int) < (m : Int)) = false := by rw [decide_eq_false_iff_not]; omega
      rw [decide_eq_true h2, Bool.true_and] at hr
      have HR := Lib.hid hr
      clear hr
      go_enter Tryz.func9, Tryz.ntmps9
      go_wp2_with fail
      clear d1 d2
      go_loop [3, 4] (fun i _ => ∃ k : Nat, k ≤ n ∧ i = .int .i64 (k : Int) ∧ Hid (∀ j (h : j < S.enums.length), j < k → fewE (S.enums[j]'h) = true)) (fun i _ => n - (intOf i).toNat)
      case atStart => exact ⟨0, by omega, rfl, Lib.hid fun j _ h => by omega⟩
      case round =>
        obtain ⟨k, hk, rfl, hI⟩ := hrel
        by_cases hlt : k < n
        · obtain ⟨a, rfl, hA⟩ := hSe.get (i := k) (by rw [HN.out]; exact hlt)
          obtain ⟨e0, ⟨A3, c3, e1, hVn⟩, A4, c4, e2, -⟩ := hA
          have hblk : (a.add (k * 3)).block < w.heap.size := blk_lt e0
          have hx : fewE (S.enums[k]'(by rw [HN.out]; exact hlt)) = false → r = false := fun e => by rw [← HR.out, all_at _ e]; rfl
          have hy := all_next (p := fewE) hI.out (k := k) (by rw [HN.out]; exact hlt)
          generalize S.enums[k]'(by rw [HN.out]; exact hlt) = x at *
          have hsz : (bs x.name).size = x.name.length := rfl
          by_cases g1 : x.name.length ≤ 40
          · have d1 : decide ((40 : Int) < (x.name.length : Int)) = false := by rw [decide_eq_false_iff_not]; omega
            by_cases g2 : x.names.length ≤ 18
            · have d2 : decide ((18 : Int) < (x.names.length : Int)) = false := by rw [decide_eq_false_iff_not]; omega
              by_cases g3 : x.nums.length ≤ 18
              · have d3 : decide ((18 : Int) < (x.nums.length : Int)) = false := by rw [decide_eq_false_iff_not]; omega
                have hE : fewE x = x.names.all shortN := by unfold fewE; rw [show shortN x.name = true from decide_eq_true g1, decide_eq_true g2, decide_eq_true g3]; rfl
                rw [hE] at hx hy
                obtain ⟨q, hq⟩ : ∃ q, x.names.length = q := ⟨_, rfl⟩
                have HQ := Lib.hid hq
                rw [hq] at d2 e1 g2
                have HX := Lib.hid hx
                have HY := Lib.hid hy
                clear hE g1 g3 hx hy hI hq
                go_wp2_with fail
                clear d1 d2 d3
                go_loop [4] (fun i => ∃ z : Nat, z ≤ q ∧ i = .int .i64 (z : Int) ∧ Hid (∀ j (h : j < x.names.length), j < z → shortN (x.names[j]'h) = true)) (fun i => q - (intOf i).toNat)
                case atStart => exact ⟨0, by omega, rfl, Lib.hid fun j _ h => by omega⟩
                case round =>
                  obtain ⟨z, hz, rfl, hJ⟩ := hrel
                  by_cases hzq : z < q
                  · obtain ⟨b, rfl, hb⟩ := hVn.get (i := z) (by rw [HQ.out]; exact hzq)
                    rw [Nat.mul_one] at hb
                    have hx2 : shortN (x.names[z]'(by rw [HQ.out]; exact hzq)) = false → r = false := fun e => HX.out (all_at _ e)
                    have hy2 := all_next (p := shortN) hJ.out (k := z) (by rw [HQ.out]; exact hzq)
                    generalize x.names[z]'(by rw [HQ.out]; exact hzq) = y at *
                    have b0 : w.cell? (b.add z) = some (.string (bs y)) := hb
                    have hblk3 : (b.add z).block < w.heap.size := blk_lt b0
                    have hsz2 : (bs y).size = y.length := rfl
                    by_cases g4 : y.length ≤ 40
                    · have d4 : decide ((40 : Int) < (y.length : Int)) = false := by rw [decide_eq_false_iff_not]; omega
                      have E := Lib.hid (hy2 (decide_eq_true g4))
                      clear hx2 hy2 hJ hb g4
                      go_wp2_with fail
                      go_round
                      case rel => exact ⟨z + 1, by omega, by go_num, E⟩
                      case measure => simp [intOf]; omega
                    · have d4 : decide ((40 : Int) < (y.length : Int)) = true := by rw [decide_eq_true_eq]; omega
                      obtain rfl := hx2 (decide_eq_false g4)
                      clear hx2 hy2 hJ hb g4
                      go_wp2_with fail
                      go_ret
                      exact ⟨rfl, ab1 _ _⟩
                  · obtain rfl : z = q := by omega
                    have E := Lib.hid (HY.out (all_end fun j h => hJ.out j h (by rw [← HQ.out]; exact h)))
                    clear hJ
                    go_wp2_with fail
                    go_round
                    case rel => exact ⟨k + 1, by omega, by go_num, E⟩
                    case measure => simp [intOf]; omega
              · have d3 : decide ((18 : Int) < (x.nums.length : Int)) = true := by rw [decide_eq_true_eq]; omega
                obtain rfl := hx (by unfold fewE; rw [decide_eq_false g3]; simp)
                clear hx hy hI g1 g2 g3
                go_wp2_with fail
                go_ret
                exact ⟨rfl, ab1 _ _⟩
            · have d2 : decide ((18 : Int) < (x.names.length : Int)) = true := by rw [decide_eq_true_eq]; omega
              obtain rfl := hx (by unfold fewE; rw [decide_eq_false g2]; simp)
              clear hx hy hI g1 g2
              go_wp2_with fail
              go_ret
              exact ⟨rfl, ab1 _ _⟩
          · have d1 : decide ((40 : Int) < (x.name.length : Int)) = true := by rw [decide_eq_true_eq]; omega
            obtain rfl := hx (by unfold fewE; rw [show shortN x.name = false from decide_eq_false g1]; simp)
            clear hx hy hI g1
            go_wp2_with fail
            go_ret
            exact ⟨rfl, ab1 _ _⟩
        · obtain rfl : k = n := by omega
          have HE : S.enums.all fewE = true := all_end fun j h => hI.out j h (by rw [← HN.out]; exact h)
          have HR2 := Lib.hid (show S.structs.all fewS = r by rw [← HR.out, HE, Bool.true_and])
          clear hI HE HR
          go_wp2_with fail
          go_loopw [5, 6] (fun i _ wr => ∃ y : Nat, y ≤ m ∧ i = .int .i64 (y : Int) ∧ Hid (∀ j (h : j < S.structs.length), j < y → fewS (S.structs[j]'h) = true) ∧ Bx wr w.heap.size [.int .i64 S.ver, .slice A k c, .slice A2 m c2] ∧ Below w.heap.size w wr) (fun i _ _ => m - (intOf i).toNat)
          case atStart => exact ⟨0, by omega, rfl, Lib.hid fun j _ h => by omega, hB, ab1 _ _⟩
          case round =>
            obtain ⟨k2, hk2, rfl, hI, hBr, hb⟩ := hrel
            have c2 := hBr.c 2 rfl
            clear hB
            by_cases hlt2 : k2 < m
            · obtain ⟨a, rfl, hA⟩ := hSs.get (i := k2) (by rw [HM.out]; exact hlt2)
              obtain ⟨e0, A3, c3, e1, hVf⟩ := hA.next hb
              have hblk : (a.add (k2 * 2)).block < wr.heap.size := blk_lt e0
              have hx : fewS (S.structs[k2]'(by rw [HM.out]; exact hlt2)) = false → r = false := fun e => by rw [← HR2.out, all_at _ e]
              have hy := all_next (p := fewS) hI.out (k := k2) (by rw [HM.out]; exact hlt2)
              have hlk2 := hlk _ (List.getElem_mem (by rw [HM.out]; exact hlt2 : k2 < S.structs.length))
              generalize S.structs[k2]'(by rw [HM.out]; exact hlt2) = x at *
              have hsz : (bs x.name).size = x.name.length := rfl
              by_cases g1 : x.name.length ≤ 40
              · have d1 : decide ((40 : Int) < (x.name.length : Int)) = false := by rw [decide_eq_false_iff_not]; omega
                by_cases g2 : x.fields.length ≤ 18
                · have d2 : decide ((18 : Int) < (x.fields.length : Int)) = false := by rw [decide_eq_false_iff_not]; omega
                  have hE : fewS x = x.fields.all fewF := by unfold fewS; rw [show shortN x.name = true from decide_eq_true g1, decide_eq_true g2]; rfl
                  rw [hE] at hx hy
                  obtain ⟨q, hq⟩ : ∃ q, x.fields.length = q := ⟨_, rfl⟩
                  have HQ := Lib.hid hq
                  rw [hq] at d2 e1 g2
                  have HX := Lib.hid hx
                  have HY := Lib.hid hy
                  clear hE g1 hx hy hI hq hA
                  rename World => wo
                  go_wp2_with fail
                  clear d1 d2
                  go_loopw [6] (fun i wr => ∃ z : Nat, z ≤ q ∧ i = .int .i64 (z : Int) ∧ Hid (∀ j (h : j < x.fields.length), j < z → fewF (x.fields[j]'h) = true) ∧ Below wo.heap.size wo wr) (fun i _ => q - (intOf i).toNat)
                  case atStart => exact ⟨0, by omega, rfl, Lib.hid fun j _ h => by omega, Below.refl _ _⟩
                  case round =>
                    obtain ⟨z, hz, rfl, hJ, hbq⟩ := hrel
                    have hBq := hBr.next hbq
                    have c2q := hBq.c 2 rfl
                    have e0q := cell_next hbq e0
                    have e1q := cell_next hbq e1
                    have hb3 := Below.next hb hbq
                    have hblkq : (a.add (k2 * 2)).block < wr.heap.size := Nat.lt_of_lt_of_le hblk hbq.size
                    clear c2 e0 e1 hblk
                    by_cases hzq : z < q
                    · obtain ⟨b, rfl, hbf⟩ := hVf.get (i := z) (by rw [HQ.out]; exact hzq)
                      obtain ⟨A5, c5, f0, f1, f2, f3, f4, f5, f6, -, hVt⟩ := (hbf.next hbq).val
                      have hblk2 : (b.add (z * 7)).block < wr.heap.size := blk_lt f0
                      have hlk3 := hlk2 _ (List.getElem_mem (by rw [HQ.out]; exact hzq : z < x.fields.length))
                      have cF := fewType_any (SizeOf.sizeOf (x.fields[z]'(by rw [HQ.out]; exact hzq)).type + 1) _ _ wr (by omega) hlk3 hVt
                      have hx2 : fewF (x.fields[z]'(by rw [HQ.out]; exact hzq)) = false → r = false := fun e => HX.out (all_at _ e)
                      have hy2 := all_next (p := fewF) hJ.out (k := z) (by rw [HQ.out]; exact hzq)
                      generalize x.fields[z]'(by rw [HQ.out]; exact hzq) = y at *
                      have hsz2 : (bs y.name).size = y.name.length := rfl
                      by_cases g4 : y.name.length ≤ 40
                      · have d4 : decide ((40 : Int) < (y.name.length : Int)) = false := by rw [decide_eq_false_iff_not]; omega
                        have hE2 : fewF y = fewT y.type := by unfold fewF; rw [show shortN y.name = true from decide_eq_true g4]; rfl
                        rw [hE2] at hx2 hy2
                        generalize fewT y.type = b at *
                        cases b
                        · obtain rfl := hx2 rfl
                          clear hx2 hy2 hJ hbf g4 hE2
                          go_wp2_with fail
                          refine cF.mono ?_
                          rintro e w2 ⟨rfl, hb2⟩
                          go_wp2_with fail
                          go_ret
                          exact ⟨rfl, Below.next hb3 hb2⟩
                        · have E := Lib.hid (hy2 rfl)
                          clear hx2 hy2 hJ hbf g4 hE2
                          go_wp2_with fail
                          refine cF.mono ?_
                          rintro e w2 ⟨rfl, hb2⟩
                          go_wp2_with fail
                          go_roundw
                          case rel => exact ⟨z + 1, by omega, by go_num, E, Below.next hbq hb2⟩
                          case measure => simp [intOf]; omega
                      · have d4 : decide ((40 : Int) < (y.name.length : Int)) = true := by rw [decide_eq_true_eq]; omega
                        obtain rfl := hx2 (by unfold fewF; rw [show shortN y.name = false from decide_eq_false g4]; rfl)
                        clear hx2 hy2 hJ hbf g4 cF
                        go_wp2_with fail
                        go_ret
                        exact ⟨rfl, hb3⟩
                    · obtain rfl : z = q := by omega
                      have E := Lib.hid (HY.out (all_end fun j h => hJ.out j h (by rw [← HQ.out]; exact h)))
                      clear hJ
                      go_wp2_with fail
                      go_roundw
                      case rel => exact ⟨k2 + 1, by omega, by go_num, E, hBq, hb3⟩
                      case measure => simp [intOf]; omega
                · have d2 : decide ((18 : Int) < (x.fields.length : Int)) = true := by rw [decide_eq_true_eq]; omega
                  obtain rfl := hx (by unfold fewS; rw [decide_eq_false g2]; simp)
                  clear hx hy hI g1 g2 hA
                  go_wp2_with fail
                  go_ret
                  exact ⟨rfl, hb⟩
              · have d1 : decide ((40 : Int) < (x.name.length : Int)) = true := by rw [decide_eq_true_eq]; omega
                obtain rfl := hx (by unfold fewS; rw [show shortN x.name = false from decide_eq_false g1]; simp)
                clear hx hy hI g1 hA
                go_wp2_with fail
                go_ret
                exact ⟨rfl, hb⟩
            · obtain rfl : k2 = m := by omega
              obtain rfl : true = r := by rw [← HR2.out]; exact (all_end fun j h => hI.out j h (by rw [← HM.out]; exact h)).symm
              clear hI
              go_wp2_with fail
              go_ret
              exact ⟨rfl, hb⟩
    · have d2 : decide ((18 : Int) < (m : Int)) = true := by rw [decide_eq_true_eq]; omega
      rw [decide_eq_false h2, Bool.false_and] at hr
      subst hr
      clear h1 h2
      go_enter Tryz.func9, Tryz.ntmps9
      go_wp2_with fail
      go_ret
      exact ⟨rfl, ab1 _ _⟩
  · have d1 : decide ((18 : Int) < (n : Int)) = true := by rw [decide_eq_true_eq]; omega
    rw [decide_eq_false h1, Bool.false_and] at hr
    subst hr
    clear h1
    go_enter Tryz.func9, Tryz.ntmps9
    go_wp2_with fail
    go_ret
    exact ⟨rfl, ab1 _ _⟩
end Go.Proofs.YthbhbpcjcnkkkaaGreatDoor
/-
  Which schemas are too long: the reference's and the developers' test. No conditions beyond those that each names.
-/
namespace Go.Proofs.YthbhbpcjcnkkkaaGreatDoor
open Go.RowKit
set_option maxRecDepth 100000 in
set_option maxHeartbeats 4000000 in
theorem refLong_any (S : Sch) (v : Value) (w : World) (r : Bool) (hr : r = true ↔ longS S) (hn : S.enums.length ≤ 1000) (hm : S.structs.length ≤ 1000) (hv : ScV w S v) :
    Calls Tryz.prog 39 #[v] w (Ib (.bool r) w) := by
  obtain ⟨A, c, A2, c2, rfl, hS⟩ := hv
  have hSe := hS.en
  have hSs := hS.st
  clear hS
  unfold longS at hr
  obtain ⟨n, hn2⟩ : ∃ n, S.enums.length = n := ⟨_, rfl⟩
  obtain ⟨m, hm2⟩ : ∃ m, S.structs.length = m := ⟨_, rfl⟩
  have HN := Lib.hid hn2
  have HM := Lib.hid hm2
  rw [hn2] at hn hr ⊢
  rw [hm2] at hm hr ⊢
  clear hn2 hm2
  have hB := Bx.new3 w 25 (.int .i64 S.ver) (.slice A n c) (.slice A2 m c2)
  by_cases h1 : 16 < n + m
  · obtain rfl := hr.2 (.inl h1)
    clear hr
    by_cases g1 : 16 < n
    · have d1 : decide ((16 : Int) < (n : Int)) = true := by rw [decide_eq_true_eq]; omega
      clear h1 g1
      go_enter Tryz.func39, Tryz.ntmps39
      go_wp2_with fail
      go_ret
      exact ⟨rfl, ab1 _ _⟩
    · have d1 : decide ((16 : Int) < (n : Int)) = false := by rw [decide_eq_false_iff_not]; omega
      by_cases g2 : 16 < m
      · have d2 : decide ((16 : Int) < (m : Int)) = true := by rw [decide_eq_true_eq]; omega
        clear h1 g1 g2
        go_enter Tryz.func39, Tryz.ntmps39
        go_wp2_with fail
        go_ret
        exact ⟨rfl, ab1 _ _⟩
      · have d2 : decide ((16 : Int) < (m : Int)) = false := by rw [decide_eq_false_iff_not]; omega
        have d3 : decide ((16 : Int) < (n : Int) + (m : Int)) = true := by rw [decide_eq_true_eq]; omega
        clear h1 g1 g2
        go_enter Tryz.func39, Tryz.ntmps39
        go_wp2_with fail
        go_ret
        exact ⟨rfl, ab1 _ _⟩
  · have d1 : decide ((16 : Int) < (n : Int)) = false := by rw [decide_eq_false_iff_not]; omega
    have d2 : decide ((16 : Int) < (m : Int)) = false := by rw [decide_eq_false_iff_not]; omega
    have d3 : decide ((16 : Int) < (n : Int) + (m : Int)) = false := by rw [decide_eq_false_iff_not]; omega
    have HR := Lib.hid hr
    clear hr
    go_enter Tryz.func39, Tryz.ntmps39
    go_wp2_with fail
    go_loopw [3] (fun i wr => ∃ k : Nat, k ≤ n ∧ i = .int .i64 (k : Int) ∧ Hid (∀ j (h : j < S.enums.length), j < k → decide ((S.enums[j]'h).names.length ≤ 16) = true) ∧ Bx wr w.heap.size [.int .i64 S.ver, .slice A n c, .slice A2 m c2] ∧ Below w.heap.size w wr) (fun i _ => n - (intOf i).toNat)
    case atStart => exact ⟨0, by omega, rfl, Lib.hid fun j _ h => by omega, hB, ab1 _ _⟩
    case round =>
      obtain ⟨k, hk, rfl, hI, hBr, hb⟩ := hrel
      have b1 := hBr.c 1 rfl
      have b2 := hBr.c 2 rfl
      clear hB
      by_cases hlt : k < n
      · obtain ⟨a, rfl, hA⟩ := hSe.get (i := k) (by rw [HN.out]; exact hlt)
        obtain ⟨e0, ⟨A3, c3, e1, -⟩, A4, c4, e2, -⟩ := hA.next hb
        have hblk : (a.add (k * 3)).block < wr.heap.size := blk_lt e0
        have hx : ¬ (S.enums[k]'(by rw [HN.out]; exact hlt)).names.length ≤ 16 → r = true := fun e => HR.out.2 (.inr (.inl ⟨_, List.getElem_mem (by rw [HN.out]; exact hlt), by omega⟩))
        have hy := fun e => all_next (p := fun x : En => decide (x.names.length ≤ 16)) hI.out (k := k) (by rw [HN.out]; exact hlt) e
        generalize S.enums[k]'(by rw [HN.out]; exact hlt) = x at *
        by_cases g : x.names.length ≤ 16
        · have d5 : decide ((16 : Int) < (x.names.length : Int)) = false := by rw [decide_eq_false_iff_not]; omega
          have E := Lib.hid (hy (decide_eq_true g))
          clear hx hy hI g hA
          go_wp2_with fail
          go_roundw
          case rel => exact ⟨k + 1, by omega, by go_num, E, hBr, hb⟩
          case measure => simp [intOf]; omega
        · have d5 : decide ((16 : Int) < (x.names.length : Int)) = true := by rw [decide_eq_true_eq]; omega
          obtain rfl := hx g
          clear hx hy hI g hA
          go_wp2_with fail
          go_ret
          exact ⟨rfl, hb⟩
      · obtain rfl : k = n := by omega
        have H1 := Lib.hid (show ∀ x ∈ S.enums, ¬ 16 < x.names.length by
          intro x hx
          obtain ⟨j, hj, rfl⟩ := List.mem_iff_getElem.1 hx
          have := hI.out j hj (by rw [← HN.out]; exact hj)
          rw [decide_eq_true_eq] at this
          omega)
        clear hI
        go_wp2_with fail
        rename World => wo
        go_loopw [4] (fun i wr => ∃ y : Nat, y ≤ m ∧ i = .int .i64 (y : Int) ∧ Hid (∀ j (h : j < S.structs.length), j < y → decide ((S.structs[j]'h).fields.length ≤ 16) = true) ∧ Bx wr w.heap.size [.int .i64 S.ver, .slice A k c, .slice A2 m c2] ∧ Below w.heap.size w wr) (fun i _ => m - (intOf i).toNat)
        case atStart => exact ⟨0, by omega, rfl, Lib.hid fun j _ h => by omega, hBr, hb⟩
        case round =>
          obtain ⟨k2, hk2, rfl, hI, hBr2, hb2⟩ := hrel
          have b1 := hBr2.c 1 rfl
          have b2 := hBr2.c 2 rfl
          clear hBr
          by_cases hlt2 : k2 < m
          · obtain ⟨a, rfl, hA⟩ := hSs.get (i := k2) (by rw [HM.out]; exact hlt2)
            obtain ⟨e0, A3, c3, e1, -⟩ := hA.next hb2
            have hblk : (a.add (k2 * 2)).block < wr.heap.size := blk_lt e0
            have hx : ¬ (S.structs[k2]'(by rw [HM.out]; exact hlt2)).fields.length ≤ 16 → r = true := fun e => HR.out.2 (.inr (.inr ⟨_, List.getElem_mem (by rw [HM.out]; exact hlt2), by omega⟩))
            have hy := fun e => all_next (p := fun x : St => decide (x.fields.length ≤ 16)) hI.out (k := k2) (by rw [HM.out]; exact hlt2) e
            generalize S.structs[k2]'(by rw [HM.out]; exact hlt2) = x at *
            by_cases g : x.fields.length ≤ 16
            · have d5 : decide ((16 : Int) < (x.fields.length : Int)) = false := by rw [decide_eq_false_iff_not]; omega
              have E := Lib.hid (hy (decide_eq_true g))
              clear hx hy hI g hA
              go_wp2_with fail
              go_roundw
              case rel => exact ⟨k2 + 1, by omega, by go_num, E, hBr2, hb2⟩
              case measure => simp [intOf]; omega
            · have d5 : decide ((16 : Int) < (x.fields.length : Int)) = true := by rw [decide_eq_true_eq]; omega
              obtain rfl := hx g
              clear hx hy hI g hA
              go_wp2_with fail
              go_ret
              exact ⟨rfl, hb2⟩
          · obtain rfl : k2 = m := by omega
            obtain rfl : r = false := by
              rw [Bool.eq_false_iff]
              intro h
              rcases HR.out.1 h with h | ⟨x, hx, h⟩ | ⟨x, hx, h⟩
              · omega
              · exact H1.out x hx h
              · obtain ⟨j, hj, rfl⟩ := List.mem_iff_getElem.1 hx
                have := hI.out j hj (by rw [← HM.out]; exact hj)
                rw [decide_eq_true_eq] at this
                omega
            clear hI
            go_wp2_with fail
            go_ret
            exact ⟨rfl, hb2⟩
set_option maxRecDepth 100000 in
set_option maxHeartbeats 4000000 in
theorem isLong_any (S : Sch) (v : Value) (w : World) (r : Bool) (hr : r = true ↔ longS S) (hn : S.enums.length ≤ 1000) (hm : S.structs.length ≤ 1000) (hv : ScV w S v) :
    Calls Tryz.prog 34 #[v] w (Ib (.bool r) w) := by
  obtain ⟨A, c, A2, c2, rfl, hS⟩ := hv
  have hSe := hS.en
  have hSs := hS.st
  clear hS
  unfold longS at hr
  obtain ⟨n, hn2⟩ : ∃ n, S.enums.length = n := ⟨_, rfl⟩
  obtain ⟨m, hm2⟩ : ∃ m, S.structs.length = m := ⟨_, rfl⟩
  have HN := Lib.hid hn2
  have HM := Lib.hid hm2
  rw [hn2] at hn hr ⊢
  rw [hm2] at hm hr ⊢
  clear hn2 hm2
  have hB := Bx.new3 w 25 (.int .i64 S.ver) (.slice A n c) (.slice A2 m c2)
  by_cases h1 : 16 < n + m
  · obtain rfl := hr.2 (.inl h1)
    have d1 : decide ((16 : Int) < (n : Int) + (m : Int)) = true := by rw [decide_eq_true_eq]; omega
    clear hr h1
    go_enter Tryz.func34, Tryz.ntmps34
    go_wp2_with fail
    go_ret
    exact ⟨rfl, ab1 _ _⟩
  · have d1 : decide ((16 : Int) < (n : Int) + (m : Int)) = false := by rw [decide_eq_false_iff_not]; omega
    have HR := Lib.hid hr
    clear hr
    go_enter Tryz.func34, Tryz.ntmps34
    go_wp2_with fail
    go_loopw [18] (fun i wr => ∃ k : Nat, k ≤ n ∧ i = .int .i64 (k : Int) ∧ Hid (∀ j (h : j < S.enums.length), j < k → decide ((S.enums[j]'h).names.length ≤ 16) = true) ∧ Bx wr w.heap.size [.int .i64 S.ver, .slice A n c, .slice A2 m c2] ∧ Below w.heap.size w wr) (fun i _ => n - (intOf i).toNat)
    case atStart => exact ⟨0, by omega, rfl, Lib.hid fun j _ h => by omega, hB, ab1 _ _⟩
    case round =>
      obtain ⟨k, hk, rfl, hI, hBr, hb⟩ := hrel
      have b1 := hBr.c 1 rfl
      have b2 := hBr.c 2 rfl
      clear hB
      by_cases hlt : k < n
      · obtain ⟨a, rfl, hA⟩ := hSe.get (i := k) (by rw [HN.out]; exact hlt)
        obtain ⟨e0, ⟨A3, c3, e1, -⟩, A4, c4, e2, -⟩ := hA.next hb
        have hblk : (a.add (k * 3)).block < wr.heap.size := blk_lt e0
        have hx : ¬ (S.enums[k]'(by rw [HN.out]; exact hlt)).names.length ≤ 16 → r = true := fun e => HR.out.2 (.inr (.inl ⟨_, List.getElem_mem (by rw [HN.out]; exact hlt), by omega⟩))
        have hy := fun e => all_next (p := fun x : En => decide (x.names.length ≤ 16)) hI.out (k := k) (by rw [HN.out]; exact hlt) e
        generalize S.enums[k]'(by rw [HN.out]; exact hlt) = x at *
        by_cases g : x.names.length ≤ 16
        · have d5 : decide ((16 : Int) < (x.names.length : Int)) = false := by rw [decide_eq_false_iff_not]; omega
          have E := Lib.hid (hy (decide_eq_true g))
          clear hx hy hI g hA
          go_wp2_with fail
          go_roundw
          case rel => exact ⟨k + 1, by omega, by go_num, E, hBr.next (ab1 _ _), Below.next hb (ab1 _ _)⟩
          case measure => simp [intOf]; omega
        · have d5 : decide ((16 : Int) < (x.names.length : Int)) = true := by rw [decide_eq_true_eq]; omega
          obtain rfl := hx g
          clear hx hy hI g hA
          go_wp2_with fail
          go_ret
          exact ⟨rfl, Below.next hb (ab1 _ _)⟩
      · obtain rfl : k = n := by omega
        have H1 := Lib.hid (show ∀ x ∈ S.enums, ¬ 16 < x.names.length by
          intro x hx
          obtain ⟨j, hj, rfl⟩ := List.mem_iff_getElem.1 hx
          have := hI.out j hj (by rw [← HN.out]; exact hj)
          rw [decide_eq_true_eq] at this
          omega)
        clear hI
        go_wp2_with fail
        rename World => wo
        go_loopw [30] (fun i wr => ∃ y : Nat, y ≤ m ∧ i = .int .i64 (y : Int) ∧ Hid (∀ j (h : j < S.structs.length), j < y → decide ((S.structs[j]'h).fields.length ≤ 16) = true) ∧ Bx wr w.heap.size [.int .i64 S.ver, .slice A k c, .slice A2 m c2] ∧ Below w.heap.size w wr) (fun i _ => m - (intOf i).toNat)
        case atStart => exact ⟨0, by omega, rfl, Lib.hid fun j _ h => by omega, hBr, hb⟩
        case round =>
          obtain ⟨k2, hk2, rfl, hI, hBr2, hb2⟩ := hrel
          have b1 := hBr2.c 1 rfl
          have b2 := hBr2.c 2 rfl
          clear hBr
          by_cases hlt2 : k2 < m
          · obtain ⟨a, rfl, hA⟩ := hSs.get (i := k2) (by rw [HM.out]; exact hlt2)
            obtain ⟨e0, A3, c3, e1, -⟩ := hA.next hb2
            have hblk : (a.add (k2 * 2)).block < wr.heap.size := blk_lt e0
            have hx : ¬ (S.structs[k2]'(by rw [HM.out]; exact hlt2)).fields.length ≤ 16 → r = true := fun e => HR.out.2 (.inr (.inr ⟨_, List.getElem_mem (by rw [HM.out]; exact hlt2), by omega⟩))
            have hy := fun e => all_next (p := fun x : St => decide (x.fields.length ≤ 16)) hI.out (k := k2) (by rw [HM.out]; exact hlt2) e
            generalize S.structs[k2]'(by rw [HM.out]; exact hlt2) = x at *
            by_cases g : x.fields.length ≤ 16
            · have d5 : decide ((16 : Int) < (x.fields.length : Int)) = false := by rw [decide_eq_false_iff_not]; omega
              have E := Lib.hid (hy (decide_eq_true g))
              clear hx hy hI g hA
              go_wp2_with fail
              go_roundw
              case rel => exact ⟨k2 + 1, by omega, by go_num, E, hBr2.next (ab1 _ _), Below.next hb2 (ab1 _ _)⟩
              case measure => simp [intOf]; omega
            · have d5 : decide ((16 : Int) < (x.fields.length : Int)) = true := by rw [decide_eq_true_eq]; omega
              obtain rfl := hx g
              clear hx hy hI g hA
              go_wp2_with fail
              go_ret
              exact ⟨rfl, Below.next hb2 (ab1 _ _)⟩
          · obtain rfl : k2 = m := by omega
            obtain rfl : r = false := by
              rw [Bool.eq_false_iff]
              intro h
              rcases HR.out.1 h with h | ⟨x, hx, h⟩ | ⟨x, hx, h⟩
              · omega
              · exact H1.out x hx h
              · obtain ⟨j, hj, rfl⟩ := List.mem_iff_getElem.1 hx
                have := hI.out j hj (by rw [← HM.out]; exact hj)
                rw [decide_eq_true_eq] at this
                omega
            clear hI
            go_wp2_with fail
            go_ret
            exact ⟨rfl, hb2⟩
end Go.Proofs.YthbhbpcjcnkkkaaGreatDoor
/-
  The reference's valid types: Right. No conditions beyond those that each names.
-/
namespace Go.Proofs.YthbhbpcjcnkkkaaGreatDoor
open Go.RowKit
theorem TyV.mk_ {w : World} {k s : Int} {n : List UInt8} {e : List Ty} {u : Value} : TyV w (.mk k s n e) u ↔ ∃ A c, u = .agg #[.int .i64 k, .int .i64 s, .string (bs n), .slice A e.length c] ∧ Rw TyA 4 w e A := Iff.rfl
set_option maxRecDepth 100000 in
set_option maxHeartbeats 4000000 in
theorem right1_any (S : Sch) (s : Int) (n : List UInt8) (e : List Ty) (v u : Value) (w : World) (hS : ScV w S v) (hT : TyV w (.mk 1 s n e) u) (hl : e.length ≤ 9223372036854775807) :
    Calls Tryz.prog 68 #[v, u] w (Ib (.bool (right S (.mk 1 s n e))) w) := by
  have cP := fun W h => refPlain_any (.mk 1 s n e) u W (TyV.next h hT) hl
  obtain ⟨A, c, A2, c2, rfl, hSc⟩ := hS
  obtain ⟨A3, c3, rfl, hR⟩ := TyV.mk_.1 hT
  obtain ⟨r, hr⟩ : ∃ r, right S (.mk 1 s n e) = r := ⟨_, rfl⟩
  rw [hr]
  rw [right_eq, if_neg (by decide), if_neg (by decide), if_neg (by decide)] at hr
  replace cP : ∀ W, Below w.heap.size w W → Calls Tryz.prog 91 #[.agg #[.int .i64 1, .int .i64 s, .string (bs n), .slice A3 e.length c3]] W (Ib (.bool (decide (e.length = 0))) W) := cP
  generalize decide (e.length = 0) = z at *
  clear hT hR hSc
  by_cases h0 : s = 0
  · subst h0
    have hz : szOk 1 0 = true := rfl
    by_cases hn : n = []
    · subst hn
      have q0 : (bs ([] : List UInt8)).toList = [] := toList_bs []
      obtain rfl : z = r := by rw [← hr, hz]; simp
      clear hr hz
      go_enter Tryz.func68, Tryz.ntmps68
      go_wp2_with fail
      refine (cP _ (ab2 _ _ _)).mono ?_
      rintro e1 w1 ⟨rfl, hb⟩
      go_wp2_with fail
      go_ret
      exact ⟨rfl, Below.next (ab2 _ _ _) hb⟩
    · have q0 : ¬ (bs n).toList = [] := by rw [toList_bs]; exact hn
      obtain rfl : false = r := by rw [← hr, hz, decide_eq_false hn]; simp
      clear hr hz hn cP
      go_enter Tryz.func68, Tryz.ntmps68
      go_wp2_with fail
      go_ret
      exact ⟨rfl, ab2 _ _ _⟩
  · have d0 : (s == 0) = false := by simpa using h0
    have hz : szOk 1 s = false := by simp [szOk, h0]
    clear h0
    obtain rfl : false = r := by rw [← hr, hz]; rfl
    clear hr hz cP
    go_enter Tryz.func68, Tryz.ntmps68
    go_wp2_with fail
    go_ret
    exact ⟨rfl, ab2 _ _ _⟩

set_option maxRecDepth 100000 in
set_option maxHeartbeats 4000000 in
theorem right2_any (S : Sch) (s : Int) (n : List UInt8) (e : List Ty) (v u : Value) (w : World) (hS : ScV w S v) (hT : TyV w (.mk 2 s n e) u) (hl : e.length ≤ 9223372036854775807) :
    Calls Tryz.prog 68 #[v, u] w (Ib (.bool (right S (.mk 2 s n e))) w) := by
  have cP := fun W h => refPlain_any (.mk 2 s n e) u W (TyV.next h hT) hl
  obtain ⟨A, c, A2, c2, rfl, hSc⟩ := hS
  obtain ⟨A3, c3, rfl, hR⟩ := TyV.mk_.1 hT
  obtain ⟨r, hr⟩ : ∃ r, right S (.mk 2 s n e) = r := ⟨_, rfl⟩
  rw [hr]
  rw [right_eq, if_neg (by decide), if_neg (by decide), if_neg (by decide)] at hr
  replace cP : ∀ W, Below w.heap.size w W → Calls Tryz.prog 91 #[.agg #[.int .i64 2, .int .i64 s, .string (bs n), .slice A3 e.length c3]] W (Ib (.bool (decide (e.length = 0))) W) := cP
  generalize decide (e.length = 0) = z at *
  clear hT hR hSc
  by_cases h8 : s = 8
  · subst h8
    have hz : szOk 2 8 = true := rfl
    by_cases hn : n = []
    · subst hn
      have q0 : (bs ([] : List UInt8)).toList = [] := toList_bs []
      obtain rfl : z = r := by rw [← hr, hz]; simp
      clear hr hz
      go_enter Tryz.func68, Tryz.ntmps68
      go_wp2_with fail
      refine (cP _ (ab2 _ _ _)).mono ?_
      rintro e1 w1 ⟨rfl, hb⟩
      go_wp2_with fail
      go_ret
      exact ⟨rfl, Below.next (ab2 _ _ _) hb⟩
    · have q0 : ¬ (bs n).toList = [] := by rw [toList_bs]; exact hn
      obtain rfl : false = r := by rw [← hr, hz, decide_eq_false hn]; simp
      clear hr hz hn cP
      go_enter Tryz.func68, Tryz.ntmps68
      go_wp2_with fail
      go_ret
      exact ⟨rfl, ab2 _ _ _⟩
  · have d8 : (s == 8) = false := by simpa using h8
    by_cases h16 : s = 16
    · subst h16
      have hz : szOk 2 16 = true := rfl
      by_cases hn : n = []
      · subst hn
        have q0 : (bs ([] : List UInt8)).toList = [] := toList_bs []
        obtain rfl : z = r := by rw [← hr, hz]; simp
        clear hr hz
        go_enter Tryz.func68, Tryz.ntmps68
        go_wp2_with fail
        refine (cP _ (ab2 _ _ _)).mono ?_
        rintro e1 w1 ⟨rfl, hb⟩
        go_wp2_with fail
        go_ret
        exact ⟨rfl, Below.next (ab2 _ _ _) hb⟩
      · have q0 : ¬ (bs n).toList = [] := by rw [toList_bs]; exact hn
        obtain rfl : false = r := by rw [← hr, hz, decide_eq_false hn]; simp
        clear hr hz hn cP
        go_enter Tryz.func68, Tryz.ntmps68
        go_wp2_with fail
        go_ret
        exact ⟨rfl, ab2 _ _ _⟩
    · have d16 : (s == 16) = false := by simpa using h16
      by_cases h32 : s = 32
      · subst h32
        have hz : szOk 2 32 = true := rfl
        by_cases hn : n = []
        · subst hn
          have q0 : (bs ([] : List UInt8)).toList = [] := toList_bs []
          obtain rfl : z = r := by rw [← hr, hz]; simp
          clear hr hz
          go_enter Tryz.func68, Tryz.ntmps68
          go_wp2_with fail
          refine (cP _ (ab2 _ _ _)).mono ?_
          rintro e1 w1 ⟨rfl, hb⟩
          go_wp2_with fail
          go_ret
          exact ⟨rfl, Below.next (ab2 _ _ _) hb⟩
        · have q0 : ¬ (bs n).toList = [] := by rw [toList_bs]; exact hn
          obtain rfl : false = r := by rw [← hr, hz, decide_eq_false hn]; simp
          clear hr hz hn cP
          go_enter Tryz.func68, Tryz.ntmps68
          go_wp2_with fail
          go_ret
          exact ⟨rfl, ab2 _ _ _⟩
      · have d32 : (s == 32) = false := by simpa using h32
        by_cases h64 : s = 64
        · subst h64
          have hz : szOk 2 64 = true := rfl
          by_cases hn : n = []
          · subst hn
            have q0 : (bs ([] : List UInt8)).toList = [] := toList_bs []
            obtain rfl : z = r := by rw [← hr, hz]; simp
            clear hr hz
            go_enter Tryz.func68, Tryz.ntmps68
            go_wp2_with fail
            refine (cP _ (ab2 _ _ _)).mono ?_
            rintro e1 w1 ⟨rfl, hb⟩
            go_wp2_with fail
            go_ret
            exact ⟨rfl, Below.next (ab2 _ _ _) hb⟩
          · have q0 : ¬ (bs n).toList = [] := by rw [toList_bs]; exact hn
            obtain rfl : false = r := by rw [← hr, hz, decide_eq_false hn]; simp
            clear hr hz hn cP
            go_enter Tryz.func68, Tryz.ntmps68
            go_wp2_with fail
            go_ret
            exact ⟨rfl, ab2 _ _ _⟩
        · have d64 : (s == 64) = false := by simpa using h64
          have hz : szOk 2 s = false := by simp [szOk, h8, h16, h32, h64]
          clear h8 h16 h32 h64
          obtain rfl : false = r := by rw [← hr, hz]; rfl
          clear hr hz cP
          go_enter Tryz.func68, Tryz.ntmps68
          go_wp2_with fail
          go_ret
          exact ⟨rfl, ab2 _ _ _⟩

set_option maxRecDepth 100000 in
set_option maxHeartbeats 4000000 in
theorem right3_any (S : Sch) (s : Int) (n : List UInt8) (e : List Ty) (v u : Value) (w : World) (hS : ScV w S v) (hT : TyV w (.mk 3 s n e) u) (hl : e.length ≤ 9223372036854775807) :
    Calls Tryz.prog 68 #[v, u] w (Ib (.bool (right S (.mk 3 s n e))) w) := by
  have cP := fun W h => refPlain_any (.mk 3 s n e) u W (TyV.next h hT) hl
  obtain ⟨A, c, A2, c2, rfl, hSc⟩ := hS
  obtain ⟨A3, c3, rfl, hR⟩ := TyV.mk_.1 hT
  obtain ⟨r, hr⟩ : ∃ r, right S (.mk 3 s n e) = r := ⟨_, rfl⟩
  rw [hr]
  rw [right_eq, if_neg (by decide), if_neg (by decide), if_neg (by decide)] at hr
  replace cP : ∀ W, Below w.heap.size w W → Calls Tryz.prog 91 #[.agg #[.int .i64 3, .int .i64 s, .string (bs n), .slice A3 e.length c3]] W (Ib (.bool (decide (e.length = 0))) W) := cP
  generalize decide (e.length = 0) = z at *
  clear hT hR hSc
  by_cases h8 : s = 8
  · subst h8
    have hz : szOk 3 8 = true := rfl
    by_cases hn : n = []
    · subst hn
      have q0 : (bs ([] : List UInt8)).toList = [] := toList_bs []
      obtain rfl : z = r := by rw [← hr, hz]; simp
      clear hr hz
      go_enter Tryz.func68, Tryz.ntmps68
      go_wp2_with fail
      refine (cP _ (ab2 _ _ _)).mono ?_
      rintro e1 w1 ⟨rfl, hb⟩
      go_wp2_with fail
      go_ret
      exact ⟨rfl, Below.next (ab2 _ _ _) hb⟩
    · have q0 : ¬ (bs n).toList = [] := by rw [toList_bs]; exact hn
      obtain rfl : false = r := by rw [← hr, hz, decide_eq_false hn]; simp
      clear hr hz hn cP
      go_enter Tryz.func68, Tryz.ntmps68
      go_wp2_with fail
      go_ret
      exact ⟨rfl, ab2 _ _ _⟩
  · have d8 : (s == 8) = false := by simpa using h8
    by_cases h16 : s = 16
    · subst h16
      have hz : szOk 3 16 = true := rfl
      by_cases hn : n = []
      · subst hn
        have q0 : (bs ([] : List UInt8)).toList = [] := toList_bs []
        obtain rfl : z = r := by rw [← hr, hz]; simp
        clear hr hz
        go_enter Tryz.func68, Tryz.ntmps68
        go_wp2_with fail
        refine (cP _ (ab2 _ _ _)).mono ?_
        rintro e1 w1 ⟨rfl, hb⟩
        go_wp2_with fail
        go_ret
        exact ⟨rfl, Below.next (ab2 _ _ _) hb⟩
      · have q0 : ¬ (bs n).toList = [] := by rw [toList_bs]; exact hn
        obtain rfl : false = r := by rw [← hr, hz, decide_eq_false hn]; simp
        clear hr hz hn cP
        go_enter Tryz.func68, Tryz.ntmps68
        go_wp2_with fail
        go_ret
        exact ⟨rfl, ab2 _ _ _⟩
    · have d16 : (s == 16) = false := by simpa using h16
      by_cases h32 : s = 32
      · subst h32
        have hz : szOk 3 32 = true := rfl
        by_cases hn : n = []
        · subst hn
          have q0 : (bs ([] : List UInt8)).toList = [] := toList_bs []
          obtain rfl : z = r := by rw [← hr, hz]; simp
          clear hr hz
          go_enter Tryz.func68, Tryz.ntmps68
          go_wp2_with fail
          refine (cP _ (ab2 _ _ _)).mono ?_
          rintro e1 w1 ⟨rfl, hb⟩
          go_wp2_with fail
          go_ret
          exact ⟨rfl, Below.next (ab2 _ _ _) hb⟩
        · have q0 : ¬ (bs n).toList = [] := by rw [toList_bs]; exact hn
          obtain rfl : false = r := by rw [← hr, hz, decide_eq_false hn]; simp
          clear hr hz hn cP
          go_enter Tryz.func68, Tryz.ntmps68
          go_wp2_with fail
          go_ret
          exact ⟨rfl, ab2 _ _ _⟩
      · have d32 : (s == 32) = false := by simpa using h32
        have hz : szOk 3 s = false := by simp [szOk, h8, h16, h32]
        clear h8 h16 h32
        obtain rfl : false = r := by rw [← hr, hz]; rfl
        clear hr hz cP
        go_enter Tryz.func68, Tryz.ntmps68
        go_wp2_with fail
        go_ret
        exact ⟨rfl, ab2 _ _ _⟩

set_option maxRecDepth 100000 in
set_option maxHeartbeats 4000000 in
theorem right4_any (S : Sch) (s : Int) (n : List UInt8) (e : List Ty) (v u : Value) (w : World) (hS : ScV w S v) (hT : TyV w (.mk 4 s n e) u) (hl : e.length ≤ 9223372036854775807) :
    Calls Tryz.prog 68 #[v, u] w (Ib (.bool (right S (.mk 4 s n e))) w) := by
  have cP := fun W h => refPlain_any (.mk 4 s n e) u W (TyV.next h hT) hl
  obtain ⟨A, c, A2, c2, rfl, hSc⟩ := hS
  obtain ⟨A3, c3, rfl, hR⟩ := TyV.mk_.1 hT
  obtain ⟨r, hr⟩ : ∃ r, right S (.mk 4 s n e) = r := ⟨_, rfl⟩
  rw [hr]
  rw [right_eq, if_neg (by decide), if_neg (by decide), if_neg (by decide)] at hr
  replace cP : ∀ W, Below w.heap.size w W → Calls Tryz.prog 91 #[.agg #[.int .i64 4, .int .i64 s, .string (bs n), .slice A3 e.length c3]] W (Ib (.bool (decide (e.length = 0))) W) := cP
  generalize decide (e.length = 0) = z at *
  clear hT hR hSc
  by_cases h1 : 1 ≤ s
  · have d1 : decide (1 ≤ s) = true := decide_eq_true h1
    by_cases h2 : s ≤ 2000
    · have d2 : decide (s ≤ 2000) = true := decide_eq_true h2
      have hz : szOk 4 s = true := by simp [szOk, h1, h2]
      by_cases hn : n = []
      · subst hn
        have q0 : (bs ([] : List UInt8)).toList = [] := toList_bs []
        obtain rfl : z = r := by rw [← hr, hz]; simp
        clear hr hz
        go_enter Tryz.func68, Tryz.ntmps68
        go_wp2_with fail
        refine (cP _ (ab2 _ _ _)).mono ?_
        rintro e1 w1 ⟨rfl, hb⟩
        go_wp2_with fail
        go_ret
        exact ⟨rfl, Below.next (ab2 _ _ _) hb⟩
      · have q0 : ¬ (bs n).toList = [] := by rw [toList_bs]; exact hn
        obtain rfl : false = r := by rw [← hr, hz, decide_eq_false hn]; simp
        clear hr hz hn cP
        go_enter Tryz.func68, Tryz.ntmps68
        go_wp2_with fail
        go_ret
        exact ⟨rfl, ab2 _ _ _⟩
    · have d2 : decide (s ≤ 2000) = false := decide_eq_false h2
      have hz : szOk 4 s = false := by simp [szOk, h2]
      clear h2
      obtain rfl : false = r := by rw [← hr, hz]; rfl
      clear hr hz cP
      go_enter Tryz.func68, Tryz.ntmps68
      go_wp2_with fail
      go_ret
      exact ⟨rfl, ab2 _ _ _⟩
  · have d1 : decide (1 ≤ s) = false := decide_eq_false h1
    have hz : szOk 4 s = false := by simp [szOk, h1]
    clear h1
    obtain rfl : false = r := by rw [← hr, hz]; rfl
    clear hr hz cP
    go_enter Tryz.func68, Tryz.ntmps68
    go_wp2_with fail
    go_ret
    exact ⟨rfl, ab2 _ _ _⟩

theorem mem_sns (S : Sch) (n : List UInt8) : (fst_ St.name S.structs n).isSome = (sns S).contains n := by
  rw [Bool.eq_iff_iff, List.contains_iff_mem]
  cases h : fst_ St.name S.structs n with
  | none =>
    simp only [Option.isSome_none, Bool.false_eq_true, false_iff]
    intro hm
    obtain ⟨t, ht, e⟩ := List.mem_map.1 hm
    exact fst_none.1 h t ht e
  | some t =>
    simp only [Option.isSome_some, true_iff]
    obtain ⟨h1, h2⟩ := fst_mem h
    exact List.mem_map.2 ⟨t, h1, h2⟩
set_option maxRecDepth 100000 in
set_option maxHeartbeats 4000000 in
theorem right6_any (S : Sch) (s : Int) (n : List UInt8) (e : List Ty) (v u : Value) (w : World) (hb : S.structs.length ≤ 1000) (hS : ScV w S v) (hT : TyV w (.mk 6 s n e) u) (hl : e.length ≤ 9223372036854775807) :
    Calls Tryz.prog 68 #[v, u] w (Ib (.bool (right S (.mk 6 s n e))) w) := by
  have cP := fun W h => refPlain_any (.mk 6 s n e) u W (TyV.next h hT) hl
  have cF := fun W h => refStruct_any S n v W (ScV.next h hS) hb
  obtain ⟨A, c, A2, c2, rfl, hSc⟩ := hS
  obtain ⟨A3, c3, rfl, hR⟩ := TyV.mk_.1 hT
  obtain ⟨r, hr⟩ : ∃ r, right S (.mk 6 s n e) = r := ⟨_, rfl⟩
  rw [hr]
  have hr2 : right S (.mk 6 s n e) = (decide (s = 0) && ((fst_ St.name S.structs n).isSome && decide (e.length = 0))) := by
    rw [right_eq, mem_sns]
    rfl
  rw [hr2] at hr
  generalize fst_ St.name S.structs n = o at *
  replace cP : ∀ W, Below w.heap.size w W → Calls Tryz.prog 91 #[.agg #[.int .i64 6, .int .i64 s, .string (bs n), .slice A3 e.length c3]] W (Ib (.bool (decide (e.length = 0))) W) := cP
  generalize decide (e.length = 0) = z at *
  have hB2 := Bx.new4 (w.alloc (Obj.cells #[.int .i64 S.ver, .slice A S.enums.length c, .slice A2 S.structs.length c2] 25)) 45 (.int .i64 6) (.int .i64 s) (.string (bs n)) (.slice A3 e.length c3)
  have hz1 : (w.alloc (Obj.cells #[.int .i64 S.ver, .slice A S.enums.length c, .slice A2 S.structs.length c2] 25)).heap.size = w.heap.size + 1 := by simp
  rw [hz1] at hB2
  clear hT hR hSc hr2 hz1
  cases o with
  | none =>
    obtain rfl : false = r := by rw [← hr]; simp
    go_enter Tryz.func68, Tryz.ntmps68
    go_wp2_with fail
    refine (cF _ (ab2 _ _ _)).mono ?_
    rintro e1 w1 ⟨v1, rfl, hV, hb1⟩
    obtain ⟨A4, c4, rfl, -⟩ := hV
    clear cF cP hr
    have hB2 := hB2.next hb1
    have b1 := hB2.c 1 rfl
    go_wp2_with fail
    go_ret
    exact ⟨rfl, Below.next (Below.next (ab2 _ _ _) hb1) (ab1 _ _)⟩
  | some t =>
    by_cases hs : s = 0
    · subst hs
      obtain rfl : z = r := by rw [← hr]; simp
      go_enter Tryz.func68, Tryz.ntmps68
      go_wp2_with fail
      refine (cF _ (ab2 _ _ _)).mono ?_
      rintro e1 w1 ⟨v1, rfl, hV, hb1⟩
      obtain ⟨A4, c4, rfl, -⟩ := hV
      clear cF hr
      have hB2 := hB2.next hb1
      have b0 := hB2.c 0 rfl
      have b1 := hB2.c 1 rfl
      have b2 := hB2.c 2 rfl
      have b3 := hB2.c 3 rfl
      have hlt := hB2.lt
      have hb2 := Below.next (ab2 _ _ _) hb1
      go_wp2_with fail
      refine (cP _ (Below.next hb2 (ab1 _ _))).mono ?_
      rintro e2 w2 ⟨rfl, hb3⟩
      go_wp2_with fail
      go_ret
      exact ⟨rfl, Below.next (Below.next hb2 (ab1 _ _)) hb3⟩
    · obtain rfl : false = r := by rw [← hr, decide_eq_false hs]; rfl
      have d0 : (s == 0) = false := by simpa using hs
      clear hs
      go_enter Tryz.func68, Tryz.ntmps68
      go_wp2_with fail
      refine (cF _ (ab2 _ _ _)).mono ?_
      rintro e1 w1 ⟨v1, rfl, hV, hb1⟩
      obtain ⟨A4, c4, rfl, -⟩ := hV
      clear cF cP hr
      have hB2 := hB2.next hb1
      have b1 := hB2.c 1 rfl
      have hlt := hB2.lt
      go_wp2_with fail
      go_ret
      exact ⟨rfl, Below.next (Below.next (ab2 _ _ _) hb1) (ab1 _ _)⟩
theorem mem_ens (S : Sch) (n : List UInt8) : (fst_ En.name S.enums n).isSome = (ens S).contains n := by
  rw [Bool.eq_iff_iff, List.contains_iff_mem]
  cases h : fst_ En.name S.enums n with
  | none =>
    simp only [Option.isSome_none, Bool.false_eq_true, false_iff]
    intro hm
    obtain ⟨t, ht, e⟩ := List.mem_map.1 hm
    exact fst_none.1 h t ht e
  | some t =>
    simp only [Option.isSome_some, true_iff]
    obtain ⟨h1, h2⟩ := fst_mem h
    exact List.mem_map.2 ⟨t, h1, h2⟩
set_option maxRecDepth 100000 in
set_option maxHeartbeats 4000000 in
theorem right7_any (S : Sch) (s : Int) (n : List UInt8) (e : List Ty) (v u : Value) (w : World) (hb : S.enums.length ≤ 1000) (hS : ScV w S v) (hT : TyV w (.mk 7 s n e) u) (hl : e.length ≤ 9223372036854775807) :
    Calls Tryz.prog 68 #[v, u] w (Ib (.bool (right S (.mk 7 s n e))) w) := by
  have cP := fun W h => refPlain_any (.mk 7 s n e) u W (TyV.next h hT) hl
  have cF := fun W h => refEnum_any S n v W (ScV.next h hS) hb
  obtain ⟨A, c, A2, c2, rfl, hSc⟩ := hS
  obtain ⟨A3, c3, rfl, hR⟩ := TyV.mk_.1 hT
  obtain ⟨r, hr⟩ : ∃ r, right S (.mk 7 s n e) = r := ⟨_, rfl⟩
  rw [hr]
  have hr2 : right S (.mk 7 s n e) = (decide (s = 0) && ((fst_ En.name S.enums n).isSome && decide (e.length = 0))) := by
    rw [right_eq, mem_ens]
    rfl
  rw [hr2] at hr
  generalize fst_ En.name S.enums n = o at *
  replace cP : ∀ W, Below w.heap.size w W → Calls Tryz.prog 91 #[.agg #[.int .i64 7, .int .i64 s, .string (bs n), .slice A3 e.length c3]] W (Ib (.bool (decide (e.length = 0))) W) := cP
  generalize decide (e.length = 0) = z at *
  have hB2 := Bx.new4 (w.alloc (Obj.cells #[.int .i64 S.ver, .slice A S.enums.length c, .slice A2 S.structs.length c2] 25)) 45 (.int .i64 7) (.int .i64 s) (.string (bs n)) (.slice A3 e.length c3)
  have hz1 : (w.alloc (Obj.cells #[.int .i64 S.ver, .slice A S.enums.length c, .slice A2 S.structs.length c2] 25)).heap.size = w.heap.size + 1 := by simp
  rw [hz1] at hB2
  clear hT hR hSc hr2 hz1
  cases o with
  | none =>
    obtain rfl : false = r := by rw [← hr]; simp
    go_enter Tryz.func68, Tryz.ntmps68
    go_wp2_with fail
    refine (cF _ (ab2 _ _ _)).mono ?_
    rintro e1 w1 ⟨v1, rfl, hV, hb1⟩
    obtain ⟨A4, c4, A5, c5, rfl, -, -⟩ := hV
    clear cF cP hr
    have hB2 := hB2.next hb1
    have b1 := hB2.c 1 rfl
    go_wp2_with fail
    go_ret
    exact ⟨rfl, Below.next (Below.next (ab2 _ _ _) hb1) (ab1 _ _)⟩
  | some t =>
    by_cases hs : s = 0
    · subst hs
      obtain rfl : z = r := by rw [← hr]; simp
      go_enter Tryz.func68, Tryz.ntmps68
      go_wp2_with fail
      refine (cF _ (ab2 _ _ _)).mono ?_
      rintro e1 w1 ⟨v1, rfl, hV, hb1⟩
      obtain ⟨A4, c4, A5, c5, rfl, -, -⟩ := hV
      clear cF hr
      have hB2 := hB2.next hb1
      have b0 := hB2.c 0 rfl
      have b1 := hB2.c 1 rfl
      have b2 := hB2.c 2 rfl
      have b3 := hB2.c 3 rfl
      have hlt := hB2.lt
      have hb2 := Below.next (ab2 _ _ _) hb1
      go_wp2_with fail
      refine (cP _ (Below.next hb2 (ab1 _ _))).mono ?_
      rintro e2 w2 ⟨rfl, hb3⟩
      go_wp2_with fail
      go_ret
      exact ⟨rfl, Below.next (Below.next hb2 (ab1 _ _)) hb3⟩
    · obtain rfl : false = r := by rw [← hr, decide_eq_false hs]; rfl
      have d0 : (s == 0) = false := by simpa using hs
      clear hs
      go_enter Tryz.func68, Tryz.ntmps68
      go_wp2_with fail
      refine (cF _ (ab2 _ _ _)).mono ?_
      rintro e1 w1 ⟨v1, rfl, hV, hb1⟩
      obtain ⟨A4, c4, A5, c5, rfl, -, -⟩ := hV
      clear cF cP hr
      have hB2 := hB2.next hb1
      have b1 := hB2.c 1 rfl
      have hlt := hB2.lt
      go_wp2_with fail
      go_ret
      exact ⟨rfl, Below.next (Below.next (ab2 _ _ _) hb1) (ab1 _ _)⟩
end Go.Proofs.YthbhbpcjcnkkkaaGreatDoor

/-
  The reference's names, and lists of names. No conditions beyond those that each names.
-/
import Derived.Test.YthfodpbecddheaaGreatDoorQM11
import Derived.Lib.QuietBelow
import Derived.Test.YthfodpbecddheaaGreatDoorQM09
namespace Go.Proofs.YthfodpbecddheaaGreatDoor
open Go.RowKit
theorem ret_bool3 {a b : Bool} {w : World} (h : a = true ↔ b = true) : Is (.bool b) w (.returned (.bool a)) w := ⟨by rw [Bool.eq_iff_iff.2 h], rfl⟩
/-- Lists of names in memory. -/
abbrev Nms (w : World) (l : List (List UInt8)) (v : Value) : Prop := Sl TyN 1 w l v
theorem Nms.next {w w' : World} (hb : Below w.heap.size w w') {l : List (List UInt8)} {v : Value} (h : Nms w l v) : Nms w' l v := Sl.next (fun _ _ => TyN.next hb) h
set_option maxRecDepth 100000 in
theorem refPlain_any (t : Ty) (v : Value) (w : World) (h : TyV w t v) (_hl : t.elem.length ≤ 9223372036854775807) :
    Calls Tryz.prog 68 #[v] w (Ib (.bool (decide (t.elem.length = 0))) w) := by
  obtain ⟨A, c, rfl, -⟩ := h
  have e : decide (t.elem.length = 0) = ((t.elem.length : Int) == 0) := by rw [Bool.eq_iff_iff]; simp
  rw [e]
  generalize t.elem.length = n at *
  go_enter Tryz.func68, Tryz.ntmps68
  go_wp2_with fail
  go_ret
  exact ⟨rfl, ab1 _ _⟩
end Go.Proofs.YthfodpbecddheaaGreatDoor
/-
  The reference's sizes of types: level, FewType. No conditions beyond those that each names.
-/
namespace Go.Proofs.YthfodpbecddheaaGreatDoor
open Go.RowKit
/-- How many lists a type has within one another. -/
def dpt : Ty → Nat
  | .mk _ _ _ e => dpts e
where dpts : List Ty → Nat
  | [] => 0
  | t :: ts => max (1 + dpt t) (dpts ts)
theorem foldl_max_snoc (l : List Nat) (x : Nat) : (l ++ [x]).foldl max 0 = max (l.foldl max 0) x := by rw [List.foldl_append]; rfl
theorem size_elem {t : Ty} {i : Nat} (h : i < t.elem.length) : SizeOf.sizeOf (t.elem[i]'h) < SizeOf.sizeOf t := by
  obtain ⟨k, s, n, e⟩ := t
  have h1 : SizeOf.sizeOf (e[i]'h) < SizeOf.sizeOf e := List.sizeOf_lt_of_mem (List.getElem_mem h)
  have h2 := Ty.mk.sizeOf_spec k s n e
  show SizeOf.sizeOf (e[i]'h) < SizeOf.sizeOf (Ty.mk k s n e)
  omega
/-- Go's own bound of a slice's length, at each list of elements. -/
def lok : Ty → Prop
  | .mk _ _ _ e => e.length ≤ 9223372036854775807 ∧ loks e
where loks : List Ty → Prop
  | [] => True
  | t :: ts => lok t ∧ loks ts
theorem loks_get : ∀ {e : List Ty} {i : Nat} (h : i < e.length), lok.loks e → lok (e[i]'h)
  | t :: ts, 0, _, hl => by rw [lok.loks] at hl; exact hl.1
  | t :: ts, i + 1, h, hl => by
    rw [lok.loks] at hl
    have := loks_get (e := ts) (i := i) (by simpa using h) hl.2
    simpa using this
theorem lok_get {t : Ty} (hl : lok t) {i : Nat} (h : i < t.elem.length) : lok (t.elem[i]'h) := by
  obtain ⟨k, s, n, e⟩ := t
  rw [lok] at hl
  exact loks_get h hl.2
theorem lok_len {t : Ty} (hl : lok t) : t.elem.length ≤ 9223372036854775807 := by
  obtain ⟨k, s, n, e⟩ := t
  rw [lok] at hl
  exact hl.1
/-- Small enough to be examined. -/
def fewT : Ty → Bool
  | .mk k s n e => decide (n.length ≤ 40) && (decide (e.length ≤ 3) && (decide (min 20 (dpt (.mk k s n e)) ≤ 8) && fews e))
where fews : List Ty → Bool
  | [] => true
  | t :: ts => fewT t && fews ts
theorem fews_all : ∀ e : List Ty, fewT.fews e = e.all fewT
  | [] => by rw [fewT.fews]; rfl
  | t :: ts => by rw [fewT.fews, fews_all ts]; rfl
theorem fewT_eq (t : Ty) : fewT t = (decide (t.name.length ≤ 40) && (decide (t.elem.length ≤ 3) && (decide (min 20 (dpt t) ≤ 8) && t.elem.all fewT))) := by
  obtain ⟨k, s, n, e⟩ := t
  rw [fewT, fews_all]
  rfl
end Go.Proofs.YthfodpbecddheaaGreatDoor
/-
  The reference's valid types: Right. No conditions beyond those that each names.
-/
namespace Go.Proofs.YthfodpbecddheaaGreatDoor
open Go.RowKit
theorem TyV.mk_ {w : World} {k s : Int} {n : List UInt8} {e : List Ty} {u : Value} : TyV w (.mk k s n e) u ↔ ∃ A c, u = .agg #[.int .i64 k, .int .i64 s, .string (bs n), .slice A e.length c] ∧ Rw TyA 4 w e A := Iff.rfl
set_option maxRecDepth 100000 in
set_option maxHeartbeats 4000000 in
theorem right1_any (S : Sch) (s : Int) (n : List UInt8) (e : List Ty) (v u : Value) (w : World) (hS : ScV w S v) (hT : TyV w (.mk 1 s n e) u) (hl : e.length ≤ 9223372036854775807) :
    Calls Tryz.prog 36 #[v, u] w (Ib (.bool (right S (.mk 1 s n e))) w) := by
  have cP := fun W h => refPlain_any (.mk 1 s n e) u W (TyV.next h hT) hl
  obtain ⟨A, c, A2, c2, rfl, hSc⟩ := hS
  obtain ⟨A3, c3, rfl, hR⟩ := TyV.mk_.1 hT
  obtain ⟨r, hr⟩ : ∃ r, right S (.mk 1 s n e) = r := ⟨_, rfl⟩
  rw [hr]
  rw [right_eq, if_neg (by decide), if_neg (by decide), if_neg (by decide)] at hr
  replace cP : ∀ W, Below w.heap.size w W → Calls Tryz.prog 68 #[.agg #[.int .i64 1, .int .i64 s, .string (bs n), .slice A3 e.length c3]] W (Ib (.bool (decide (e.length = 0))) W) := cP
  generalize decide (e.length = 0) = z at *
  clear hT hR hSc
  by_cases h0 : s = 0
  · subst h0
    have hz : szOk 1 0 = true := rfl
    by_cases hn : n = []
    · subst hn
      have q0 : (bs ([] : List UInt8)).toList = [] := toList_bs []
      obtain rfl : z = r := by rw [← hr, hz]; simp
      clear hr hz
      go_enter Tryz.func36, Tryz.ntmps36
      go_wp2_with fail
      refine (cP _ (ab2 _ _ _)).mono ?_
      rintro e1 w1 ⟨rfl, hb⟩
      go_wp2_with fail
      go_ret
      exact ⟨rfl, Below.next (ab2 _ _ _) hb⟩
    · have q0 : ¬ (bs n).toList = [] := by rw [toList_bs]; exact hn
      obtain rfl : false = r := by rw [← hr, hz, decide_eq_false hn]; simp
      clear hr hz hn cP
      go_enter Tryz.func36, Tryz.ntmps36
      go_wp2_with fail
      go_ret
      exact ⟨rfl, ab2 _ _ _⟩
  · have d0 : (s == 0) = false := by simpa using h0
    have hz : szOk 1 s = false := by simp [szOk, h0]
    clear h0
    obtain rfl : false = r := by rw [← hr, hz]; rfl
    clear hr hz cP
    go_enter Tryz.func36, Tryz.ntmps36
    go_wp2_with fail
    go_ret
    exact ⟨rfl, ab2 _ _ _⟩

set_option maxRecDepth 100000 in
set_option maxHeartbeats 4000000 in
theorem right2_any (S : Sch) (s : Int) (n : List UInt8) (e : List Ty) (v u : Value) (w : World) (hS : ScV w S v) (hT : TyV w (.mk 2 s n e) u) (hl : e.length ≤ 9223372036854775807) :
    Calls Tryz.prog 36 #[v, u] w (Ib (.bool (right S (.mk 2 s n e))) w) := by
  have cP := fun W h => refPlain_any (.mk 2 s n e) u W (TyV.next h hT) hl
  obtain ⟨A, c, A2, c2, rfl, hSc⟩ := hS
  obtain ⟨A3, c3, rfl, hR⟩ := TyV.mk_.1 hT
  obtain ⟨r, hr⟩ : ∃ r, right S (.mk 2 s n e) = r := ⟨_, rfl⟩
  rw [hr]
  rw [right_eq, if_neg (by decide), if_neg (by decide), if_neg (by decide)] at hr
  replace cP : ∀ W, Below w.heap.size w W → Calls Tryz.prog 68 #[.agg #[.int .i64 2, .int .i64 s, .string (bs n), .slice A3 e.length c3]] W (Ib (.bool (decide (e.length = 0))) W) := cP
  generalize decide (e.length = 0) = z at *
  clear hT hR hSc
  by_cases h8 : s = 8
  · subst h8
    have hz : szOk 2 8 = true := rfl
    by_cases hn : n = []
    · subst hn
      have q0 : (bs ([] : List UInt8)).toList = [] := toList_bs []
      obtain rfl : z = r := by rw [← hr, hz]; simp
      clear hr hz
      go_enter Tryz.func36, Tryz.ntmps36
      go_wp2_with fail
      refine (cP _ (ab2 _ _ _)).mono ?_
      rintro e1 w1 ⟨rfl, hb⟩
      go_wp2_with fail
      go_ret
      exact ⟨rfl, Below.next (ab2 _ _ _) hb⟩
    · have q0 : ¬ (bs n).toList = [] := by rw [toList_bs]; exact hn
      obtain rfl : false = r := by rw [← hr, hz, decide_eq_false hn]; simp
      clear hr hz hn cP
      go_enter Tryz.func36, Tryz.ntmps36
      go_wp2_with fail
      go_ret
      exact ⟨rfl, ab2 _ _ _⟩
  · have d8 : (s == 8) = false := by simpa using h8
    by_cases h16 : s = 16
    · subst h16
      have hz : szOk 2 16 = true := rfl
      by_cases hn : n = []
      · subst hn
        have q0 : (bs ([] : List UInt8)).toList = [] := toList_bs []
        obtain rfl : z = r := by rw [← hr, hz]; simp
        clear hr hz
        go_enter Tryz.func36, Tryz.ntmps36
        go_wp2_with fail
        refine (cP _ (ab2 _ _ _)).mono ?_
        rintro e1 w1 ⟨rfl, hb⟩
        go_wp2_with fail
        go_ret
        exact ⟨rfl, Below.next (ab2 _ _ _) hb⟩
      · have q0 : ¬ (bs n).toList = [] := by rw [toList_bs]; exact hn
        obtain rfl : false = r := by rw [← hr, hz, decide_eq_false hn]; simp
        clear hr hz hn cP
        go_enter Tryz.func36, Tryz.ntmps36
        go_wp2_with fail
        go_ret
        exact ⟨rfl, ab2 _ _ _⟩
    · have d16 : (s == 16) = false := by simpa using h16
      by_cases h32 : s = 32
      · subst h32
        have hz : szOk 2 32 = true := rfl
        by_cases hn : n = []
        · subst hn
          have q0 : (bs ([] : List UInt8)).toList = [] := toList_bs []
          obtain rfl : z = r := by rw [← hr, hz]; simp
          clear hr hz
          go_enter Tryz.func36, Tryz.ntmps36
          go_wp2_with fail
          refine (cP _ (ab2 _ _ _)).mono ?_
          rintro e1 w1 ⟨rfl, hb⟩
          go_wp2_with fail
          go_ret
          exact ⟨rfl, Below.next (ab2 _ _ _) hb⟩
        · have q0 : ¬ (bs n).toList = [] := by rw [toList_bs]; exact hn
          obtain rfl : false = r := by rw [← hr, hz, decide_eq_false hn]; simp
          clear hr hz hn cP
          go_enter Tryz.func36, Tryz.ntmps36
          go_wp2_with fail
          go_ret
          exact ⟨rfl, ab2 _ _ _⟩
      · have d32 : (s == 32) = false := by simpa using h32
        by_cases h64 : s = 64
        · subst h64
          have hz : szOk 2 64 = true := rfl
          by_cases hn : n = []
          · subst hn
            have q0 : (bs ([] : List UInt8)).toList = [] := toList_bs []
            obtain rfl : z = r := by rw [← hr, hz]; simp
            clear hr hz
            go_enter Tryz.func36, Tryz.ntmps36
            go_wp2_with fail
            refine (cP _ (ab2 _ _ _)).mono ?_
            rintro e1 w1 ⟨rfl, hb⟩
            go_wp2_with fail
            go_ret
            exact ⟨rfl, Below.next (ab2 _ _ _) hb⟩
          · have q0 : ¬ (bs n).toList = [] := by rw [toList_bs]; exact hn
            obtain rfl : false = r := by rw [← hr, hz, decide_eq_false hn]; simp
            clear hr hz hn cP
            go_enter Tryz.func36, Tryz.ntmps36
            go_wp2_with fail
            go_ret
            exact ⟨rfl, ab2 _ _ _⟩
        · have d64 : (s == 64) = false := by simpa using h64
          have hz : szOk 2 s = false := by simp [szOk, h8, h16, h32, h64]
          clear h8 h16 h32 h64
          obtain rfl : false = r := by rw [← hr, hz]; rfl
          clear hr hz cP
          go_enter Tryz.func36, Tryz.ntmps36
          go_wp2_with fail
          go_ret
          exact ⟨rfl, ab2 _ _ _⟩

set_option maxRecDepth 100000 in
set_option maxHeartbeats 4000000 in
theorem right3_any (S : Sch) (s : Int) (n : List UInt8) (e : List Ty) (v u : Value) (w : World) (hS : ScV w S v) (hT : TyV w (.mk 3 s n e) u) (hl : e.length ≤ 9223372036854775807) :
    Calls Tryz.prog 36 #[v, u] w (Ib (.bool (right S (.mk 3 s n e))) w) := by
  have cP := fun W h => refPlain_any (.mk 3 s n e) u W (TyV.next h hT) hl
  obtain ⟨A, c, A2, c2, rfl, hSc⟩ := hS
  obtain ⟨A3, c3, rfl, hR⟩ := TyV.mk_.1 hT
  obtain ⟨r, hr⟩ : ∃ r, right S (.mk 3 s n e) = r := ⟨_, rfl⟩
  rw [hr]
  rw [right_eq, if_neg (by decide), if_neg (by decide), if_neg (by decide)] at hr
  replace cP : ∀ W, Below w.heap.size w W → Calls Tryz.prog 68 #[.agg #[.int .i64 3, .int .i64 s, .string (bs n), .slice A3 e.length c3]] W (Ib (.bool (decide (e.length = 0))) W) := cP
  generalize decide (e.length = 0) = z at *
  clear hT hR hSc
  by_cases h8 : s = 8
  · subst h8
    have hz : szOk 3 8 = true := rfl
    by_cases hn : n = []
    · subst hn
      have q0 : (bs ([] : List UInt8)).toList = [] := toList_bs []
      obtain rfl : z = r := by rw [← hr, hz]; simp
      clear hr hz
      go_enter Tryz.func36, Tryz.ntmps36
      go_wp2_with fail
      refine (cP _ (ab2 _ _ _)).mono ?_
      rintro e1 w1 ⟨rfl, hb⟩
      go_wp2_with fail
      go_ret
      exact ⟨rfl, Below.next (ab2 _ _ _) hb⟩
    · have q0 : ¬ (bs n).toList = [] := by rw [toList_bs]; exact hn
      obtain rfl : false = r := by rw [← hr, hz, decide_eq_false hn]; simp
      clear hr hz hn cP
      go_enter Tryz.func36, Tryz.ntmps36
      go_wp2_with fail
      go_ret
      exact ⟨rfl, ab2 _ _ _⟩
  · have d8 : (s == 8) = false := by simpa using h8
    by_cases h16 : s = 16
    · subst h16
      have hz : szOk 3 16 = true := rfl
      by_cases hn : n = []
      · subst hn
        have q0 : (bs ([] : List UInt8)).toList = [] := toList_bs []
        obtain rfl : z = r := by rw [← hr, hz]; simp
        clear hr hz
        go_enter Tryz.func36, Tryz.ntmps36
        go_wp2_with fail
        refine (cP _ (ab2 _ _ _)).mono ?_
        rintro e1 w1 ⟨rfl, hb⟩
        go_wp2_with fail
        go_ret
        exact ⟨rfl, Below.next (ab2 _ _ _) hb⟩
      · have q0 : ¬ (bs n).toList = [] := by rw [toList_bs]; exact hn
        obtain rfl : false = r := by rw [← hr, hz, decide_eq_false hn]; simp
        clear hr hz hn cP
        go_enter Tryz.func36, Tryz.ntmps36
        go_wp2_with fail
        go_ret
        exact ⟨rfl, ab2 _ _ _⟩
    · have d16 : (s == 16) = false := by simpa using h16
      by_cases h32 : s = 32
      · subst h32
        have hz : szOk 3 32 = true := rfl
        by_cases hn : n = []
        · subst hn
          have q0 : (bs ([] : List UInt8)).toList = [] := toList_bs []
          obtain rfl : z = r := by rw [← hr, hz]; simp
          clear hr hz
          go_enter Tryz.func36, Tryz.ntmps36
          go_wp2_with fail
          refine (cP _ (ab2 _ _ _)).mono ?_
          rintro e1 w1 ⟨rfl, hb⟩
          go_wp2_with fail
          go_ret
          exact ⟨rfl, Below.next (ab2 _ _ _) hb⟩
        · have q0 : ¬ (bs n).toList = [] := by rw [toList_bs]; exact hn
          obtain rfl : false = r := by rw [← hr, hz, decide_eq_false hn]; simp
          clear hr hz hn cP
          go_enter Tryz.func36, Tryz.ntmps36
          go_wp2_with fail
          go_ret
          exact ⟨rfl, ab2 _ _ _⟩
      · have d32 : (s == 32) = false := by simpa using h32
        have hz : szOk 3 s = false := by simp [szOk, h8, h16, h32]
        clear h8 h16 h32
        obtain rfl : false = r := by rw [← hr, hz]; rfl
        clear hr hz cP
        go_enter Tryz.func36, Tryz.ntmps36
        go_wp2_with fail
        go_ret
        exact ⟨rfl, ab2 _ _ _⟩

set_option maxRecDepth 100000 in
set_option maxHeartbeats 4000000 in
theorem right4_any (S : Sch) (s : Int) (n : List UInt8) (e : List Ty) (v u : Value) (w : World) (hS : ScV w S v) (hT : TyV w (.mk 4 s n e) u) (hl : e.length ≤ 9223372036854775807) :
    Calls Tryz.prog 36 #[v, u] w (Ib (.bool (right S (.mk 4 s n e))) w) := by
  have cP := fun W h => refPlain_any (.mk 4 s n e) u W (TyV.next h hT) hl
  obtain ⟨A, c, A2, c2, rfl, hSc⟩ := hS
  obtain ⟨A3, c3, rfl, hR⟩ := TyV.mk_.1 hT
  obtain ⟨r, hr⟩ : ∃ r, right S (.mk 4 s n e) = r := ⟨_, rfl⟩
  rw [hr]
  rw [right_eq, if_neg (by decide), if_neg (by decide), if_neg (by decide)] at hr
  replace cP : ∀ W, Below w.heap.size w W → Calls Tryz.prog 68 #[.agg #[.int .i64 4, .int .i64 s, .string (bs n), .slice A3 e.length c3]] W (Ib (.bool (decide (e.length = 0))) W) := cP
  generalize decide (e.length = 0) = z at *
  clear hT hR hSc
  by_cases h1 : 1 ≤ s
  · have d1 : decide (1 ≤ s) = true := decide_eq_true h1
    by_cases h2 : s ≤ 2000
    · have d2 : decide (s ≤ 2000) = true := decide_eq_true h2
      have hz : szOk 4 s = true := by simp [szOk, h1, h2]
      by_cases hn : n = []
      · subst hn
        have q0 : (bs ([] : List UInt8)).toList = [] := toList_bs []
        obtain rfl : z = r := by rw [← hr, hz]; simp
        clear hr hz
        go_enter Tryz.func36, Tryz.ntmps36
        go_wp2_with fail
        refine (cP _ (ab2 _ _ _)).mono ?_
        rintro e1 w1 ⟨rfl, hb⟩
        go_wp2_with fail
        go_ret
        exact ⟨rfl, Below.next (ab2 _ _ _) hb⟩
      · have q0 : ¬ (bs n).toList = [] := by rw [toList_bs]; exact hn
        obtain rfl : false = r := by rw [← hr, hz, decide_eq_false hn]; simp
        clear hr hz hn cP
        go_enter Tryz.func36, Tryz.ntmps36
        go_wp2_with fail
        go_ret
        exact ⟨rfl, ab2 _ _ _⟩
    · have d2 : decide (s ≤ 2000) = false := decide_eq_false h2
      have hz : szOk 4 s = false := by simp [szOk, h2]
      clear h2
      obtain rfl : false = r := by rw [← hr, hz]; rfl
      clear hr hz cP
      go_enter Tryz.func36, Tryz.ntmps36
      go_wp2_with fail
      go_ret
      exact ⟨rfl, ab2 _ _ _⟩
  · have d1 : decide (1 ≤ s) = false := decide_eq_false h1
    have hz : szOk 4 s = false := by simp [szOk, h1]
    clear h1
    obtain rfl : false = r := by rw [← hr, hz]; rfl
    clear hr hz cP
    go_enter Tryz.func36, Tryz.ntmps36
    go_wp2_with fail
    go_ret
    exact ⟨rfl, ab2 _ _ _⟩

theorem mem_sns (S : Sch) (n : List UInt8) : (fst_ St.name S.structs n).isSome = (sns S).contains n := by
  rw [Bool.eq_iff_iff, List.contains_iff_mem]
  cases h : fst_ St.name S.structs n with
  | none =>
    simp only [Option.isSome_none, Bool.false_eq_true, false_iff]
    intro hm
    obtain ⟨t, ht, e⟩ := List.mem_map.1 hm
    exact fst_none.1 h t ht e
  | some t =>
    simp only [Option.isSome_some, true_iff]
    obtain ⟨h1, h2⟩ := fst_mem h
    exact List.mem_map.2 ⟨t, h1, h2⟩
set_option maxRecDepth 100000 in
set_option maxHeartbeats 4000000 in
theorem right6_any (S : Sch) (s : Int) (n : List UInt8) (e : List Ty) (v u : Value) (w : World) (hb : S.structs.length ≤ 1000) (hS : ScV w S v) (hT : TyV w (.mk 6 s n e) u) (hl : e.length ≤ 9223372036854775807) :
    Calls Tryz.prog 36 #[v, u] w (Ib (.bool (right S (.mk 6 s n e))) w) := by
  have cP := fun W h => refPlain_any (.mk 6 s n e) u W (TyV.next h hT) hl
  have cF := fun W h => refStruct_any S n v W (ScV.next h hS) hb
  obtain ⟨A, c, A2, c2, rfl, hSc⟩ := hS
  obtain ⟨A3, c3, rfl, hR⟩ := TyV.mk_.1 hT
  obtain ⟨r, hr⟩ : ∃ r, right S (.mk 6 s n e) = r := ⟨_, rfl⟩
  rw [hr]
  have hr2 : right S (.mk 6 s n e) = (decide (s = 0) && ((fst_ St.name S.structs n).isSome && decide (e.length = 0))) := by
    rw [right_eq, mem_sns]
    rfl
  rw [hr2] at hr
  generalize fst_ St.name S.structs n = o at *
  replace cP : ∀ W, Below w.heap.size w W → Calls Tryz.prog 68 #[.agg #[.int .i64 6, .int .i64 s, .string (bs n), .slice A3 e.length c3]] W (Ib (.bool (decide (e.length = 0))) W) := cP
  generalize decide (e.length = 0) = z at *
  have hB2 := Bx.new4 (w.alloc (Obj.cells #[.int .i64 S.ver, .slice A S.enums.length c, .slice A2 S.structs.length c2] 25)) 29 (.int .i64 6) (.int .i64 s) (.string (bs n)) (.slice A3 e.length c3)
  have hz1 : (w.alloc (Obj.cells #[.int .i64 S.ver, .slice A S.enums.length c, .slice A2 S.structs.length c2] 25)).heap.size = w.heap.size + 1 := by simp
  rw [hz1] at hB2
  clear hT hR hSc hr2 hz1
  cases o with
  | none =>
    obtain rfl : false = r := by rw [← hr]; simp
    go_enter Tryz.func36, Tryz.ntmps36
    go_wp2_with fail
    refine (cF _ (ab2 _ _ _)).mono ?_
    rintro e1 w1 ⟨v1, rfl, hV, hb1⟩
    obtain ⟨A4, c4, rfl, -⟩ := hV
    clear cF cP hr
    have hB2 := hB2.next hb1
    have b1 := hB2.c 1 rfl
    go_wp2_with fail
    go_ret
    exact ⟨rfl, Below.next (Below.next (ab2 _ _ _) hb1) (ab1 _ _)⟩
  | some t =>
    by_cases hs : s = 0
    · subst hs
      obtain rfl : z = r := by rw [← hr]; simp
      go_enter Tryz.func36, Tryz.ntmps36
      go_wp2_with fail
      refine (cF _ (ab2 _ _ _)).mono ?_
      rintro e1 w1 ⟨v1, rfl, hV, hb1⟩
      obtain ⟨A4, c4, rfl, -⟩ := hV
      clear cF hr
      have hB2 := hB2.next hb1
      have b0 := hB2.c 0 rfl
      have b1 := hB2.c 1 rfl
      have b2 := hB2.c 2 rfl
      have b3 := hB2.c 3 rfl
      have hlt := hB2.lt
      have hb2 := Below.next (ab2 _ _ _) hb1
      go_wp2_with fail
      refine (cP _ (Below.next hb2 (ab1 _ _))).mono ?_
      rintro e2 w2 ⟨rfl, hb3⟩
      go_wp2_with fail
      go_ret
      exact ⟨rfl, Below.next (Below.next hb2 (ab1 _ _)) hb3⟩
    · obtain rfl : false = r := by rw [← hr, decide_eq_false hs]; rfl
      have d0 : (s == 0) = false := by simpa using hs
      clear hs
      go_enter Tryz.func36, Tryz.ntmps36
      go_wp2_with fail
      refine (cF _ (ab2 _ _ _)).mono ?_
      rintro e1 w1 ⟨v1, rfl, hV, hb1⟩
      obtain ⟨A4, c4, rfl, -⟩ := hV
      clear cF cP hr
      have hB2 := hB2.next hb1
      have b1 := hB2.c 1 rfl
      have hlt := hB2.lt
      go_wp2_with fail
      go_ret
      exact ⟨rfl, Below.next (Below.next (ab2 _ _ _) hb1) (ab1 _ _)⟩
theorem mem_ens (S : Sch) (n : List UInt8) : (fst_ En.name S.enums n).isSome = (ens S).contains n := by
  rw [Bool.eq_iff_iff, List.contains_iff_mem]
  cases h : fst_ En.name S.enums n with
  | none =>
    simp only [Option.isSome_none, Bool.false_eq_true, false_iff]
    intro hm
    obtain ⟨t, ht, e⟩ := List.mem_map.1 hm
    exact fst_none.1 h t ht e
  | some t =>
    simp only [Option.isSome_some, true_iff]
    obtain ⟨h1, h2⟩ := fst_mem h
    exact List.mem_map.2 ⟨t, h1, h2⟩
set_option maxRecDepth 100000 in
set_option maxHeartbeats 4000000 in
theorem right7_any (S : Sch) (s : Int) (n : List UInt8) (e : List Ty) (v u : Value) (w : World) (hb : S.enums.length ≤ 1000) (hS : ScV w S v) (hT : TyV w (.mk 7 s n e) u) (hl : e.length ≤ 9223372036854775807) :
    Calls Tryz.prog 36 #[v, u] w (Ib (.bool (right S (.mk 7 s n e))) w) := by
  have cP := fun W h => refPlain_any (.mk 7 s n e) u W (TyV.next h hT) hl
  have cF := fun W h => refEnum_any S n v W (ScV.next h hS) hb
  obtain ⟨A, c, A2, c2, rfl, hSc⟩ := hS
  obtain ⟨A3, c3, rfl, hR⟩ := TyV.mk_.1 hT
  obtain ⟨r, hr⟩ : ∃ r, right S (.mk 7 s n e) = r := ⟨_, rfl⟩
  rw [hr]
  have hr2 : right S (.mk 7 s n e) = (decide (s = 0) && ((fst_ En.name S.enums n).isSome && decide (e.length = 0))) := by
    rw [right_eq, mem_ens]
    rfl
  rw [hr2] at hr
  generalize fst_ En.name S.enums n = o at *
  replace cP : ∀ W, Below w.heap.size w W → Calls Tryz.prog 68 #[.agg #[.int .i64 7, .int .i64 s, .string (bs n), .slice A3 e.length c3]] W (Ib (.bool (decide (e.length = 0))) W) := cP
  generalize decide (e.length = 0) = z at *
  have hB2 := Bx.new4 (w.alloc (Obj.cells #[.int .i64 S.ver, .slice A S.enums.length c, .slice A2 S.structs.length c2] 25)) 29 (.int .i64 7) (.int .i64 s) (.string (bs n)) (.slice A3 e.length c3)
  have hz1 : (w.alloc (Obj.cells #[.int .i64 S.ver, .slice A S.enums.length c, .slice A2 S.structs.length c2] 25)).heap.size = w.heap.size + 1 := by simp
  rw [hz1] at hB2
  clear hT hR hSc hr2 hz1
  cases o with
  | none =>
    obtain rfl : false = r := by rw [← hr]; simp
    go_enter Tryz.func36, Tryz.ntmps36
    go_wp2_with fail
    refine (cF _ (ab2 _ _ _)).mono ?_
    rintro e1 w1 ⟨v1, rfl, hV, hb1⟩
    obtain ⟨A4, c4, A5, c5, rfl, -, -⟩ := hV
    clear cF cP hr
    have hB2 := hB2.next hb1
    have b1 := hB2.c 1 rfl
    go_wp2_with fail
    go_ret
    exact ⟨rfl, Below.next (Below.next (ab2 _ _ _) hb1) (ab1 _ _)⟩
  | some t =>
    by_cases hs : s = 0
    · subst hs
      obtain rfl : z = r := by rw [← hr]; simp
      go_enter Tryz.func36, Tryz.ntmps36
      go_wp2_with fail
      refine (cF _ (ab2 _ _ _)).mono ?_
      rintro e1 w1 ⟨v1, rfl, hV, hb1⟩
      obtain ⟨A4, c4, A5, c5, rfl, -, -⟩ := hV
      clear cF hr
      have hB2 := hB2.next hb1
      have b0 := hB2.c 0 rfl
      have b1 := hB2.c 1 rfl
      have b2 := hB2.c 2 rfl
      have b3 := hB2.c 3 rfl
      have hlt := hB2.lt
      have hb2 := Below.next (ab2 _ _ _) hb1
      go_wp2_with fail
      refine (cP _ (Below.next hb2 (ab1 _ _))).mono ?_
      rintro e2 w2 ⟨rfl, hb3⟩
      go_wp2_with fail
      go_ret
      exact ⟨rfl, Below.next (Below.next hb2 (ab1 _ _)) hb3⟩
    · obtain rfl : false = r := by rw [← hr, decide_eq_false hs]; rfl
      have d0 : (s == 0) = false := by simpa using hs
      clear hs
      go_enter Tryz.func36, Tryz.ntmps36
      go_wp2_with fail
      refine (cF _ (ab2 _ _ _)).mono ?_
      rintro e1 w1 ⟨v1, rfl, hV, hb1⟩
      obtain ⟨A4, c4, A5, c5, rfl, -, -⟩ := hV
      clear cF cP hr
      have hB2 := hB2.next hb1
      have b1 := hB2.c 1 rfl
      have hlt := hB2.lt
      go_wp2_with fail
      go_ret
      exact ⟨rfl, Below.next (Below.next (ab2 _ _ _) hb1) (ab1 _ _)⟩
end Go.Proofs.YthfodpbecddheaaGreatDoor
/-
  The reference's valid types: lists, and all kinds. No conditions beyond those that each names.
-/
namespace Go.Proofs.YthfodpbecddheaaGreatDoor
open Go.RowKit
set_option maxRecDepth 100000 in
set_option maxHeartbeats 4000000 in
theorem right0_any (S : Sch) (k s : Int) (n : List UInt8) (e : List Ty) (v u : Value) (w : World) (hS : ScV w S v) (hT : TyV w (.mk k s n e) u) (h1 : k ≠ 1) (h2 : k ≠ 2) (h3 : k ≠ 3) (h4 : k ≠ 4) (h5 : k ≠ 5) (h6 : k ≠ 6) (h7 : k ≠ 7) :
    Calls Tryz.prog 36 #[v, u] w (Ib (.bool (right S (.mk k s n e))) w) := by
  obtain ⟨A, c, A2, c2, rfl, -⟩ := hS
  obtain ⟨A3, c3, rfl, -⟩ := TyV.mk_.1 hT
  have hr : right S (.mk k s n e) = false := by rw [right_eq]; simp [szOk, h1, h2, h3, h4, h5, h6, h7]
  rw [hr]
  have d1 : (k == 1) = false := by simpa using h1
  have d2 : (k == 2) = false := by simpa using h2
  have d3 : (k == 3) = false := by simpa using h3
  have d4 : (k == 4) = false := by simpa using h4
  have d5 : (k == 5) = false := by simpa using h5
  have d6 : (k == 6) = false := by simpa using h6
  have d7 : (k == 7) = false := by simpa using h7
  clear hr h1 h2 h3 h4 h5 h6 h7
  go_enter Tryz.func36, Tryz.ntmps36
  go_wp2_with fail
  go_ret
  exact ⟨rfl, ab2 _ _ _⟩
theorem rights_lenJ (S : Sch) (e : List Ty) (h : e.length ≠ 1) : rights S e = false := by
  match e, h with
  | [], _ => rw [rights]
  | [_], h => exact absurd rfl h
  | a :: b :: r, _ => rw [rights]; simp
set_option maxRecDepth 100000 in
set_option maxHeartbeats 4000000 in
theorem right5f_any (S : Sch) (s : Int) (n : List UInt8) (e : List Ty) (v u : Value) (w : World) (hS : ScV w S v) (hT : TyV w (.mk 5 s n e) u) (h : ¬ (1 ≤ s ∧ s ≤ 32 ∧ n = [] ∧ e.length = 1)) :
    Calls Tryz.prog 36 #[v, u] w (Ib (.bool (right S (.mk 5 s n e))) w) := by
  obtain ⟨A, c, A2, c2, rfl, -⟩ := hS
  obtain ⟨A3, c3, rfl, -⟩ := TyV.mk_.1 hT
  have hr : right S (.mk 5 s n e) = false := by
    rw [right_eq, if_pos rfl]
    rw [Bool.eq_false_iff]
    intro hh
    simp only [Bool.and_eq_true, decide_eq_true_eq, szOk] at hh
    simp at hh
    refine h ⟨hh.1.1, hh.1.2, hh.2.1, ?_⟩
    by_cases hl : e.length = 1
    · exact hl
    · rw [rights_lenJ S e hl] at hh
      exact absurd hh.2.2 (by decide)
  rw [hr]
  clear hr
  have hB1 := (Bx.new3 w 25 (.int .i64 S.ver) (.slice A S.enums.length c) (.slice A2 S.structs.length c2)).next (ab1 _ (Obj.cells #[.int .i64 5, .int .i64 s, .string (bs n), .slice A3 e.length c3] 29))
  have hB2 := Bx.new4 (w.alloc (Obj.cells #[.int .i64 S.ver, .slice A S.enums.length c, .slice A2 S.structs.length c2] 25)) 29 (.int .i64 5) (.int .i64 s) (.string (bs n)) (.slice A3 e.length c3)
  have hz1 : (w.alloc (Obj.cells #[.int .i64 S.ver, .slice A S.enums.length c, .slice A2 S.structs.length c2] 25)).heap.size = w.heap.size + 1 := by simp
  rw [hz1] at hB2
  have k1 := fun d os => cell_regrown (hB2.c 1 rfl) d os
  have k2 := fun d os => cell_regrown (hB2.c 2 rfl) d os
  have k3 := fun d os => cell_regrown (hB2.c 3 rfl) d os
  clear hB1 hB2 hz1 hT
  generalize e.length = m at *
  by_cases h1 : 1 ≤ s
  · have d1 : decide (1 ≤ s) = true := decide_eq_true h1
    by_cases h2 : s ≤ 32
    · have d2 : decide (s ≤ 32) = true := decide_eq_true h2
      by_cases h3 : n = []
      · subst h3
        have q0 : (bs ([] : List UInt8)).toList = [] := toList_bs []
        have q1 : ((bs ([] : List UInt8)).toList == []) = true := by rw [toList_bs]; rfl
        have d4 : ((m : Int) == 1) = false := by
          rw [beq_eq_false_iff_ne]
          intro hm
          exact h ⟨h1, h2, rfl, by omega⟩
        clear h
        go_enter Tryz.func36, Tryz.ntmps36
        go_wp2_with fail
        refine wp_region_quiet_below (by kernel_rfl) (by kernel_rfl) ?_
        repeat (quiet_step (fail))
        refine wpQuiet_nil ?_
        intro _ hw'
        obtain ⟨⟨dq, osq⟩, hw''⟩ := hw'
        subst hw''
        go_wp2_with fail
        go_ret
        exact ⟨rfl, Below.next (ab2 _ _ _) (below_regrown _ _ _)⟩
      · have q0 : ¬ (bs n).toList = [] := by rw [toList_bs]; exact h3
        have q1 : ((bs n).toList == []) = false := by rw [toList_bs]; simpa using h3
        clear h3 h
        go_enter Tryz.func36, Tryz.ntmps36
        go_wp2_with fail
        refine wp_region_quiet_below (by kernel_rfl) (by kernel_rfl) ?_
        repeat (quiet_step (fail))
        refine wpQuiet_nil ?_
        intro _ hw'
        obtain ⟨⟨dq, osq⟩, hw''⟩ := hw'
        subst hw''
        go_wp2_with fail
        go_ret
        exact ⟨rfl, Below.next (ab2 _ _ _) (below_regrown _ _ _)⟩
    · have d2 : decide (s ≤ 32) = false := decide_eq_false h2
      clear h2 h
      go_enter Tryz.func36, Tryz.ntmps36
      go_wp2_with fail
      refine wp_region_quiet_below (by kernel_rfl) (by kernel_rfl) ?_
      repeat (quiet_step (fail))
      refine wpQuiet_nil ?_
      intro _ hw'
      obtain ⟨⟨dq, osq⟩, hw''⟩ := hw'
      subst hw''
      go_wp2_with fail
      go_ret
      exact ⟨rfl, Below.next (ab2 _ _ _) (below_regrown _ _ _)⟩
  · have d1 : decide (1 ≤ s) = false := decide_eq_false h1
    clear h1 h
    go_enter Tryz.func36, Tryz.ntmps36
    go_wp2_with fail
    refine wp_region_quiet_below (by kernel_rfl) (by kernel_rfl) ?_
    repeat (quiet_step (fail))
    refine wpQuiet_nil ?_
    intro _ hw'
    obtain ⟨⟨dq, osq⟩, hw''⟩ := hw'
    subst hw''
    go_wp2_with fail
    go_ret
    exact ⟨rfl, Below.next (ab2 _ _ _) (below_regrown _ _ _)⟩
end Go.Proofs.YthfodpbecddheaaGreatDoor
/-
  The reference's valid types: all kinds. No conditions beyond those that each names.
-/
namespace Go.Proofs.YthfodpbecddheaaGreatDoor
open Go.RowKit Go.Sort
set_option maxRecDepth 100000 in
set_option maxHeartbeats 4000000 in
theorem refRight_any (N : Nat) : ∀ (S : Sch) (t : Ty) (v u : Value) (w : World), SizeOf.sizeOf t < N → S.structs.length ≤ 1000 → S.enums.length ≤ 1000 → lok t → ScV w S v → TyV w t u →
    Calls Tryz.prog 36 #[v, u] w (Ib (.bool (right S t)) w) := by
  induction N with
  | zero => intro S t v u w h; omega
  | succ N ih =>
    intro S t v u w hN hs he hlk hS hT
    have hlen := lok_len hlk
    obtain ⟨k, s, n, e⟩ := t
    have hlen : e.length ≤ 9223372036854775807 := hlen
    by_cases g1 : k = 1
    · subst g1; exact right1_any S s n e v u w hS hT hlen
    by_cases g2 : k = 2
    · subst g2; exact right2_any S s n e v u w hS hT hlen
    by_cases g3 : k = 3
    · subst g3; exact right3_any S s n e v u w hS hT hlen
    by_cases g4 : k = 4
    · subst g4; exact right4_any S s n e v u w hS hT hlen
    by_cases g6 : k = 6
    · subst g6; exact right6_any S s n e v u w hs hS hT hlen
    by_cases g7 : k = 7
    · subst g7; exact right7_any S s n e v u w he hS hT hlen
    by_cases g5 : k = 5
    · subst g5
      by_cases h : 1 ≤ s ∧ s ≤ 32 ∧ n = [] ∧ e.length = 1
      · obtain ⟨h1, h2, rfl, h4⟩ := h
        obtain ⟨t, rfl⟩ : ∃ t, e = [t] := by
          match e, h4 with
          | [t], _ => exact ⟨t, rfl⟩
        have hr : right S (.mk 5 s [] [t]) = right S t := by
          rw [right_eq, if_pos rfl, rights]
          simp [szOk, h1, h2]
        rw [hr]
        have hSv := hS
        obtain ⟨A, c, A2, c2, rfl, -⟩ := hS
        obtain ⟨A3, c3, rfl, hR⟩ := TyV.mk_.1 hT
        obtain ⟨a, rfl, hA⟩ := hR.get (i := 0) (by show 0 < 1; omega)
        rw [Nat.zero_mul] at hA
        have hA : TyA w t a := hA
        obtain ⟨A4, c4, e0, e1, e2, e3, hV⟩ := hA.val
        have hblk : a.block < w.heap.size := blk_lt e0
        have cR := fun W h => ih S t _ _ W (by have h8 := Ty.mk.sizeOf_spec 5 s [] [t]; have h9 := List.cons.sizeOf_spec t []; omega) hs he (lok_get (t := .mk 5 s [] [t]) hlk (i := 0) (by show 0 < 1; omega)) (ScV.next h hSv) (TyV.next h hV)
        have hB1 := (Bx.new3 w 25 (.int .i64 S.ver) (.slice A S.enums.length c) (.slice A2 S.structs.length c2)).next (ab1 _ (Obj.cells #[.int .i64 5, .int .i64 s, .string (bs []), .slice (some a) 1 c3] 29))
        have hB2 := Bx.new4 (w.alloc (Obj.cells #[.int .i64 S.ver, .slice A S.enums.length c, .slice A2 S.structs.length c2] 25)) 29 (.int .i64 5) (.int .i64 s) (.string (bs [])) (.slice (some a) 1 c3)
        have hz1 : (w.alloc (Obj.cells #[.int .i64 S.ver, .slice A S.enums.length c, .slice A2 S.structs.length c2] 25)).heap.size = w.heap.size + 1 := by simp
        rw [hz1] at hB2
        have hab := ab2 w (Obj.cells #[.int .i64 S.ver, .slice A S.enums.length c, .slice A2 S.structs.length c2] 25) (Obj.cells #[.int .i64 5, .int .i64 s, .string (bs []), .slice (some a) 1 c3] 29)
        have j0 := fun d os => cell_regrown (hB1.c 0 rfl) d os
        have j1 := fun d os => cell_regrown (hB1.c 1 rfl) d os
        have j2 := fun d os => cell_regrown (hB1.c 2 rfl) d os
        have k1 := fun d os => cell_regrown (hB2.c 1 rfl) d os
        have k2 := fun d os => cell_regrown (hB2.c 2 rfl) d os
        have k3 := fun d os => cell_regrown (hB2.c 3 rfl) d os
        have i0 := fun d os => cell_regrown (cell_next hab e0) d os
        have i1 := fun d os => cell_regrown (cell_next hab e1) d os
        have i2 := fun d os => cell_regrown (cell_next hab e2) d os
        have i3 := fun d os => cell_regrown (cell_next hab e3) d os
        have d1 : decide (1 ≤ s) = true := decide_eq_true h1
        have d2 : decide (s ≤ 32) = true := decide_eq_true h2
        have q0 : (bs ([] : List UInt8)).toList = [] := toList_bs []
        have q1 : ((bs ([] : List UInt8)).toList == []) = true := by rw [toList_bs]; rfl
        have cN := fun d os => Calls.regrown_of (cR (grow (redrawn ((w.alloc (Obj.cells #[.int .i64 S.ver, .slice A S.enums.length c, .slice A2 S.structs.length c2] 25)).alloc (Obj.cells #[.int .i64 5, .int .i64 s, .string (bs []), .slice (some a) 1 c3] 29)) d) os) (Below.next hab (below_regrown _ d os)))
        clear hB1 hB2 hz1 hT hr hR hV hA cR hSv hlk hab e0 e1 e2 e3 h1 h2
        generalize right S t = r at *
        go_enter Tryz.func36, Tryz.ntmps36
        go_wp2_with fail
        refine wp_region_quiet_below (by kernel_rfl) (by kernel_rfl) ?_
        repeat (quiet_step (exact cN _ _))
        refine wpQuiet_nil ?_
        intro _ hw'
        obtain ⟨⟨dq, osq⟩, hw''⟩ := hw'
        subst hw''
        go_wp2_with fail
        go_ret
        exact ⟨rfl, Below.next (ab2 _ _ _) (below_regrown _ _ _)⟩
      · exact right5f_any S s n e v u w hS hT h
    exact right0_any S k s n e v u w hS hT g1 g2 g3 g4 g5 g6 g7
end Go.Proofs.YthfodpbecddheaaGreatDoor
/-
  How deep a value is: the developers' exceeds, the reference's Levels. No conditions beyond those that each names.
-/
namespace Go.Proofs.YthfodpbecddheaaGreatDoor
open Go.RowKit Go.Sort
theorem any_ix {α : Type} (p : α → Bool) (l : List α) : decide ((0 : Int) ≤ ixI (l.findIdx? p)) = l.any p := by
  cases h : l.findIdx? p with
  | none =>
    rw [List.findIdx?_eq_none_iff] at h
    rw [List.any_eq_false.2 fun x hx => by simp [h x hx]]
    rfl
  | some i =>
    rw [List.findIdx?_eq_some_iff_getElem] at h
    obtain ⟨h1, h2, -⟩ := h
    rw [List.any_eq_true.2 ⟨_, List.getElem_mem h1, h2⟩, decide_eq_true_eq]
    exact Int.natCast_nonneg _
theorem lvl_any (n : Nat) : ∀ l : List Vl, l.any (fun x => decide (n < lv x)) = decide (n < lv.lvl l)
  | [] => by rw [lv.lvl]; simp
  | t :: ts => by
    rw [List.any_cons, lvl_any n ts, lv.lvl, Bool.eq_iff_iff]
    simp only [Bool.or_eq_true, decide_eq_true_eq]
    omega
theorem lvf_any (n : Nat) : ∀ l : List (Int × Vl), l.any (fun x => decide (n < lv x.2)) = decide (n < lv.lvf l)
  | [] => by rw [lv.lvf]; simp
  | (k, t) :: ts => by
    rw [List.any_cons, lvf_any n ts, lv.lvf, Bool.eq_iff_iff]
    simp only [Bool.or_eq_true, decide_eq_true_eq]
    omega
theorem lv_flat {t : Vl} (h5 : t.kind ≠ 5) (h6 : t.kind ≠ 6) (hl : t.l.length = 0) (hf : t.f.length = 0) : lv t = 0 := by
  obtain ⟨k, n, s, l, f⟩ := t
  rw [lv, if_pos ⟨h5, h6, List.eq_nil_of_length_eq_zero hl, List.eq_nil_of_length_eq_zero hf⟩]
theorem lv_deep {t : Vl} (h : ¬ (t.kind ≠ 5 ∧ t.kind ≠ 6 ∧ t.l.length = 0 ∧ t.f.length = 0)) : lv t = 1 + max (lv.lvl t.l) (lv.lvf t.f) := by
  obtain ⟨k, n, s, l, f⟩ := t
  rw [lv, if_neg]
  · rfl
  · rintro ⟨h1, h2, rfl, rfl⟩
    exact h ⟨h1, h2, rfl, rfl⟩
theorem lv_succ {t : Vl} {n : Nat} (h : ¬ (t.kind ≠ 5 ∧ t.kind ≠ 6 ∧ t.l.length = 0 ∧ t.f.length = 0)) : decide (n + 1 < lv t) = (t.l.any (fun x => decide (n < lv x)) || t.f.any (fun x => decide (n < lv x.2))) := by
  rw [lv_deep h, lvl_any, lvf_any, Bool.eq_iff_iff]
  simp only [Bool.or_eq_true, decide_eq_true_eq]
  omega
set_option maxRecDepth 100000 in
set_option maxHeartbeats 4000000 in
theorem ixV_any (p : Vl → Bool) (l : List Vl) (A : Option Addr) (c : Nat) (z : Int) (g : Nat) (w : World) (hl : l.length ≤ 9223372036854775807) (hR : Rw VlA 5 w l A) (hg : w.cell? ⟨g, 0, none⟩ = some (.int .i64 z))
    (hc : ∀ i (h : i < l.length) v w', VlV w' (l[i]'h) v → w'.cell? ⟨g, 0, none⟩ = some (.int .i64 z) → Calls Tryz.prog 71 #[v, .pointer (some ⟨g, 0, none⟩)] w' (Ib (.bool (p (l[i]'h))) w')) :
    Calls Tryz.prog 125 #[.slice A l.length c, .func (.func 71) #[] #[.pointer (some ⟨g, 0, none⟩)]] w (Ib (.int .i64 (ixI (l.findIdx? p))) w) := by
  obtain ⟨n, hn⟩ : ∃ n, l.length = n := ⟨_, rfl⟩
  obtain ⟨r, hr⟩ : ∃ r, ixI (l.findIdx? p) = r := ⟨_, rfl⟩
  have HN := Lib.hid hn
  have HR := Lib.hid hr
  rw [hn] at hl
  rw [hn, hr]
  clear hn hr
  have H0 : Hid (∀ j (hj : j < l.length), j < 0 → p (l[j]'hj) = false) := Lib.hid fun j _ h => by omega
  go_enter Tryz.func125, Tryz.ntmps125
  go_wp2_with fail
  go_loopw [8] (fun i wr => ∃ k : Nat, k ≤ n ∧ i = .int .i64 (k : Int) ∧ Hid (∀ j (hj : j < l.length), j < k → p (l[j]'hj) = false) ∧ Below w.heap.size w wr) (fun i _ => n - (intOf i).toNat)
  case atStart => exact ⟨0, by omega, rfl, H0, Below.refl _ _⟩
  case round =>
    obtain ⟨k, hk, rfl, HK, hb⟩ := hrel
    clear H0
    by_cases hlt : k < n
    · have h1 : k < l.length := by rw [HN.out]; exact hlt
      have hk1 := Lib.hid hlt
      obtain ⟨a, rfl, hA⟩ := hR.get h1
      obtain ⟨B, q, B2, q2, x0, x1, x2, x3, x4, hV⟩ := (VlA.next hb _ _ hA).val
      have hblk : (a.add (k * 5)).block < wr.heap.size := blk_lt x0
      have cC := hc k h1 _ wr hV (cell_next hb hg)
      have HF := Lib.hid (fun (h : p (l[k]'h1) = false) => show ∀ j (hj : j < l.length), j < k + 1 → p (l[j]'hj) = false from fun j hj h2 => by
        by_cases e : j = k
        · subst e; exact h
        · exact HK.out j hj (by omega))
      have HT := Lib.hid (fun (h : p (l[k]'h1) = true) => show r = (k : Int) by rw [← HR.out, findIdx_at h1 h HK.out]; rfl)
      obtain ⟨b, hbb⟩ : ∃ b, p (l[k]'h1) = b := ⟨_, rfl⟩
      rw [hbb] at cC HF HT
      generalize l[k]'h1 = u at *
      clear hA hV hR HK hbb hg hc
      cases b
      · have HF2 := Lib.hid (show ∀ j (hj : j < l.length), j < k + 1 → p (l[j]'hj) = false from HF.out rfl)
        clear HF HT
        go_wp2_with fail
        refine cC.mono ?_
        rintro e w2 ⟨rfl, hb2⟩
        go_wp2_with fail
        go_roundw
        case rel => exact ⟨k + 1, hk1.out, by go_num, HF2, Below.next hb hb2⟩
        case measure => have := hk1.out; simp [intOf]; omega
      · have HT2 := HT.out rfl
        clear HF HT
        subst HT2
        go_wp2_with fail
        refine cC.mono ?_
        rintro e w2 ⟨rfl, hb2⟩
        go_wp2_with fail
        go_ret
        exact ⟨rfl, Below.next hb hb2⟩
    · obtain rfl : k = n := by omega
      have HE : r = -1 := by rw [← HR.out, findIdx_none fun j hj => HK.out j hj (by rw [← HN.out]; exact hj)]; rfl
      subst HE
      clear HK hR hc
      go_wp2_with fail
      go_ret
      exact ⟨rfl, hb⟩
set_option maxRecDepth 100000 in
set_option maxHeartbeats 4000000 in
theorem ixE_any (p : (Int × Vl) → Bool) (l : List (Int × Vl)) (A : Option Addr) (c : Nat) (z : Int) (g : Nat) (w : World) (hl : l.length ≤ 9223372036854775807) (hR : Rw EtA 6 w l A) (hg : w.cell? ⟨g, 0, none⟩ = some (.int .i64 z))
    (hc : ∀ i (h : i < l.length) v w', EtV w' (l[i]'h) v → w'.cell? ⟨g, 0, none⟩ = some (.int .i64 z) → Calls Tryz.prog 73 #[v, .pointer (some ⟨g, 0, none⟩)] w' (Ib (.bool (p (l[i]'h))) w')) :
    Calls Tryz.prog 84 #[.slice A l.length c, .func (.func 73) #[] #[.pointer (some ⟨g, 0, none⟩)]] w (Ib (.int .i64 (ixI (l.findIdx? p))) w) := by
  obtain ⟨n, hn⟩ : ∃ n, l.length = n := ⟨_, rfl⟩
  obtain ⟨r, hr⟩ : ∃ r, ixI (l.findIdx? p) = r := ⟨_, rfl⟩
  have HN := Lib.hid hn
  have HR := Lib.hid hr
  rw [hn] at hl
  rw [hn, hr]
  clear hn hr
  have H0 : Hid (∀ j (hj : j < l.length), j < 0 → p (l[j]'hj) = false) := Lib.hid fun j _ h => by omega
  go_enter Tryz.func84, Tryz.ntmps84
  go_wp2_with fail
  go_loopw [8] (fun i wr => ∃ k : Nat, k ≤ n ∧ i = .int .i64 (k : Int) ∧ Hid (∀ j (hj : j < l.length), j < k → p (l[j]'hj) = false) ∧ Below w.heap.size w wr) (fun i _ => n - (intOf i).toNat)
  case atStart => exact ⟨0, by omega, rfl, H0, Below.refl _ _⟩
  case round =>
    obtain ⟨k, hk, rfl, HK, hb⟩ := hrel
    clear H0
    by_cases hlt : k < n
    · have h1 : k < l.length := by rw [HN.out]; exact hlt
      have hk1 := Lib.hid hlt
      obtain ⟨a, rfl, hA⟩ := hR.get h1
      obtain ⟨B, q, B2, q2, x0, x1, x2, x3, x4, x5, hV⟩ := (EtA.next hb _ _ hA).val2
      have hblk : (a.add (k * 6)).block < wr.heap.size := blk_lt x0
      have cC := hc k h1 _ wr hV (cell_next hb hg)
      have HF := Lib.hid (fun (h : p (l[k]'h1) = false) => show ∀ j (hj : j < l.length), j < k + 1 → p (l[j]'hj) = false from fun j hj h2 => by
        by_cases e : j = k
        · subst e; exact h
        · exact HK.out j hj (by omega))
      have HT := Lib.hid (fun (h : p (l[k]'h1) = true) => show r = (k : Int) by rw [← HR.out, findIdx_at h1 h HK.out]; rfl)
      obtain ⟨b, hbb⟩ : ∃ b, p (l[k]'h1) = b := ⟨_, rfl⟩
      rw [hbb] at cC HF HT
      generalize l[k]'h1 = u at *
      clear hA hV hR HK hbb hg hc
      cases b
      · have HF2 := Lib.hid (show ∀ j (hj : j < l.length), j < k + 1 → p (l[j]'hj) = false from HF.out rfl)
        clear HF HT
        go_wp2_with fail
        refine cC.mono ?_
        rintro e w2 ⟨rfl, hb2⟩
        go_wp2_with fail
        go_roundw
        case rel => exact ⟨k + 1, hk1.out, by go_num, HF2, Below.next hb hb2⟩
        case measure => have := hk1.out; simp [intOf]; omega
      · have HT2 := HT.out rfl
        clear HF HT
        subst HT2
        go_wp2_with fail
        refine cC.mono ?_
        rintro e w2 ⟨rfl, hb2⟩
        go_wp2_with fail
        go_ret
        exact ⟨rfl, Below.next hb hb2⟩
    · obtain rfl : k = n := by omega
      have HE : r = -1 := by rw [← HR.out, findIdx_none fun j hj => HK.out j hj (by rw [← HN.out]; exact hj)]; rfl
      subst HE
      clear HK hR hc
      go_wp2_with fail
      go_ret
      exact ⟨rfl, hb⟩
set_option maxRecDepth 100000 in
theorem cfV_any (p : Vl → Bool) (l : List Vl) (A : Option Addr) (c : Nat) (z : Int) (g : Nat) (w : World) (hl : l.length ≤ 9223372036854775807) (hR : Rw VlA 5 w l A) (hg : w.cell? ⟨g, 0, none⟩ = some (.int .i64 z))
    (hc : ∀ i (h : i < l.length) v w', VlV w' (l[i]'h) v → w'.cell? ⟨g, 0, none⟩ = some (.int .i64 z) → Calls Tryz.prog 71 #[v, .pointer (some ⟨g, 0, none⟩)] w' (Ib (.bool (p (l[i]'h))) w')) :
    Calls Tryz.prog 70 #[.slice A l.length c, .func (.func 71) #[] #[.pointer (some ⟨g, 0, none⟩)]] w (Ib (.bool (l.any p)) w) := by
  have c1 := ixV_any p l A c z g w hl hR hg hc
  have ha := any_ix p l
  clear hc hR hg hl
  generalize ixI (l.findIdx? p) = i at *
  generalize l.any p = b at *
  generalize l.length = n at *
  subst ha
  go_enter Tryz.func70, Tryz.ntmps70
  go_wp2_with fail
  refine c1.mono ?_
  rintro e w2 ⟨rfl, hb⟩
  go_wp2_with fail
  go_ret
  exact ⟨rfl, hb⟩
set_option maxRecDepth 100000 in
theorem cfE_any (p : (Int × Vl) → Bool) (l : List (Int × Vl)) (A : Option Addr) (c : Nat) (z : Int) (g : Nat) (w : World) (hl : l.length ≤ 9223372036854775807) (hR : Rw EtA 6 w l A) (hg : w.cell? ⟨g, 0, none⟩ = some (.int .i64 z))
    (hc : ∀ i (h : i < l.length) v w', EtV w' (l[i]'h) v → w'.cell? ⟨g, 0, none⟩ = some (.int .i64 z) → Calls Tryz.prog 73 #[v, .pointer (some ⟨g, 0, none⟩)] w' (Ib (.bool (p (l[i]'h))) w')) :
    Calls Tryz.prog 72 #[.slice A l.length c, .func (.func 73) #[] #[.pointer (some ⟨g, 0, none⟩)]] w (Ib (.bool (l.any p)) w) := by
  have c1 := ixE_any p l A c z g w hl hR hg hc
  have ha := any_ix p l
  clear hc hR hg hl
  generalize ixI (l.findIdx? p) = i at *
  generalize l.any p = b at *
  generalize l.length = n at *
  subst ha
  go_enter Tryz.func72, Tryz.ntmps72
  go_wp2_with fail
  refine c1.mono ?_
  rintro e w2 ⟨rfl, hb⟩
  go_wp2_with fail
  go_ret
  exact ⟨rfl, hb⟩
set_option maxRecDepth 100000 in
theorem exC1_any (t : Vl) (n : Nat) (g : Nat) (v : Value) (w : World) (hv : VlV w t v) (hn : n ≤ 1000) (hg : w.cell? ⟨g, 0, none⟩ = some (.int .i64 ((n + 1 : Nat) : Int))) (hc : ∀ v w', VlV w' t v → Calls Tryz.prog 37 #[v, .int .i64 (n : Int)] w' (Ib (.bool (decide (n < lv t))) w')) :
    Calls Tryz.prog 71 #[v, .pointer (some ⟨g, 0, none⟩)] w (Ib (.bool (decide (n < lv t))) w) := by
  obtain ⟨s, rfl, hr⟩ := rdV_iff.1 hv
  have hl := blk_lt hg
  have c1 := hc _ _ (hv.next (ab1 w (Obj.cells (encV t s).toArray 34)))
  obtain ⟨r, hr2⟩ : ∃ r, decide (n < lv t) = r := ⟨_, rfl⟩
  have hx : ((n + 1 : Nat) : Int) - 1 = (n : Int) := by omega
  rw [hr2] at c1 ⊢
  obtain ⟨m, hm⟩ : ∃ m : Int, ((n + 1 : Nat) : Int) = m := ⟨_, rfl⟩
  rw [hm] at hx hg
  clear hc hr2 hr hv
  have hmr : m ≤ 2000 := by omega
  have hmr0 : 0 ≤ m := by omega
  clear hm
  show Calls Tryz.prog _ #[.agg #[.int .i64 t.kind, .int .i64 t.n, .string (bs t.s), .slice s.A t.l.length s.c, .slice s.B t.f.length s.d], _] w _
  have c2 : Calls Tryz.prog 37 #[.agg #[.int .i64 t.kind, .int .i64 t.n, .string (bs t.s), .slice s.A t.l.length s.c, .slice s.B t.f.length s.d], .int .i64 (n : Int)] (w.alloc (Obj.cells #[.int .i64 t.kind, .int .i64 t.n, .string (bs t.s), .slice s.A t.l.length s.c, .slice s.B t.f.length s.d] 34)) (Ib (.bool r) (w.alloc (Obj.cells #[.int .i64 t.kind, .int .i64 t.n, .string (bs t.s), .slice s.A t.l.length s.c, .slice s.B t.f.length s.d] 34))) := c1
  clear c1
  go_enter Tryz.func71, Tryz.ntmps71
  go_wp2_with fail
  refine c2.mono ?_
  rintro e w2 ⟨rfl, hb⟩
  go_wp2_with fail
  go_ret
  exact ⟨rfl, Below.next (ab1 _ _) hb⟩
set_option maxRecDepth 100000 in
theorem exC2_any (x : Int × Vl) (n : Nat) (g : Nat) (v : Value) (w : World) (hv : EtV w x v) (hn : n ≤ 1000) (hg : w.cell? ⟨g, 0, none⟩ = some (.int .i64 ((n + 1 : Nat) : Int))) (hc : ∀ v w', VlV w' x.2 v → Calls Tryz.prog 37 #[v, .int .i64 (n : Int)] w' (Ib (.bool (decide (n < lv x.2))) w')) :
    Calls Tryz.prog 73 #[v, .pointer (some ⟨g, 0, none⟩)] w (Ib (.bool (decide (n < lv x.2))) w) := by
  obtain ⟨A, c, B, d, rfl, h1, h2⟩ := hv
  obtain ⟨num, t⟩ := x
  have hl := blk_lt hg
  have hab := ab1 w (Obj.cells #[.int .i64 num, .int .i64 t.kind, .int .i64 t.n, .string (bs t.s), .slice A t.l.length c, .slice B t.f.length d] 94)
  have c2 := hc _ _ (VlV.next hab ⟨A, c, B, d, rfl, h1, h2⟩)
  obtain ⟨r, hr2⟩ : ∃ r, decide (n < lv t) = r := ⟨_, rfl⟩
  have hx : ((n + 1 : Nat) : Int) - 1 = (n : Int) := by omega
  have hr3 : decide (n < lv (num, t).2) = r := hr2
  rw [hr3] at c2 ⊢
  obtain ⟨m, hm⟩ : ∃ m : Int, ((n + 1 : Nat) : Int) = m := ⟨_, rfl⟩
  rw [hm] at hx hg
  have hmr : m ≤ 2000 := by omega
  have hmr0 : 0 ≤ m := by omega
  clear hc hr2 hr3 h1 h2 hm
  go_enter Tryz.func73, Tryz.ntmps73
  go_wp2_with fail
  refine c2.mono ?_
  rintro e w2 ⟨rfl, hb⟩
  go_wp2_with fail
  go_ret
  exact ⟨rfl, Below.next (ab1 _ _) hb⟩
set_option maxRecDepth 100000 in
set_option maxHeartbeats 8000000 in
theorem exceeds_any (N : Nat) : ∀ (t : Vl) (k : Nat) (v : Value) (w : World), SizeOf.sizeOf t < N → vok t → k ≤ 1000 → VlV w t v →
    Calls Tryz.prog 37 #[v, .int .i64 (k : Int)] w (Ib (.bool (decide (k < lv t))) w) := by
  induction N with
  | zero => intro t k v w h; omega
  | succ N ih =>
    intro t k v w hN hok hk hv
    obtain ⟨-, ⟨hl, hlo⟩, hf, hfo⟩ := vok_iff.1 hok
    have HD := Lib.hid (@lv_flat t)
    have HS := Lib.hid (fun (n : Nat) h => @lv_succ t n h)
    have HP := Lib.hid (@lv_deep t)
    have cL0 := fun (q : Nat) (hq : q ≤ 1000) (g : Nat) (W : World) (i : Nat) (h : i < t.l.length) v w' (hv' : VlV w' (t.l[i]'h) v) (hg : w'.cell? ⟨g, 0, none⟩ = some (.int .i64 ((q + 1 : Nat) : Int))) => exC1_any (t.l[i]'h) q g v w' hv' hq hg fun v w' => ih _ q v w' (by have := size_l h; omega) (hlo _ (List.getElem_mem h)) hq
    have cF0 := fun (q : Nat) (hq : q ≤ 1000) (g : Nat) (W : World) (i : Nat) (h : i < t.f.length) v w' (hv' : EtV w' (t.f[i]'h) v) (hg : w'.cell? ⟨g, 0, none⟩ = some (.int .i64 ((q + 1 : Nat) : Int))) => exC2_any (t.f[i]'h) q g v w' hv' hq hg fun v w' => ih _ q v w' (by have := size_f h; omega) (hfo _ (List.getElem_mem h)) hq
    obtain ⟨A, c, B, d, rfl, hR, hR2⟩ := hv
    have cL := fun (q : Nat) (hq : q ≤ 1000) (g : Nat) (W : World) (hb : Below w.heap.size w W) (hg : W.cell? ⟨g, 0, none⟩ = some (.int .i64 ((q + 1 : Nat) : Int))) => cfV_any (fun x => decide (q < lv x)) t.l A c ((q + 1 : Nat) : Int) g W hl (hR.next fun x p => VlA.next hb x p) hg (cL0 q hq g W)
    have cF := fun (q : Nat) (hq : q ≤ 1000) (g : Nat) (W : World) (hb : Below w.heap.size w W) (hg : W.cell? ⟨g, 0, none⟩ = some (.int .i64 ((q + 1 : Nat) : Int))) => cfE_any (fun x => decide (q < lv x.2)) t.f B d ((q + 1 : Nat) : Int) g W hf (hR2.next fun x p => EtA.next hb x p) hg (cF0 q hq g W)
    obtain ⟨m, hm⟩ : ∃ m, t.l.length = m := ⟨_, rfl⟩
    obtain ⟨n, hn⟩ : ∃ n, t.f.length = n := ⟨_, rfl⟩
    rw [hm] at hl
    rw [hn] at hf
    simp only [hm] at cL
    simp only [hn] at cF
    rw [hm, hn] at HD HS HP ⊢
    have D1 := (Bx.new5 w 34 (.int .i64 t.kind) (.int .i64 t.n) (.string (bs t.s)) (.slice A m c) (.slice B n d)).next (ab1 _ (Obj.cells #[.int .i64 (k : Int)] 3))
    have D2 := Bx.new1 (w.alloc (Obj.cells #[.int .i64 t.kind, .int .i64 t.n, .string (bs t.s), .slice A m c, .slice B n d] 34)) 3 (.int .i64 (k : Int))
    have hab := ab2 w (Obj.cells #[.int .i64 t.kind, .int .i64 t.n, .string (bs t.s), .slice A m c, .slice B n d] 34) (Obj.cells #[.int .i64 (k : Int)] 3)
    rw [show (w.alloc (Obj.cells #[.int .i64 t.kind, .int .i64 t.n, .string (bs t.s), .slice A m c, .slice B n d] 34)).heap.size = w.heap.size + 1 by simp] at D2
    clear cL0 cF0 ih hR hR2 hlo hfo hok hN hm hn
    by_cases hfl : t.kind ≠ 5 ∧ t.kind ≠ 6 ∧ m = 0 ∧ n = 0
    · obtain ⟨h5, h6, rfl, rfl⟩ := hfl
      have hz := HD.out h5 h6 rfl rfl
      have d5 : (t.kind != 5) = true := by simpa using h5
      have d6 : (t.kind != 6) = true := by simpa using h6
      rw [hz, show decide (k < 0) = false by simp]
      clear hz h5 h6 HD HS HP cL cF
      go_enter Tryz.func37, Tryz.ntmps37
      go_wp2_with fail
      go_ret
      exact ⟨rfl, hab⟩
    have HS := HS.out (k - 1) hfl
    have HP := HP.out hfl
    cases k with
    | zero =>
      rw [show decide (0 < lv t) = true by rw [decide_eq_true_eq, HP]; omega]
      clear HP HS HD cL cF
      by_cases h5 : t.kind = 5
      · have d5 : (t.kind != 5) = false := by simpa using h5
        clear h5 hfl
        go_enter Tryz.func37, Tryz.ntmps37
        go_wp2_with fail
        go_ret
        exact ⟨rfl, hab⟩
      have d5 : (t.kind != 5) = true := by simpa using h5
      by_cases h6 : t.kind = 6
      · have d6 : (t.kind != 6) = false := by simpa using h6
        clear h5 h6 hfl
        go_enter Tryz.func37, Tryz.ntmps37
        go_wp2_with fail
        go_ret
        exact ⟨rfl, hab⟩
      have d6 : (t.kind != 6) = true := by simpa using h6
      by_cases hm0 : m = 0
      · subst hm0
        have dn : ((n : Int) == 0) = false := by have : n ≠ 0 := fun e => hfl ⟨h5, h6, rfl, e⟩; simp; omega
        clear h5 h6 hfl
        go_enter Tryz.func37, Tryz.ntmps37
        go_wp2_with fail
        go_ret
        exact ⟨rfl, hab⟩
      · have dm : ((m : Int) == 0) = false := by simp; omega
        clear h5 h6 hfl hm0
        go_enter Tryz.func37, Tryz.ntmps37
        go_wp2_with fail
        go_ret
        exact ⟨rfl, hab⟩
    | succ q =>
      rw [Nat.add_sub_cancel] at HS
      rw [HS]
      have cL1 := cL q (by omega) (w.heap.size + 1) _ hab (D2.c 0 rfl)
      have cF1 := fun W h => cF q (by omega) (w.heap.size + 1) W (Below.next hab h) ((D2.next h).c 0 rfl)
      have kq : ((((q + 1 : Nat) : Int)) == 0) = false := by simp; omega
      obtain ⟨b1, hb1⟩ : ∃ b1, t.l.any (fun x => decide (q < lv x)) = b1 := ⟨_, rfl⟩
      obtain ⟨b2, hb2⟩ : ∃ b2, t.f.any (fun x => decide (q < lv x.2)) = b2 := ⟨_, rfl⟩
      rw [hb1] at cL1 ⊢
      rw [hb2] at cF1 ⊢
      obtain ⟨K, hK⟩ : ∃ K : Int, ((q + 1 : Nat) : Int) = K := ⟨_, rfl⟩
      rw [hK] at kq cL1 cF1 D1 D2 hab ⊢
      clear cL cF HS HP HD hb1 hb2 hK
      by_cases h5 : t.kind = 5
      · have d5 : (t.kind != 5) = false := by simpa using h5
        clear h5 hfl
        go_enter Tryz.func37, Tryz.ntmps37
        go_wp2_with fail
        refine cL1.mono ?_
        rintro e w2 ⟨rfl, hb2⟩
        have E1 := D1.next hb2
        have c4 := E1.c 4 rfl
        have cF2 := cF1 _ hb2
        cases b1
        · go_wp2_with fail
          refine cF2.mono ?_
          rintro e w3 ⟨rfl, hb3⟩
          go_wp2_with fail
          go_ret
          exact ⟨rfl, Below.next (Below.next hab hb2) hb3⟩
        · go_wp2_with fail
          go_ret
          exact ⟨rfl, Below.next hab hb2⟩
      have d5 : (t.kind != 5) = true := by simpa using h5
      by_cases h6 : t.kind = 6
      · have d6 : (t.kind != 6) = false := by simpa using h6
        clear h5 h6 hfl
        go_enter Tryz.func37, Tryz.ntmps37
        go_wp2_with fail
        refine cL1.mono ?_
        rintro e w2 ⟨rfl, hb2⟩
        have E1 := D1.next hb2
        have c4 := E1.c 4 rfl
        have cF2 := cF1 _ hb2
        cases b1
        · go_wp2_with fail
          refine cF2.mono ?_
          rintro e w3 ⟨rfl, hb3⟩
          go_wp2_with fail
          go_ret
          exact ⟨rfl, Below.next (Below.next hab hb2) hb3⟩
        · go_wp2_with fail
          go_ret
          exact ⟨rfl, Below.next hab hb2⟩
      have d6 : (t.kind != 6) = true := by simpa using h6
      by_cases hm0 : m = 0
      · subst hm0
        have dn : ((n : Int) == 0) = false := by have : n ≠ 0 := fun e => hfl ⟨h5, h6, rfl, e⟩; simp; omega
        clear h5 h6 hfl
        go_enter Tryz.func37, Tryz.ntmps37
        go_wp2_with fail
        refine cL1.mono ?_
        rintro e w2 ⟨rfl, hb2⟩
        have E1 := D1.next hb2
        have c4 := E1.c 4 rfl
        have cF2 := cF1 _ hb2
        cases b1
        · go_wp2_with fail
          refine cF2.mono ?_
          rintro e w3 ⟨rfl, hb3⟩
          go_wp2_with fail
          go_ret
          exact ⟨rfl, Below.next (Below.next hab hb2) hb3⟩
        · go_wp2_with fail
          go_ret
          exact ⟨rfl, Below.next hab hb2⟩
      · have dm : ((m : Int) == 0) = false := by simp; omega
        clear h5 h6 hfl hm0
        go_enter Tryz.func37, Tryz.ntmps37
        go_wp2_with fail
        refine cL1.mono ?_
        rintro e w2 ⟨rfl, hb2⟩
        have E1 := D1.next hb2
        have c4 := E1.c 4 rfl
        have cF2 := cF1 _ hb2
        cases b1
        · go_wp2_with fail
          refine cF2.mono ?_
          rintro e w3 ⟨rfl, hb3⟩
          go_wp2_with fail
          go_ret
          exact ⟨rfl, Below.next (Below.next hab hb2) hb3⟩
        · go_wp2_with fail
          go_ret
          exact ⟨rfl, Below.next hab hb2⟩
end Go.Proofs.YthfodpbecddheaaGreatDoor


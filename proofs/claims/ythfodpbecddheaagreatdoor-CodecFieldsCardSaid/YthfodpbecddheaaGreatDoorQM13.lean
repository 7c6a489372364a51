/-
  The developers' Raw: a field's content. No conditions beyond those that each names.
-/
import Derived.Test.YthfodpbecddheaaGreatDoorQM12
import Derived.Test.YthfodpbecddheaaGreatDoorQM07
import Derived.Test.YthfodpbecddheaaGreatDoorQM02
import Derived.Test.YthfodpbecddheaaGreatDoorQM01
import Derived.Lib.QuietBelow
namespace Go.Proofs.YthfodpbecddheaaGreatDoor
open Go.RowKit
/-- The content of the last of some fields with a number. -/
def fnd (z : Int) (l : List (Nat × List UInt8)) (s : List UInt8) : List UInt8 := l.foldl (fun s p => if (p.1 : Int) = z then p.2 else s) s
def Vr (z : Int) (s : List UInt8) (n : Nat) (c : List UInt8) : List UInt8 × Nat := (if (n : Int) = z then c else s, 0)
theorem fnd_no {z : Int} : ∀ {l : List (Nat × List UInt8)} {s : List UInt8}, (l.map fun p => (p.1 : Int)).contains z = false → fnd z l s = s
  | [], s, _ => rfl
  | p :: l, s, h => by
    have h1 : ¬ ((p.1 : Int) = z) := fun e => by simp [e] at h
    have h2 : (l.map fun p => (p.1 : Int)).contains z = false := by
      rw [List.map_cons, List.contains_cons, Bool.or_eq_false_iff] at h
      exact h.2
    unfold fnd
    rw [List.foldl_cons, if_neg h1]
    exact fnd_no h2
set_option maxRecDepth 100000 in
theorem raw1_any (n : Nat) (c f : List UInt8) (z : Int) (b3 b8 : Nat) (w : World) (h3 : Bx w b3 [.int .i64 z]) (h8 : Bx w b8 [.string (bs f)]) (hne : b3 ≠ b8) :
    Calls Tryz.prog 56 #[.int .i64 (n : Int), .string (bs c), .pointer (some ⟨b3, 0, none⟩), .pointer (some ⟨b8, 0, none⟩)] w (fun e w' => e = .returned (.int .i64 0) ∧ Bx w' b3 [.int .i64 z] ∧ Bx w' b8 [.string (bs (if (n : Int) = z then c else f))] ∧ w.grownBy w' (some b8)) := by
  have c3 := h3.c 0 rfl
  have l3 := h3.lt
  have f8 := h8.f 0 rfl
  have c8 := h8.c 0 rfl
  have l8 := h8.lt
  by_cases h : (n : Int) = z
  · have q0 : ((n : Int) == z) = true := by simpa using h
    have gs := gb_set1 w ⟨b8, 0, none⟩ (.string (bs c))
    rw [if_pos h]
    clear h
    go_enter Tryz.func56, Tryz.ntmps56
    go_wp2_with fail
    go_ret
    exact ⟨rfl, h3.gb gs hne, h8.put1 0 _, gs⟩
  · have q0 : ((n : Int) == z) = false := by simpa using h
    rw [if_neg h]
    clear h
    go_enter Tryz.func56, Tryz.ntmps56
    go_wp2_with fail
    go_ret
    exact ⟨rfl, h3, h8, World.grownBy.refl _ _⟩
/-- What a walk keeps that looks for a field's content. -/
def JRw (w : World) (z : Int) (b3 b8 g : Nat) (f : List UInt8) (W : World) : Prop := w.heap.size ≤ b3 ∧ b3 < b8 ∧ b8 < g ∧ g < W.heap.size ∧ Bx W b3 [.int .i64 z] ∧ Bx W b8 [.string (bs f)] ∧ Below w.heap.size w W
theorem JRw.read {w : World} {z : Int} {b3 b8 g : Nat} {f : List UInt8} {W W' : World} (h : JRw w z b3 b8 g f W) (hg : W.grownBy W' (some g)) : JRw w z b3 b8 g f W' := by
  obtain ⟨h1, h2, h3, h4, h5, h6, h7⟩ := h
  exact ⟨h1, h2, h3, Nat.lt_of_lt_of_le h4 hg.size, h5.gb hg (by omega), h6.gb hg (by omega), h7.grown hg h7.size fun b e => by cases e; omega⟩
theorem nums_in {b : List UInt8} {z : Int} (h : (nums b).contains z = true) : ¬ 2000 < b.length ∧ (prt b.length 0 b).2 = 0 ∧ pts b = prt b.length 0 b := by
  by_cases h1 : 2000 < b.length
  · unfold nums at h; rw [pts_long h1] at h; cases h
  · by_cases h2 : (prt b.length 0 b).2 = 0
    · exact ⟨h1, h2, pts_ok h1 h2⟩
    · unfold nums at h; rw [pts_err h1 rfl h2] at h; cases h
set_option maxRecDepth 100000 in
set_option maxHeartbeats 4000000 in
theorem cRaw_any (b : List UInt8) (z : Int) (w : World) (hb : b.length ≤ 9223372036854775807) :
    Calls Tryz.prog 29 #[.string (bs b), .int .i64 z] w (Ib (.tuple #[.string (bs (fnd z (pts b).1 [])), .bool ((nums b).contains z)]) w) := by
  have hab := ab1 w (Obj.cells #[.int .i64 z] 3)
  have B3 := Bx.new1 w 3 (.int .i64 z)
  have cF := cFields_any b (w.alloc (Obj.cells #[.int .i64 z] 3)) hb
  have hnl := nums_len b
  have cC := fun W A c (h : Rw TyI 1 W (nums b) A) => containsInts_any (nums b) z A c W (by omega) h
  have HC := Lib.hid (fun (h : (nums b).contains z = true) => nums_in h)
  have HN := Lib.hid (fun (h : (nums b).contains z = false) => show fnd z (pts b).1 [] = [] from fnd_no (by unfold nums at h; exact h))
  unfold FnP at cF
  obtain ⟨m, hm⟩ : ∃ m, (nums b).length = m := ⟨_, rfl⟩
  rw [hm] at cF cC
  clear hm hnl
  generalize (nums b).contains z = p at *
  have hz3 : w.heap.size < (w.alloc (Obj.cells #[.int .i64 z] 3)).heap.size := by simp
  go_enter Tryz.func29, Tryz.ntmps29
  go_upto_region 1 with (fail)
  generalize w.alloc (Obj.cells #[.int .i64 z] 3) = w1 at *
  go_wp2_with fail
  refine cF.mono ?_
  rintro en w2 ⟨A, c, rfl, hR, hb2⟩
  replace B3 := B3.next hb2
  replace hab := Below.next hab hb2
  have hz4 : w.heap.size < w2.heap.size := Nat.lt_of_lt_of_le hz3 hb2.size
  have c3 := B3.c 0 rfl
  have l3 := B3.lt
  clear cF hb2 hz3
  go_wp2_with fail
  refine (cC w2 A c hR).mono ?_
  rintro en w3 ⟨rfl, rfl⟩
  clear cC hR
  cases p
  case false =>
    have HN2 := Lib.hid (HN.out rfl)
    clear HN HC
    go_wp2_with fail
    refine bodyPost_ret (v := .tuple #[.string ⟨#[]⟩, .bool false]) (by simp [results, Tryz.results29, go_sem]) rfl ?_
    rw [HN2.out]
    exact ⟨rfl, hab⟩
  case true =>
  obtain ⟨k1, k2, k3⟩ := HC.out rfl
  have hbx := ab1 w2 (Obj.cells #[.string ⟨#[]⟩] 9)
  have B8 : Bx (w2.alloc (Obj.cells #[.string ⟨#[]⟩] 9)) w2.heap.size [.string (bs [])] := Bx.new1 w2 9 (.string ⟨#[]⟩)
  have hz5 : w2.heap.size < (w2.alloc (Obj.cells #[.string ⟨#[]⟩] 9)).heap.size := by simp
  have cW := walk2_any (Vr z) 56 (.pointer (some ⟨w.heap.size, 0, none⟩)) (.pointer (some ⟨w2.heap.size, 0, none⟩)) b [] (w2.alloc (Obj.cells #[.string ⟨#[]⟩] 9)) (fun g _ f W => JRw w z w.heap.size w2.heap.size g f W) (by kernel_rfl) (by omega)
    (fun g w9 hg hb9 hl => ⟨Nat.le_refl _, hz4, by omega, hl, (B3.next hbx).next hb9, B8.next hb9, Below.next hab (Below.next hbx hb9)⟩) (fun g k s W W' hJ hg => JRw.read hJ hg)
    (fun g k s n c W l e hg hk ⟨j1, j2, j3, j4, j5, j6, j7⟩ hr hn hc => (raw1_any n c s z w.heap.size w2.heap.size W j5 j6 (by omega)).mono fun en W' ⟨e1, e2, e3, e4⟩ => by
      refine ⟨e1, ⟨j1, j2, j3, Nat.lt_of_lt_of_le j4 e4.size, e2, e3, j7.grown e4 j7.size fun b e => by cases e; omega⟩, hr.off e4 (by omega)⟩)
  rw [pv_fold (fun _ _ _ => rfl)] at cW
  have hf : (prt b.length 0 b).1.foldl (fun s p => (Vr z s p.1 p.2).1) [] = fnd z (pts b).1 [] := by rw [k3]; rfl
  rw [hf, k2] at cW
  clear hf k1 k2 k3 HC HN hbx B8 hz5
  generalize fnd z (pts b).1 [] = f at *
  go_wp2_with fail
  refine cW.mono ?_
  rintro en w5 ⟨rfl, g, k, -, -, -, -, -, C8, hb5⟩
  have c8 := C8.c 0 rfl
  have l8 := C8.lt
  go_wp2_with fail
  exact bodyPost_ret (v := .tuple #[.string (bs f), .bool true]) (by simp [results, Tryz.results29, go_sem]) rfl ⟨rfl, hb5⟩
end Go.Proofs.YthfodpbecddheaaGreatDoor
/-
  The numbers of a sequence of fields ascend; what the law's loop finds. No conditions beyond those that each names.
-/
namespace Go.Proofs.YthfodpbecddheaaGreatDoor
theorem eF_gt {last : Nat} {l : List UInt8} (h : eF last l = 0) : last < nF l := by
  unfold eF at h
  by_cases h1 : eN4 l = 0
  · rw [if_neg (fun h => h h1)] at h
    by_cases h2 : nF l ≤ last
    · rw [if_pos h2] at h; cases h
    · omega
  · rw [if_pos h1] at h; exact absurd h h1
theorem prt_gt : ∀ (N last : Nat) (l : List UInt8), (∀ p ∈ (prt N last l).1, last < p.1) ∧ (prt N last l).1.Pairwise fun a b => a.1 < b.1
  | 0, last, l => by
    rw [prt]
    exact ⟨fun p hp => (List.not_mem_nil hp).elim, List.Pairwise.nil⟩
  | N + 1, last, l => by
    rw [prt]
    by_cases hl : l = []
    · rw [if_pos hl]; exact ⟨fun p hp => (List.not_mem_nil hp).elim, .nil⟩
    · rw [if_neg hl]
      by_cases he : eF last l = 0
      · rw [if_neg (fun h => h he)]
        obtain ⟨i1, i2⟩ := prt_gt N (nF l) (tF l)
        have hg := eF_gt he
        refine ⟨fun p hp => ?_, .cons i1 i2⟩
        rcases List.mem_cons.1 hp with rfl | hp
        · exact hg
        · exact Nat.lt_trans hg (i1 p hp)
      · rw [if_pos he]; exact ⟨fun p hp => (List.not_mem_nil hp).elim, .nil⟩
theorem pts_pw (b : List UInt8) : (pts b).1.Pairwise fun a b => a.1 < b.1 := by
  unfold pts
  split
  · exact .nil
  · split
    · exact (prt_gt _ _ _).2
    · exact .nil
theorem fnd_at : ∀ {l : List (Nat × List UInt8)} {s : List UInt8}, l.Pairwise (fun a b => a.1 < b.1) → ∀ i (h : i < l.length), fnd ((l[i]'h).1 : Int) l s = (l[i]'h).2
  | p :: l, s, hp, 0, _ => by
    obtain ⟨h1, h2⟩ := List.pairwise_cons.1 hp
    show fnd (p.1 : Int) (p :: l) s = p.2
    unfold fnd
    rw [List.foldl_cons, if_pos rfl]
    refine fnd_no ?_
    rw [Bool.eq_false_iff]
    intro hc
    rw [List.contains_iff_mem, List.mem_map] at hc
    obtain ⟨q, hq, e⟩ := hc
    have := h1 q hq
    omega
  | p :: l, s, hp, i + 1, h => by
    obtain ⟨h1, h2⟩ := List.pairwise_cons.1 hp
    have hi : i < l.length := by simpa using h
    show fnd ((l[i]'hi).1 : Int) (p :: l) s = (l[i]'hi).2
    unfold fnd
    have := h1 _ (List.getElem_mem hi)
    rw [List.foldl_cons, if_neg (by omega)]
    exact fnd_at h2 i hi
/-- What the law's loop has found after i fields. -/
def wnt (z : Int) (m : List (Nat × List UInt8)) (i : Nat) : List UInt8 := fnd z (m.take i) []
def wnh (z : Int) (m : List (Nat × List UInt8)) (i : Nat) : Bool := ((m.take i).map fun p => (p.1 : Int)).contains z
theorem wnt_yes {z : Int} {m : List (Nat × List UInt8)} {i : Nat} (h : i < m.length) (hz : ((m[i]'h).1 : Int) = z) : wnt z m (i + 1) = (m[i]'h).2 ∧ wnh z m (i + 1) = true := by
  unfold wnt wnh fnd
  rw [List.take_succ_eq_append_getElem h, List.foldl_append, List.map_append, List.contains_append]
  refine ⟨if_pos hz, ?_⟩
  rw [show List.contains (List.map (fun p : Nat × List UInt8 => (p.1 : Int)) [m[i]'h]) z = true by rw [List.map_cons, hz]; simp, Bool.or_true]
theorem wnt_no {z : Int} {m : List (Nat × List UInt8)} {i : Nat} (h : i < m.length) (hz : ¬ ((m[i]'h).1 : Int) = z) : wnt z m (i + 1) = wnt z m i ∧ wnh z m (i + 1) = wnh z m i := by
  unfold wnt wnh fnd
  rw [List.take_succ_eq_append_getElem h, List.foldl_append, List.map_append, List.contains_append]
  refine ⟨if_neg hz, ?_⟩
  rw [show List.contains (List.map (fun p : Nat × List UInt8 => (p.1 : Int)) [m[i]'h]) z = false by rw [Bool.eq_false_iff]; intro hc; rw [List.contains_iff_mem] at hc; exact hz (List.mem_singleton.1 hc).symm, Bool.or_false]
theorem wnt_end (z : Int) (m : List (Nat × List UInt8)) : wnt z m m.length = fnd z m [] ∧ wnh z m m.length = (m.map fun p => (p.1 : Int)).contains z := by
  unfold wnt wnh
  rw [List.take_length]
  exact ⟨rfl, rfl⟩
end Go.Proofs.YthfodpbecddheaaGreatDoor
/-
  Which schemas are valid, and with which error others are not: mathematics. No conditions beyond those that each names.
-/
namespace Go.Proofs.YthfodpbecddheaaGreatDoor
/-- The first error of so many. -/
def fe (f : Nat → Nat) (n : Nat) : Nat := (((List.range n).map f).find? (fun x => decide (x ≠ 0))).getD 0
theorem fe_zero {f : Nat → Nat} {n : Nat} (h : ∀ j, j < n → f j = 0) : fe f n = 0 := by
  unfold fe
  rw [List.find?_eq_none.2]
  · rfl
  · intro x hx
    obtain ⟨j, hj, rfl⟩ := List.mem_map.1 hx
    rw [h j (List.mem_range.1 hj)]
    simp
theorem fe_succ (f : Nat → Nat) (n : Nat) : fe f (n + 1) = if fe f n = 0 then f n else fe f n := by
  unfold fe
  rw [List.range_succ, List.map_append, List.find?_append]
  cases h : List.find? (fun x => decide (x ≠ 0)) (List.map f (List.range n)) with
  | none =>
    by_cases h0 : f n = 0
    · simp [h0]
    · simp [h0]
  | some x =>
    have hx := List.find?_some h
    have hx : x ≠ 0 := by simpa using hx
    simp [hx]
theorem fe_le {f : Nat → Nat} {k : Nat} : ∀ {n : Nat}, k ≤ n → fe f k ≠ 0 → fe f n = fe f k := by
  intro n
  induction n with
  | zero => intro hk h; rw [Nat.le_zero.1 hk]
  | succ n ih =>
    intro hk h
    rcases Nat.lt_or_ge k (n + 1) with h1 | h1
    · rw [fe_succ, ih (by omega) h, if_neg h]
    · rw [show k = n + 1 by omega]
theorem fe_at {f : Nat → Nat} {n k e : Nat} (hk : k < n) (h : ∀ j, j < k → f j = 0) (he : f k = e) (h0 : e ≠ 0) : fe f n = e := by
  have h1 : fe f (k + 1) = e := by rw [fe_succ, fe_zero h, if_pos rfl, he]
  rw [fe_le (k := k + 1) (by omega) (by rw [h1]; exact h0), h1]
theorem fe_iff {f : Nat → Nat} {n : Nat} : fe f n = 0 ↔ ∀ j, j < n → f j = 0 := by
  refine ⟨fun h j hj => ?_, fe_zero⟩
  have key : ∀ n, fe f n = 0 → ∀ j, j < n → f j = 0 := by
    intro n
    induction n with
    | zero => intro _ j hj; omega
    | succ n ih =>
      intro h j hj
      rw [fe_succ] at h
      by_cases h0 : fe f n = 0
      · rw [if_pos h0] at h
        rcases Nat.lt_or_ge j n with h1 | h1
        · exact ih h0 j h1
        · rw [show j = n by omega]; exact h
      · rw [if_neg h0] at h
        exact absurd h h0
  exact key n h j hj
theorem before_succ {p : Nat → Prop} {k : Nat} (h : ∀ j, j < k → p j) (hk : p k) : ∀ j, j < k + 1 → p j := fun j hj => by
  by_cases e : j < k
  · exact h j e
  · rw [show j = k by omega]; exact hk
/-- A type's name. -/
def isTn (l : List UInt8) : Bool := isN l && match l with | c :: _ => decide (65 ≤ c.toNat) && decide (c.toNat ≤ 90) | [] => false
theorem isTn_isN {l : List UInt8} (h : isTn l = true) : isN l = true := by unfold isTn at h; simp at h; exact h.1
theorem isN_ne {l : List UInt8} (h : isN l = true) : l ≠ [] := by intro e; subst e; cases h
theorem isN_lenS {l : List UInt8} (h : isN l = true) : l.length ≤ 16 := by unfold isN at h; simp at h; exact h.1.1.2
def ens (S : Sch) : List (List UInt8) := S.enums.map En.name
def sns (S : Sch) : List (List UInt8) := S.structs.map St.name
/-- Sizes of kinds. -/
def szOk (k s : Int) : Bool :=
  if k = 1 then decide (s = 0) else if k = 2 then (decide (s = 8) || decide (s = 16) || decide (s = 32) || decide (s = 64)) else if k = 3 then (decide (s = 8) || decide (s = 16) || decide (s = 32)) else
    if k = 4 then (decide (1 ≤ s) && decide (s ≤ 2000)) else if k = 5 then (decide (1 ≤ s) && decide (s ≤ 32)) else if k = 6 then decide (s = 0) else if k = 7 then decide (s = 0) else false
mutual
/-- A valid type. -/
def right (S : Sch) : Ty → Bool
  | .mk k s n e => szOk k s && (if k = 5 then decide (n = []) && rights S e else if k = 6 then (sns S).contains n && decide (e.length = 0) else if k = 7 then (ens S).contains n && decide (e.length = 0) else decide (n = []) && decide (e.length = 0))
def rights (S : Sch) : List Ty → Bool
  | [] => false
  | t :: ts => right S t && decide (ts.length = 0)
end
/-- The names that a type refers to. -/
def dir : Ty → List (List UInt8)
  | .mk k _ n e => if k = 6 ∨ k = 7 then [n] else dirs e
where dirs : List Ty → List (List UInt8)
  | [] => []
  | t :: ts => dir t ++ dirs ts
/-- The type within all lists, and how many lists. -/
def inn : Ty → Ty
  | .mk k s n e => if k = 5 then (match e with | [] => .mk k s n e | t :: _ => inn t) else .mk k s n e
def lst : Ty → Nat
  | .mk k _ _ e => if k = 5 then (match e with | [] => 0 | t :: _ => 1 + lst t) else 0
theorem right_eq (S : Sch) (k s : Int) (n : List UInt8) (e : List Ty) : right S (.mk k s n e) = (szOk k s && (if k = 5 then decide (n = []) && rights S e else if k = 6 then (sns S).contains n && decide (e.length = 0) else if k = 7 then (ens S).contains n && decide (e.length = 0) else decide (n = []) && decide (e.length = 0))) := by rw [right]
theorem right_list {S : Sch} {s : Int} {n : List UInt8} {e : List Ty} (h : right S (.mk 5 s n e) = true) : n = [] ∧ ∃ t, e = [t] ∧ right S t = true := by
  rw [right_eq, if_pos rfl] at h
  simp only [Bool.and_eq_true, decide_eq_true_eq] at h
  obtain ⟨-, h1, h2⟩ := h
  match e, h2 with
  | [], h2 => rw [rights] at h2; cases h2
  | t :: ts, h2 =>
    rw [rights] at h2
    simp only [Bool.and_eq_true, decide_eq_true_eq] at h2
    exact ⟨h1, t, by rw [List.eq_nil_of_length_eq_zero h2.2], h2.1⟩
theorem inn_list (s : Int) (n : List UInt8) (t : Ty) (ts : List Ty) : inn (.mk 5 s n (t :: ts)) = inn t := by rw [inn, if_pos rfl]
theorem inn_not {k : Int} (s : Int) (n : List UInt8) (e : List Ty) (h : k ≠ 5) : inn (.mk k s n e) = .mk k s n e := by cases e <;> simp [inn, h]
theorem lst_list (s : Int) (n : List UInt8) (t : Ty) (ts : List Ty) : lst (.mk 5 s n (t :: ts)) = 1 + lst t := by rw [lst, if_pos rfl]
theorem lst_not {k : Int} (s : Int) (n : List UInt8) (e : List Ty) (h : k ≠ 5) : lst (.mk k s n e) = 0 := by cases e <;> simp [lst, h]
theorem dir_pos {k : Int} (s : Int) (n : List UInt8) (e : List Ty) (h : k = 6 ∨ k = 7) : dir (.mk k s n e) = [n] := by rw [dir, if_pos h]
theorem dir_neg {k : Int} (s : Int) (n : List UInt8) (e : List Ty) (h : ¬ (k = 6 ∨ k = 7)) : dir (.mk k s n e) = dir.dirs e := by rw [dir, if_neg h]
/-- What a valid type refers to is told by the type within all lists. -/
theorem right_dir {S : Sch} : ∀ (t : Ty), right S t = true → (dir t = [(inn t).name] ∧ ((inn t).kind = 6 ∧ (inn t).name ∈ sns S ∨ (inn t).kind = 7 ∧ (inn t).name ∈ ens S)) ∨ (dir t = [] ∧ (inn t).name = [] ∧ (inn t).kind ≠ 6 ∧ (inn t).kind ≠ 7)
  | .mk k s n e, h => by
    by_cases h5 : k = 5
    · subst h5
      obtain ⟨rfl, t, rfl, ht⟩ := right_list h
      have := right_dir t ht
      rw [inn_list, dir_neg _ _ _ (by decide), dir.dirs, dir.dirs, List.append_nil]
      exact this
    · rw [inn_not _ _ _ h5]
      rw [right_eq, if_neg h5] at h
      simp only [Bool.and_eq_true] at h
      obtain ⟨-, h⟩ := h
      by_cases h6 : k = 6
      · rw [if_pos h6] at h
        simp only [Bool.and_eq_true, List.contains_iff_mem] at h
        exact .inl ⟨dir_pos _ _ _ (.inl h6), .inl ⟨h6, h.1⟩⟩
      · rw [if_neg h6] at h
        by_cases h7 : k = 7
        · rw [if_pos h7] at h
          simp only [Bool.and_eq_true, List.contains_iff_mem] at h
          exact .inl ⟨dir_pos _ _ _ (.inr h7), .inr ⟨h7, h.1⟩⟩
        · rw [if_neg h7] at h
          simp only [Bool.and_eq_true, decide_eq_true_eq] at h
          obtain ⟨rfl, he⟩ := h
          obtain rfl := List.eq_nil_of_length_eq_zero he
          exact .inr ⟨by rw [dir_neg _ _ _ (by rintro (h | h); exact h6 h; exact h7 h), dir.dirs], rfl, h6, h7⟩
/-- An enumeration's name number k, and its number. -/
def nmErr (x : En) (k : Nat) : Nat :=
  if isN (x.names.getD k []) = false then 5 else if (x.names.take k).contains (x.names.getD k []) = true then 7 else if x.nums.getD k 0 < 0 ∨ 127 < x.nums.getD k 0 then 4 else
    if (k = 0 ∧ x.nums.getD k 0 ≠ 0) ∨ (0 < k ∧ x.nums.getD k 0 ≤ x.nums.getD (k - 1) 0) then 2 else 0
def enErr (pre : List (List UInt8)) (x : En) : Nat :=
  if isTn x.name = false then 5 else if pre.contains x.name = true then 7 else if x.names.length = 0 ∨ x.nums.length ≠ x.names.length then 2 else fe (nmErr x) x.names.length
def fdErr (S : Sch) (t : St) (k : Nat) : Nat :=
  if (t.fields.getD k fd0).num < 1 ∨ 127 < (t.fields.getD k fd0).num then 4 else if 0 < k ∧ (t.fields.getD k fd0).num ≤ (t.fields.getD (k - 1) fd0).num then 2 else if isN (t.fields.getD k fd0).name = false then 5 else
    if ((t.fields.take k).map Fd.name).contains (t.fields.getD k fd0).name = true then 7 else if right S (t.fields.getD k fd0).type = false then 13 else 0
def stErr (S : Sch) (pre : List (List UInt8)) (t : St) : Nat :=
  if isTn t.name = false then 5 else if pre.contains t.name = true then 7 else fe (fdErr S t) t.fields.length
def enE (S : Sch) (i : Nat) : Nat := enErr ((ens S).take i) (S.enums.getD i en0)
def stE (S : Sch) (i : Nat) : Nat := stErr S (ens S ++ (sns S).take i) (S.structs.getD i st0)
def longS (S : Sch) : Prop := 16 < S.enums.length + S.structs.length ∨ (∃ x ∈ S.enums, 16 < x.names.length) ∨ ∃ t ∈ S.structs, 16 < t.fields.length
/-- The names that a struct refers to. -/
def nxs (t : St) : List (List UInt8) := t.fields.flatMap fun f => dir f.type
def nx (S : Sch) (x : List UInt8) : List (List UInt8) := nxs ((fst_ St.name S.structs x).getD st0)
/-- The depth of a type, given those of the structs. -/
def td (S : Sch) (d : List UInt8 → Nat) : Ty → Nat
  | .mk k _ n e => if k = 5 then (match e with | [] => 0 | t :: _ => 1 + td S d t) else if k = 6 then (if n ∈ sns S then d n else 0) else 0
def fdep (S : Sch) (d : List UInt8 → Nat) (t : St) : Nat := 1 + (t.fields.map fun f => td S d f.type).foldl max 0
def dF (S : Sch) (d : List UInt8 → Nat) (x : List UInt8) : Nat := fdep S d ((fst_ St.name S.structs x).getD st0)
def dep (S : Sch) (x : List UInt8) : Nat := gd (dF S) (S.structs.length + 1) x
def cyc (S : Sch) : Prop := ∃ t ∈ S.structs, Reach (nx S) t.name t.name
def deep (S : Sch) : Prop := ∃ t ∈ S.structs, 6 < dep S t.name
open Classical in
/-- The first error of a schema. -/
noncomputable def chk (S : Sch) : Nat :=
  if S.ver < 1 ∨ 999 < S.ver then 4 else if longS S then 3 else if fe (enE S) S.enums.length ≠ 0 then fe (enE S) S.enums.length else if fe (stE S) S.structs.length ≠ 0 then fe (stE S) S.structs.length else if cyc S then 19 else if deep S then 9 else 0
/-- Valid in all its parts. -/
structure Parts (S : Sch) : Prop where
  en : ∀ i, i < S.enums.length → enE S i = 0
  st : ∀ i, i < S.structs.length → stE S i = 0
theorem nmErr_cases (x : En) (k : Nat) : (isN (x.names.getD k []) = false ∧ nmErr x k = 5) ∨ (isN (x.names.getD k []) = true ∧ (x.names.take k).contains (x.names.getD k []) = true ∧ nmErr x k = 7) ∨
    (isN (x.names.getD k []) = true ∧ (x.names.take k).contains (x.names.getD k []) = false ∧ (x.nums.getD k 0 < 0 ∨ 127 < x.nums.getD k 0) ∧ nmErr x k = 4) ∨
    (isN (x.names.getD k []) = true ∧ (x.names.take k).contains (x.names.getD k []) = false ∧ 0 ≤ x.nums.getD k 0 ∧ x.nums.getD k 0 ≤ 127 ∧ ((k = 0 ∧ x.nums.getD k 0 ≠ 0) ∨ (0 < k ∧ x.nums.getD k 0 ≤ x.nums.getD (k - 1) 0)) ∧ nmErr x k = 2) ∨
    (isN (x.names.getD k []) = true ∧ (x.names.take k).contains (x.names.getD k []) = false ∧ 0 ≤ x.nums.getD k 0 ∧ x.nums.getD k 0 ≤ 127 ∧ (k = 0 → x.nums.getD k 0 = 0) ∧ (0 < k → x.nums.getD (k - 1) 0 < x.nums.getD k 0) ∧ nmErr x k = 0) := by
  unfold nmErr
  by_cases h1 : isN (x.names.getD k []) = false
  · exact .inl ⟨h1, by rw [if_pos h1]⟩
  · have h1' : isN (x.names.getD k []) = true := by simpa using h1
    rw [if_neg h1]
    refine .inr ?_
    by_cases h2 : (x.names.take k).contains (x.names.getD k []) = true
    · exact .inl ⟨h1', h2, by rw [if_pos h2]⟩
    · rw [if_neg h2]
      have h2' : (x.names.take k).contains (x.names.getD k []) = false := by rw [Bool.not_eq_true] at h2; exact h2
      refine .inr ?_
      by_cases h3 : x.nums.getD k 0 < 0 ∨ 127 < x.nums.getD k 0
      · exact .inl ⟨h1', h2', h3, by rw [if_pos h3]⟩
      · rw [if_neg h3]
        refine .inr ?_
        by_cases h4 : (k = 0 ∧ x.nums.getD k 0 ≠ 0) ∨ (0 < k ∧ x.nums.getD k 0 ≤ x.nums.getD (k - 1) 0)
        · exact .inl ⟨h1', h2', by omega, by omega, h4, by rw [if_pos h4]⟩
        · exact .inr ⟨h1', h2', by omega, by omega, fun h => by omega, fun h => by omega, by rw [if_neg h4]⟩
theorem fdErr_cases (S : Sch) (t : St) (k : Nat) : (((t.fields.getD k fd0).num < 1 ∨ 127 < (t.fields.getD k fd0).num) ∧ fdErr S t k = 4) ∨ (1 ≤ (t.fields.getD k fd0).num ∧ (t.fields.getD k fd0).num ≤ 127 ∧ (0 < k ∧ (t.fields.getD k fd0).num ≤ (t.fields.getD (k - 1) fd0).num) ∧ fdErr S t k = 2) ∨
    (1 ≤ (t.fields.getD k fd0).num ∧ (t.fields.getD k fd0).num ≤ 127 ∧ (0 < k → (t.fields.getD (k - 1) fd0).num < (t.fields.getD k fd0).num) ∧ isN (t.fields.getD k fd0).name = false ∧ fdErr S t k = 5) ∨
    (1 ≤ (t.fields.getD k fd0).num ∧ (t.fields.getD k fd0).num ≤ 127 ∧ (0 < k → (t.fields.getD (k - 1) fd0).num < (t.fields.getD k fd0).num) ∧ isN (t.fields.getD k fd0).name = true ∧ ((t.fields.take k).map Fd.name).contains (t.fields.getD k fd0).name = true ∧ fdErr S t k = 7) ∨
    (1 ≤ (t.fields.getD k fd0).num ∧ (t.fields.getD k fd0).num ≤ 127 ∧ (0 < k → (t.fields.getD (k - 1) fd0).num < (t.fields.getD k fd0).num) ∧ isN (t.fields.getD k fd0).name = true ∧ ((t.fields.take k).map Fd.name).contains (t.fields.getD k fd0).name = false ∧ right S (t.fields.getD k fd0).type = false ∧ fdErr S t k = 13) ∨
    (1 ≤ (t.fields.getD k fd0).num ∧ (t.fields.getD k fd0).num ≤ 127 ∧ (0 < k → (t.fields.getD (k - 1) fd0).num < (t.fields.getD k fd0).num) ∧ isN (t.fields.getD k fd0).name = true ∧ ((t.fields.take k).map Fd.name).contains (t.fields.getD k fd0).name = false ∧ right S (t.fields.getD k fd0).type = true ∧ fdErr S t k = 0) := by
  unfold fdErr
  generalize t.fields.getD k fd0 = f
  by_cases h1 : f.num < 1 ∨ 127 < f.num
  · exact .inl ⟨h1, by rw [if_pos h1]⟩
  · rw [if_neg h1]
    refine .inr ?_
    by_cases h2 : 0 < k ∧ f.num ≤ (t.fields.getD (k - 1) fd0).num
    · exact .inl ⟨by omega, by omega, h2, by rw [if_pos h2]⟩
    · rw [if_neg h2]
      refine .inr ?_
      by_cases h3 : isN f.name = false
      · exact .inl ⟨by omega, by omega, fun h => by omega, h3, by rw [if_pos h3]⟩
      · rw [if_neg h3]
        have h3' : isN f.name = true := by simpa using h3
        refine .inr ?_
        by_cases h4 : ((t.fields.take k).map Fd.name).contains f.name = true
        · exact .inl ⟨by omega, by omega, fun h => by omega, h3', h4, by rw [if_pos h4]⟩
        · rw [if_neg h4]
          have h4' : ((t.fields.take k).map Fd.name).contains f.name = false := by rw [Bool.not_eq_true] at h4; exact h4
          refine .inr ?_
          by_cases h5 : right S f.type = false
          · exact .inl ⟨by omega, by omega, fun h => by omega, h3', h4', h5, by rw [if_pos h5]⟩
          · exact .inr ⟨by omega, by omega, fun h => by omega, h3', h4', by simpa using h5, by rw [if_neg h5]⟩
end Go.Proofs.YthfodpbecddheaaGreatDoor
/-
  The reference's names, and lists of names. No conditions beyond those that each names.
-/
namespace Go.Proofs.YthfodpbecddheaaGreatDoor
open Go.RowKit
theorem ret_bool3 {a b : Bool} {w : World} (h : a = true ↔ b = true) : Is (.bool b) w (.returned (.bool a)) w := ⟨by rw [Bool.eq_iff_iff.2 h], rfl⟩
/-- Lists of names in memory. -/
abbrev Nms (w : World) (l : List (List UInt8)) (v : Value) : Prop := Sl TyN 1 w l v
theorem Nms.next {w w' : World} (hb : Below w.heap.size w w') {l : List (List UInt8)} {v : Value} (h : Nms w l v) : Nms w' l v := Sl.next (fun _ _ => TyN.next hb) h
end Go.Proofs.YthfodpbecddheaaGreatDoor
/-
  The reference's sizes of types: level, FewType. No conditions beyond those that each names.
-/
namespace Go.Proofs.YthfodpbecddheaaGreatDoor
open Go.RowKit
/-- How many lists a type has within one another. -/
def dpt : Ty → Nat
  | .mk _ _ _ e => dpts e
where dpts : List Ty → Nat
  | [] => 0
  | t :: ts => max (1 + dpt t) (dpts ts)
theorem foldl_max_snoc (l : List Nat) (x : Nat) : (l ++ [x]).foldl max 0 = max (l.foldl max 0) x := by rw [List.foldl_append]; rfl
theorem size_elem {t : Ty} {i : Nat} (h : i < t.elem.length) : SizeOf.sizeOf (t.elem[i]'h) < SizeOf.sizeOf t := by
  obtain ⟨k, s, n, e⟩ := t
  have h1 : SizeOf.sizeOf (e[i]'h) < SizeOf.sizeOf e := List.sizeOf_lt_of_mem (List.getElem_mem h)
  have h2 := Ty.mk.sizeOf_spec k s n e
  show SizeOf.sizeOf (e[i]'h) < SizeOf.sizeOf (Ty.mk k s n e)
  omega
/-- Go's own bound of a slice's length, at each list of elements. -/
def lok : Ty → Prop
  | .mk _ _ _ e => e.length ≤ 9223372036854775807 ∧ loks e
where loks : List Ty → Prop
  | [] => True
  | t :: ts => lok t ∧ loks ts
theorem loks_get : ∀ {e : List Ty} {i : Nat} (h : i < e.length), lok.loks e → lok (e[i]'h)
  | t :: ts, 0, _, hl => by rw [lok.loks] at hl; exact hl.1
  | t :: ts, i + 1, h, hl => by
    rw [lok.loks] at hl
    have := loks_get (e := ts) (i := i) (by simpa using h) hl.2
    simpa using this
theorem lok_get {t : Ty} (hl : lok t) {i : Nat} (h : i < t.elem.length) : lok (t.elem[i]'h) := by
  obtain ⟨k, s, n, e⟩ := t
  rw [lok] at hl
  exact loks_get h hl.2
theorem lok_len {t : Ty} (hl : lok t) : t.elem.length ≤ 9223372036854775807 := by
  obtain ⟨k, s, n, e⟩ := t
  rw [lok] at hl
  exact hl.1
/-- Small enough to be examined. -/
def fewT : Ty → Bool
  | .mk k s n e => decide (n.length ≤ 40) && (decide (e.length ≤ 3) && (decide (min 20 (dpt (.mk k s n e)) ≤ 8) && fews e))
where fews : List Ty → Bool
  | [] => true
  | t :: ts => fewT t && fews ts
theorem fews_all : ∀ e : List Ty, fewT.fews e = e.all fewT
  | [] => by rw [fewT.fews]; rfl
  | t :: ts => by rw [fewT.fews, fews_all ts]; rfl
theorem fewT_eq (t : Ty) : fewT t = (decide (t.name.length ≤ 40) && (decide (t.elem.length ≤ 3) && (decide (min 20 (dpt t) ≤ 8) && t.elem.all fewT))) := by
  obtain ⟨k, s, n, e⟩ := t
  rw [fewT, fews_all]
  rfl
end Go.Proofs.YthfodpbecddheaaGreatDoor
/-
  The reference's sizes of schemas: Few. No conditions beyond those that each names.
-/
namespace Go.Proofs.YthfodpbecddheaaGreatDoor
open Go.RowKit
def shortN (x : List UInt8) : Bool := decide (x.length ≤ 40)
def fewE (x : En) : Bool := shortN x.name && (decide (x.names.length ≤ 18) && (decide (x.nums.length ≤ 18) && x.names.all shortN))
def fewF (f : Fd) : Bool := shortN f.name && fewT f.type
def fewS (t : St) : Bool := shortN t.name && (decide (t.fields.length ≤ 18) && t.fields.all fewF)
def few (S : Sch) : Bool := decide (S.enums.length ≤ 18) && (decide (S.structs.length ≤ 18) && (S.enums.all fewE && S.structs.all fewS))
theorem all_next {α : Type} {p : α → Bool} {l : List α} {k : Nat} (hI : ∀ j (h : j < l.length), j < k → p (l[j]'h) = true) (hk : k < l.length) (e : p (l[k]'hk) = true) : ∀ j (h : j < l.length), j < k + 1 → p (l[j]'h) = true := fun j h hj => by
  by_cases hjk : j < k
  · exact hI j h hjk
  · obtain rfl : j = k := by omega
    exact e
end Go.Proofs.YthfodpbecddheaaGreatDoor
/-
  Which schemas are too long: the reference's and the developers' test. No conditions beyond those that each names.
-/
namespace Go.Proofs.YthfodpbecddheaaGreatDoor
open Go.RowKit
set_option maxRecDepth 100000 in
set_option maxHeartbeats 4000000 in
theorem isLong_any (S : Sch) (v : Value) (w : World) (r : Bool) (hr : r = true ↔ longS S) (hn : S.enums.length ≤ 1000) (hm : S.structs.length ≤ 1000) (hv : ScV w S v) :
    Calls Tryz.prog 58 #[v] w (Ib (.bool r) w) := by
  obtain ⟨A, c, A2, c2, rfl, hS⟩ := hv
  have hSe := hS.en
  have hSs := hS.st
  clear hS
  unfold longS at hr
  obtain ⟨n, hn2⟩ : ∃ n, S.enums.length = n := ⟨_, rfl⟩
  obtain ⟨m, hm2⟩ : ∃ m, S.structs.length = m := ⟨_, rfl⟩
  have HN := Lib.hid hn2
  have HM := Lib.hid hm2
  rw [hn2] at hn hr ⊢
  rw [hm2] at hm hr ⊢
  clear hn2 hm2
  have hB := Bx.new3 w 25 (.int .i64 S.ver) (.slice A n c) (.slice A2 m c2)
  by_cases h1 : 16 < n + m
  · obtain rfl := hr.2 (.inl h1)
    have d1 : decide ((16 : Int) < (n : Int) + (m : Int)) = true := by rw [decide_eq_true_eq]; omega
    clear hr h1
    go_enter Tryz.func58, Tryz.ntmps58
    go_wp2_with fail
    go_ret
    exact ⟨rfl, ab1 _ _⟩
  · have d1 : decide ((16 : Int) < (n : Int) + (m : Int)) = false := by rw [decide_eq_false_iff_not]; omega
    have HR := Lib.hid hr
    clear hr
    go_enter Tryz.func58, Tryz.ntmps58
    go_wp2_with fail
    go_loopw [18] (fun i wr => ∃ k : Nat, k ≤ n ∧ i = .int .i64 (k : Int) ∧ Hid (∀ j (h : j < S.enums.length), j < k → decide ((S.enums[j]'h).names.length ≤ 16) = true) ∧ Bx wr w.heap.size [.int .i64 S.ver, .slice A n c, .slice A2 m c2] ∧ Below w.heap.size w wr) (fun i _ => n - (intOf i).toNat)
    case atStart => exact ⟨0, by omega, rfl, Lib.hid fun j _ h => by omega, hB, ab1 _ _⟩
    case round =>
      obtain ⟨k, hk, rfl, hI, hBr, hb⟩ := hrel
      have b1 := hBr.c 1 rfl
      have b2 := hBr.c 2 rfl
      clear hB
      by_cases hlt : k < n
      · obtain ⟨a, rfl, hA⟩ := hSe.get (i := k) (by rw [HN.out]; exact hlt)
        obtain ⟨e0, ⟨A3, c3, e1, -⟩, A4, c4, e2, -⟩ := hA.next hb
        have hblk : (a.add (k * 3)).block < wr.heap.size := blk_lt e0
        have hx : ¬ (S.enums[k]'(by rw [HN.out]; exact hlt)).names.length ≤ 16 → r = true := fun e => HR.out.2 (.inr (.inl ⟨_, List.getElem_mem (by rw [HN.out]; exact hlt), by omega⟩))
        have hy := fun e => all_next (p := fun x : En => decide (x.names.length ≤ 16)) hI.out (k := k) (by rw [HN.out]; exact hlt) e
        generalize S.enums[k]'(by rw [HN.out]; exact hlt) = x at *
        by_cases g : x.names.length ≤ 16
        · have d5 : decide ((16 : Int) < (x.names.length : Int)) = false := by rw [decide_eq_false_iff_not]; omega
          have E := Lib.hid (hy (decide_eq_true g))
          clear hx hy hI g hA
          go_wp2_with fail
          go_roundw
          case rel => exact ⟨k + 1, by omega, by go_num, E, hBr.next (ab1 _ _), Below.next hb (ab1 _ _)⟩
          case measure => simp [intOf]; omega
        · have d5 : decide ((16 : Int) < (x.names.length : Int)) = true := by rw [decide_eq_true_eq]; omega
          obtain rfl := hx g
          clear hx hy hI g hA
          go_wp2_with fail
          go_ret
          exact ⟨rfl, Below.next hb (ab1 _ _)⟩
      · obtain rfl : k = n := by omega
        have H1 := Lib.hid (show ∀ x ∈ S.enums, ¬ 16 < x.names.length by
          intro x hx
          obtain ⟨j, hj, rfl⟩ := List.mem_iff_getElem.1 hx
          have := hI.out j hj (by rw [← HN.out]; exact hj)
          rw [decide_eq_true_eq] at this
          omega)
        clear hI
        go_wp2_with fail
        rename World => wo
        go_loopw [30] (fun i wr => ∃ y : Nat, y ≤ m ∧ i = .int .i64 (y : Int) ∧ Hid (∀ j (h : j < S.structs.length), j < y → decide ((S.structs[j]'h).fields.length ≤ 16) = true) ∧ Bx wr w.heap.size [.int .i64 S.ver, .slice A k c, .slice A2 m c2] ∧ Below w.heap.size w wr) (fun i _ => m - (intOf i).toNat)
        case atStart => exact ⟨0, by omega, rfl, Lib.hid fun j _ h => by omega, hBr, hb⟩
        case round =>
          obtain ⟨k2, hk2, rfl, hI, hBr2, hb2⟩ := hrel
          have b1 := hBr2.c 1 rfl
          have b2 := hBr2.c 2 rfl
          clear hBr
          by_cases hlt2 : k2 < m
          · obtain ⟨a, rfl, hA⟩ := hSs.get (i := k2) (by rw [HM.out]; exact hlt2)
            obtain ⟨e0, A3, c3, e1, -⟩ := hA.next hb2
            have hblk : (a.add (k2 * 2)).block < wr.heap.size := blk_lt e0
            have hx : ¬ (S.structs[k2]'(by rw [HM.out]; exact hlt2)).fields.length ≤ 16 → r = true := fun e => HR.out.2 (.inr (.inr ⟨_, List.getElem_mem (by rw [HM.out]; exact hlt2), by omega⟩))
            have hy := fun e => all_next (p := fun x : St => decide (x.fields.length ≤ 16)) hI.out (k := k2) (by rw [HM.out]; exact hlt2) e
            generalize S.structs[k2]'(by rw [HM.out]; exact hlt2) = x at *
            by_cases g : x.fields.length ≤ 16
            · have d5 : decide ((16 : Int) < (x.fields.length : Int)) = false := by rw [decide_eq_false_iff_not]; omega
              have E := Lib.hid (hy (decide_eq_true g))
              clear hx hy hI g hA
              go_wp2_with fail
              go_roundw
              case rel => exact ⟨k2 + 1, by omega, by go_num, E, hBr2.next (ab1 _ _), Below.next hb2 (ab1 _ _)⟩
              case measure => simp [intOf]; omega
            · have d5 : decide ((16 : Int) < (x.fields.length : Int)) = true := by rw [decide_eq_true_eq]; omega
              obtain rfl := hx g
              clear hx hy hI g hA
              go_wp2_with fail
              go_ret
              exact ⟨rfl, Below.next hb2 (ab1 _ _)⟩
          · obtain rfl : k2 = m := by omega
            obtain rfl : r = false := by
              rw [Bool.eq_false_iff]
              intro h
              rcases HR.out.1 h with h | ⟨x, hx, h⟩ | ⟨x, hx, h⟩
              · omega
              · exact H1.out x hx h
              · obtain ⟨j, hj, rfl⟩ := List.mem_iff_getElem.1 hx
                have := hI.out j hj (by rw [← HM.out]; exact hj)
                rw [decide_eq_true_eq] at this
                omega
            clear hI
            go_wp2_with fail
            go_ret
            exact ⟨rfl, hb2⟩
end Go.Proofs.YthfodpbecddheaaGreatDoor
/-
  The reference's valid types: Right. No conditions beyond those that each names.
-/
namespace Go.Proofs.YthfodpbecddheaaGreatDoor
open Go.RowKit
theorem TyV.mk_ {w : World} {k s : Int} {n : List UInt8} {e : List Ty} {u : Value} : TyV w (.mk k s n e) u ↔ ∃ A c, u = .agg #[.int .i64 k, .int .i64 s, .string (bs n), .slice A e.length c] ∧ Rw TyA 4 w e A := Iff.rfl
theorem mem_sns (S : Sch) (n : List UInt8) : (fst_ St.name S.structs n).isSome = (sns S).contains n := by
  rw [Bool.eq_iff_iff, List.contains_iff_mem]
  cases h : fst_ St.name S.structs n with
  | none =>
    simp only [Option.isSome_none, Bool.false_eq_true, false_iff]
    intro hm
    obtain ⟨t, ht, e⟩ := List.mem_map.1 hm
    exact fst_none.1 h t ht e
  | some t =>
    simp only [Option.isSome_some, true_iff]
    obtain ⟨h1, h2⟩ := fst_mem h
    exact List.mem_map.2 ⟨t, h1, h2⟩
theorem mem_ens (S : Sch) (n : List UInt8) : (fst_ En.name S.enums n).isSome = (ens S).contains n := by
  rw [Bool.eq_iff_iff, List.contains_iff_mem]
  cases h : fst_ En.name S.enums n with
  | none =>
    simp only [Option.isSome_none, Bool.false_eq_true, false_iff]
    intro hm
    obtain ⟨t, ht, e⟩ := List.mem_map.1 hm
    exact fst_none.1 h t ht e
  | some t =>
    simp only [Option.isSome_some, true_iff]
    obtain ⟨h1, h2⟩ := fst_mem h
    exact List.mem_map.2 ⟨t, h1, h2⟩
end Go.Proofs.YthfodpbecddheaaGreatDoor


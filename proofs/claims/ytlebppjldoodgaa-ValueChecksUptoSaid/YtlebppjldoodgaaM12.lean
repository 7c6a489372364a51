/-
  The developers' isPure; whole numbers in a short list. No conditions beyond those that each names.
-/
import Derived.Test.YtlebppjldoodgaaM11
import Derived.Test.YtlebppjldoodgaaM06
import Derived.Test.YtlebppjldoodgaaM02
import Derived.Test.YtlebppjldoodgaaM07
namespace Go.Proofs.Ytlebppjldoodgaa
open Go.RowKit Go.Shelf
/-- A value has nothing but what its kind uses. -/
def pur (k n : Int) (s : List UInt8) (a b : Nat) : Bool := (decide (k = 4) || decide (s = [])) && ((decide (k = 5) || decide (a = 0)) && ((decide (k = 6) || decide (b = 0)) && (decide (k ≠ 4 ∧ k ≠ 5 ∧ k ≠ 6) || decide (n = 0))))
set_option maxRecDepth 100000 in
set_option maxHeartbeats 4000000 in
theorem isPure_any (k n : Int) (s : List UInt8) (A : Option Addr) (a c : Nat) (B : Option Addr) (b d : Nat) (w : World) :
    Calls Try.prog 75 #[.agg #[.int .i64 k, .int .i64 n, .string (bs s), .slice A a c, .slice B b d]] w (Ib (.bool (pur k n s a b)) w) := by
  by_cases k4 : k = 4
  · subst k4
    by_cases hn : n = 0
    · have dn : (n == 0) = true := by simpa using hn
      by_cases ha : a = 0
      · have da : ((a : Int) == 0) = true := by simp; omega
        by_cases hb : b = 0
        · have db : ((b : Int) == 0) = true := by simp; omega
          rw [show pur 4 n s a b = true by simp +contextual [pur, hn, ha, hb]]
          go_enter Try.func75, Try.ntmps75
          go_wp2_with fail
          go_ret
          exact ⟨rfl, ab1 _ _⟩
        · have db : ((b : Int) == 0) = false := by simp; omega
          rw [show pur 4 n s a b = false by simp +contextual [pur, hn, ha, hb]]
          go_enter Try.func75, Try.ntmps75
          go_wp2_with fail
          go_ret
          exact ⟨rfl, ab1 _ _⟩
      · have da : ((a : Int) == 0) = false := by simp; omega
        rw [show pur 4 n s a b = false by simp +contextual [pur, hn, ha]]
        go_enter Try.func75, Try.ntmps75
        go_wp2_with fail
        go_ret
        exact ⟨rfl, ab1 _ _⟩
    · have dn : (n == 0) = false := by simpa using hn
      rw [show pur 4 n s a b = false by simp +contextual [pur, hn]]
      go_enter Try.func75, Try.ntmps75
      go_wp2_with fail
      go_ret
      exact ⟨rfl, ab1 _ _⟩
  have e4 : (k == 4) = false := by simpa using k4
  by_cases k5 : k = 5
  · subst k5
    by_cases hn : n = 0
    · have dn : (n == 0) = true := by simpa using hn
      by_cases hs : s = []
      · subst hs
        have q0 : (bs ([] : List UInt8)).toList = [] := toList_bs []
        have ds : ((bs ([] : List UInt8)).toList == []) = true := by rw [toList_bs]; rfl
        by_cases hb : b = 0
        · have db : ((b : Int) == 0) = true := by simp; omega
          rw [show pur 5 n [] a b = true by simp +contextual [pur, hn, hb]]
          go_enter Try.func75, Try.ntmps75
          go_wp2_with fail
          go_ret
          exact ⟨rfl, ab1 _ _⟩
        · have db : ((b : Int) == 0) = false := by simp; omega
          rw [show pur 5 n [] a b = false by simp +contextual [pur, hn, hb]]
          go_enter Try.func75, Try.ntmps75
          go_wp2_with fail
          go_ret
          exact ⟨rfl, ab1 _ _⟩
      · have ds : ((bs s).toList == []) = false := by rw [toList_bs, beq_eq_false_iff_ne]; exact hs
        rw [show pur 5 n s a b = false by simp +contextual [pur, hn, hs]]
        go_enter Try.func75, Try.ntmps75
        go_wp2_with fail
        go_ret
        exact ⟨rfl, ab1 _ _⟩
    · have dn : (n == 0) = false := by simpa using hn
      rw [show pur 5 n s a b = false by simp +contextual [pur, hn]]
      go_enter Try.func75, Try.ntmps75
      go_wp2_with fail
      go_ret
      exact ⟨rfl, ab1 _ _⟩
  have e5 : (k == 5) = false := by simpa using k5
  by_cases k6 : k = 6
  · subst k6
    by_cases hn : n = 0
    · have dn : (n == 0) = true := by simpa using hn
      by_cases hs : s = []
      · subst hs
        have q0 : (bs ([] : List UInt8)).toList = [] := toList_bs []
        have ds : ((bs ([] : List UInt8)).toList == []) = true := by rw [toList_bs]; rfl
        by_cases ha : a = 0
        · have da : ((a : Int) == 0) = true := by simp; omega
          rw [show pur 6 n [] a b = true by simp +contextual [pur, hn, ha]]
          go_enter Try.func75, Try.ntmps75
          go_wp2_with fail
          go_ret
          exact ⟨rfl, ab1 _ _⟩
        · have da : ((a : Int) == 0) = false := by simp; omega
          rw [show pur 6 n [] a b = false by simp +contextual [pur, hn, ha]]
          go_enter Try.func75, Try.ntmps75
          go_wp2_with fail
          go_ret
          exact ⟨rfl, ab1 _ _⟩
      · have ds : ((bs s).toList == []) = false := by rw [toList_bs, beq_eq_false_iff_ne]; exact hs
        rw [show pur 6 n s a b = false by simp +contextual [pur, hn, hs]]
        go_enter Try.func75, Try.ntmps75
        go_wp2_with fail
        go_ret
        exact ⟨rfl, ab1 _ _⟩
    · have dn : (n == 0) = false := by simpa using hn
      rw [show pur 6 n s a b = false by simp +contextual [pur, hn]]
      go_enter Try.func75, Try.ntmps75
      go_wp2_with fail
      go_ret
      exact ⟨rfl, ab1 _ _⟩
  have e6 : (k == 6) = false := by simpa using k6
  by_cases hs : s = []
  · subst hs
    have q0 : (bs ([] : List UInt8)).toList = [] := toList_bs []
    have ds : ((bs ([] : List UInt8)).toList == []) = true := by rw [toList_bs]; rfl
    by_cases ha : a = 0
    · have da : ((a : Int) == 0) = true := by simp; omega
      by_cases hb : b = 0
      · have db : ((b : Int) == 0) = true := by simp; omega
        rw [show pur k n [] a b = true by simp +contextual [pur, ha, hb, k4, k5, k6]]
        go_enter Try.func75, Try.ntmps75
        go_wp2_with fail
        go_ret
        exact ⟨rfl, ab1 _ _⟩
      · have db : ((b : Int) == 0) = false := by simp; omega
        rw [show pur k n [] a b = false by simp +contextual [pur, ha, hb, k4, k5, k6]]
        go_enter Try.func75, Try.ntmps75
        go_wp2_with fail
        go_ret
        exact ⟨rfl, ab1 _ _⟩
    · have da : ((a : Int) == 0) = false := by simp; omega
      rw [show pur k n [] a b = false by simp +contextual [pur, ha, k4, k5, k6]]
      go_enter Try.func75, Try.ntmps75
      go_wp2_with fail
      go_ret
      exact ⟨rfl, ab1 _ _⟩
  · have ds : ((bs s).toList == []) = false := by rw [toList_bs, beq_eq_false_iff_ne]; exact hs
    rw [show pur k n s a b = false by simp +contextual [pur, hs, k4, k5, k6]]
    go_enter Try.func75, Try.ntmps75
    go_wp2_with fail
    go_ret
    exact ⟨rfl, ab1 _ _⟩
end Go.Proofs.Ytlebppjldoodgaa
/-
  Which values a type accepts, and with which error others are not: one function on data. No conditions beyond those that each names.
-/
namespace Go.Proofs.Ytlebppjldoodgaa
/-- The first that isn't 0. -/
def fex (a b : Int) : Int := if a = 0 then b else a
/-- The fields of the struct that a type names. -/
def fds (S : Sch) (t : Ty) : List Fd := ((fst_ St.name S.structs t.name).getD st0).fields
/-- The numbers of entries ascend. -/
def ascF : List (Int × Vl) → Bool
  | [] => true
  | [_] => true
  | a :: b :: l => decide (a.1 < b.1) && ascF (b :: l)
/-- The entries are of fields, in their order, and none is missing that isn't optional. -/
def shp (d : List Fd) (f : List (Int × Vl)) : Bool := ascF f && (f.all (fun e => (fst_ Fd.num d e.1).isSome) && d.all (fun x => f.any (fun e => decide (e.1 = x.num)) || x.opt))
/-- A number is in the range of a type. -/
def rgd (S : Sch) (t : Ty) (n : Int) : Bool :=
  if t.kind = 1 then decide (n = 0 ∨ n = 1) else
  if t.kind = 2 then decide (-(2 ^ (t.size.toNat - 1)) ≤ n ∧ n < 2 ^ (t.size.toNat - 1)) else
  if t.kind = 3 then decide (0 ≤ n ∧ n < 2 ^ t.size.toNat) else
  if t.kind = 7 then ((fst_ En.name S.enums t.name).getD en0).nums.contains n else true
/-- A text or a list isn't too long. -/
def fits (t : Ty) (a b : Nat) : Bool := decide ((t.kind = 4 → (a : Int) ≤ t.size) ∧ (t.kind = 5 → (b : Int) ≤ t.size))
/-- The first error of a value, 0 where there is none. -/
def vck (S : Sch) (t : Ty) : Vl → Int
  | .mk k n s l f =>
    if (right S t && decide (k = t.kind) && pur k n s l.length f.length && (decide (k ≠ 6) || shp (fds S t) f)) = false then 13 else
    if rgd S t n = false then 4 else
    if fits t s.length l.length = false then 3 else
    fex (vckl (t.elem.headD (.mk 0 0 [] [])) l) (vckf (fds S t) f)
where
  vckl (u : Ty) : List Vl → Int
  | [] => 0
  | x :: xs => fex (vck S u x) (vckl u xs)
  vckf (d : List Fd) : List (Int × Vl) → Int
  | [] => 0
  | (m, x) :: xs => fex (vck S ((fst_ Fd.num d m).getD fd0).type x) (vckf d xs)
theorem fex_zero {a b : Int} (h : a = 0) : fex a b = b := by unfold fex; rw [if_pos h]
theorem fex_ne {a b : Int} (h : a ≠ 0) : fex a b = a := by unfold fex; rw [if_neg h]
theorem fex_assoc (a b c : Int) : fex (fex a b) c = fex a (fex b c) := by
  by_cases h : a = 0
  · rw [fex_zero h, fex_zero h]
  · rw [fex_ne h, fex_ne h, fex_ne h]
theorem vckl_append (S : Sch) (u : Ty) : ∀ l m : List Vl, vck.vckl S u (l ++ m) = fex (vck.vckl S u l) (vck.vckl S u m)
  | [], m => by rw [List.nil_append, vck.vckl, fex_zero rfl]
  | x :: xs, m => by rw [List.cons_append, vck.vckl, vck.vckl, vckl_append S u xs m, fex_assoc]
theorem vckf_append (S : Sch) (d : List Fd) : ∀ l m : List (Int × Vl), vck.vckf S d (l ++ m) = fex (vck.vckf S d l) (vck.vckf S d m)
  | [], m => by rw [List.nil_append, vck.vckf, fex_zero rfl]
  | (a, x) :: xs, m => by rw [List.cons_append, vck.vckf, vck.vckf, vckf_append S d xs m, fex_assoc]
/-- The first k values have no error: what the next one says. -/
theorem vckl_at {S : Sch} {u : Ty} {l : List Vl} {k : Nat} (h : k < l.length) (h0 : vck.vckl S u (l.take k) = 0) : vck.vckl S u (l.take (k + 1)) = vck S u (l[k]'h) := by
  rw [List.take_succ_eq_append_getElem h, vckl_append, fex_zero h0, vck.vckl, vck.vckl]
  unfold fex
  split <;> simp [*]
theorem vckl_stop {S : Sch} {u : Ty} {l : List Vl} {k : Nat} (h : k < l.length) (h0 : vck.vckl S u (l.take k) = 0) (h1 : vck S u (l[k]'h) ≠ 0) : vck.vckl S u l = vck S u (l[k]'h) := by
  have e := vckl_append S u (l.take (k + 1)) (l.drop (k + 1))
  rw [List.take_append_drop, vckl_at h h0, fex_ne h1] at e
  exact e
theorem vckf_at {S : Sch} {d : List Fd} {l : List (Int × Vl)} {k : Nat} (h : k < l.length) (h0 : vck.vckf S d (l.take k) = 0) : vck.vckf S d (l.take (k + 1)) = vck S ((fst_ Fd.num d (l[k]'h).1).getD fd0).type (l[k]'h).2 := by
  rw [List.take_succ_eq_append_getElem h, vckf_append, fex_zero h0]
  obtain ⟨m, x⟩ := l[k]'h
  rw [vck.vckf, vck.vckf]
  unfold fex
  split <;> simp [*]
theorem vckf_stop {S : Sch} {d : List Fd} {l : List (Int × Vl)} {k : Nat} (h : k < l.length) (h0 : vck.vckf S d (l.take k) = 0) (h1 : vck S ((fst_ Fd.num d (l[k]'h).1).getD fd0).type (l[k]'h).2 ≠ 0) : vck.vckf S d l = vck S ((fst_ Fd.num d (l[k]'h).1).getD fd0).type (l[k]'h).2 := by
  have e := vckf_append S d (l.take (k + 1)) (l.drop (k + 1))
  rw [List.take_append_drop, vckf_at h h0, fex_ne h1] at e
  exact e
end Go.Proofs.Ytlebppjldoodgaa
/-
  The reference's Struct, Enum and field of layer 9, and Permitted. No conditions beyond those that each names.
-/
namespace Go.Proofs.Ytlebppjldoodgaa
open Go.RowKit
set_option maxRecDepth 100000 in
set_option maxHeartbeats 1000000 in
theorem r9Struct_any (S : Sch) (nm : List UInt8) (v : Value) (w : World) (hv : ScV w S v) (hn : S.structs.length ≤ 1000) :
    Calls Try.prog 63 #[v, .string (bs nm)] w (StO (fst_ St.name S.structs nm) w) := by
  obtain ⟨A, c, A2, c2, rfl, hS⟩ := hv
  obtain ⟨n, hn2⟩ : ∃ n, S.structs.length = n := ⟨_, rfl⟩
  have HN := Lib.hid hn2
  rw [hn2] at hn ⊢
  clear hn2
  go_enter Try.func63, Try.ntmps63
  go_wp2_with fail
  go_loop [6] (fun i => ∃ k : Nat, k ≤ n ∧ i = .int .i64 (k : Int) ∧ Hid (∀ j (hj : j < S.structs.length), j < k → (S.structs[j]'hj).name ≠ nm)) (fun i => n - (intOf i).toNat)
  case atStart => exact ⟨0, by omega, rfl, Lib.hid fun j _ h => by omega⟩
  case round =>
    obtain ⟨k, hk, rfl, hI⟩ := hrel
    by_cases hlt : k < n
    · obtain ⟨a, rfl, hA⟩ := hS.st.get (i := k) (by rw [HN.out]; exact hlt)
      obtain ⟨A3, c3, h0, h1, hV⟩ := hA.val
      have hblk : (a.add (k * 2)).block < w.heap.size := blk_lt h0
      have hx : (S.structs[k]'(by rw [HN.out]; exact hlt)).name = nm → fst_ St.name S.structs nm = some (S.structs[k]'(by rw [HN.out]; exact hlt)) := fun e => fst_at (by rw [HN.out]; exact hlt) hI.out e
      have hy : (S.structs[k]'(by rw [HN.out]; exact hlt)).name ≠ nm → ∀ j (hj : j < S.structs.length), j < k + 1 → (S.structs[j]'hj).name ≠ nm := fun e j hj hjk => by
        by_cases hjk2 : j < k
        · exact hI.out j hj hjk2
        · obtain rfl : j = k := by omega
          exact e
      generalize S.structs[k]'(by rw [HN.out]; exact hlt) = t at *
      by_cases e : t.name = nm
      · have E := Lib.hid (hx e)
        clear hx hy hI hA
        subst e
        have q1 := sq_t t.name
        go_wp2_with fail
        exact bodyPost_ret (v := .tuple #[.agg #[.string (bs t.name), .slice A3 t.fields.length c3], .bool true]) (by simp [results, Try.results63, go_sem]) rfl (.some_ E.out (hV.next (ab2 _ _ _)) (ab2 _ _ _))
      · have E := Lib.hid (hy e)
        have q1 := sq_f e
        clear hx hy hI hA
        go_wp2_with fail
        go_round
        case rel => exact ⟨k + 1, by omega, by go_num, E⟩
        case measure => simp [intOf]; omega
    · obtain rfl : k = n := by omega
      have E := Lib.hid (show fst_ St.name S.structs nm = none from fst_end fun j hj => hI.out j hj (by rw [← HN.out]; exact hj))
      clear hI
      go_wp2_with fail
      exact bodyPost_ret (v := .tuple #[.agg #[.string ⟨#[]⟩, .slice none 0 0], .bool false]) (by simp [results, Try.results63, go_sem]) rfl (.none_ E.out (ab2 _ _ _))
set_option maxRecDepth 100000 in
set_option maxHeartbeats 1000000 in
theorem r9Enum_any (S : Sch) (nm : List UInt8) (v : Value) (w : World) (hv : ScV w S v) (hn : S.enums.length ≤ 1000) :
    Calls Try.prog 84 #[v, .string (bs nm)] w (EnO (fst_ En.name S.enums nm) w) := by
  obtain ⟨A, c, A2, c2, rfl, hS⟩ := hv
  obtain ⟨n, hn2⟩ : ∃ n, S.enums.length = n := ⟨_, rfl⟩
  have HN := Lib.hid hn2
  rw [hn2] at hn ⊢
  clear hn2
  go_enter Try.func84, Try.ntmps84
  go_wp2_with fail
  go_loop [6] (fun i => ∃ k : Nat, k ≤ n ∧ i = .int .i64 (k : Int) ∧ Hid (∀ j (hj : j < S.enums.length), j < k → (S.enums[j]'hj).name ≠ nm)) (fun i => n - (intOf i).toNat)
  case atStart => exact ⟨0, by omega, rfl, Lib.hid fun j _ h => by omega⟩
  case round =>
    obtain ⟨k, hk, rfl, hI⟩ := hrel
    by_cases hlt : k < n
    · obtain ⟨a, rfl, hA⟩ := hS.en.get (i := k) (by rw [HN.out]; exact hlt)
      obtain ⟨A3, c3, A4, c4, h0, h1, h2, hV⟩ := hA.val
      have hblk : (a.add (k * 3)).block < w.heap.size := blk_lt h0
      have hx : (S.enums[k]'(by rw [HN.out]; exact hlt)).name = nm → fst_ En.name S.enums nm = some (S.enums[k]'(by rw [HN.out]; exact hlt)) := fun e => fst_at (by rw [HN.out]; exact hlt) hI.out e
      have hy : (S.enums[k]'(by rw [HN.out]; exact hlt)).name ≠ nm → ∀ j (hj : j < S.enums.length), j < k + 1 → (S.enums[j]'hj).name ≠ nm := fun e j hj hjk => by
        by_cases hjk2 : j < k
        · exact hI.out j hj hjk2
        · obtain rfl : j = k := by omega
          exact e
      generalize S.enums[k]'(by rw [HN.out]; exact hlt) = t at *
      by_cases e : t.name = nm
      · have E := Lib.hid (hx e)
        clear hx hy hI hA
        subst e
        have q1 := sq_t t.name
        go_wp2_with fail
        exact bodyPost_ret (v := .tuple #[.agg #[.string (bs t.name), .slice A3 t.names.length c3, .slice A4 t.nums.length c4], .bool true]) (by simp [results, Try.results84, go_sem]) rfl (.some_ E.out (hV.next (ab2 _ _ _)) (ab2 _ _ _))
      · have E := Lib.hid (hy e)
        have q1 := sq_f e
        clear hx hy hI hA
        go_wp2_with fail
        go_round
        case rel => exact ⟨k + 1, by omega, by go_num, E⟩
        case measure => simp [intOf]; omega
    · obtain rfl : k = n := by omega
      have E := Lib.hid (show fst_ En.name S.enums nm = none from fst_end fun j hj => hI.out j hj (by rw [← HN.out]; exact hj))
      clear hI
      go_wp2_with fail
      exact bodyPost_ret (v := .tuple #[.agg #[.string ⟨#[]⟩, .slice none 0 0, .slice none 0 0], .bool false]) (by simp [results, Try.results84, go_sem]) rfl (.none_ E.out (ab2 _ _ _))
set_option maxRecDepth 100000 in
set_option maxHeartbeats 1000000 in
theorem r9field_any (t : St) (nb : Int) (v : Value) (w : World) (hv : StV w t v) (hn : t.fields.length ≤ 1000) :
    Calls Try.prog 64 #[v, .int .i64 nb] w (FdO (fst_ Fd.num t.fields nb) w) := by
  obtain ⟨A, c, rfl, hS⟩ := hv
  obtain ⟨n, hn2⟩ : ∃ n, t.fields.length = n := ⟨_, rfl⟩
  have HN := Lib.hid hn2
  rw [hn2] at hn ⊢
  clear hn2
  go_enter Try.func64, Try.ntmps64
  go_wp2_with fail
  go_loop [6] (fun i => ∃ k : Nat, k ≤ n ∧ i = .int .i64 (k : Int) ∧ Hid (∀ j (hj : j < t.fields.length), j < k → (t.fields[j]'hj).num ≠ nb)) (fun i => n - (intOf i).toNat)
  case atStart => exact ⟨0, by omega, rfl, Lib.hid fun j _ h => by omega⟩
  case round =>
    obtain ⟨k, hk, rfl, hI⟩ := hrel
    by_cases hlt : k < n
    · obtain ⟨a, rfl, hA⟩ := hS.get (i := k) (by rw [HN.out]; exact hlt)
      obtain ⟨A3, c3, h0, h1, h2, h3, h4, h5, h6, hV, -⟩ := hA.val
      have hblk : (a.add (k * 7)).block < w.heap.size := blk_lt h0
      have hx : (t.fields[k]'(by rw [HN.out]; exact hlt)).num = nb → fst_ Fd.num t.fields nb = some (t.fields[k]'(by rw [HN.out]; exact hlt)) := fun e => fst_at (by rw [HN.out]; exact hlt) hI.out e
      have hy : (t.fields[k]'(by rw [HN.out]; exact hlt)).num ≠ nb → ∀ j (hj : j < t.fields.length), j < k + 1 → (t.fields[j]'hj).num ≠ nb := fun e j hj hjk => by
        by_cases hjk2 : j < k
        · exact hI.out j hj hjk2
        · obtain rfl : j = k := by omega
          exact e
      generalize t.fields[k]'(by rw [HN.out]; exact hlt) = f at *
      by_cases e : f.num = nb
      · have E := Lib.hid (hx e)
        clear hx hy hI hA
        subst e
        go_wp2_with fail
        exact bodyPost_ret (v := .tuple #[.agg #[.int .i64 f.num, .string (bs f.name), .int .i64 f.type.kind, .int .i64 f.type.size, .string (bs f.type.name), .slice A3 f.type.elem.length c3, .bool f.opt], .bool true]) (by simp [results, Try.results64, go_sem]) rfl (.some_ E.out (hV.next (ab2 _ _ _)) (ab2 _ _ _))
      · have E := Lib.hid (hy e)
        have q1 : (f.num == nb) = false := by simpa using e
        clear hx hy hI hA
        go_wp2_with fail
        go_round
        case rel => exact ⟨k + 1, by omega, by go_num, E⟩
        case measure => simp [intOf]; omega
    · obtain rfl : k = n := by omega
      have E := Lib.hid (show fst_ Fd.num t.fields nb = none from fst_end fun j hj => hI.out j hj (by rw [← HN.out]; exact hj))
      clear hI
      go_wp2_with fail
      exact bodyPost_ret (v := .tuple #[.agg #[.int .i64 0, .string ⟨#[]⟩, .int .i64 0, .int .i64 0, .string ⟨#[]⟩, .slice none 0 0, .bool false], .bool false]) (by simp [results, Try.results64, go_sem]) rfl (.none_ E.out (ab2 _ _ _))
set_option maxRecDepth 100000 in
set_option maxHeartbeats 4000000 in
theorem permitted_any (S : Sch) (t : Ty) (v u : Value) (w : World) (hs : S.structs.length ≤ 1000) (he : S.enums.length ≤ 1000) (hl : lok t) (hS : ScV w S v) (hT : TyV w t u) :
    Calls Try.prog 82 #[v, u] w (Ib (.bool (right S t)) w) := by
  have cR := fun W h => refRight_any _ S t v u W (Nat.lt_succ_self _) hs he hl (ScV.next h hS) (TyV.next h hT)
  obtain ⟨A, c, A2, c2, rfl, -⟩ := hS
  obtain ⟨A3, c3, rfl, -⟩ := hT
  generalize right S t = r at *
  go_enter Try.func82, Try.ntmps82
  go_wp2_with fail
  refine (cR _ (ab2 _ _ _)).mono ?_
  rintro e w2 ⟨rfl, hb⟩
  go_wp2_with fail
  go_ret
  exact ⟨rfl, Below.next (ab2 _ _ _) hb⟩
end Go.Proofs.Ytlebppjldoodgaa
/-
  The reference's typed. No conditions beyond those that each names.
-/
namespace Go.Proofs.Ytlebppjldoodgaa
open Go.RowKit
set_option maxRecDepth 100000 in
set_option maxHeartbeats 8000000 in
theorem typed_any (S : Sch) (A A2 : Option Addr) (c c2 : Nat) (k z : Int) (nm : List UInt8) (G : Option Addr) (g1 g2 : Nat) (q n : Int) (s : List UInt8) (A3 : Option Addr) (a a2 : Nat) (B : Option Addr) (b b2 : Nat) (p h : Bool) (w : World) (hS : Sc w S A A2) (hsl : S.structs.length ≤ 1000)
    (cP : ∀ W, Below w.heap.size w W → Calls Try.prog 82 #[.agg #[.int .i64 S.ver, .slice A S.enums.length c, .slice A2 S.structs.length c2], .agg #[.int .i64 k, .int .i64 z, .string (bs nm), .slice G g1 g2]] W (Ib (.bool p) W))
    (cH : q = 6 → ∀ W v, Below w.heap.size w W → StV W ((fst_ St.name S.structs nm).getD st0) v → Calls Try.prog 83 #[v, .agg #[.int .i64 q, .int .i64 n, .string (bs s), .slice A3 a a2, .slice B b b2]] W (Ib (.bool h) W)) :
    Calls Try.prog 61 #[.agg #[.int .i64 S.ver, .slice A S.enums.length c, .slice A2 S.structs.length c2], .agg #[.int .i64 k, .int .i64 z, .string (bs nm), .slice G g1 g2], .agg #[.int .i64 q, .int .i64 n, .string (bs s), .slice A3 a a2, .slice B b b2]] w (Ib (.bool (p && decide (q = k) && pur q n s a b && (decide (q ≠ 6) || h))) w) := by
  have cF := fun W h => r9Struct_any S nm (.agg #[.int .i64 S.ver, .slice A S.enums.length c, .slice A2 S.structs.length c2]) W ⟨A, c, A2, c2, rfl, hS.next h⟩ hsl
  have hab := ab3 w (Obj.cells #[.int .i64 S.ver, .slice A S.enums.length c, .slice A2 S.structs.length c2] 33) (Obj.cells #[.int .i64 k, .int .i64 z, .string (bs nm), .slice G g1 g2] 37) (Obj.cells #[.int .i64 q, .int .i64 n, .string (bs s), .slice A3 a a2, .slice B b b2] 25)
  have D0 := (Bx.new3 w 33 (.int .i64 S.ver) (.slice A S.enums.length c) (.slice A2 S.structs.length c2)).next (ab2 _ (Obj.cells #[.int .i64 k, .int .i64 z, .string (bs nm), .slice G g1 g2] 37) (Obj.cells #[.int .i64 q, .int .i64 n, .string (bs s), .slice A3 a a2, .slice B b b2] 25))
  have D1 := (Bx.new4 (w.alloc (Obj.cells #[.int .i64 S.ver, .slice A S.enums.length c, .slice A2 S.structs.length c2] 33)) 37 (.int .i64 k) (.int .i64 z) (.string (bs nm)) (.slice G g1 g2)).next (ab1 _ (Obj.cells #[.int .i64 q, .int .i64 n, .string (bs s), .slice A3 a a2, .slice B b b2] 25))
  have D2 := Bx.new5 ((w.alloc (Obj.cells #[.int .i64 S.ver, .slice A S.enums.length c, .slice A2 S.structs.length c2] 33)).alloc (Obj.cells #[.int .i64 k, .int .i64 z, .string (bs nm), .slice G g1 g2] 37)) 25 (.int .i64 q) (.int .i64 n) (.string (bs s)) (.slice A3 a a2) (.slice B b b2)
  rw [show (w.alloc (Obj.cells #[.int .i64 S.ver, .slice A S.enums.length c, .slice A2 S.structs.length c2] 33)).heap.size = w.heap.size + 1 by simp] at D1
  rw [show ((w.alloc (Obj.cells #[.int .i64 S.ver, .slice A S.enums.length c, .slice A2 S.structs.length c2] 33)).alloc (Obj.cells #[.int .i64 k, .int .i64 z, .string (bs nm), .slice G g1 g2] 37)).heap.size = w.heap.size + 1 + 1 by simp] at D2
  clear hS hsl
  generalize fst_ St.name S.structs nm = o at *
  generalize S.structs.length = sl at *
  generalize S.enums.length = el at *
  cases p with
  | false =>
    rw [Bool.false_and, Bool.false_and, Bool.false_and]
    clear cH cF
    go_enter Try.func61, Try.ntmps61
    go_wp2_with fail
    refine (cP _ hab).mono ?_
    rintro e w2 ⟨rfl, hb2⟩
    replace D0 := D0.next hb2
    replace D1 := D1.next hb2
    replace D2 := D2.next hb2
    replace hab := Below.next hab hb2
    have y0 := D0.c 0 rfl
    have y1 := D0.c 1 rfl
    have y2 := D0.c 2 rfl
    have c0 := D1.c 0 rfl
    have c1 := D1.c 1 rfl
    have c2 := D1.c 2 rfl
    have c3 := D1.c 3 rfl
    have x0 := D2.c 0 rfl
    have x1 := D2.c 1 rfl
    have x2 := D2.c 2 rfl
    have x3 := D2.c 3 rfl
    have x4 := D2.c 4 rfl
    go_wp2_with fail
    go_ret
    exact ⟨rfl, hab⟩
  | true =>
    rcases Decidable.em (q = k) with hq | hq
    rotate_left
    · have dq : (q != k) = true := by simpa using hq
      rw [show (true && decide (q = k) && pur q n s a b && (decide (q ≠ 6) || h)) = false by simp [hq]]
      clear cH cF hq
      go_enter Try.func61, Try.ntmps61
      go_wp2_with fail
      refine (cP _ hab).mono ?_
      rintro e w2 ⟨rfl, hb2⟩
      replace D0 := D0.next hb2
      replace D1 := D1.next hb2
      replace D2 := D2.next hb2
      replace hab := Below.next hab hb2
      have y0 := D0.c 0 rfl
      have y1 := D0.c 1 rfl
      have y2 := D0.c 2 rfl
      have c0 := D1.c 0 rfl
      have c1 := D1.c 1 rfl
      have c2 := D1.c 2 rfl
      have c3 := D1.c 3 rfl
      have x0 := D2.c 0 rfl
      have x1 := D2.c 1 rfl
      have x2 := D2.c 2 rfl
      have x3 := D2.c 3 rfl
      have x4 := D2.c 4 rfl
      go_wp2_with fail
      go_ret
      exact ⟨rfl, hab⟩
    subst hq
    by_cases k4 : q = 4
    · subst k4
      by_cases ha : a = 0
      · have da : decide (0 < a) = false := decide_eq_false (by omega)
        by_cases hb : b = 0
        · have db : decide (0 < b) = false := decide_eq_false (by omega)
          by_cases hn : n = 0
          · have dn : (n != 0) = false := by simpa using hn
            rw [show (true && decide ((4 : Int) = 4) && pur 4 n s a b && (decide ((4 : Int) ≠ 6) || h)) = true by simp [pur, ha, hb, hn]]
            clear ha hb hn
            clear cH cF
            go_enter Try.func61, Try.ntmps61
            go_wp2_with fail
            refine (cP _ hab).mono ?_
            rintro e w2 ⟨rfl, hb2⟩
            replace D0 := D0.next hb2
            replace D1 := D1.next hb2
            replace D2 := D2.next hb2
            replace hab := Below.next hab hb2
            have y0 := D0.c 0 rfl
            have y1 := D0.c 1 rfl
            have y2 := D0.c 2 rfl
            have c0 := D1.c 0 rfl
            have c1 := D1.c 1 rfl
            have c2 := D1.c 2 rfl
            have c3 := D1.c 3 rfl
            have x0 := D2.c 0 rfl
            have x1 := D2.c 1 rfl
            have x2 := D2.c 2 rfl
            have x3 := D2.c 3 rfl
            have x4 := D2.c 4 rfl
            go_wp2_with fail
            go_ret
            exact ⟨rfl, hab⟩
          · have dn : (n != 0) = true := by simpa using hn
            rw [show (true && decide ((4 : Int) = 4) && pur 4 n s a b && (decide ((4 : Int) ≠ 6) || h)) = false by simp [pur, ha, hb, hn]]
            clear ha hb hn
            clear cH cF
            go_enter Try.func61, Try.ntmps61
            go_wp2_with fail
            refine (cP _ hab).mono ?_
            rintro e w2 ⟨rfl, hb2⟩
            replace D0 := D0.next hb2
            replace D1 := D1.next hb2
            replace D2 := D2.next hb2
            replace hab := Below.next hab hb2
            have y0 := D0.c 0 rfl
            have y1 := D0.c 1 rfl
            have y2 := D0.c 2 rfl
            have c0 := D1.c 0 rfl
            have c1 := D1.c 1 rfl
            have c2 := D1.c 2 rfl
            have c3 := D1.c 3 rfl
            have x0 := D2.c 0 rfl
            have x1 := D2.c 1 rfl
            have x2 := D2.c 2 rfl
            have x3 := D2.c 3 rfl
            have x4 := D2.c 4 rfl
            go_wp2_with fail
            go_ret
            exact ⟨rfl, hab⟩
        · have db : decide (0 < b) = true := decide_eq_true (by omega)
          rw [show (true && decide ((4 : Int) = 4) && pur 4 n s a b && (decide ((4 : Int) ≠ 6) || h)) = false by simp [pur, ha, hb]]
          clear ha hb
          clear cH cF
          go_enter Try.func61, Try.ntmps61
          go_wp2_with fail
          refine (cP _ hab).mono ?_
          rintro e w2 ⟨rfl, hb2⟩
          replace D0 := D0.next hb2
          replace D1 := D1.next hb2
          replace D2 := D2.next hb2
          replace hab := Below.next hab hb2
          have y0 := D0.c 0 rfl
          have y1 := D0.c 1 rfl
          have y2 := D0.c 2 rfl
          have c0 := D1.c 0 rfl
          have c1 := D1.c 1 rfl
          have c2 := D1.c 2 rfl
          have c3 := D1.c 3 rfl
          have x0 := D2.c 0 rfl
          have x1 := D2.c 1 rfl
          have x2 := D2.c 2 rfl
          have x3 := D2.c 3 rfl
          have x4 := D2.c 4 rfl
          go_wp2_with fail
          go_ret
          exact ⟨rfl, hab⟩
      · have da : decide (0 < a) = true := decide_eq_true (by omega)
        rw [show (true && decide ((4 : Int) = 4) && pur 4 n s a b && (decide ((4 : Int) ≠ 6) || h)) = false by simp [pur, ha]]
        clear ha
        clear cH cF
        go_enter Try.func61, Try.ntmps61
        go_wp2_with fail
        refine (cP _ hab).mono ?_
        rintro e w2 ⟨rfl, hb2⟩
        replace D0 := D0.next hb2
        replace D1 := D1.next hb2
        replace D2 := D2.next hb2
        replace hab := Below.next hab hb2
        have y0 := D0.c 0 rfl
        have y1 := D0.c 1 rfl
        have y2 := D0.c 2 rfl
        have c0 := D1.c 0 rfl
        have c1 := D1.c 1 rfl
        have c2 := D1.c 2 rfl
        have c3 := D1.c 3 rfl
        have x0 := D2.c 0 rfl
        have x1 := D2.c 1 rfl
        have x2 := D2.c 2 rfl
        have x3 := D2.c 3 rfl
        have x4 := D2.c 4 rfl
        go_wp2_with fail
        go_ret
        exact ⟨rfl, hab⟩
    have m4 : (q != 4) = true := by simpa using k4
    have e4 : (q == 4) = false := by simpa using k4
    by_cases k5 : q = 5
    · subst k5
      by_cases hs : s = []
      · subst hs
        have q0 : (bs ([] : List UInt8)).toList = [] := toList_bs []
        have ds : ((bs ([] : List UInt8)).toList != []) = false := by rw [toList_bs]; rfl
        by_cases hb : b = 0
        · have db : decide (0 < b) = false := decide_eq_false (by omega)
          by_cases hn : n = 0
          · have dn : (n != 0) = false := by simpa using hn
            rw [show (true && decide ((5 : Int) = 5) && pur 5 n [] a b && (decide ((5 : Int) ≠ 6) || h)) = true by simp [pur, hb, hn]]
            clear hb hn
            clear cH cF
            go_enter Try.func61, Try.ntmps61
            go_wp2_with fail
            refine (cP _ hab).mono ?_
            rintro e w2 ⟨rfl, hb2⟩
            replace D0 := D0.next hb2
            replace D1 := D1.next hb2
            replace D2 := D2.next hb2
            replace hab := Below.next hab hb2
            have y0 := D0.c 0 rfl
            have y1 := D0.c 1 rfl
            have y2 := D0.c 2 rfl
            have c0 := D1.c 0 rfl
            have c1 := D1.c 1 rfl
            have c2 := D1.c 2 rfl
            have c3 := D1.c 3 rfl
            have x0 := D2.c 0 rfl
            have x1 := D2.c 1 rfl
            have x2 := D2.c 2 rfl
            have x3 := D2.c 3 rfl
            have x4 := D2.c 4 rfl
            go_wp2_with fail
            go_ret
            exact ⟨rfl, hab⟩
          · have dn : (n != 0) = true := by simpa using hn
            rw [show (true && decide ((5 : Int) = 5) && pur 5 n [] a b && (decide ((5 : Int) ≠ 6) || h)) = false by simp [pur, hb, hn]]
            clear hb hn
            clear cH cF
            go_enter Try.func61, Try.ntmps61
            go_wp2_with fail
            refine (cP _ hab).mono ?_
            rintro e w2 ⟨rfl, hb2⟩
            replace D0 := D0.next hb2
            replace D1 := D1.next hb2
            replace D2 := D2.next hb2
            replace hab := Below.next hab hb2
            have y0 := D0.c 0 rfl
            have y1 := D0.c 1 rfl
            have y2 := D0.c 2 rfl
            have c0 := D1.c 0 rfl
            have c1 := D1.c 1 rfl
            have c2 := D1.c 2 rfl
            have c3 := D1.c 3 rfl
            have x0 := D2.c 0 rfl
            have x1 := D2.c 1 rfl
            have x2 := D2.c 2 rfl
            have x3 := D2.c 3 rfl
            have x4 := D2.c 4 rfl
            go_wp2_with fail
            go_ret
            exact ⟨rfl, hab⟩
        · have db : decide (0 < b) = true := decide_eq_true (by omega)
          rw [show (true && decide ((5 : Int) = 5) && pur 5 n [] a b && (decide ((5 : Int) ≠ 6) || h)) = false by simp [pur, hb]]
          clear hb
          clear cH cF
          go_enter Try.func61, Try.ntmps61
          go_wp2_with fail
          refine (cP _ hab).mono ?_
          rintro e w2 ⟨rfl, hb2⟩
          replace D0 := D0.next hb2
          replace D1 := D1.next hb2
          replace D2 := D2.next hb2
          replace hab := Below.next hab hb2
          have y0 := D0.c 0 rfl
          have y1 := D0.c 1 rfl
          have y2 := D0.c 2 rfl
          have c0 := D1.c 0 rfl
          have c1 := D1.c 1 rfl
          have c2 := D1.c 2 rfl
          have c3 := D1.c 3 rfl
          have x0 := D2.c 0 rfl
          have x1 := D2.c 1 rfl
          have x2 := D2.c 2 rfl
          have x3 := D2.c 3 rfl
          have x4 := D2.c 4 rfl
          go_wp2_with fail
          go_ret
          exact ⟨rfl, hab⟩
      · have ds : ((bs s).toList != []) = true := by rw [toList_bs]; simpa using hs
        have ds2 : ((bs s).toList == []) = false := by rw [toList_bs]; simpa using hs
        have ds3 : ¬ (bs s).toList = [] := by rw [toList_bs]; exact hs
        rw [show (true && decide ((5 : Int) = 5) && pur 5 n s a b && (decide ((5 : Int) ≠ 6) || h)) = false by simp [pur, hs]]
        clear hs
        clear cH cF
        go_enter Try.func61, Try.ntmps61
        go_wp2_with fail
        refine (cP _ hab).mono ?_
        rintro e w2 ⟨rfl, hb2⟩
        replace D0 := D0.next hb2
        replace D1 := D1.next hb2
        replace D2 := D2.next hb2
        replace hab := Below.next hab hb2
        have y0 := D0.c 0 rfl
        have y1 := D0.c 1 rfl
        have y2 := D0.c 2 rfl
        have c0 := D1.c 0 rfl
        have c1 := D1.c 1 rfl
        have c2 := D1.c 2 rfl
        have c3 := D1.c 3 rfl
        have x0 := D2.c 0 rfl
        have x1 := D2.c 1 rfl
        have x2 := D2.c 2 rfl
        have x3 := D2.c 3 rfl
        have x4 := D2.c 4 rfl
        go_wp2_with fail
        go_ret
        exact ⟨rfl, hab⟩
    have m5 : (q != 5) = true := by simpa using k5
    have e5 : (q == 5) = false := by simpa using k5
    by_cases k6 : q = 6
    · subst k6
      by_cases hs : s = []
      · subst hs
        have q0 : (bs ([] : List UInt8)).toList = [] := toList_bs []
        have ds : ((bs ([] : List UInt8)).toList != []) = false := by rw [toList_bs]; rfl
        by_cases ha : a = 0
        · have da : decide (0 < a) = false := decide_eq_false (by omega)
          by_cases hn : n = 0
          · have dn : (n != 0) = false := by simpa using hn
            rw [show (true && decide ((6 : Int) = 6) && pur 6 n [] a b && (decide ((6 : Int) ≠ 6) || h)) = h by simp [pur, ha, hn]]
            clear ha hn
            replace cH := cH rfl
            go_enter Try.func61, Try.ntmps61
            go_wp2_with fail
            refine (cP _ hab).mono ?_
            rintro e w2 ⟨rfl, hb2⟩
            replace D0 := D0.next hb2
            replace D1 := D1.next hb2
            replace D2 := D2.next hb2
            replace hab := Below.next hab hb2
            have y0 := D0.c 0 rfl
            have y1 := D0.c 1 rfl
            have y2 := D0.c 2 rfl
            have c0 := D1.c 0 rfl
            have c1 := D1.c 1 rfl
            have c2 := D1.c 2 rfl
            have c3 := D1.c 3 rfl
            have x0 := D2.c 0 rfl
            have x1 := D2.c 1 rfl
            have x2 := D2.c 2 rfl
            have x3 := D2.c 3 rfl
            have x4 := D2.c 4 rfl
            go_wp2_with fail
            refine (cF _ hab).mono ?_
            rintro e3 w3 ⟨v3, rfl, hV, hb3⟩
            have hV9 := hV.next (ab1 w3 (Obj.cells #[] 0))
            replace cH := fun W (hw : Below w3.heap.size w3 W) => cH W v3 (Below.next (Below.next hab hb3) hw) (hV.next hw)
            obtain ⟨A4, c4, rfl, -⟩ := hV
            clear hV9
            replace D2 := D2.next hb3
            replace hab := Below.next hab hb3
            clear y0 y1 y2 c0 c1 c2 c3 x0 x1 x2 x3 x4
            have l2 := D2.lt
            have x0 := D2.c 0 rfl
            have x1 := D2.c 1 rfl
            have x2 := D2.c 2 rfl
            have x3 := D2.c 3 rfl
            have x4 := D2.c 4 rfl
            generalize (o.getD st0).fields.length = fl at *
            generalize (o.getD st0).name = sn at *
            go_wp2_with fail
            refine (cH _ (ab1 _ _)).mono ?_
            rintro e4 w4 ⟨rfl, hb4⟩
            go_wp2_with fail
            go_ret
            exact ⟨rfl, Below.next (Below.next hab (ab1 _ _)) hb4⟩
          · have dn : (n != 0) = true := by simpa using hn
            rw [show (true && decide ((6 : Int) = 6) && pur 6 n [] a b && (decide ((6 : Int) ≠ 6) || h)) = false by simp [pur, ha, hn]]
            clear ha hn
            clear cH cF
            go_enter Try.func61, Try.ntmps61
            go_wp2_with fail
            refine (cP _ hab).mono ?_
            rintro e w2 ⟨rfl, hb2⟩
            replace D0 := D0.next hb2
            replace D1 := D1.next hb2
            replace D2 := D2.next hb2
            replace hab := Below.next hab hb2
            have y0 := D0.c 0 rfl
            have y1 := D0.c 1 rfl
            have y2 := D0.c 2 rfl
            have c0 := D1.c 0 rfl
            have c1 := D1.c 1 rfl
            have c2 := D1.c 2 rfl
            have c3 := D1.c 3 rfl
            have x0 := D2.c 0 rfl
            have x1 := D2.c 1 rfl
            have x2 := D2.c 2 rfl
            have x3 := D2.c 3 rfl
            have x4 := D2.c 4 rfl
            go_wp2_with fail
            go_ret
            exact ⟨rfl, hab⟩
        · have da : decide (0 < a) = true := decide_eq_true (by omega)
          rw [show (true && decide ((6 : Int) = 6) && pur 6 n [] a b && (decide ((6 : Int) ≠ 6) || h)) = false by simp [pur, ha]]
          clear ha
          clear cH cF
          go_enter Try.func61, Try.ntmps61
          go_wp2_with fail
          refine (cP _ hab).mono ?_
          rintro e w2 ⟨rfl, hb2⟩
          replace D0 := D0.next hb2
          replace D1 := D1.next hb2
          replace D2 := D2.next hb2
          replace hab := Below.next hab hb2
          have y0 := D0.c 0 rfl
          have y1 := D0.c 1 rfl
          have y2 := D0.c 2 rfl
          have c0 := D1.c 0 rfl
          have c1 := D1.c 1 rfl
          have c2 := D1.c 2 rfl
          have c3 := D1.c 3 rfl
          have x0 := D2.c 0 rfl
          have x1 := D2.c 1 rfl
          have x2 := D2.c 2 rfl
          have x3 := D2.c 3 rfl
          have x4 := D2.c 4 rfl
          go_wp2_with fail
          go_ret
          exact ⟨rfl, hab⟩
      · have ds : ((bs s).toList != []) = true := by rw [toList_bs]; simpa using hs
        have ds2 : ((bs s).toList == []) = false := by rw [toList_bs]; simpa using hs
        have ds3 : ¬ (bs s).toList = [] := by rw [toList_bs]; exact hs
        rw [show (true && decide ((6 : Int) = 6) && pur 6 n s a b && (decide ((6 : Int) ≠ 6) || h)) = false by simp [pur, hs]]
        clear hs
        clear cH cF
        go_enter Try.func61, Try.ntmps61
        go_wp2_with fail
        refine (cP _ hab).mono ?_
        rintro e w2 ⟨rfl, hb2⟩
        replace D0 := D0.next hb2
        replace D1 := D1.next hb2
        replace D2 := D2.next hb2
        replace hab := Below.next hab hb2
        have y0 := D0.c 0 rfl
        have y1 := D0.c 1 rfl
        have y2 := D0.c 2 rfl
        have c0 := D1.c 0 rfl
        have c1 := D1.c 1 rfl
        have c2 := D1.c 2 rfl
        have c3 := D1.c 3 rfl
        have x0 := D2.c 0 rfl
        have x1 := D2.c 1 rfl
        have x2 := D2.c 2 rfl
        have x3 := D2.c 3 rfl
        have x4 := D2.c 4 rfl
        go_wp2_with fail
        go_ret
        exact ⟨rfl, hab⟩
    have m6 : (q != 6) = true := by simpa using k6
    have e6 : (q == 6) = false := by simpa using k6
    have dq : (q != q) = false := by simp
    by_cases hs : s = []
    · subst hs
      have q0 : (bs ([] : List UInt8)).toList = [] := toList_bs []
      have ds : ((bs ([] : List UInt8)).toList != []) = false := by rw [toList_bs]; rfl
      by_cases ha : a = 0
      · have da : decide (0 < a) = false := decide_eq_false (by omega)
        by_cases hb : b = 0
        · have db : decide (0 < b) = false := decide_eq_false (by omega)
          rw [show (true && decide ((q : Int) = q) && pur q n [] a b && (decide ((q : Int) ≠ 6) || h)) = true by simp [pur, ha, hb, k4, k5, k6]]
          clear ha hb
          clear cH cF
          go_enter Try.func61, Try.ntmps61
          go_wp2_with fail
          refine (cP _ hab).mono ?_
          rintro e w2 ⟨rfl, hb2⟩
          replace D0 := D0.next hb2
          replace D1 := D1.next hb2
          replace D2 := D2.next hb2
          replace hab := Below.next hab hb2
          have y0 := D0.c 0 rfl
          have y1 := D0.c 1 rfl
          have y2 := D0.c 2 rfl
          have c0 := D1.c 0 rfl
          have c1 := D1.c 1 rfl
          have c2 := D1.c 2 rfl
          have c3 := D1.c 3 rfl
          have x0 := D2.c 0 rfl
          have x1 := D2.c 1 rfl
          have x2 := D2.c 2 rfl
          have x3 := D2.c 3 rfl
          have x4 := D2.c 4 rfl
          go_wp2_with fail
          go_ret
          exact ⟨rfl, hab⟩
        · have db : decide (0 < b) = true := decide_eq_true (by omega)
          rw [show (true && decide ((q : Int) = q) && pur q n [] a b && (decide ((q : Int) ≠ 6) || h)) = false by simp [pur, ha, hb, k4, k5, k6]]
          clear ha hb
          clear cH cF
          go_enter Try.func61, Try.ntmps61
          go_wp2_with fail
          refine (cP _ hab).mono ?_
          rintro e w2 ⟨rfl, hb2⟩
          replace D0 := D0.next hb2
          replace D1 := D1.next hb2
          replace D2 := D2.next hb2
          replace hab := Below.next hab hb2
          have y0 := D0.c 0 rfl
          have y1 := D0.c 1 rfl
          have y2 := D0.c 2 rfl
          have c0 := D1.c 0 rfl
          have c1 := D1.c 1 rfl
          have c2 := D1.c 2 rfl
          have c3 := D1.c 3 rfl
          have x0 := D2.c 0 rfl
          have x1 := D2.c 1 rfl
          have x2 := D2.c 2 rfl
          have x3 := D2.c 3 rfl
          have x4 := D2.c 4 rfl
          go_wp2_with fail
          go_ret
          exact ⟨rfl, hab⟩
      · have da : decide (0 < a) = true := decide_eq_true (by omega)
        rw [show (true && decide ((q : Int) = q) && pur q n [] a b && (decide ((q : Int) ≠ 6) || h)) = false by simp [pur, ha, k4, k5, k6]]
        clear ha
        clear cH cF
        go_enter Try.func61, Try.ntmps61
        go_wp2_with fail
        refine (cP _ hab).mono ?_
        rintro e w2 ⟨rfl, hb2⟩
        replace D0 := D0.next hb2
        replace D1 := D1.next hb2
        replace D2 := D2.next hb2
        replace hab := Below.next hab hb2
        have y0 := D0.c 0 rfl
        have y1 := D0.c 1 rfl
        have y2 := D0.c 2 rfl
        have c0 := D1.c 0 rfl
        have c1 := D1.c 1 rfl
        have c2 := D1.c 2 rfl
        have c3 := D1.c 3 rfl
        have x0 := D2.c 0 rfl
        have x1 := D2.c 1 rfl
        have x2 := D2.c 2 rfl
        have x3 := D2.c 3 rfl
        have x4 := D2.c 4 rfl
        go_wp2_with fail
        go_ret
        exact ⟨rfl, hab⟩
    · have ds : ((bs s).toList != []) = true := by rw [toList_bs]; simpa using hs
      have ds2 : ((bs s).toList == []) = false := by rw [toList_bs]; simpa using hs
      have ds3 : ¬ (bs s).toList = [] := by rw [toList_bs]; exact hs
      rw [show (true && decide ((q : Int) = q) && pur q n s a b && (decide ((q : Int) ≠ 6) || h)) = false by simp [pur, hs, k4, k5, k6]]
      clear hs
      clear cH cF
      go_enter Try.func61, Try.ntmps61
      go_wp2_with fail
      refine (cP _ hab).mono ?_
      rintro e w2 ⟨rfl, hb2⟩
      replace D0 := D0.next hb2
      replace D1 := D1.next hb2
      replace D2 := D2.next hb2
      replace hab := Below.next hab hb2
      have y0 := D0.c 0 rfl
      have y1 := D0.c 1 rfl
      have y2 := D0.c 2 rfl
      have c0 := D1.c 0 rfl
      have c1 := D1.c 1 rfl
      have c2 := D1.c 2 rfl
      have c3 := D1.c 3 rfl
      have x0 := D2.c 0 rfl
      have x1 := D2.c 1 rfl
      have x2 := D2.c 2 rfl
      have x3 := D2.c 3 rfl
      have x4 := D2.c 4 rfl
      go_wp2_with fail
      go_ret
      exact ⟨rfl, hab⟩
end Go.Proofs.Ytlebppjldoodgaa
/-
  The reference's ranged. No conditions beyond those that each names.
-/
namespace Go.Proofs.Ytlebppjldoodgaa
open Go.RowKit
theorem pow_c {k : Nat} (h : k ≤ 61) : (1 : Int) ≤ 2 ^ k ∧ (2 : Int) ^ k ≤ 4611686018427387903 := by
  have h1 : (2 : Nat) ^ k ≤ 2 ^ 61 := Nat.pow_le_pow_right (by decide) h
  have h2 : 0 < (2 : Nat) ^ k := Nat.pow_pos (by decide)
  have e : ((2 ^ k : Nat) : Int) = (2 : Int) ^ k := by push_cast; rfl
  have e3 : (2 : Nat) ^ 61 = 2305843009213693952 := by decide
  rw [e3] at h1
  rw [← e]
  omega
theorem pow_b {k : Nat} (h : k ≤ 62) : (1 : Int) ≤ 2 ^ k ∧ (2 : Int) ^ k ≤ 4611686018427387904 := by
  have h1 : (2 : Nat) ^ k ≤ 2 ^ 62 := Nat.pow_le_pow_right (by decide) h
  have h2 : 0 < (2 : Nat) ^ k := Nat.pow_pos (by decide)
  have e : ((2 ^ k : Nat) : Int) = (2 : Int) ^ k := by push_cast; rfl
  have e3 : (2 : Nat) ^ 62 = 4611686018427387904 := by decide
  rw [e3] at h1
  rw [← e]
  omega
theorem wrap_dbl {h : Int} (h1 : 1 ≤ h) (h2 : h ≤ 4611686018427387903) : wrap64 (2 * h) = 2 * h := by unfold wrap64; omega
theorem wrap_neg {h : Int} (h1 : 1 ≤ h) (h2 : h ≤ 4611686018427387904) : wrap64 (0 - h) = 0 - h := by unfold wrap64; omega
theorem wrap_in {x : Int} (h1 : -9223372036854775808 ≤ x) (h2 : x ≤ 9223372036854775807) : wrap64 x = x := by unfold wrap64; omega
set_option maxRecDepth 100000 in
set_option maxHeartbeats 8000000 in
theorem ranged4_any (S : Sch) (A : Option Addr) (c : Nat) (A2 : Option Addr) (c2 : Nat) (s : Int) (nm : List UInt8) (G : Option Addr) (g1 g2 : Nat) (q n : Int) (st : List UInt8) (B1 : Option Addr) (b1 b2 : Nat) (B3 : Option Addr) (b3 b4 : Nat) (w : World) :
    Calls Try.prog 62 #[.agg #[.int .i64 S.ver, .slice A S.enums.length c, .slice A2 S.structs.length c2], .agg #[.int .i64 4, .int .i64 s, .string (bs nm), .slice G g1 g2], .agg #[.int .i64 q, .int .i64 n, .string (bs st), .slice B1 b1 b2, .slice B3 b3 b4]] w (Ib (.bool true) w) := by
  have D1 := (Bx.new3 w 33 (.int .i64 S.ver) (.slice A S.enums.length c) (.slice A2 S.structs.length c2)).next (ab2 _ (Obj.cells #[.int .i64 4, .int .i64 s, .string (bs nm), .slice G g1 g2] 37) (Obj.cells #[.int .i64 q, .int .i64 n, .string (bs st), .slice B1 b1 b2, .slice B3 b3 b4] 25))
  have D2 := (Bx.new4 (w.alloc (Obj.cells #[.int .i64 S.ver, .slice A S.enums.length c, .slice A2 S.structs.length c2] 33)) 37 (.int .i64 4) (.int .i64 s) (.string (bs nm)) (.slice G g1 g2)).next (ab1 _ (Obj.cells #[.int .i64 q, .int .i64 n, .string (bs st), .slice B1 b1 b2, .slice B3 b3 b4] 25))
  have D3 := Bx.new5 ((w.alloc (Obj.cells #[.int .i64 S.ver, .slice A S.enums.length c, .slice A2 S.structs.length c2] 33)).alloc (Obj.cells #[.int .i64 4, .int .i64 s, .string (bs nm), .slice G g1 g2] 37)) 25 (.int .i64 q) (.int .i64 n) (.string (bs st)) (.slice B1 b1 b2) (.slice B3 b3 b4)
  rw [show (w.alloc (Obj.cells #[.int .i64 S.ver, .slice A S.enums.length c, .slice A2 S.structs.length c2] 33)).heap.size = w.heap.size + 1 by simp] at D2
  rw [show ((w.alloc (Obj.cells #[.int .i64 S.ver, .slice A S.enums.length c, .slice A2 S.structs.length c2] 33)).alloc (Obj.cells #[.int .i64 4, .int .i64 s, .string (bs nm), .slice G g1 g2] 37)).heap.size = w.heap.size + 1 + 1 by simp] at D3
  have hab := ab3 w (Obj.cells #[.int .i64 S.ver, .slice A S.enums.length c, .slice A2 S.structs.length c2] 33) (Obj.cells #[.int .i64 4, .int .i64 s, .string (bs nm), .slice G g1 g2] 37) (Obj.cells #[.int .i64 q, .int .i64 n, .string (bs st), .slice B1 b1 b2, .slice B3 b3 b4] 25)
  have i0 := D2.c 0 rfl
  have i1 := D2.c 1 rfl
  have i2 := D2.c 2 rfl
  have j1 := D3.c 1 rfl
  have l0 := D1.c 0 rfl
  have l1 := D1.c 1 rfl
  have l2 := D1.c 2 rfl
  go_enter Try.func62, Try.ntmps62
  go_wp2_with fail
  generalize (((w.alloc (Obj.cells #[.int .i64 S.ver, .slice A S.enums.length c, .slice A2 S.structs.length c2] 33)).alloc (Obj.cells #[.int .i64 4, .int .i64 s, .string (bs nm), .slice G g1 g2] 37)).alloc (Obj.cells #[.int .i64 q, .int .i64 n, .string (bs st), .slice B1 b1 b2, .slice B3 b3 b4] 25)) = w1 at *
  clear D1 D2 D3
  go_loopw [7, 8] (fun u i wr => ∃ (k : Nat) (h : Int), k ≤ 62 ∧ i = .int .i64 ((k : Int) + 1) ∧ u = .int .i64 h ∧ Hid (h = 2 ^ k) ∧ Hid (k = 0 ∨ (k : Int) < s) ∧ wr = w1) (fun _ i _ => 63 - (intOf i).toNat)
  case atStart => exact ⟨0, 1, by omega, rfl, rfl, Lib.hid rfl, Lib.hid (.inl rfl), rfl⟩
  case round =>
    obtain ⟨k, h, hk, rfl, rfl, HH, HK, rfl⟩ := hrel
    by_cases hs : (k : Int) + 1 < s
    · have d1 : decide (((k : Int) + 1) < s) = true := decide_eq_true (by omega)
      by_cases hc : k + 1 < 63
      · have d2 : decide (((k : Int) + 1) < 63) = true := decide_eq_true (by omega)
        have hb : (1 : Int) ≤ h ∧ h ≤ 4611686018427387903 := by rw [HH.out]; exact pow_c (k := k) (by omega)
        obtain ⟨h2, hh2⟩ : ∃ h2, 2 * h = h2 := ⟨_, rfl⟩
        have e1 : wrap64 (2 * h) = h2 := by rw [wrap_dbl hb.1 hb.2, hh2]
        have HH2 := Lib.hid (show h2 = 2 ^ (k + 1) by rw [← hh2, HH.out, Int.pow_succ, Int.mul_comm])
        have HS := Lib.hid (show ((k + 1 : Nat) : Int) < s by omega)
        have hc1 := Lib.hid (show k + 1 ≤ 62 by omega)
        clear hh2 hb hs hc HH HK
        go_wp2_with fail
        go_roundw
        case rel => exact ⟨k + 1, h2, hc1.out, by go_num, by rw [e1], HH2, Lib.hid (.inr HS.out), trivial⟩
        case measure => have := hc1.out; simp [intOf]; omega
      · have d1' := d1
        have d2 : decide (((k : Int) + 1) < 63) = false := decide_eq_false (by omega)
        go_wp2_with fail
        go_ret
        exact ⟨rfl, hab⟩
    · have d1 : decide (((k : Int) + 1) < s) = false := decide_eq_false (by omega)
      go_wp2_with fail
      go_ret
      exact ⟨rfl, hab⟩
set_option maxRecDepth 100000 in
set_option maxHeartbeats 8000000 in
theorem ranged5_any (S : Sch) (A : Option Addr) (c : Nat) (A2 : Option Addr) (c2 : Nat) (s : Int) (nm : List UInt8) (G : Option Addr) (g1 g2 : Nat) (q n : Int) (st : List UInt8) (B1 : Option Addr) (b1 b2 : Nat) (B3 : Option Addr) (b3 b4 : Nat) (w : World) :
    Calls Try.prog 62 #[.agg #[.int .i64 S.ver, .slice A S.enums.length c, .slice A2 S.structs.length c2], .agg #[.int .i64 5, .int .i64 s, .string (bs nm), .slice G g1 g2], .agg #[.int .i64 q, .int .i64 n, .string (bs st), .slice B1 b1 b2, .slice B3 b3 b4]] w (Ib (.bool true) w) := by
  have D1 := (Bx.new3 w 33 (.int .i64 S.ver) (.slice A S.enums.length c) (.slice A2 S.structs.length c2)).next (ab2 _ (Obj.cells #[.int .i64 5, .int .i64 s, .string (bs nm), .slice G g1 g2] 37) (Obj.cells #[.int .i64 q, .int .i64 n, .string (bs st), .slice B1 b1 b2, .slice B3 b3 b4] 25))
  have D2 := (Bx.new4 (w.alloc (Obj.cells #[.int .i64 S.ver, .slice A S.enums.length c, .slice A2 S.structs.length c2] 33)) 37 (.int .i64 5) (.int .i64 s) (.string (bs nm)) (.slice G g1 g2)).next (ab1 _ (Obj.cells #[.int .i64 q, .int .i64 n, .string (bs st), .slice B1 b1 b2, .slice B3 b3 b4] 25))
  have D3 := Bx.new5 ((w.alloc (Obj.cells #[.int .i64 S.ver, .slice A S.enums.length c, .slice A2 S.structs.length c2] 33)).alloc (Obj.cells #[.int .i64 5, .int .i64 s, .string (bs nm), .slice G g1 g2] 37)) 25 (.int .i64 q) (.int .i64 n) (.string (bs st)) (.slice B1 b1 b2) (.slice B3 b3 b4)
  rw [show (w.alloc (Obj.cells #[.int .i64 S.ver, .slice A S.enums.length c, .slice A2 S.structs.length c2] 33)).heap.size = w.heap.size + 1 by simp] at D2
  rw [show ((w.alloc (Obj.cells #[.int .i64 S.ver, .slice A S.enums.length c, .slice A2 S.structs.length c2] 33)).alloc (Obj.cells #[.int .i64 5, .int .i64 s, .string (bs nm), .slice G g1 g2] 37)).heap.size = w.heap.size + 1 + 1 by simp] at D3
  have hab := ab3 w (Obj.cells #[.int .i64 S.ver, .slice A S.enums.length c, .slice A2 S.structs.length c2] 33) (Obj.cells #[.int .i64 5, .int .i64 s, .string (bs nm), .slice G g1 g2] 37) (Obj.cells #[.int .i64 q, .int .i64 n, .string (bs st), .slice B1 b1 b2, .slice B3 b3 b4] 25)
  have i0 := D2.c 0 rfl
  have i1 := D2.c 1 rfl
  have i2 := D2.c 2 rfl
  have j1 := D3.c 1 rfl
  have l0 := D1.c 0 rfl
  have l1 := D1.c 1 rfl
  have l2 := D1.c 2 rfl
  go_enter Try.func62, Try.ntmps62
  go_wp2_with fail
  generalize (((w.alloc (Obj.cells #[.int .i64 S.ver, .slice A S.enums.length c, .slice A2 S.structs.length c2] 33)).alloc (Obj.cells #[.int .i64 5, .int .i64 s, .string (bs nm), .slice G g1 g2] 37)).alloc (Obj.cells #[.int .i64 q, .int .i64 n, .string (bs st), .slice B1 b1 b2, .slice B3 b3 b4] 25)) = w1 at *
  clear D1 D2 D3
  go_loopw [7, 8] (fun u i wr => ∃ (k : Nat) (h : Int), k ≤ 62 ∧ i = .int .i64 ((k : Int) + 1) ∧ u = .int .i64 h ∧ Hid (h = 2 ^ k) ∧ Hid (k = 0 ∨ (k : Int) < s) ∧ wr = w1) (fun _ i _ => 63 - (intOf i).toNat)
  case atStart => exact ⟨0, 1, by omega, rfl, rfl, Lib.hid rfl, Lib.hid (.inl rfl), rfl⟩
  case round =>
    obtain ⟨k, h, hk, rfl, rfl, HH, HK, rfl⟩ := hrel
    by_cases hs : (k : Int) + 1 < s
    · have d1 : decide (((k : Int) + 1) < s) = true := decide_eq_true (by omega)
      by_cases hc : k + 1 < 63
      · have d2 : decide (((k : Int) + 1) < 63) = true := decide_eq_true (by omega)
        have hb : (1 : Int) ≤ h ∧ h ≤ 4611686018427387903 := by rw [HH.out]; exact pow_c (k := k) (by omega)
        obtain ⟨h2, hh2⟩ : ∃ h2, 2 * h = h2 := ⟨_, rfl⟩
        have e1 : wrap64 (2 * h) = h2 := by rw [wrap_dbl hb.1 hb.2, hh2]
        have HH2 := Lib.hid (show h2 = 2 ^ (k + 1) by rw [← hh2, HH.out, Int.pow_succ, Int.mul_comm])
        have HS := Lib.hid (show ((k + 1 : Nat) : Int) < s by omega)
        have hc1 := Lib.hid (show k + 1 ≤ 62 by omega)
        clear hh2 hb hs hc HH HK
        go_wp2_with fail
        go_roundw
        case rel => exact ⟨k + 1, h2, hc1.out, by go_num, by rw [e1], HH2, Lib.hid (.inr HS.out), trivial⟩
        case measure => have := hc1.out; simp [intOf]; omega
      · have d1' := d1
        have d2 : decide (((k : Int) + 1) < 63) = false := decide_eq_false (by omega)
        go_wp2_with fail
        go_ret
        exact ⟨rfl, hab⟩
    · have d1 : decide (((k : Int) + 1) < s) = false := decide_eq_false (by omega)
      go_wp2_with fail
      go_ret
      exact ⟨rfl, hab⟩
set_option maxRecDepth 100000 in
set_option maxHeartbeats 8000000 in
theorem ranged6_any (S : Sch) (A : Option Addr) (c : Nat) (A2 : Option Addr) (c2 : Nat) (s : Int) (nm : List UInt8) (G : Option Addr) (g1 g2 : Nat) (q n : Int) (st : List UInt8) (B1 : Option Addr) (b1 b2 : Nat) (B3 : Option Addr) (b3 b4 : Nat) (w : World) :
    Calls Try.prog 62 #[.agg #[.int .i64 S.ver, .slice A S.enums.length c, .slice A2 S.structs.length c2], .agg #[.int .i64 6, .int .i64 s, .string (bs nm), .slice G g1 g2], .agg #[.int .i64 q, .int .i64 n, .string (bs st), .slice B1 b1 b2, .slice B3 b3 b4]] w (Ib (.bool true) w) := by
  have D1 := (Bx.new3 w 33 (.int .i64 S.ver) (.slice A S.enums.length c) (.slice A2 S.structs.length c2)).next (ab2 _ (Obj.cells #[.int .i64 6, .int .i64 s, .string (bs nm), .slice G g1 g2] 37) (Obj.cells #[.int .i64 q, .int .i64 n, .string (bs st), .slice B1 b1 b2, .slice B3 b3 b4] 25))
  have D2 := (Bx.new4 (w.alloc (Obj.cells #[.int .i64 S.ver, .slice A S.enums.length c, .slice A2 S.structs.length c2] 33)) 37 (.int .i64 6) (.int .i64 s) (.string (bs nm)) (.slice G g1 g2)).next (ab1 _ (Obj.cells #[.int .i64 q, .int .i64 n, .string (bs st), .slice B1 b1 b2, .slice B3 b3 b4] 25))
  have D3 := Bx.new5 ((w.alloc (Obj.cells #[.int .i64 S.ver, .slice A S.enums.length c, .slice A2 S.structs.length c2] 33)).alloc (Obj.cells #[.int .i64 6, .int .i64 s, .string (bs nm), .slice G g1 g2] 37)) 25 (.int .i64 q) (.int .i64 n) (.string (bs st)) (.slice B1 b1 b2) (.slice B3 b3 b4)
  rw [show (w.alloc (Obj.cells #[.int .i64 S.ver, .slice A S.enums.length c, .slice A2 S.structs.length c2] 33)).heap.size = w.heap.size + 1 by simp] at D2
  rw [show ((w.alloc (Obj.cells #[.int .i64 S.ver, .slice A S.enums.length c, .slice A2 S.structs.length c2] 33)).alloc (Obj.cells #[.int .i64 6, .int .i64 s, .string (bs nm), .slice G g1 g2] 37)).heap.size = w.heap.size + 1 + 1 by simp] at D3
  have hab := ab3 w (Obj.cells #[.int .i64 S.ver, .slice A S.enums.length c, .slice A2 S.structs.length c2] 33) (Obj.cells #[.int .i64 6, .int .i64 s, .string (bs nm), .slice G g1 g2] 37) (Obj.cells #[.int .i64 q, .int .i64 n, .string (bs st), .slice B1 b1 b2, .slice B3 b3 b4] 25)
  have i0 := D2.c 0 rfl
  have i1 := D2.c 1 rfl
  have i2 := D2.c 2 rfl
  have j1 := D3.c 1 rfl
  have l0 := D1.c 0 rfl
  have l1 := D1.c 1 rfl
  have l2 := D1.c 2 rfl
  go_enter Try.func62, Try.ntmps62
  go_wp2_with fail
  generalize (((w.alloc (Obj.cells #[.int .i64 S.ver, .slice A S.enums.length c, .slice A2 S.structs.length c2] 33)).alloc (Obj.cells #[.int .i64 6, .int .i64 s, .string (bs nm), .slice G g1 g2] 37)).alloc (Obj.cells #[.int .i64 q, .int .i64 n, .string (bs st), .slice B1 b1 b2, .slice B3 b3 b4] 25)) = w1 at *
  clear D1 D2 D3
  go_loopw [7, 8] (fun u i wr => ∃ (k : Nat) (h : Int), k ≤ 62 ∧ i = .int .i64 ((k : Int) + 1) ∧ u = .int .i64 h ∧ Hid (h = 2 ^ k) ∧ Hid (k = 0 ∨ (k : Int) < s) ∧ wr = w1) (fun _ i _ => 63 - (intOf i).toNat)
  case atStart => exact ⟨0, 1, by omega, rfl, rfl, Lib.hid rfl, Lib.hid (.inl rfl), rfl⟩
  case round =>
    obtain ⟨k, h, hk, rfl, rfl, HH, HK, rfl⟩ := hrel
    by_cases hs : (k : Int) + 1 < s
    · have d1 : decide (((k : Int) + 1) < s) = true := decide_eq_true (by omega)
      by_cases hc : k + 1 < 63
      · have d2 : decide (((k : Int) + 1) < 63) = true := decide_eq_true (by omega)
        have hb : (1 : Int) ≤ h ∧ h ≤ 4611686018427387903 := by rw [HH.out]; exact pow_c (k := k) (by omega)
        obtain ⟨h2, hh2⟩ : ∃ h2, 2 * h = h2 := ⟨_, rfl⟩
        have e1 : wrap64 (2 * h) = h2 := by rw [wrap_dbl hb.1 hb.2, hh2]
        have HH2 := Lib.hid (show h2 = 2 ^ (k + 1) by rw [← hh2, HH.out, Int.pow_succ, Int.mul_comm])
        have HS := Lib.hid (show ((k + 1 : Nat) : Int) < s by omega)
        have hc1 := Lib.hid (show k + 1 ≤ 62 by omega)
        clear hh2 hb hs hc HH HK
        go_wp2_with fail
        go_roundw
        case rel => exact ⟨k + 1, h2, hc1.out, by go_num, by rw [e1], HH2, Lib.hid (.inr HS.out), trivial⟩
        case measure => have := hc1.out; simp [intOf]; omega
      · have d1' := d1
        have d2 : decide (((k : Int) + 1) < 63) = false := decide_eq_false (by omega)
        go_wp2_with fail
        go_ret
        exact ⟨rfl, hab⟩
    · have d1 : decide (((k : Int) + 1) < s) = false := decide_eq_false (by omega)
      go_wp2_with fail
      go_ret
      exact ⟨rfl, hab⟩
set_option maxRecDepth 100000 in
set_option maxHeartbeats 8000000 in
theorem ranged1_any (S : Sch) (A : Option Addr) (c : Nat) (A2 : Option Addr) (c2 : Nat) (s : Int) (nm : List UInt8) (G : Option Addr) (g1 g2 : Nat) (q n : Int) (st : List UInt8) (B1 : Option Addr) (b1 b2 : Nat) (B3 : Option Addr) (b3 b4 : Nat) (w : World) :
    Calls Try.prog 62 #[.agg #[.int .i64 S.ver, .slice A S.enums.length c, .slice A2 S.structs.length c2], .agg #[.int .i64 1, .int .i64 s, .string (bs nm), .slice G g1 g2], .agg #[.int .i64 q, .int .i64 n, .string (bs st), .slice B1 b1 b2, .slice B3 b3 b4]] w (Ib (.bool (decide (n = 0 ∨ n = 1))) w) := by
  obtain ⟨b, hb⟩ : ∃ b, decide (n = 0 ∨ n = 1) = b := ⟨_, rfl⟩
  have HB := Lib.hid hb
  rw [hb]
  clear hb
  have D1 := (Bx.new3 w 33 (.int .i64 S.ver) (.slice A S.enums.length c) (.slice A2 S.structs.length c2)).next (ab2 _ (Obj.cells #[.int .i64 1, .int .i64 s, .string (bs nm), .slice G g1 g2] 37) (Obj.cells #[.int .i64 q, .int .i64 n, .string (bs st), .slice B1 b1 b2, .slice B3 b3 b4] 25))
  have D2 := (Bx.new4 (w.alloc (Obj.cells #[.int .i64 S.ver, .slice A S.enums.length c, .slice A2 S.structs.length c2] 33)) 37 (.int .i64 1) (.int .i64 s) (.string (bs nm)) (.slice G g1 g2)).next (ab1 _ (Obj.cells #[.int .i64 q, .int .i64 n, .string (bs st), .slice B1 b1 b2, .slice B3 b3 b4] 25))
  have D3 := Bx.new5 ((w.alloc (Obj.cells #[.int .i64 S.ver, .slice A S.enums.length c, .slice A2 S.structs.length c2] 33)).alloc (Obj.cells #[.int .i64 1, .int .i64 s, .string (bs nm), .slice G g1 g2] 37)) 25 (.int .i64 q) (.int .i64 n) (.string (bs st)) (.slice B1 b1 b2) (.slice B3 b3 b4)
  rw [show (w.alloc (Obj.cells #[.int .i64 S.ver, .slice A S.enums.length c, .slice A2 S.structs.length c2] 33)).heap.size = w.heap.size + 1 by simp] at D2
  rw [show ((w.alloc (Obj.cells #[.int .i64 S.ver, .slice A S.enums.length c, .slice A2 S.structs.length c2] 33)).alloc (Obj.cells #[.int .i64 1, .int .i64 s, .string (bs nm), .slice G g1 g2] 37)).heap.size = w.heap.size + 1 + 1 by simp] at D3
  have hab := ab3 w (Obj.cells #[.int .i64 S.ver, .slice A S.enums.length c, .slice A2 S.structs.length c2] 33) (Obj.cells #[.int .i64 1, .int .i64 s, .string (bs nm), .slice G g1 g2] 37) (Obj.cells #[.int .i64 q, .int .i64 n, .string (bs st), .slice B1 b1 b2, .slice B3 b3 b4] 25)
  have i0 := D2.c 0 rfl
  have i1 := D2.c 1 rfl
  have i2 := D2.c 2 rfl
  have j1 := D3.c 1 rfl
  have l0 := D1.c 0 rfl
  have l1 := D1.c 1 rfl
  have l2 := D1.c 2 rfl
  go_enter Try.func62, Try.ntmps62
  go_wp2_with fail
  generalize (((w.alloc (Obj.cells #[.int .i64 S.ver, .slice A S.enums.length c, .slice A2 S.structs.length c2] 33)).alloc (Obj.cells #[.int .i64 1, .int .i64 s, .string (bs nm), .slice G g1 g2] 37)).alloc (Obj.cells #[.int .i64 q, .int .i64 n, .string (bs st), .slice B1 b1 b2, .slice B3 b3 b4] 25)) = w1 at *
  clear D1 D2 D3
  go_loopw [7, 8] (fun u i wr => ∃ (k : Nat) (h : Int), k ≤ 62 ∧ i = .int .i64 ((k : Int) + 1) ∧ u = .int .i64 h ∧ Hid (h = 2 ^ k) ∧ Hid (k = 0 ∨ (k : Int) < s) ∧ wr = w1) (fun _ i _ => 63 - (intOf i).toNat)
  case atStart => exact ⟨0, 1, by omega, rfl, rfl, Lib.hid rfl, Lib.hid (.inl rfl), rfl⟩
  case round =>
    obtain ⟨k, h, hk, rfl, rfl, HH, HK, rfl⟩ := hrel
    by_cases hs : (k : Int) + 1 < s
    · have d1 : decide (((k : Int) + 1) < s) = true := decide_eq_true (by omega)
      by_cases hc : k + 1 < 63
      · have d2 : decide (((k : Int) + 1) < 63) = true := decide_eq_true (by omega)
        have hb : (1 : Int) ≤ h ∧ h ≤ 4611686018427387903 := by rw [HH.out]; exact pow_c (k := k) (by omega)
        obtain ⟨h2, hh2⟩ : ∃ h2, 2 * h = h2 := ⟨_, rfl⟩
        have e1 : wrap64 (2 * h) = h2 := by rw [wrap_dbl hb.1 hb.2, hh2]
        have HH2 := Lib.hid (show h2 = 2 ^ (k + 1) by rw [← hh2, HH.out, Int.pow_succ, Int.mul_comm])
        have HS := Lib.hid (show ((k + 1 : Nat) : Int) < s by omega)
        have hc1 := Lib.hid (show k + 1 ≤ 62 by omega)
        clear hh2 hb hs hc HH HK
        go_wp2_with fail
        go_roundw
        case rel => exact ⟨k + 1, h2, hc1.out, by go_num, by rw [e1], HH2, Lib.hid (.inr HS.out), trivial⟩
        case measure => have := hc1.out; simp [intOf]; omega
      · have d1' := d1
        have d2 : decide (((k : Int) + 1) < 63) = false := decide_eq_false (by omega)
        have HB2 := HB.out
        by_cases n0 : n = 0
        · subst n0
          have hb : true = b := by rw [← HB2]; decide
          subst hb
          go_wp2_with fail
          go_ret
          exact ⟨rfl, hab⟩
        · have q0 : (n == 0) = false := by simpa using n0
          by_cases n1 : n = 1
          · subst n1
            have hb : true = b := by rw [← HB2]; decide
            subst hb
            go_wp2_with fail
            go_ret
            exact ⟨rfl, hab⟩
          · have q1 : (n == 1) = false := by simpa using n1
            have hb : false = b := by rw [← HB2]; exact (decide_eq_false (by omega)).symm
            subst hb
            go_wp2_with fail
            go_ret
            exact ⟨rfl, hab⟩
    · have d1 : decide (((k : Int) + 1) < s) = false := decide_eq_false (by omega)
      have HB2 := HB.out
      by_cases n0 : n = 0
      · subst n0
        have hb : true = b := by rw [← HB2]; decide
        subst hb
        go_wp2_with fail
        go_ret
        exact ⟨rfl, hab⟩
      · have q0 : (n == 0) = false := by simpa using n0
        by_cases n1 : n = 1
        · subst n1
          have hb : true = b := by rw [← HB2]; decide
          subst hb
          go_wp2_with fail
          go_ret
          exact ⟨rfl, hab⟩
        · have q1 : (n == 1) = false := by simpa using n1
          have hb : false = b := by rw [← HB2]; exact (decide_eq_false (by omega)).symm
          subst hb
          go_wp2_with fail
          go_ret
          exact ⟨rfl, hab⟩
set_option maxRecDepth 100000 in
set_option maxHeartbeats 8000000 in
theorem ranged264_any (S : Sch) (A : Option Addr) (c : Nat) (A2 : Option Addr) (c2 : Nat) (nm : List UInt8) (G : Option Addr) (g1 g2 : Nat) (q n : Int) (st : List UInt8) (B1 : Option Addr) (b1 b2 : Nat) (B3 : Option Addr) (b3 b4 : Nat) (w : World) :
    Calls Try.prog 62 #[.agg #[.int .i64 S.ver, .slice A S.enums.length c, .slice A2 S.structs.length c2], .agg #[.int .i64 2, .int .i64 64, .string (bs nm), .slice G g1 g2], .agg #[.int .i64 q, .int .i64 n, .string (bs st), .slice B1 b1 b2, .slice B3 b3 b4]] w (Ib (.bool true) w) := by
  have D1 := (Bx.new3 w 33 (.int .i64 S.ver) (.slice A S.enums.length c) (.slice A2 S.structs.length c2)).next (ab2 _ (Obj.cells #[.int .i64 2, .int .i64 64, .string (bs nm), .slice G g1 g2] 37) (Obj.cells #[.int .i64 q, .int .i64 n, .string (bs st), .slice B1 b1 b2, .slice B3 b3 b4] 25))
  have D2 := (Bx.new4 (w.alloc (Obj.cells #[.int .i64 S.ver, .slice A S.enums.length c, .slice A2 S.structs.length c2] 33)) 37 (.int .i64 2) (.int .i64 64) (.string (bs nm)) (.slice G g1 g2)).next (ab1 _ (Obj.cells #[.int .i64 q, .int .i64 n, .string (bs st), .slice B1 b1 b2, .slice B3 b3 b4] 25))
  have D3 := Bx.new5 ((w.alloc (Obj.cells #[.int .i64 S.ver, .slice A S.enums.length c, .slice A2 S.structs.length c2] 33)).alloc (Obj.cells #[.int .i64 2, .int .i64 64, .string (bs nm), .slice G g1 g2] 37)) 25 (.int .i64 q) (.int .i64 n) (.string (bs st)) (.slice B1 b1 b2) (.slice B3 b3 b4)
  rw [show (w.alloc (Obj.cells #[.int .i64 S.ver, .slice A S.enums.length c, .slice A2 S.structs.length c2] 33)).heap.size = w.heap.size + 1 by simp] at D2
  rw [show ((w.alloc (Obj.cells #[.int .i64 S.ver, .slice A S.enums.length c, .slice A2 S.structs.length c2] 33)).alloc (Obj.cells #[.int .i64 2, .int .i64 64, .string (bs nm), .slice G g1 g2] 37)).heap.size = w.heap.size + 1 + 1 by simp] at D3
  have hab := ab3 w (Obj.cells #[.int .i64 S.ver, .slice A S.enums.length c, .slice A2 S.structs.length c2] 33) (Obj.cells #[.int .i64 2, .int .i64 64, .string (bs nm), .slice G g1 g2] 37) (Obj.cells #[.int .i64 q, .int .i64 n, .string (bs st), .slice B1 b1 b2, .slice B3 b3 b4] 25)
  have i0 := D2.c 0 rfl
  have i1 := D2.c 1 rfl
  have i2 := D2.c 2 rfl
  have j1 := D3.c 1 rfl
  have l0 := D1.c 0 rfl
  have l1 := D1.c 1 rfl
  have l2 := D1.c 2 rfl
  go_enter Try.func62, Try.ntmps62
  go_wp2_with fail
  generalize (((w.alloc (Obj.cells #[.int .i64 S.ver, .slice A S.enums.length c, .slice A2 S.structs.length c2] 33)).alloc (Obj.cells #[.int .i64 2, .int .i64 64, .string (bs nm), .slice G g1 g2] 37)).alloc (Obj.cells #[.int .i64 q, .int .i64 n, .string (bs st), .slice B1 b1 b2, .slice B3 b3 b4] 25)) = w1 at *
  clear D1 D2 D3
  go_loopw [7, 8] (fun u i wr => ∃ (k : Nat) (h : Int), k ≤ 62 ∧ i = .int .i64 ((k : Int) + 1) ∧ u = .int .i64 h ∧ Hid (h = 2 ^ k) ∧ Hid (k = 0 ∨ (k : Int) < 64) ∧ wr = w1) (fun _ i _ => 63 - (intOf i).toNat)
  case atStart => exact ⟨0, 1, by omega, rfl, rfl, Lib.hid rfl, Lib.hid (.inl rfl), rfl⟩
  case round =>
    obtain ⟨k, h, hk, rfl, rfl, HH, HK, rfl⟩ := hrel
    by_cases hs : (k : Int) + 1 < 64
    · have d1 : decide (((k : Int) + 1) < 64) = true := decide_eq_true (by omega)
      by_cases hc : k + 1 < 63
      · have d2 : decide (((k : Int) + 1) < 63) = true := decide_eq_true (by omega)
        have hb : (1 : Int) ≤ h ∧ h ≤ 4611686018427387903 := by rw [HH.out]; exact pow_c (k := k) (by omega)
        obtain ⟨h2, hh2⟩ : ∃ h2, 2 * h = h2 := ⟨_, rfl⟩
        have e1 : wrap64 (2 * h) = h2 := by rw [wrap_dbl hb.1 hb.2, hh2]
        have HH2 := Lib.hid (show h2 = 2 ^ (k + 1) by rw [← hh2, HH.out, Int.pow_succ, Int.mul_comm])
        have HS := Lib.hid (show ((k + 1 : Nat) : Int) < 64 by omega)
        have hc1 := Lib.hid (show k + 1 ≤ 62 by omega)
        clear hh2 hb hs hc HH HK
        go_wp2_with fail
        go_roundw
        case rel => exact ⟨k + 1, h2, hc1.out, by go_num, by rw [e1], HH2, Lib.hid (.inr HS.out), trivial⟩
        case measure => have := hc1.out; simp [intOf]; omega
      · have d1' := d1
        have d2 : decide (((k : Int) + 1) < 63) = false := decide_eq_false (by omega)
        go_wp2_with fail
        go_ret
        exact ⟨rfl, hab⟩
    · exfalso; omega
set_option maxRecDepth 100000 in
set_option maxHeartbeats 8000000 in
theorem ranged2_any (S : Sch) (A : Option Addr) (c : Nat) (A2 : Option Addr) (c2 : Nat) (m : Nat) (s : Int) (nm : List UInt8) (G : Option Addr) (g1 g2 : Nat) (q n : Int) (st : List UInt8) (B1 : Option Addr) (b1 b2 : Nat) (B3 : Option Addr) (b3 b4 : Nat) (w : World) (hm : m ≤ 61) (hms : (m : Int) + 1 = s) :
    Calls Try.prog 62 #[.agg #[.int .i64 S.ver, .slice A S.enums.length c, .slice A2 S.structs.length c2], .agg #[.int .i64 2, .int .i64 s, .string (bs nm), .slice G g1 g2], .agg #[.int .i64 q, .int .i64 n, .string (bs st), .slice B1 b1 b2, .slice B3 b3 b4]] w (Ib (.bool (decide (-(2 ^ m) ≤ n ∧ n < 2 ^ m))) w) := by
  obtain ⟨b, hb⟩ : ∃ b, decide (-((2 : Int) ^ m) ≤ n ∧ n < 2 ^ m) = b := ⟨_, rfl⟩
  have HB := Lib.hid hb
  rw [hb]
  clear hb
  have D1 := (Bx.new3 w 33 (.int .i64 S.ver) (.slice A S.enums.length c) (.slice A2 S.structs.length c2)).next (ab2 _ (Obj.cells #[.int .i64 2, .int .i64 s, .string (bs nm), .slice G g1 g2] 37) (Obj.cells #[.int .i64 q, .int .i64 n, .string (bs st), .slice B1 b1 b2, .slice B3 b3 b4] 25))
  have D2 := (Bx.new4 (w.alloc (Obj.cells #[.int .i64 S.ver, .slice A S.enums.length c, .slice A2 S.structs.length c2] 33)) 37 (.int .i64 2) (.int .i64 s) (.string (bs nm)) (.slice G g1 g2)).next (ab1 _ (Obj.cells #[.int .i64 q, .int .i64 n, .string (bs st), .slice B1 b1 b2, .slice B3 b3 b4] 25))
  have D3 := Bx.new5 ((w.alloc (Obj.cells #[.int .i64 S.ver, .slice A S.enums.length c, .slice A2 S.structs.length c2] 33)).alloc (Obj.cells #[.int .i64 2, .int .i64 s, .string (bs nm), .slice G g1 g2] 37)) 25 (.int .i64 q) (.int .i64 n) (.string (bs st)) (.slice B1 b1 b2) (.slice B3 b3 b4)
  rw [show (w.alloc (Obj.cells #[.int .i64 S.ver, .slice A S.enums.length c, .slice A2 S.structs.length c2] 33)).heap.size = w.heap.size + 1 by simp] at D2
  rw [show ((w.alloc (Obj.cells #[.int .i64 S.ver, .slice A S.enums.length c, .slice A2 S.structs.length c2] 33)).alloc (Obj.cells #[.int .i64 2, .int .i64 s, .string (bs nm), .slice G g1 g2] 37)).heap.size = w.heap.size + 1 + 1 by simp] at D3
  have hab := ab3 w (Obj.cells #[.int .i64 S.ver, .slice A S.enums.length c, .slice A2 S.structs.length c2] 33) (Obj.cells #[.int .i64 2, .int .i64 s, .string (bs nm), .slice G g1 g2] 37) (Obj.cells #[.int .i64 q, .int .i64 n, .string (bs st), .slice B1 b1 b2, .slice B3 b3 b4] 25)
  have i0 := D2.c 0 rfl
  have i1 := D2.c 1 rfl
  have i2 := D2.c 2 rfl
  have j1 := D3.c 1 rfl
  have l0 := D1.c 0 rfl
  have l1 := D1.c 1 rfl
  have l2 := D1.c 2 rfl
  go_enter Try.func62, Try.ntmps62
  go_wp2_with fail
  generalize (((w.alloc (Obj.cells #[.int .i64 S.ver, .slice A S.enums.length c, .slice A2 S.structs.length c2] 33)).alloc (Obj.cells #[.int .i64 2, .int .i64 s, .string (bs nm), .slice G g1 g2] 37)).alloc (Obj.cells #[.int .i64 q, .int .i64 n, .string (bs st), .slice B1 b1 b2, .slice B3 b3 b4] 25)) = w1 at *
  clear D1 D2 D3
  go_loopw [7, 8] (fun u i wr => ∃ (k : Nat) (h : Int), k ≤ 62 ∧ i = .int .i64 ((k : Int) + 1) ∧ u = .int .i64 h ∧ Hid (h = 2 ^ k) ∧ Hid (k = 0 ∨ (k : Int) < s) ∧ wr = w1) (fun _ i _ => 63 - (intOf i).toNat)
  case atStart => exact ⟨0, 1, by omega, rfl, rfl, Lib.hid rfl, Lib.hid (.inl rfl), rfl⟩
  case round =>
    obtain ⟨k, h, hk, rfl, rfl, HH, HK, rfl⟩ := hrel
    by_cases hs : (k : Int) + 1 < s
    · have d1 : decide (((k : Int) + 1) < s) = true := decide_eq_true (by omega)
      by_cases hc : k + 1 < 63
      · have d2 : decide (((k : Int) + 1) < 63) = true := decide_eq_true (by omega)
        have hb : (1 : Int) ≤ h ∧ h ≤ 4611686018427387903 := by rw [HH.out]; exact pow_c (k := k) (by omega)
        obtain ⟨h2, hh2⟩ : ∃ h2, 2 * h = h2 := ⟨_, rfl⟩
        have e1 : wrap64 (2 * h) = h2 := by rw [wrap_dbl hb.1 hb.2, hh2]
        have HH2 := Lib.hid (show h2 = 2 ^ (k + 1) by rw [← hh2, HH.out, Int.pow_succ, Int.mul_comm])
        have HS := Lib.hid (show ((k + 1 : Nat) : Int) < s by omega)
        have hc1 := Lib.hid (show k + 1 ≤ 62 by omega)
        clear hh2 hb hs hc HH HK
        go_wp2_with fail
        go_roundw
        case rel => exact ⟨k + 1, h2, hc1.out, by go_num, by rw [e1], HH2, Lib.hid (.inr HS.out), trivial⟩
        case measure => have := hc1.out; simp [intOf]; omega
      · exfalso; omega
    · have d1 : decide (((k : Int) + 1) < s) = false := decide_eq_false (by omega)
      have hkm : k = m := by have := HK.out; omega
      subst hkm
      have hbd : (1 : Int) ≤ h ∧ h ≤ 4611686018427387903 := by rw [HH.out]; exact pow_c (k := k) (by omega)
      obtain ⟨nh, hnh⟩ : ∃ nh, 0 - h = nh := ⟨_, rfl⟩
      have e1 : wrap64 (0 - h) = nh := by rw [wrap_neg hbd.1 (Int.le_trans hbd.2 (by decide)), hnh]
      have e1' : wrap64 (-h) = nh := by rw [← e1]; congr 1; omega
      have HB2 := HB.out
      rw [← HH.out] at HB2
      have q64 : (s == 64) = false := by simp; omega
      by_cases n0 : nh ≤ n
      · have d3 : decide (nh ≤ n) = true := decide_eq_true n0
        by_cases n1 : n < h
        · have d4 : decide (n < h) = true := decide_eq_true n1
          have hb : true = b := by rw [← HB2]; exact (decide_eq_true (by omega)).symm
          subst hb
          clear HB HB2 hbd HH hnh n0 n1 hms
          go_wp2_with fail
          go_ret
          exact ⟨rfl, hab⟩
        · have d4 : decide (n < h) = false := decide_eq_false n1
          have hb : false = b := by rw [← HB2]; exact (decide_eq_false (by omega)).symm
          subst hb
          clear HB HB2 hbd HH hnh n0 n1 hms
          go_wp2_with fail
          go_ret
          exact ⟨rfl, hab⟩
      · have d3 : decide (nh ≤ n) = false := decide_eq_false n0
        have hb : false = b := by rw [← HB2]; exact (decide_eq_false (by omega)).symm
        subst hb
        clear HB HB2 hbd HH hnh n0 hms
        go_wp2_with fail
        go_ret
        exact ⟨rfl, hab⟩
set_option maxRecDepth 100000 in
set_option maxHeartbeats 8000000 in
theorem ranged3_any (S : Sch) (A : Option Addr) (c : Nat) (A2 : Option Addr) (c2 : Nat) (m : Nat) (s : Int) (nm : List UInt8) (G : Option Addr) (g1 g2 : Nat) (q n : Int) (st : List UInt8) (B1 : Option Addr) (b1 b2 : Nat) (B3 : Option Addr) (b3 b4 : Nat) (w : World) (hm : m ≤ 61) (hms : (m : Int) + 1 = s) :
    Calls Try.prog 62 #[.agg #[.int .i64 S.ver, .slice A S.enums.length c, .slice A2 S.structs.length c2], .agg #[.int .i64 3, .int .i64 s, .string (bs nm), .slice G g1 g2], .agg #[.int .i64 q, .int .i64 n, .string (bs st), .slice B1 b1 b2, .slice B3 b3 b4]] w (Ib (.bool (decide (0 ≤ n ∧ n < 2 ^ (m + 1)))) w) := by
  obtain ⟨b, hb⟩ : ∃ b, decide (0 ≤ n ∧ n < (2 : Int) ^ (m + 1)) = b := ⟨_, rfl⟩
  have HB := Lib.hid hb
  rw [hb]
  clear hb
  have D1 := (Bx.new3 w 33 (.int .i64 S.ver) (.slice A S.enums.length c) (.slice A2 S.structs.length c2)).next (ab2 _ (Obj.cells #[.int .i64 3, .int .i64 s, .string (bs nm), .slice G g1 g2] 37) (Obj.cells #[.int .i64 q, .int .i64 n, .string (bs st), .slice B1 b1 b2, .slice B3 b3 b4] 25))
  have D2 := (Bx.new4 (w.alloc (Obj.cells #[.int .i64 S.ver, .slice A S.enums.length c, .slice A2 S.structs.length c2] 33)) 37 (.int .i64 3) (.int .i64 s) (.string (bs nm)) (.slice G g1 g2)).next (ab1 _ (Obj.cells #[.int .i64 q, .int .i64 n, .string (bs st), .slice B1 b1 b2, .slice B3 b3 b4] 25))
  have D3 := Bx.new5 ((w.alloc (Obj.cells #[.int .i64 S.ver, .slice A S.enums.length c, .slice A2 S.structs.length c2] 33)).alloc (Obj.cells #[.int .i64 3, .int .i64 s, .string (bs nm), .slice G g1 g2] 37)) 25 (.int .i64 q) (.int .i64 n) (.string (bs st)) (.slice B1 b1 b2) (.slice B3 b3 b4)
  rw [show (w.alloc (Obj.cells #[.int .i64 S.ver, .slice A S.enums.length c, .slice A2 S.structs.length c2] 33)).heap.size = w.heap.size + 1 by simp] at D2
  rw [show ((w.alloc (Obj.cells #[.int .i64 S.ver, .slice A S.enums.length c, .slice A2 S.structs.length c2] 33)).alloc (Obj.cells #[.int .i64 3, .int .i64 s, .string (bs nm), .slice G g1 g2] 37)).heap.size = w.heap.size + 1 + 1 by simp] at D3
  have hab := ab3 w (Obj.cells #[.int .i64 S.ver, .slice A S.enums.length c, .slice A2 S.structs.length c2] 33) (Obj.cells #[.int .i64 3, .int .i64 s, .string (bs nm), .slice G g1 g2] 37) (Obj.cells #[.int .i64 q, .int .i64 n, .string (bs st), .slice B1 b1 b2, .slice B3 b3 b4] 25)
  have i0 := D2.c 0 rfl
  have i1 := D2.c 1 rfl
  have i2 := D2.c 2 rfl
  have j1 := D3.c 1 rfl
  have l0 := D1.c 0 rfl
  have l1 := D1.c 1 rfl
  have l2 := D1.c 2 rfl
  go_enter Try.func62, Try.ntmps62
  go_wp2_with fail
  generalize (((w.alloc (Obj.cells #[.int .i64 S.ver, .slice A S.enums.length c, .slice A2 S.structs.length c2] 33)).alloc (Obj.cells #[.int .i64 3, .int .i64 s, .string (bs nm), .slice G g1 g2] 37)).alloc (Obj.cells #[.int .i64 q, .int .i64 n, .string (bs st), .slice B1 b1 b2, .slice B3 b3 b4] 25)) = w1 at *
  clear D1 D2 D3
  go_loopw [7, 8] (fun u i wr => ∃ (k : Nat) (h : Int), k ≤ 62 ∧ i = .int .i64 ((k : Int) + 1) ∧ u = .int .i64 h ∧ Hid (h = 2 ^ k) ∧ Hid (k = 0 ∨ (k : Int) < s) ∧ wr = w1) (fun _ i _ => 63 - (intOf i).toNat)
  case atStart => exact ⟨0, 1, by omega, rfl, rfl, Lib.hid rfl, Lib.hid (.inl rfl), rfl⟩
  case round =>
    obtain ⟨k, h, hk, rfl, rfl, HH, HK, rfl⟩ := hrel
    by_cases hs : (k : Int) + 1 < s
    · have d1 : decide (((k : Int) + 1) < s) = true := decide_eq_true (by omega)
      by_cases hc : k + 1 < 63
      · have d2 : decide (((k : Int) + 1) < 63) = true := decide_eq_true (by omega)
        have hb : (1 : Int) ≤ h ∧ h ≤ 4611686018427387903 := by rw [HH.out]; exact pow_c (k := k) (by omega)
        obtain ⟨h2, hh2⟩ : ∃ h2, 2 * h = h2 := ⟨_, rfl⟩
        have e1 : wrap64 (2 * h) = h2 := by rw [wrap_dbl hb.1 hb.2, hh2]
        have HH2 := Lib.hid (show h2 = 2 ^ (k + 1) by rw [← hh2, HH.out, Int.pow_succ, Int.mul_comm])
        have HS := Lib.hid (show ((k + 1 : Nat) : Int) < s by omega)
        have hc1 := Lib.hid (show k + 1 ≤ 62 by omega)
        clear hh2 hb hs hc HH HK
        go_wp2_with fail
        go_roundw
        case rel => exact ⟨k + 1, h2, hc1.out, by go_num, by rw [e1], HH2, Lib.hid (.inr HS.out), trivial⟩
        case measure => have := hc1.out; simp [intOf]; omega
      · exfalso; omega
    · have d1 : decide (((k : Int) + 1) < s) = false := decide_eq_false (by omega)
      have hkm : k = m := by have := HK.out; omega
      subst hkm
      have hbd : (1 : Int) ≤ h ∧ h ≤ 4611686018427387903 := by rw [HH.out]; exact pow_c (k := k) (by omega)
      obtain ⟨nh, hnh⟩ : ∃ nh, 2 * h = nh := ⟨_, rfl⟩
      have e1 : wrap64 (2 * h) = nh := by rw [wrap_dbl hbd.1 hbd.2, hnh]
      have HB2 := HB.out
      rw [show (2 : Int) ^ (k + 1) = nh by rw [← hnh, HH.out, Int.pow_succ, Int.mul_comm]] at HB2
      by_cases n0 : 0 ≤ n
      · have d3 : decide (0 ≤ n) = true := decide_eq_true n0
        by_cases n1 : n < nh
        · have d4 : decide (n < nh) = true := decide_eq_true n1
          have hb : true = b := by rw [← HB2]; exact (decide_eq_true (by omega)).symm
          subst hb
          clear HB HB2 hbd HH hnh n0 n1 hms
          go_wp2_with fail
          go_ret
          exact ⟨rfl, hab⟩
        · have d4 : decide (n < nh) = false := decide_eq_false n1
          have hb : false = b := by rw [← HB2]; exact (decide_eq_false (by omega)).symm
          subst hb
          clear HB HB2 hbd HH hnh n0 n1 hms
          go_wp2_with fail
          go_ret
          exact ⟨rfl, hab⟩
      · have d3 : decide (0 ≤ n) = false := decide_eq_false n0
        have hb : false = b := by rw [← HB2]; exact (decide_eq_false (by omega)).symm
        subst hb
        clear HB HB2 hbd HH hnh n0 hms
        go_wp2_with fail
        go_ret
        exact ⟨rfl, hab⟩
end Go.Proofs.Ytlebppjldoodgaa

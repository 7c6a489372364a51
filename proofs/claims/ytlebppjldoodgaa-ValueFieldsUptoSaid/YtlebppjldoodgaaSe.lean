import Derived.Test.YtlebppjldoodgaaSb
import Derived.Test.YtlebppjldoodgaaSw
import Derived.Test.YtlebppjldoodgaaLp
import Derived.Deep.DeepCutAuto
/-
  The reference's looking up by name and by number. No conditions beyond those that each names.
-/
namespace Go.Proofs.Ytlebppjldoodgaa
open Go.RowKit
theorem fst_at {α β : Type} [DecidableEq β] {key : α → β} : ∀ {l : List α} {k : Nat} (h : k < l.length) {b : β}, (∀ j (hj : j < l.length), j < k → key (l[j]'hj) ≠ b) → key (l[k]'h) = b → fst_ key l b = some (l[k]'h)
  | a :: l, 0, h, b, _, e => by
    rw [fst_cons, if_pos (by simpa using e)]
    rfl
  | a :: l, k + 1, h, b, hn, e => by
    have h0 : key a ≠ b := hn 0 (by simp) (by omega)
    rw [fst_cons, if_neg h0]
    have := fst_at (key := key) (l := l) (k := k) (by simpa using h) (b := b) (fun j hj hjk => by have := hn (j + 1) (by simpa using hj) (by omega); simpa using this) (by simpa using e)
    simpa using this
theorem fst_end {α β : Type} [DecidableEq β] {key : α → β} {l : List α} {b : β} (hn : ∀ j (hj : j < l.length), key (l[j]'hj) ≠ b) : fst_ key l b = none :=
  fst_none.2 fun a ha => by
    obtain ⟨j, hj, rfl⟩ := List.mem_iff_getElem.1 ha
    exact hn j hj
def st0 : St := ⟨[], []⟩
def en0 : En := ⟨[], [], []⟩
theorem StV.zero (w : World) : StV w st0 (.agg #[.string ⟨#[]⟩, .slice none 0 0]) := ⟨none, 0, rfl, .inl rfl⟩
theorem EnV.zero (w : World) : EnV w en0 (.agg #[.string ⟨#[]⟩, .slice none 0 0, .slice none 0 0]) := ⟨none, 0, none, 0, rfl, .inl rfl, .inl rfl⟩
/-- The first struct with a name, as a function returns it. -/
def StO (o : Option St) (w : World) (e : Ending) (w' : World) : Prop := ∃ v, e = .returned (.tuple #[v, .bool o.isSome]) ∧ StV w' (o.getD st0) v ∧ Below w.heap.size w w'
def EnO (o : Option En) (w : World) (e : Ending) (w' : World) : Prop := ∃ v, e = .returned (.tuple #[v, .bool o.isSome]) ∧ EnV w' (o.getD en0) v ∧ Below w.heap.size w w'
theorem sq_t (x : List UInt8) : ((bs x).toList == (bs x).toList) = true := by simp
theorem sq_f {x y : List UInt8} (h : x ≠ y) : ((bs x).toList == (bs y).toList) = false := by
  rw [toList_bs, toList_bs]; simpa using h
theorem sn_t (x : List UInt8) : ((bs x).toList != (bs x).toList) = false := by simp
theorem sn_f {x y : List UInt8} (h : x ≠ y) : ((bs x).toList != (bs y).toList) = true := by
  rw [toList_bs, toList_bs]; simpa using h
theorem ab1 (w : World) (o : Obj) : Below w.heap.size w (w.alloc o) := (Below.refl _ _).alloc (Nat.le_refl _) o
theorem ab2 (w : World) (o p : Obj) : Below w.heap.size w ((w.alloc o).alloc p) := (ab1 w o).alloc (by simp) p
theorem ab3 (w : World) (o p q : Obj) : Below w.heap.size w (((w.alloc o).alloc p).alloc q) := (ab2 w o p).alloc (by simp; omega) q
theorem ab4 (w : World) (o p q r : Obj) : Below w.heap.size w ((((w.alloc o).alloc p).alloc q).alloc r) := (ab3 w o p q).alloc (by simp; omega) r
theorem StO.some_ {o : Option St} {w w' : World} {t : St} {v : Value} (h : o = some t) (hv : StV w' t v) (hb : Below w.heap.size w w') : StO o w (.returned (.tuple #[v, .bool true])) w' := by
  subst h; exact ⟨v, rfl, hv, hb⟩
theorem StO.none_ {o : Option St} {w w' : World} (h : o = none) (hb : Below w.heap.size w w') : StO o w (.returned (.tuple #[.agg #[.string ⟨#[]⟩, .slice none 0 0], .bool false])) w' := by
  subst h; exact ⟨_, rfl, StV.zero _, hb⟩
theorem EnO.some_ {o : Option En} {w w' : World} {t : En} {v : Value} (h : o = some t) (hv : EnV w' t v) (hb : Below w.heap.size w w') : EnO o w (.returned (.tuple #[v, .bool true])) w' := by
  subst h; exact ⟨v, rfl, hv, hb⟩
theorem EnO.none_ {o : Option En} {w w' : World} (h : o = none) (hb : Below w.heap.size w w') : EnO o w (.returned (.tuple #[.agg #[.string ⟨#[]⟩, .slice none 0 0, .slice none 0 0], .bool false])) w' := by
  subst h; exact ⟨_, rfl, EnV.zero _, hb⟩
set_option maxRecDepth 100000 in
set_option maxHeartbeats 1000000 in
theorem refStruct_any (S : Sch) (nm : List UInt8) (v : Value) (w : World) (hv : ScV w S v) (hn : S.structs.length ≤ 1000) :
    Calls Try.prog 98 #[v, .string (bs nm)] w (StO (fst_ St.name S.structs nm) w) := by
  obtain ⟨A, c, A2, c2, rfl, hS⟩ := hv
  obtain ⟨n, hn2⟩ : ∃ n, S.structs.length = n := ⟨_, rfl⟩
  have HN := Lib.hid hn2
  rw [hn2] at hn ⊢
  clear hn2
  go_enter Try.func98, Try.ntmps98
  go_wp2_with fail
  go_loop [6] (fun i => ∃ k : Nat, k ≤ n ∧ i = .int .i64 (k : Int) ∧ Hid (∀ j (hj : j < S.structs.length), j < k → (S.structs[j]'hj).name ≠ nm)) (fun i => n - (intOf i).toNat)
  case atStart => exact ⟨0, by omega, rfl, Lib.hid fun j _ h => by omega⟩
  case round =>
    obtain ⟨k, hk, rfl, hI⟩ := hrel
    by_cases hlt : k < n
    · obtain ⟨a, rfl, hA⟩ := hS.st.get (i := k) (by rw [HN.out]; exact hlt)
      obtain ⟨A3, c3, h0, h1, hV⟩ := hA.val
      have hblk : (a.add (k * 2)).block < w.heap.size := blk_lt h0
      have hx : (S.structs[k]'(by rw [HN.out]; exact hlt)).name = nm → fst_ St.name S.structs nm = some (S.structs[k]'(by rw [HN.out]; exact hlt)) := fun e => fst_at (by rw [HN.out]; exact hlt) hI.out e
      have hy : (S.structs[k]'(by rw [HN.out]; exact hlt)).name ≠ nm → ∀ j (hj : j < S.structs.length), j < k + 1 → (S.structs[j]'hj).name ≠ nm := fun e j hj hjk => by
        by_cases hjk2 : j < k
        · exact hI.out j hj hjk2
        · obtain rfl : j = k := by omega
          exact e
      generalize S.structs[k]'(by rw [HN.out]; exact hlt) = t at *
      by_cases e : t.name = nm
      · have E := Lib.hid (hx e)
        clear hx hy hI hA
        subst e
        have q1 := sq_t t.name
        go_wp2_with fail
        exact bodyPost_ret (v := .tuple #[.agg #[.string (bs t.name), .slice A3 t.fields.length c3], .bool true]) (by simp [results, Try.results98, go_sem]) rfl (.some_ E.out (hV.next (ab2 _ _ _)) (ab2 _ _ _))
      · have E := Lib.hid (hy e)
        have q1 := sq_f e
        clear hx hy hI hA
        go_wp2_with fail
        go_round
        case rel => exact ⟨k + 1, by omega, by go_num, E⟩
        case measure => simp [intOf]; omega
    · obtain rfl : k = n := by omega
      have E := Lib.hid (show fst_ St.name S.structs nm = none from fst_end fun j hj => hI.out j hj (by rw [← HN.out]; exact hj))
      clear hI
      go_wp2_with fail
      exact bodyPost_ret (v := .tuple #[.agg #[.string ⟨#[]⟩, .slice none 0 0], .bool false]) (by simp [results, Try.results98, go_sem]) rfl (.none_ E.out (ab2 _ _ _))
set_option maxRecDepth 100000 in
set_option maxHeartbeats 1000000 in
theorem refEnum_any (S : Sch) (nm : List UInt8) (v : Value) (w : World) (hv : ScV w S v) (hn : S.enums.length ≤ 1000) :
    Calls Try.prog 99 #[v, .string (bs nm)] w (EnO (fst_ En.name S.enums nm) w) := by
  obtain ⟨A, c, A2, c2, rfl, hS⟩ := hv
  obtain ⟨n, hn2⟩ : ∃ n, S.enums.length = n := ⟨_, rfl⟩
  have HN := Lib.hid hn2
  rw [hn2] at hn ⊢
  clear hn2
  go_enter Try.func99, Try.ntmps99
  go_wp2_with fail
  go_loop [6] (fun i => ∃ k : Nat, k ≤ n ∧ i = .int .i64 (k : Int) ∧ Hid (∀ j (hj : j < S.enums.length), j < k → (S.enums[j]'hj).name ≠ nm)) (fun i => n - (intOf i).toNat)
  case atStart => exact ⟨0, by omega, rfl, Lib.hid fun j _ h => by omega⟩
  case round =>
    obtain ⟨k, hk, rfl, hI⟩ := hrel
    by_cases hlt : k < n
    · obtain ⟨a, rfl, hA⟩ := hS.en.get (i := k) (by rw [HN.out]; exact hlt)
      obtain ⟨A3, c3, A4, c4, h0, h1, h2, hV⟩ := hA.val
      have hblk : (a.add (k * 3)).block < w.heap.size := blk_lt h0
      have hx : (S.enums[k]'(by rw [HN.out]; exact hlt)).name = nm → fst_ En.name S.enums nm = some (S.enums[k]'(by rw [HN.out]; exact hlt)) := fun e => fst_at (by rw [HN.out]; exact hlt) hI.out e
      have hy : (S.enums[k]'(by rw [HN.out]; exact hlt)).name ≠ nm → ∀ j (hj : j < S.enums.length), j < k + 1 → (S.enums[j]'hj).name ≠ nm := fun e j hj hjk => by
        by_cases hjk2 : j < k
        · exact hI.out j hj hjk2
        · obtain rfl : j = k := by omega
          exact e
      generalize S.enums[k]'(by rw [HN.out]; exact hlt) = t at *
      by_cases e : t.name = nm
      · have E := Lib.hid (hx e)
        clear hx hy hI hA
        subst e
        have q1 := sq_t t.name
        go_wp2_with fail
        exact bodyPost_ret (v := .tuple #[.agg #[.string (bs t.name), .slice A3 t.names.length c3, .slice A4 t.nums.length c4], .bool true]) (by simp [results, Try.results99, go_sem]) rfl (.some_ E.out (hV.next (ab2 _ _ _)) (ab2 _ _ _))
      · have E := Lib.hid (hy e)
        have q1 := sq_f e
        clear hx hy hI hA
        go_wp2_with fail
        go_round
        case rel => exact ⟨k + 1, by omega, by go_num, E⟩
        case measure => simp [intOf]; omega
    · obtain rfl : k = n := by omega
      have E := Lib.hid (show fst_ En.name S.enums nm = none from fst_end fun j hj => hI.out j hj (by rw [← HN.out]; exact hj))
      clear hI
      go_wp2_with fail
      exact bodyPost_ret (v := .tuple #[.agg #[.string ⟨#[]⟩, .slice none 0 0, .slice none 0 0], .bool false]) (by simp [results, Try.results99, go_sem]) rfl (.none_ E.out (ab2 _ _ _))
def fd0 : Fd := ⟨0, [], false, .mk 0 0 [] []⟩
theorem FdV.zero (w : World) : FdV w fd0 (.agg #[.int .i64 0, .string ⟨#[]⟩, .int .i64 0, .int .i64 0, .string ⟨#[]⟩, .slice none 0 0, .bool false]) := ⟨none, 0, rfl, .inl rfl⟩
def FdO (o : Option Fd) (w : World) (e : Ending) (w' : World) : Prop := ∃ v, e = .returned (.tuple #[v, .bool o.isSome]) ∧ FdV w' (o.getD fd0) v ∧ Below w.heap.size w w'
theorem FdO.some_ {o : Option Fd} {w w' : World} {t : Fd} {v : Value} (h : o = some t) (hv : FdV w' t v) (hb : Below w.heap.size w w') : FdO o w (.returned (.tuple #[v, .bool true])) w' := by
  subst h; exact ⟨v, rfl, hv, hb⟩
theorem FdO.none_ {o : Option Fd} {w w' : World} (h : o = none) (hb : Below w.heap.size w w') : FdO o w (.returned (.tuple #[.agg #[.int .i64 0, .string ⟨#[]⟩, .int .i64 0, .int .i64 0, .string ⟨#[]⟩, .slice none 0 0, .bool false], .bool false])) w' := by
  subst h; exact ⟨_, rfl, FdV.zero _, hb⟩
end Go.Proofs.Ytlebppjldoodgaa

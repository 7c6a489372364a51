/-
  The eight bytes of a number in an array.
-/
import Derived.Test.YtcjaaijohapeaaaDoorM05
import Derived.Test.YtcjaaijohapeaaaDoorM04
import Derived.Lib.Overlaps
import Derived.Lib.AppendZerosOnto
import Derived.Laws.CopyRow
import Derived.Laws.CopyOwn
import Derived.Laws.OwnMore
import Derived.Laws.Externs
import Derived.Shelf.Spec.SlicesInsert
import Derived.Shelf.Spec.SlicesInsertGrow
import Derived.Maps.OwnSet
import Derived.Maps.AppendAt
import Derived.OwnWalk
import Derived.Sort.KeysCollected
namespace Go.Proofs.YtcjaaijohapeaaaDoor
open Go.RowKit
/-- The array of eight bytes, the first k of them written. -/
def arr (l : List UInt8) (k : Nat) : Array Value := ((l.take k ++ List.replicate (8 - k) (0 : UInt8)).map fun (b : UInt8) => Value.int .u8 (b.toNat : Int)).toArray
theorem arr_zero (l : List UInt8) : arr l 0 = #[.int .u8 0, .int .u8 0, .int .u8 0, .int .u8 0, .int .u8 0, .int .u8 0, .int .u8 0, .int .u8 0] := rfl
theorem arr_at (l : List UInt8) (k : Nat) (hl : l.length = 8) (hk : k < 8) : (arr l k)[k]? = some (.int .u8 0) := by
  unfold arr
  simp only [List.getElem?_toArray, List.getElem?_map]
  rw [List.getElem?_append_right (by simp; omega)]
  simp [List.length_take, hl, Nat.min_eq_left (show k ≤ 8 by omega), show 0 < 8 - k by omega]
theorem arr_set (l : List UInt8) (k : Nat) (hl : l.length = 8) (hk : k < 8) : (arr l k).setIfInBounds k (.int .u8 ((l[k]'(by omega)).toNat : Int)) = arr l (k + 1) := by
  unfold arr
  apply Array.ext'
  simp only [Array.toList_setIfInBounds]
  apply List.ext_getElem?
  intro i
  rw [List.getElem?_set]
  simp only [List.getElem?_map, List.length_map]
  by_cases hi : k = i
  · subst hi
    rw [if_pos rfl, if_pos (by simp [hl]; omega), List.getElem?_append_left (by simp [hl]; omega)]
    simp [show k < k + 1 by omega, show k < l.length by omega]
  · rw [if_neg hi]
    congr 1
    by_cases h1 : i < k
    · rw [List.getElem?_append_left (by simp [hl]; omega), List.getElem?_append_left (by simp [hl]; omega)]
      simp [h1, show i < k + 1 by omega]
    · rw [List.getElem?_append_right (by simp; omega), List.getElem?_append_right (by simp; omega)]
      simp only [List.length_take, List.getElem?_replicate, hl]
      rw [Nat.min_eq_left (by omega), Nat.min_eq_left (by omega)]
      by_cases h2 : i < 8
      · rw [if_pos (by omega), if_pos (by omega)]
      · rw [if_neg (by omega), if_neg (by omega)]
theorem le_at (k : Nat) : ∀ (n j : Nat) (h : j < (le k n).length), ((le k n)[j]).toNat = n / 256 ^ j % 256 := by
  induction k with
  | zero => intro n j h; simp [le] at h
  | succ k ih =>
    intro n j h
    cases j with
    | zero => simp [le]
    | succ j =>
      simp only [le, List.getElem_cons_succ]
      rw [ih, Nat.div_div_eq_div_mul, Nat.pow_succ, Nat.mul_comm]
theorem le8 (n : Nat) : ∃ b0 b1 b2 b3 b4 b5 b6 b7, le 8 n = [b0, b1, b2, b3, b4, b5, b6, b7] := ⟨_, _, _, _, _, _, _, _, rfl⟩
/-- Eight bytes as an array's value. -/
def arr8 (l : List UInt8) : Value := .agg (bcells l).toArray
set_option maxRecDepth 100000 in
theorem bytesOf_any (n : Nat) (w : World) :
    Calls Tryd.prog 71 #[.int .u64 (n : Int)] w (Ib (arr8 (le 8 n)) w) := by
  have hl : (le 8 n).length = 8 := le_length 8 n
  go_enter Tryd.func71, Tryd.ntmps71
  go_wp2_with fail
  go_loopw [5] (fun i wr => ∃ k : Nat, k ≤ 8 ∧ i = .int .i64 (k : Int) ∧ wr = (w.alloc (Obj.cells (arr (le 8 n) 0) 136)).alloc (Obj.cells (arr (le 8 n) k) 136)) (fun i _ => 8 - (intOf i).toNat)
  case atStart => exact ⟨0, by omega, rfl, rfl⟩
  case round =>
    obtain ⟨k, hk, rfl, rfl⟩ := hrel
    by_cases hlt : k < 8
    · have hc := arr_at (le 8 n) k hl hlt
      have hs := arr_set (le 8 n) k hl hlt
      rw [le_at, show 256 ^ k = 2 ^ (8 * k) by rw [Nat.pow_mul]] at hs
      simp only [Int.natCast_emod, Int.natCast_ediv, Int.natCast_pow] at hs
      go_wp2_with fail
      go_roundw
      case rel => exact ⟨k + 1, by omega, by go_num, by rw [← hs]; rfl⟩
      case measure => simp [intOf]; omega
    · obtain rfl : k = 8 := by omega
      obtain ⟨b0, b1, b2, b3, b4, b5, b6, b7, hb⟩ := le8 n
      rw [hb, arr_zero, show arr [b0, b1, b2, b3, b4, b5, b6, b7] 8 = #[.int .u8 (b0.toNat : Int), .int .u8 (b1.toNat : Int), .int .u8 (b2.toNat : Int), .int .u8 (b3.toNat : Int), .int .u8 (b4.toNat : Int), .int .u8 (b5.toNat : Int), .int .u8 (b6.toNat : Int), .int .u8 (b7.toNat : Int)] from rfl]
      have HB := Lib.hid hb
      clear hb hl
      go_wp2_with fail
      refine bodyPost_ret (results_cell_row rfl _ _ w.heap.size _ _ _ _ rfl (heap_alloc2_old w _ _) Tryd.underlying136 rfl (by kernel_rfl)) rfl ?_
      exact ⟨by rw [HB.out]; rfl, ((Below.refl _ w).alloc (Nat.le_refl _) _).alloc (by simp) _⟩
end Go.Proofs.YtcjaaijohapeaaaDoor
/-
  Chain, Seal, Open and their references. The tables of utf8 as the program laid them.
-/
namespace Go.Proofs.YtcjaaijohapeaaaDoor
open Go.RowKit
/-- What a chain hashes. -/
def lk (p : Nat) (l : List UInt8) : List UInt8 := le 8 p ++ (le 8 l.length ++ l)
/-- A slice of bytes that lie in an array, as a string. -/
theorem arr_str {w : World} {g T n : Nat} {l : List UInt8} (c : Nat) (h : w.heap[g]? = some (Obj.cells (bcells l).toArray T)) (hn : n ≤ l.length) :
    (convert 68 9 (.slice (some ⟨g, 0, none⟩) n c)).run Tryd.prog w = .ok (.string (bs (l.take n))) w := by
  obtain ⟨m, hm⟩ : ∃ m, l.take n = m := ⟨_, rfl⟩
  have hl : m.length = n := by rw [← hm, List.length_take]; omega
  rw [hm, ← hl]
  refine run_convert_bytes_back w 68 9 5 ⟨g, 0, none⟩ c m Tryd.underlying68 Tryd.underlying5 Tryd.underlying9 fun j hj => ?_
  rw [show (⟨g, 0, none⟩ : Addr).add j = ⟨g, j, none⟩ by simp [Addr.add]; exact Eq.symm]
  have e : m[j] = l[j]'(by omega) := by subst hm; simp
  simp [World.cell?, h, bcells, e, show j < l.length by omega]
/-- A sealed string. -/
def seal_ (l : List UInt8) : List UInt8 := le 4 (crc l) ++ l
theorem seal_length (l : List UInt8) : (seal_ l).length = 4 + l.length := by simp [seal_, le_length]
set_option maxRecDepth 100000 in
theorem refSeal_any (l : List UInt8) (w : World) (hs : l.length ≤ 1000000000000000) :
    Calls Tryd.prog 40 #[.string (bs l)] w (Ib (.string (bs (seal_ l))) w) := by
  have hsz : (bs l).size = l.length := rfl
  have c1 := fun W => refCrc_any l W (by omega)
  have hc := crc_lt l
  have c2 := fun W => refBytes_any (crc l) 4 W (by omega) (by omega) (by omega)
  unfold seal_
  obtain ⟨c, hc1⟩ : ∃ c, crc l = c := ⟨_, rfl⟩
  rw [hc1] at c1 c2 hc ⊢
  obtain ⟨x, hx⟩ : ∃ x, le 4 c = x := ⟨_, rfl⟩
  have hx8 : x.length = 4 := by rw [← hx]; exact le_length 4 c
  rw [hx] at c2 ⊢
  have z1 : (bs x).size = 4 := hx8
  have a1 := bs_append x l
  have l0 : IntKind.u64.wrap (c : Int) = (c : Int) := by rw [IntKind.wrap_u64]; omega
  clear hx hx8 hc1
  go_enter Tryd.func40, Tryd.ntmps40
  go_wp2_with fail
  refine (c1 _).mono ?_
  rintro e w1 ⟨rfl, rfl⟩
  go_wp2_with fail
  refine (c2 _).mono ?_
  rintro e w2 ⟨rfl, hb2⟩
  go_wp2_with fail
  go_ret
  exact ⟨rfl, hb2⟩
set_option maxRecDepth 100000 in
theorem seal_any (l : List UInt8) (w : World) (hs : l.length ≤ 1000000000000000) (hT : Tabs w) :
    Calls Tryd.prog 38 #[.string (bs l)] w (Ib (.string (bs (seal_ l))) w) := by
  have hsz : (bs l).size = l.length := rfl
  have c1 := crc_any l w (by omega) hT
  have hc := crc_lt l
  have c2 := fun W => bytesOf_any (crc l) W
  unfold seal_
  obtain ⟨c, hc1⟩ : ∃ c, crc l = c := ⟨_, rfl⟩
  rw [hc1] at c1 c2 hc ⊢
  have e4 : le 4 c = (le 8 c).take 4 := rfl
  rw [e4]
  obtain ⟨b0, b1, b2, b3, b4, b5, b6, b7, hb⟩ := le8 c
  rw [hb] at c2 ⊢
  have l0 : IntKind.u64.wrap (c : Int) = (c : Int) := by rw [IntKind.wrap_u64]; omega
  have ex : arr8 [b0, b1, b2, b3, b4, b5, b6, b7] = .agg #[.int .u8 (b0.toNat : Int), .int .u8 (b1.toNat : Int), .int .u8 (b2.toNat : Int), .int .u8 (b3.toNat : Int), .int .u8 (b4.toNat : Int), .int .u8 (b5.toNat : Int), .int .u8 (b6.toNat : Int), .int .u8 (b7.toNat : Int)] := rfl
  rw [ex] at c2
  have cv : ∀ w2 : World, _ := fun w2 => arr_str (w := w2.alloc (Obj.cells (bcells [b0, b1, b2, b3, b4, b5, b6, b7]).toArray 136)) (g := w2.heap.size) (n := 4) 8 (heap_alloc_new _ _) (by simp)
  obtain ⟨x, hx⟩ : ∃ x, [b0, b1, b2, b3, b4, b5, b6, b7].take 4 = x := ⟨_, rfl⟩
  have z1 : (bs x).size = 4 := by rw [← hx]; rfl
  rw [hx] at cv ⊢
  simp only [show (bcells [b0, b1, b2, b3, b4, b5, b6, b7]).toArray = #[.int .u8 (b0.toNat : Int), .int .u8 (b1.toNat : Int), .int .u8 (b2.toNat : Int), .int .u8 (b3.toNat : Int), .int .u8 (b4.toNat : Int), .int .u8 (b5.toNat : Int), .int .u8 (b6.toNat : Int), .int .u8 (b7.toNat : Int)] from rfl] at cv
  have a1 := bs_append x l
  clear hx hc1 ex hb e4
  go_enter Tryd.func38, Tryd.ntmps38
  go_wp2_with fail
  refine c1.mono ?_
  rintro e w1 ⟨rfl, hb1⟩
  go_wp2_with fail
  refine (c2 _).mono ?_
  rintro e w2 ⟨rfl, hb2⟩
  go_wp2_with fail
  go_ret
  exact ⟨rfl, (Below.next hb1 hb2).alloc (Below.next hb1 hb2).size _⟩
theorem str_ne {q l : List UInt8} (h : q ≠ l) : ((bs q).toList == (bs l).toList) = false := by rw [toList_bs, toList_bs]; simpa using h
theorem str_eq (l : List UInt8) : ((bs l).toList == (bs l).toList) = true := by simp
/-- What Open returns. -/
def opn (l : List UInt8) : List UInt8 × Nat := if l.length < 4 then ([], 1) else if seal_ (l.drop 4) = l then (l.drop 4, 0) else ([], 11)
set_option maxRecDepth 100000 in
theorem open_any (l : List UInt8) (w : World) (hs : l.length ≤ 1000000000000000) (hT : Tabs w) :
    Calls Tryd.prog 33 #[.string (bs l)] w (Ib (.tuple #[.string (bs (opn l).1), .int .i64 ((opn l).2 : Int)]) w) := by
  have hsz : (bs l).size = l.length := rfl
  have hn0 : (⟨#[]⟩ : ByteArray) = bs [] := rfl
  unfold opn
  by_cases h4 : l.length < 4
  · rw [if_pos h4]
    go_enter Tryd.func33, Tryd.ntmps33
    go_wp2_with fail
    go_ret2
    exact ⟨rfl, Below.refl _ _⟩
  · rw [if_neg h4]
    have hsl := bs_drop l 4 l.length (Nat.le_refl _)
    have c1 := seal_any (l.drop 4) w (by rw [List.length_drop]; omega) hT
    obtain ⟨m, hm⟩ : ∃ m, l.drop 4 = m := ⟨_, rfl⟩
    rw [hm] at hsl c1 ⊢
    obtain ⟨q, hq⟩ : ∃ q, seal_ m = q := ⟨_, rfl⟩
    rw [hq] at c1 ⊢
    clear hm hq
    by_cases he : q = l
    · rw [if_pos he]
      subst he
      go_enter Tryd.func33, Tryd.ntmps33
      go_wp2_with fail
      refine c1.mono ?_
      rintro e w1 ⟨rfl, hb1⟩
      go_wp2_with fail
      go_ret2
      exact ⟨rfl, hb1⟩
    · rw [if_neg he]
      have hne := str_ne he
      clear he
      go_enter Tryd.func33, Tryd.ntmps33
      go_wp2_with fail
      refine c1.mono ?_
      rintro e w1 ⟨rfl, hb1⟩
      go_wp2_with fail
      go_ret2
      exact ⟨rfl, hb1⟩
set_option maxRecDepth 100000 in
theorem refOpen_any (l : List UInt8) (w : World) (hs : l.length ≤ 1000000000000000) :
    Calls Tryd.prog 43 #[.string (bs l)] w (Ib (.tuple #[.string (bs (opn l).1), .int .i64 ((opn l).2 : Int)]) w) := by
  have hsz : (bs l).size = l.length := rfl
  have hn0 : (⟨#[]⟩ : ByteArray) = bs [] := rfl
  unfold opn
  by_cases h4 : l.length < 4
  · rw [if_pos h4]
    go_enter Tryd.func43, Tryd.ntmps43
    go_wp2_with fail
    go_ret2
    exact ⟨rfl, Below.refl _ _⟩
  · rw [if_neg h4]
    have hsl := bs_drop l 4 l.length (Nat.le_refl _)
    have c1 := refSeal_any (l.drop 4) w (by rw [List.length_drop]; omega)
    obtain ⟨m, hm⟩ : ∃ m, l.drop 4 = m := ⟨_, rfl⟩
    rw [hm] at hsl c1 ⊢
    obtain ⟨q, hq⟩ : ∃ q, seal_ m = q := ⟨_, rfl⟩
    rw [hq] at c1 ⊢
    clear hm hq
    by_cases he : q = l
    · rw [if_pos he]
      subst he
      go_enter Tryd.func43, Tryd.ntmps43
      go_wp2_with fail
      refine c1.mono ?_
      rintro e w1 ⟨rfl, hb1⟩
      go_wp2_with fail
      go_ret2
      exact ⟨rfl, hb1⟩
    · rw [if_neg he]
      have hne := str_ne he
      clear he
      go_enter Tryd.func43, Tryd.ntmps43
      go_wp2_with fail
      refine c1.mono ?_
      rintro e w1 ⟨rfl, hb1⟩
      go_wp2_with fail
      go_ret2
      exact ⟨rfl, hb1⟩
end Go.Proofs.YtcjaaijohapeaaaDoor
/-
  Variables of several cells; rows that a call owns; copies between rows of elements of several cells. No conditions beyond those that each names.
-/
namespace Go.Proofs.YtcjaaijohapeaaaDoor
open Go.RowKit Go.Shelf
theorem blk_add (a : Addr) (i : Nat) : (a.add i).block = a.block := by unfold Addr.add; split <;> rfl
theorem blk_lt {w : World} {p : Addr} {v : Value} (h : w.cell? p = some v) : p.block < w.heap.size := World.block_lt_of_cell? w p h
theorem cell_next {w w' : World} (hb : Below w.heap.size w w') {p : Addr} {v : Value} (h : w.cell? p = some v) : w'.cell? p = some v := (hb.cell (blk_lt h)).trans h
/-- A variable of several cells at block b. -/
structure Bx (w : World) (b : Nat) (vs : List Value) : Prop where
  lt : b < w.heap.size
  at_ : ∀ j v, vs[j]? = some v → w.cell? ⟨b, j, none⟩ = some v ∧ w.frozen? ⟨b, j, none⟩ = false
theorem Bx.next {w w' : World} {b : Nat} {vs : List Value} (h : Bx w b vs) (hb : Below w.heap.size w w') : Bx w' b vs :=
  ⟨Nat.lt_of_lt_of_le h.lt hb.size, fun j v e => ⟨(hb.cell h.lt).trans (h.at_ j v e).1, (hb.frozen h.lt).trans (h.at_ j v e).2⟩⟩
theorem Bx.c {w : World} {b : Nat} {vs : List Value} (h : Bx w b vs) (j : Nat) {v : Value} (e : vs[j]? = some v) : w.cell? ⟨b, j, none⟩ = some v := (h.at_ j v e).1
theorem Bx.f {w : World} {b : Nat} {vs : List Value} (h : Bx w b vs) (j : Nat) {v : Value} (e : vs[j]? = some v) : w.frozen? ⟨b, j, none⟩ = false := (h.at_ j v e).2
theorem Bx.new1 (w : World) (t : TypeId) (x : Value) : Bx (w.alloc (Obj.cells #[x] t)) w.heap.size [x] :=
  ⟨by simp, fun j v e => by
    match j, e with
    | 0, e => cases e; exact ⟨by simp, by simp⟩⟩
theorem Bx.new2 (w : World) (t : TypeId) (x y : Value) : Bx (w.alloc (Obj.cells #[x, y] t)) w.heap.size [x, y] :=
  ⟨by simp, fun j v e => by
    match j, e with
    | 0, e => cases e; exact ⟨by simp, by simp⟩
    | 1, e => cases e; exact ⟨by simp, by simp⟩⟩
theorem Bx.new3 (w : World) (t : TypeId) (x y z : Value) : Bx (w.alloc (Obj.cells #[x, y, z] t)) w.heap.size [x, y, z] :=
  ⟨by simp, fun j v e => by
    match j, e with
    | 0, e => cases e; exact ⟨by simp, by simp⟩
    | 1, e => cases e; exact ⟨by simp, by simp⟩
    | 2, e => cases e; exact ⟨by simp, by simp⟩⟩
theorem ab1 (w : World) (o : Obj) : Below w.heap.size w (w.alloc o) := (Below.refl _ _).alloc (Nat.le_refl _) o
theorem ab2 (w : World) (o p : Obj) : Below w.heap.size w ((w.alloc o).alloc p) := (ab1 w o).alloc (by simp) p
theorem ab3 (w : World) (o p q : Obj) : Below w.heap.size w (((w.alloc o).alloc p).alloc q) := (ab2 w o p).alloc (by simp; omega) q
theorem Bx.put1 {w : World} {b : Nat} {vs : List Value} (h : Bx w b vs) (j : Nat) (v : Value) : Bx (w.setCell ⟨b, j, none⟩ v) b (vs.set j v) := by
  refine ⟨by simp; exact h.lt, fun i u e => ?_⟩
  have fr : (w.setCell ⟨b, j, none⟩ v).frozen? ⟨b, i, none⟩ = w.frozen? ⟨b, i, none⟩ := by simp
  rw [fr]
  by_cases hij : j = i
  · subst hij
    have hl : j < vs.length := by
      have := (List.getElem?_eq_some_iff.1 e).1
      simpa using this
    rw [List.getElem?_set_self hl] at e
    cases e
    have h1 := h.at_ j _ (List.getElem?_eq_getElem hl)
    exact ⟨World.cell?_setCell_same (h := h1.1) .., h1.2⟩
  · rw [List.getElem?_set_ne hij] at e
    have nn : (⟨b, j, none⟩ : Addr) ≠ ⟨b, i, none⟩ := fun e => hij (by injection e)
    exact ⟨(World.cell?_setCell_other (h := nn) ..).trans (h.at_ i u e).1, (h.at_ i u e).2⟩
theorem Bx.put2 {w : World} {b : Nat} {x y : Value} (h : Bx w b [x, y]) (x' y' : Value) : Bx ((w.setCell ⟨b, 0, none⟩ x').setCell ⟨b, 1, none⟩ y') b [x', y'] := (h.put1 0 x').put1 1 y'
theorem Bx.put3 {w : World} {b : Nat} {x y z : Value} (h : Bx w b [x, y, z]) (x' y' z' : Value) : Bx (((w.setCell ⟨b, 0, none⟩ x').setCell ⟨b, 1, none⟩ y').setCell ⟨b, 2, none⟩ z') b [x', y', z'] := ((h.put1 0 x').put1 1 y').put1 2 z'
theorem gb_set1 (w : World) (p : Addr) (u : Value) : w.grownBy (w.setCell p u) (some p.block) :=
  have b := Below.setCell (Below.refl 0 w) (Nat.zero_le p.block) u
  ⟨b.os, b.tape, b.output, b.size, fun i _ hne => Below.heap_setCell w p u i (fun e => hne (by rw [e]))⟩
theorem gb_set2 (w : World) (b : Nat) (x y : Value) : w.grownBy ((w.setCell ⟨b, 0, none⟩ x).setCell ⟨b, 1, none⟩ y) (some b) := (gb_set1 w ⟨b, 0, none⟩ x).trans (gb_set1 _ ⟨b, 1, none⟩ y)
theorem gb_set3 (w : World) (b : Nat) (x y z : Value) : w.grownBy (((w.setCell ⟨b, 0, none⟩ x).setCell ⟨b, 1, none⟩ y).setCell ⟨b, 2, none⟩ z) (some b) := (gb_set2 w b x y).trans (gb_set1 _ ⟨b, 2, none⟩ z)
theorem gbq_of {w w' : World} (hb : Below w.heap.size w w') (row : Option Nat) : w.grownBy w' row := ⟨hb.os, hb.tape, hb.output, hb.size, fun i hi _ => hb.block i hi⟩
theorem own_next {w w' : World} {base : Nat} {e : TypeId} {z n : Nat} {v : Value} {xs : List Value} (h : w.ownsRow base e z v n xs) (hb : Below w.heap.size w w') : w'.ownsRow base e z v n xs := by
  cases hv : v.ownBlock with
  | none => exact h.kept (gbq_of hb none) (.inl hv)
  | some g => exact h.kept (gbq_of hb none) (.inr (by rw [hv]; simp))
theorem own_mono {w : World} {base base' : Nat} {e : TypeId} {z n : Nat} {v : Value} {xs : List Value} (h : w.ownsRow base e z v n xs) (hb : base' ≤ base) : w.ownsRow base' e z v n xs := by
  refine ⟨h.1, ?_⟩
  rcases h.2 with h1 | ⟨g, cap, cur, h1, h2, h3⟩
  · exact .inl h1
  · exact .inr ⟨g, cap, cur, h1, Nat.le_trans hb h2, h3⟩
theorem spot_none0 {w : World} {a : Addr} {v : Value} (h : w.cell? a = some v) : a.spot = none := by
  unfold World.cell? at h
  split at h
  · split at h
    · cases h
    · rename_i h1; simpa using h1
  · cases h
theorem own_some {w : World} {base : Nat} {e : TypeId} {z n d : Nat} {B : Option Addr} {xs : List Value} (h : w.ownsRow base e z (.slice B n d) n xs) (hn : n ≠ 0) : ∃ g, B = some ⟨g, 0, none⟩ := by
  rcases h.2 with ⟨-, h⟩ | ⟨g, cap, cur, h, -⟩
  · exact absurd h hn
  · injection h with h; exact ⟨g, h⟩
theorem run_copy_rowN {P : Program} (w : World) (dT sT ty elem : TypeId) (z : Nat) (g o dLen dCap : Nat) (a : Addr) (sLen sCap : Nat) (cur : Array Value) (t : TypeId) (cs : List Value)
    (hu : P.underlying dT = some (.slice elem)) (hs : (P.info? elem).map (·.size) = some z) (hg : w.heap[g]? = some (.cells cur t (0, 0))) (hn : cs.length = Nat.min sLen dLen * z)
    (hsrc : ∀ j v, cs[j]? = some v → w.cell? (a.add j) = some v) (hfit : o + cs.length ≤ cur.size) (h1 : ∀ v ∈ cs, v.oneCell' = true) :
    (Builtin.copy_ #[dT, sT] ty #[.slice (some ⟨g, o, none⟩) dLen dCap, .slice (some a) sLen sCap]).run P w =
      .ok (goInt (Nat.min sLen dLen)) (w.setRow g (cur.toList.take o ++ cs ++ cur.toList.drop (o + cs.length)).toArray) := by
  have hl := run_loadCells_list (P := P) w a cs hsrc
  have hst := run_storeCells_at P g o t cs 0 cur w hg (by simpa using hfit) h1
  cases hq : P.info? elem with
  | none => simp [hq] at hs
  | some i =>
    have hi : i.size = z := by simpa [hq] using hs
    simp [Builtin.copy_, run_underlying hu, Builtin.lenOf, Builtin.firstCells, sizeOf, typeInfo, hq, hi, ← hn, hl, hst]
theorem cell_lit {w : World} {g j : Nat} {cur : Array Value} {t : TypeId} {fr : Nat × Nat} (hg : w.heap[g]? = some (.cells cur t fr)) : w.cell? ⟨g, j, none⟩ = cur[j]? := by
  simp [World.cell?, hg]
theorem shape_lit {w : World} {g : Nat} {cur : Array Value} {t : TypeId} {fr : Nat × Nat} (hg : w.heap[g]? = some (.cells cur t fr)) : w.shape? g = some (t, cur.size) := by
  simp [World.shape?, hg]
theorem frozen_lit {w : World} {g j : Nat} {cur : Array Value} {t : TypeId} (hg : w.heap[g]? = some (.cells cur t (0, 0))) : w.frozen? ⟨g, j, none⟩ = false := by
  simp [World.frozen?, hg]
theorem gb_setRow (w : World) (b : Nat) (cs : Array Value) : w.grownBy (w.setRow b cs) (some b) := ⟨rfl, rfl, rfl, by simp [World.setRow], fun i _ h => setRow_other w b i cs (fun e => h (by rw [e]))⟩
/-- One element of z cells put ahead of another: the row as two copies leave it. -/
theorem splice2 {L xs X : List Value} {z n d i : Nat} (hL : L.length = d * z) (hx : L.take (n * z) = xs) (hi : i < n) (hd : n + 1 ≤ d) (hX : X.length = z) :
    ∃ R, ((L.take ((i + 1) * z) ++ xs.drop (i * z) ++ L.drop ((i + 1) * z + (xs.drop (i * z)).length)).take (i * z) ++ X ++ (L.take ((i + 1) * z) ++ xs.drop (i * z) ++ L.drop ((i + 1) * z + (xs.drop (i * z)).length)).drop (i * z + X.length)) = xs.take (i * z) ++ X ++ xs.drop (i * z) ++ R ∧ (xs.take (i * z) ++ X ++ xs.drop (i * z)).length = (n + 1) * z ∧ R.length = d * z - (n + 1) * z := by
  have hm : (i + 1) * z = i * z + z := by rw [Nat.add_mul, Nat.one_mul]
  have hm2 : (n + 1) * z = n * z + z := by rw [Nat.add_mul, Nat.one_mul]
  have h1 : (i + 1) * z ≤ n * z := Nat.mul_le_mul_right z hi
  have h2 : (n + 1) * z ≤ d * z := Nat.mul_le_mul_right z hd
  have hxl : xs.length = n * z := by rw [← hx, List.length_take, hL]; omega
  have h3 : (L.take ((i + 1) * z)).length = i * z + z := by rw [List.length_take, hL]; omega
  refine ⟨L.drop ((i + 1) * z + (xs.drop (i * z)).length), ?_, ?_, ?_⟩
  · have e1 : (L.take ((i + 1) * z) ++ xs.drop (i * z) ++ L.drop ((i + 1) * z + (xs.drop (i * z)).length)).take (i * z) = xs.take (i * z) := by
      rw [List.append_assoc, List.take_append_of_le_length (by rw [h3]; omega), List.take_take, Nat.min_eq_left (by omega), ← hx, List.take_take, Nat.min_eq_left (by omega)]
    have e2 : (L.take ((i + 1) * z) ++ xs.drop (i * z) ++ L.drop ((i + 1) * z + (xs.drop (i * z)).length)).drop (i * z + X.length) = xs.drop (i * z) ++ L.drop ((i + 1) * z + (xs.drop (i * z)).length) := by
      rw [List.append_assoc, List.drop_append, List.drop_eq_nil_of_le (by rw [h3, hX]; omega), h3, hX, Nat.sub_self, List.drop_zero, List.nil_append]
    rw [e1, e2, ← List.append_assoc]
  · rw [List.length_append, List.length_append, List.length_take, List.length_drop, hxl, hX]; omega
  · rw [List.length_drop, List.length_drop, hL, hxl]; omega
theorem take_get {α : Type} {l : List α} {m k : Nat} {v : α} (h : (l.take m)[k]? = some v) : l[k]? = some v := by
  rw [List.getElem?_take] at h
  split at h
  · exact h
  · cases h
theorem heap_newI (w : World) (o : Obj) : (w.alloc o).heap[w.heap.size]? = some o := by
  rw [show (w.alloc o).heap = w.heap.push o from rfl]
  exact Array.getElem?_push_size
theorem zc_size (z : Array Value) (n : Nat) : (Builtin.zeroCells z n).size = n * z.size := by simp [Builtin.zeroCells]
/-- One element put ahead of another in a new row. -/
theorem splice3 {L xs X : List Value} {z n d i : Nat} (hL : L.length = d * z) (hx : L.take (i * z) = xs.take (i * z)) (hxl : xs.length = n * z) (hi : i < n) (hd : n + 1 ≤ d) (hX : X.length = z) :
    ∃ R, ((L.take (i * z) ++ X ++ L.drop (i * z + X.length)).take ((i + 1) * z) ++ xs.drop (i * z) ++ (L.take (i * z) ++ X ++ L.drop (i * z + X.length)).drop ((i + 1) * z + (xs.drop (i * z)).length)) = xs.take (i * z) ++ X ++ xs.drop (i * z) ++ R ∧ (xs.take (i * z) ++ X ++ xs.drop (i * z)).length = (n + 1) * z ∧ R.length = d * z - (n + 1) * z ∧ (L.take (i * z) ++ X ++ L.drop (i * z + X.length)).length = d * z := by
  have hm : (i + 1) * z = i * z + z := by rw [Nat.add_mul, Nat.one_mul]
  have hm2 : (n + 1) * z = n * z + z := by rw [Nat.add_mul, Nat.one_mul]
  have h1 : (i + 1) * z ≤ n * z := Nat.mul_le_mul_right z hi
  have h2 : (n + 1) * z ≤ d * z := Nat.mul_le_mul_right z hd
  have h3 : (xs.take (i * z) ++ X).length = i * z + z := by rw [List.length_append, List.length_take, hxl, hX]; omega
  have h4 : (L.take (i * z) ++ X ++ L.drop (i * z + X.length)).length = d * z := by rw [List.length_append, List.length_append, List.length_take, List.length_drop, hL, hX]; omega
  refine ⟨(L.take (i * z) ++ X ++ L.drop (i * z + X.length)).drop ((i + 1) * z + (xs.drop (i * z)).length), ?_, ?_, ?_, h4⟩
  · have e : (L.take (i * z) ++ X ++ L.drop (i * z + X.length)).take ((i + 1) * z) = xs.take (i * z) ++ X := by
      rw [hx, hm, List.take_append_of_le_length (by rw [h3]; exact Nat.le_refl _), List.take_of_length_le (by rw [h3]; exact Nat.le_refl _)]
    rw [e]
  · rw [List.length_append, h3, List.length_drop, hxl]; omega
  · rw [List.length_drop, h4, List.length_drop, hxl]; omega
theorem run_clear_rowN {P : Program} (w : World) (t ty e : TypeId) (i : TypeInfo) (z : Value) (b o k c : Nat) (cur : Array Value) (e' : TypeId) (hu : P.underlying t = some (.slice e)) (hi : P.info? e = some i) (hz : i.zero = some z) (hg : w.heap[b]? = some (.cells cur e' (0, 0))) (hk : 0 < k)
    (hfit : o + k * z.cells.size ≤ cur.size) (h1 : ∀ u ∈ (Builtin.zeroCells z.cells k).toList, u.oneCell' = true) :
    (Builtin.clear_ #[t] ty #[.slice (some ⟨b, o, none⟩) k c]).run P w = .ok (.tuple #[]) (w.setRow b (cur.toList.take o ++ (Builtin.zeroCells z.cells k).toList ++ cur.toList.drop (o + (Builtin.zeroCells z.cells k).toList.length)).toArray) := by
  have hst := run_storeCells_at P b o e' (Builtin.zeroCells z.cells k).toList 0 cur w hg (by rw [Nat.add_zero, Array.length_toList, zc_size]; exact hfit) h1
  obtain ⟨k', rfl⟩ : ∃ k', k = k' + 1 := ⟨k - 1, by omega⟩
  rw [Nat.add_zero] at hst
  simp [Builtin.clear_, run_underlying hu, zeroValue, typeInfo, hi, hz, hst]
end Go.Proofs.YtcjaaijohapeaaaDoor

/-
  Chain, Seal, Open and their references. The tables of utf8 as the program laid them.
-/
import Derived.Test.YtcjaaijohapeaaaDoorEf
import Derived.Test.YtcjaaijohapeaaaDoorEd
import Derived.Test.YtcjaaijohapeaaaDoorLr
namespace Go.Proofs.YtcjaaijohapeaaaDoor
open Go.RowKit
/-- What a chain hashes. -/
def lk (p : Nat) (l : List UInt8) : List UInt8 := le 8 p ++ (le 8 l.length ++ l)
/-- A slice of bytes that lie in an array, as a string. -/
theorem arr_str {w : World} {g T n : Nat} {l : List UInt8} (c : Nat) (h : w.heap[g]? = some (Obj.cells (bcells l).toArray T)) (hn : n ≤ l.length) :
    (convert 68 9 (.slice (some ⟨g, 0, none⟩) n c)).run Tryd.prog w = .ok (.string (bs (l.take n))) w := by
  obtain ⟨m, hm⟩ : ∃ m, l.take n = m := ⟨_, rfl⟩
  have hl : m.length = n := by rw [← hm, List.length_take]; omega
  rw [hm, ← hl]
  refine run_convert_bytes_back w 68 9 5 ⟨g, 0, none⟩ c m Tryd.underlying68 Tryd.underlying5 Tryd.underlying9 fun j hj => ?_
  rw [show (⟨g, 0, none⟩ : Addr).add j = ⟨g, j, none⟩ by simp [Addr.add]; exact Eq.symm]
  have e : m[j] = l[j]'(by omega) := by subst hm; simp
  simp [World.cell?, h, bcells, e, show j < l.length by omega]
/-- A sealed string. -/
def seal_ (l : List UInt8) : List UInt8 := le 4 (crc l) ++ l
theorem seal_length (l : List UInt8) : (seal_ l).length = 4 + l.length := by simp [seal_, le_length]
set_option maxRecDepth 100000 in
theorem refSeal_any (l : List UInt8) (w : World) (hs : l.length ≤ 1000000000000000) :
    Calls Tryd.prog 40 #[.string (bs l)] w (Ib (.string (bs (seal_ l))) w) := by
  have hsz : (bs l).size = l.length := rfl
  have c1 := fun W => refCrc_any l W (by omega)
  have hc := crc_lt l
  have c2 := fun W => refBytes_any (crc l) 4 W (by omega) (by omega) (by omega)
  unfold seal_
  obtain ⟨c, hc1⟩ : ∃ c, crc l = c := ⟨_, rfl⟩
  rw [hc1] at c1 c2 hc ⊢
  obtain ⟨x, hx⟩ : ∃ x, le 4 c = x := ⟨_, rfl⟩
  have hx8 : x.length = 4 := by rw [← hx]; exact le_length 4 c
  rw [hx] at c2 ⊢
  have z1 : (bs x).size = 4 := hx8
  have a1 := bs_append x l
  have l0 : IntKind.u64.wrap (c : Int) = (c : Int) := by rw [IntKind.wrap_u64]; omega
  clear hx hx8 hc1
  go_enter Tryd.func40, Tryd.ntmps40
  go_wp2_with fail
  refine (c1 _).mono ?_
  rintro e w1 ⟨rfl, rfl⟩
  go_wp2_with fail
  refine (c2 _).mono ?_
  rintro e w2 ⟨rfl, hb2⟩
  go_wp2_with fail
  go_ret
  exact ⟨rfl, hb2⟩
set_option maxRecDepth 100000 in
theorem seal_any (l : List UInt8) (w : World) (hs : l.length ≤ 1000000000000000) (hT : Tabs w) :
    Calls Tryd.prog 38 #[.string (bs l)] w (Ib (.string (bs (seal_ l))) w) := by
  have hsz : (bs l).size = l.length := rfl
  have c1 := crc_any l w (by omega) hT
  have hc := crc_lt l
  have c2 := fun W => bytesOf_any (crc l) W
  unfold seal_
  obtain ⟨c, hc1⟩ : ∃ c, crc l = c := ⟨_, rfl⟩
  rw [hc1] at c1 c2 hc ⊢
  have e4 : le 4 c = (le 8 c).take 4 := rfl
  rw [e4]
  obtain ⟨b0, b1, b2, b3, b4, b5, b6, b7, hb⟩ := le8 c
  rw [hb] at c2 ⊢
  have l0 : IntKind.u64.wrap (c : Int) = (c : Int) := by rw [IntKind.wrap_u64]; omega
  have ex : arr8 [b0, b1, b2, b3, b4, b5, b6, b7] = .agg #[.int .u8 (b0.toNat : Int), .int .u8 (b1.toNat : Int), .int .u8 (b2.toNat : Int), .int .u8 (b3.toNat : Int), .int .u8 (b4.toNat : Int), .int .u8 (b5.toNat : Int), .int .u8 (b6.toNat : Int), .int .u8 (b7.toNat : Int)] := rfl
  rw [ex] at c2
  have cv : ∀ w2 : World, _ := fun w2 => arr_str (w := w2.alloc (Obj.cells (bcells [b0, b1, b2, b3, b4, b5, b6, b7]).toArray 136)) (g := w2.heap.size) (n := 4) 8 (heap_alloc_new _ _) (by simp)
  obtain ⟨x, hx⟩ : ∃ x, [b0, b1, b2, b3, b4, b5, b6, b7].take 4 = x := ⟨_, rfl⟩
  have z1 : (bs x).size = 4 := by rw [← hx]; rfl
  rw [hx] at cv ⊢
  simp only [show (bcells [b0, b1, b2, b3, b4, b5, b6, b7]).toArray = #[.int .u8 (b0.toNat : Int), .int .u8 (b1.toNat : Int), .int .u8 (b2.toNat : Int), .int .u8 (b3.toNat : Int), .int .u8 (b4.toNat : Int), .int .u8 (b5.toNat : Int), .int .u8 (b6.toNat : Int), .int .u8 (b7.toNat : Int)] from rfl] at cv
  have a1 := bs_append x l
  clear hx hc1 ex hb e4
  go_enter Tryd.func38, Tryd.ntmps38
  go_wp2_with fail
  refine c1.mono ?_
  rintro e w1 ⟨rfl, hb1⟩
  go_wp2_with fail
  refine (c2 _).mono ?_
  rintro e w2 ⟨rfl, hb2⟩
  go_wp2_with fail
  go_ret
  exact ⟨rfl, (Below.next hb1 hb2).alloc (Below.next hb1 hb2).size _⟩
theorem str_ne {q l : List UInt8} (h : q ≠ l) : ((bs q).toList == (bs l).toList) = false := by rw [toList_bs, toList_bs]; simpa using h
theorem str_eq (l : List UInt8) : ((bs l).toList == (bs l).toList) = true := by simp
/-- What Open returns. -/
def opn (l : List UInt8) : List UInt8 × Nat := if l.length < 4 then ([], 1) else if seal_ (l.drop 4) = l then (l.drop 4, 0) else ([], 11)
set_option maxRecDepth 100000 in
theorem open_any (l : List UInt8) (w : World) (hs : l.length ≤ 1000000000000000) (hT : Tabs w) :
    Calls Tryd.prog 33 #[.string (bs l)] w (Ib (.tuple #[.string (bs (opn l).1), .int .i64 ((opn l).2 : Int)]) w) := by
  have hsz : (bs l).size = l.length := rfl
  have hn0 : (⟨#[]⟩ : ByteArray) = bs [] := rfl
  unfold opn
  by_cases h4 : l.length < 4
  · rw [if_pos h4]
    go_enter Tryd.func33, Tryd.ntmps33
    go_wp2_with fail
    go_ret2
    exact ⟨rfl, Below.refl _ _⟩
  · rw [if_neg h4]
    have hsl := bs_drop l 4 l.length (Nat.le_refl _)
    have c1 := seal_any (l.drop 4) w (by rw [List.length_drop]; omega) hT
    obtain ⟨m, hm⟩ : ∃ m, l.drop 4 = m := ⟨_, rfl⟩
    rw [hm] at hsl c1 ⊢
    obtain ⟨q, hq⟩ : ∃ q, seal_ m = q := ⟨_, rfl⟩
    rw [hq] at c1 ⊢
    clear hm hq
    by_cases he : q = l
    · rw [if_pos he]
      subst he
      go_enter Tryd.func33, Tryd.ntmps33
      go_wp2_with fail
      refine c1.mono ?_
      rintro e w1 ⟨rfl, hb1⟩
      go_wp2_with fail
      go_ret2
      exact ⟨rfl, hb1⟩
    · rw [if_neg he]
      have hne := str_ne he
      clear he
      go_enter Tryd.func33, Tryd.ntmps33
      go_wp2_with fail
      refine c1.mono ?_
      rintro e w1 ⟨rfl, hb1⟩
      go_wp2_with fail
      go_ret2
      exact ⟨rfl, hb1⟩
set_option maxRecDepth 100000 in
theorem refOpen_any (l : List UInt8) (w : World) (hs : l.length ≤ 1000000000000000) :
    Calls Tryd.prog 43 #[.string (bs l)] w (Ib (.tuple #[.string (bs (opn l).1), .int .i64 ((opn l).2 : Int)]) w) := by
  have hsz : (bs l).size = l.length := rfl
  have hn0 : (⟨#[]⟩ : ByteArray) = bs [] := rfl
  unfold opn
  by_cases h4 : l.length < 4
  · rw [if_pos h4]
    go_enter Tryd.func43, Tryd.ntmps43
    go_wp2_with fail
    go_ret2
    exact ⟨rfl, Below.refl _ _⟩
  · rw [if_neg h4]
    have hsl := bs_drop l 4 l.length (Nat.le_refl _)
    have c1 := refSeal_any (l.drop 4) w (by rw [List.length_drop]; omega)
    obtain ⟨m, hm⟩ : ∃ m, l.drop 4 = m := ⟨_, rfl⟩
    rw [hm] at hsl c1 ⊢
    obtain ⟨q, hq⟩ : ∃ q, seal_ m = q := ⟨_, rfl⟩
    rw [hq] at c1 ⊢
    clear hm hq
    by_cases he : q = l
    · rw [if_pos he]
      subst he
      go_enter Tryd.func43, Tryd.ntmps43
      go_wp2_with fail
      refine c1.mono ?_
      rintro e w1 ⟨rfl, hb1⟩
      go_wp2_with fail
      go_ret2
      exact ⟨rfl, hb1⟩
    · rw [if_neg he]
      have hne := str_ne he
      clear he
      go_enter Tryd.func43, Tryd.ntmps43
      go_wp2_with fail
      refine c1.mono ?_
      rintro e w1 ⟨rfl, hb1⟩
      go_wp2_with fail
      go_ret2
      exact ⟨rfl, hb1⟩
end Go.Proofs.YtcjaaijohapeaaaDoor

/-
  The developers' Struct and FieldOf. No conditions beyond those that each names.
-/
import Derived.Test.YthfodpbecddheaaGreatDoorQM17
import Derived.Test.YthfodpbecddheaaGreatDoorQM09
import Derived.Deep.QuietTactic
import Derived.BigQuiet
import Derived.Test.YthfodpbecddheaaGreatDoorQM13
import Derived.Test.YthfodpbecddheaaGreatDoorQM02
import Derived.Test.YthfodpbecddheaaGreatDoorQM12
namespace Go.Proofs.YthfodpbecddheaaGreatDoor
open Go.RowKit Go.Shelf
set_option maxRecDepth 100000 in
set_option maxHeartbeats 4000000 in
theorem devStruct_any (S : Sch) (nm : List UInt8) (v : Value) (w : World) (hv : ScV w S v) (hn : S.structs.length ≤ 1000) (hfw : ∀ t ∈ S.structs, t.fields.length ≤ 1000 ∧ ∀ f ∈ t.fields, fewT f.type = true) :
    Calls Tryz.prog 63 #[v, .string (bs nm)] w (StO (fst_ St.name S.structs nm) w) := by
  obtain ⟨A, c, A2, c2, rfl, hS⟩ := hv
  have hSs := hS.st
  clear hS
  obtain ⟨m, hm⟩ : ∃ m, S.enums.length = m := ⟨_, rfl⟩
  obtain ⟨n, hn2⟩ : ∃ n, S.structs.length = n := ⟨_, rfl⟩
  have HN := Lib.hid hn2
  rw [hn2] at hn
  rw [hm, hn2]
  clear hn2 hm
  have z1 : (w.alloc (Obj.cells #[.int .i64 S.ver, .slice A m c, .slice A2 n c2] 25)).heap.size = w.heap.size + 1 := by simp
  have B1 := (Bx.new3 w 25 (.int .i64 S.ver) (.slice A m c) (.slice A2 n c2)).next (ab1 _ (Obj.cells #[.string ⟨#[]⟩, .slice none 0 0] 53))
  have B2 := Bx.new2 (w.alloc (Obj.cells #[.int .i64 S.ver, .slice A m c, .slice A2 n c2] 25)) 53 (.string ⟨#[]⟩) (.slice none 0 0)
  rw [z1] at B2
  have hab := ab2 w (Obj.cells #[.int .i64 S.ver, .slice A m c, .slice A2 n c2] 25) (Obj.cells #[.string ⟨#[]⟩, .slice none 0 0] 53)
  have HI0 : Hid (∀ j (hj : j < S.structs.length), j < 0 → (S.structs[j]'hj).name ≠ nm) := Lib.hid fun j _ h => by omega
  clear z1
  go_enter Tryz.func63, Tryz.ntmps63
  go_wp2_with fail
  go_loopw [11] (fun i wr => ∃ k : Nat, k ≤ n ∧ i = .int .i64 (k : Int) ∧ Hid (∀ j (hj : j < S.structs.length), j < k → (S.structs[j]'hj).name ≠ nm) ∧ Bx wr (w.heap.size + 1) [.string ⟨#[]⟩, .slice none 0 0] ∧ Below w.heap.size w wr) (fun i _ => n - (intOf i).toNat)
  case atStart => exact ⟨0, by omega, rfl, HI0, B2, hab⟩
  case round =>
    obtain ⟨k, hk, rfl, hI, C2, hb⟩ := hrel
    clear HI0 B1 B2 hab
    have r0 := C2.c 0 rfl
    have r1 := C2.c 1 rfl
    have s0 := C2.f 0 rfl
    have s1 := C2.f 1 rfl
    have l2 := C2.lt
    by_cases hlt : k < n
    · have hkm : k < S.structs.length := by rw [HN.out]; exact hlt
      obtain ⟨a, rfl, hA⟩ := hSs.get (i := k) hkm
      obtain ⟨A3, c3, h0, h1, hV⟩ := hA.val
      replace h0 := cell_next hb h0
      replace h1 := cell_next hb h1
      have hblk : (a.add (k * 2)).block < wr.heap.size := blk_lt h0
      have hx : (S.structs[k]'hkm).name = nm → fst_ St.name S.structs nm = some (S.structs[k]'hkm) := fun e => fst_at hkm hI.out e
      have hy : (S.structs[k]'hkm).name ≠ nm → ∀ j (hj : j < S.structs.length), j < k + 1 → (S.structs[j]'hj).name ≠ nm := fun e j hj hjk => by
        by_cases hjk2 : j < k
        · exact hI.out j hj hjk2
        · obtain rfl : j = k := by omega
          exact e
      obtain ⟨g1, g2⟩ := hfw _ (List.getElem_mem hkm)
      generalize S.structs[k]'hkm = t at *
      have hW1 := ab1 wr (Obj.cells #[.string (bs t.name), .slice A3 t.fields.length c3] 53)
      have B7 := Bx.new2 wr 53 (.string (bs t.name)) (.slice A3 t.fields.length c3)
      have C3 := C2.next hW1
      by_cases e : t.name = nm
      · have E := Lib.hid (hx e)
        obtain ⟨A4, c4, hV0, hV⟩ := hV
        obtain ⟨rfl, -, rfl⟩ : A3 = A4 ∧ t.fields.length = t.fields.length ∧ c3 = c4 := by injection hV0 with h; simp at h; exact ⟨h.1, rfl, h.2⟩
        have cE := eachField_any t.fields A3 c3 (wr.alloc (Obj.cells #[.string (bs t.name), .slice A3 t.fields.length c3] 53)) (by omega) (hV.next fun x p => FdA.next (Below.next hb hW1)) (fun i h v w' hv => newField_any _ v w' (g2 _ (List.getElem_mem h)) hv)
        have hz : wr.heap.size + 1 ≤ (wr.alloc (Obj.cells #[.string (bs t.name), .slice A3 t.fields.length c3] 53)).heap.size := by simp
        clear hx hy hI hA hV hV0 g1 g2
        subst e
        have q1 := sq_t t.name
        unfold EfP at cE
        generalize hq : t.fields.length = q at *
        have HQ := Lib.hid hq
        clear hq
        go_wp2_with fail
        refine cE.mono ?_
        rintro e3 w3 ⟨A9, c9, rfl, hN9, hb9⟩
        have hb3 := Below.next (Below.next hb hW1) hb9
        have D7 := B7.next hb9
        have D3 := C3.next hb9
        have p0 := D7.c 0 rfl
        have p1 := D7.c 1 rfl
        have p2 := D7.f 1 rfl
        have p3 := D7.lt
        have t0 := D3.c 0 rfl
        have t1 := D3.c 1 rfl
        have t2 := D3.f 0 rfl
        have t3 := D3.f 1 rfl
        have t4 := D3.lt
        clear cE B7 C3 C2 r0 r1 s0 s1 h0 h1 hblk hW1
        go_wp2_with fail
        refine bodyPost_ret (v := .tuple #[.agg #[.string (bs t.name), .slice A9 q c9], .bool true]) (by simp [results, Tryz.results63, go_sem, t0, t1]) rfl ?_
        refine .some_ E.out ⟨A9, c9, by rw [HQ.out], (hN9.next ?_).rw_⟩ ?_
        · iterate 3 refine Kpl.set ?_ (by first | (show wr.heap.size < _; omega) | (show w.heap.size + 1 < _; omega)) _
          exact Kpl.of (Below.refl _ _)
        · have hws := hb.size
          iterate 3 refine Below.setCell ?_ (by first | (show w.heap.size ≤ wr.heap.size; omega) | (show w.heap.size ≤ w.heap.size + 1; omega)) _
          exact hb3
      · have E := Lib.hid (hy e)
        have q1 := sq_f e
        have hb3 := Below.next hb hW1
        clear hx hy hI hA hV hfw
        go_wp2_with fail
        go_roundw
        case rel => exact ⟨k + 1, by omega, by go_num, E, C3, hb3⟩
        case measure => simp [intOf]; omega
    · obtain rfl : k = n := by omega
      have E := Lib.hid (show fst_ St.name S.structs nm = none from fst_end fun j hj => hI.out j hj (by rw [← HN.out]; exact hj))
      clear hI hfw
      go_wp2_with fail
      refine bodyPost_ret (v := .tuple #[.agg #[.string ⟨#[]⟩, .slice none 0 0], .bool false]) (by simp [results, Tryz.results63, go_sem, r0, r1]) rfl (.none_ E.out ?_)
      iterate 2 refine Below.setCell ?_ (by simp) _
      exact hb
set_option maxRecDepth 100000 in
set_option maxHeartbeats 4000000 in
theorem devFieldOf_any (t : St) (nb : Int) (v : Value) (w : World) (hv : StV w t v) (hn : t.fields.length ≤ 1000) (hfw : ∀ f ∈ t.fields, fewT f.type = true) :
    Calls Tryz.prog 141 #[v, .int .i64 nb] w (FdO (fst_ Fd.num t.fields nb) w) := by
  obtain ⟨A, c, rfl, hS⟩ := hv
  obtain ⟨n, hn2⟩ : ∃ n, t.fields.length = n := ⟨_, rfl⟩
  have HN := Lib.hid hn2
  rw [hn2] at hn ⊢
  clear hn2
  have z1 : (w.alloc (Obj.cells #[.string (bs t.name), .slice A n c] 53)).heap.size = w.heap.size + 1 := by simp
  have B2 := Bx.new7 (w.alloc (Obj.cells #[.string (bs t.name), .slice A n c] 53)) 57 (.int .i64 0) (.string ⟨#[]⟩) (.int .i64 0) (.int .i64 0) (.string ⟨#[]⟩) (.slice none 0 0) (.bool false)
  rw [z1] at B2
  have hab := ab2 w (Obj.cells #[.string (bs t.name), .slice A n c] 53) (Obj.cells #[.int .i64 0, .string ⟨#[]⟩, .int .i64 0, .int .i64 0, .string ⟨#[]⟩, .slice none 0 0, .bool false] 57)
  have HI0 : Hid (∀ j (hj : j < t.fields.length), j < 0 → (t.fields[j]'hj).num ≠ nb) := Lib.hid fun j _ h => by omega
  clear z1
  go_enter Tryz.func141, Tryz.ntmps141
  go_wp2_with fail
  go_loopw [11] (fun i wr => ∃ k : Nat, k ≤ n ∧ i = .int .i64 (k : Int) ∧ Hid (∀ j (hj : j < t.fields.length), j < k → (t.fields[j]'hj).num ≠ nb) ∧ Bx wr (w.heap.size + 1) [.int .i64 0, .string ⟨#[]⟩, .int .i64 0, .int .i64 0, .string ⟨#[]⟩, .slice none 0 0, .bool false] ∧ Below w.heap.size w wr) (fun i _ => n - (intOf i).toNat)
  case atStart => exact ⟨0, by omega, rfl, HI0, B2, hab⟩
  case round =>
    obtain ⟨k, hk, rfl, hI, C2, hb⟩ := hrel
    clear HI0 B2 hab
    have r0 := C2.c 0 rfl
    have s0 := C2.f 0 rfl
    have r1 := C2.c 1 rfl
    have s1 := C2.f 1 rfl
    have r2 := C2.c 2 rfl
    have s2 := C2.f 2 rfl
    have r3 := C2.c 3 rfl
    have s3 := C2.f 3 rfl
    have r4 := C2.c 4 rfl
    have s4 := C2.f 4 rfl
    have r5 := C2.c 5 rfl
    have s5 := C2.f 5 rfl
    have r6 := C2.c 6 rfl
    have s6 := C2.f 6 rfl
    have l2 := C2.lt
    by_cases hlt : k < n
    · have hkm : k < t.fields.length := by rw [HN.out]; exact hlt
      obtain ⟨a, rfl, hA⟩ := hS.get (i := k) hkm
      obtain ⟨A3, c3, h0, h1, h2, h3, h4, h5, h6, hV, -⟩ := hA.val
      replace h0 := cell_next hb h0
      replace h1 := cell_next hb h1
      replace h2 := cell_next hb h2
      replace h3 := cell_next hb h3
      replace h4 := cell_next hb h4
      replace h5 := cell_next hb h5
      replace h6 := cell_next hb h6
      have hblk : (a.add (k * 7)).block < wr.heap.size := blk_lt h0
      have hx : (t.fields[k]'hkm).num = nb → fst_ Fd.num t.fields nb = some (t.fields[k]'hkm) := fun e => fst_at hkm hI.out e
      have hy : (t.fields[k]'hkm).num ≠ nb → ∀ j (hj : j < t.fields.length), j < k + 1 → (t.fields[j]'hj).num ≠ nb := fun e j hj hjk => by
        by_cases hjk2 : j < k
        · exact hI.out j hj hjk2
        · obtain rfl : j = k := by omega
          exact e
      have g2 := hfw _ (List.getElem_mem hkm)
      generalize t.fields[k]'hkm = f at *
      have hW1 := ab1 wr (Obj.cells #[.int .i64 f.num, .string (bs f.name), .int .i64 f.type.kind, .int .i64 f.type.size, .string (bs f.type.name), .slice A3 f.type.elem.length c3, .bool f.opt] 57)
      have C3 := C2.next hW1
      by_cases e : f.num = nb
      · have E := Lib.hid (hx e)
        have cE := newField_any f _ (wr.alloc (Obj.cells #[.int .i64 f.num, .string (bs f.name), .int .i64 f.type.kind, .int .i64 f.type.size, .string (bs f.type.name), .slice A3 f.type.elem.length c3, .bool f.opt] 57)) g2 (hV.next (Below.next hb hW1))
        have hz : wr.heap.size + 1 ≤ (wr.alloc (Obj.cells #[.int .i64 f.num, .string (bs f.name), .int .i64 f.type.kind, .int .i64 f.type.size, .string (bs f.type.name), .slice A3 f.type.elem.length c3, .bool f.opt] 57)).heap.size := by simp
        clear hx hy hI hA hV g2 hfw
        subst e
        unfold FtP at cE
        go_wp2_with fail
        refine cE.mono ?_
        rintro e3 w3 ⟨A9, c9, rfl, hN9, hb9⟩
        have hb3 := Below.next (Below.next hb hW1) hb9
        have D3 := C3.next hb9
        have t0 := D3.c 0 rfl
        have u0 := D3.f 0 rfl
        have t1 := D3.c 1 rfl
        have u1 := D3.f 1 rfl
        have t2 := D3.c 2 rfl
        have u2 := D3.f 2 rfl
        have t3 := D3.c 3 rfl
        have u3 := D3.f 3 rfl
        have t4 := D3.c 4 rfl
        have u4 := D3.f 4 rfl
        have t5 := D3.c 5 rfl
        have u5 := D3.f 5 rfl
        have t6 := D3.c 6 rfl
        have u6 := D3.f 6 rfl
        have t9 := D3.lt
        clear cE C3 C2 r0 r1 r2 r3 r4 r5 r6 s0 s1 s2 s3 s4 s5 s6 h0 h1 h2 h3 h4 h5 h6 hblk hW1
        go_wp2_with fail
        refine bodyPost_ret (v := .tuple #[.agg #[.int .i64 f.num, .string (bs f.name), .int .i64 f.type.kind, .int .i64 f.type.size, .string (bs f.type.name), .slice A9 f.type.elem.length c9, .bool f.opt], .bool true]) (by simp [results, Tryz.results141, go_sem, t0, t1, t2, t3, t4, t5, t6]) rfl ?_
        refine .some_ E.out ⟨A9, c9, rfl, (hN9.next ?_).rw_⟩ ?_
        · iterate 7 refine Kpl.set ?_ (by show w.heap.size + 1 < _; omega) _
          exact Kpl.of (Below.refl _ _)
        · iterate 7 refine Below.setCell ?_ (by show w.heap.size ≤ w.heap.size + 1; omega) _
          exact hb3
      · have E := Lib.hid (hy e)
        have q1 : (f.num == nb) = false := by simpa using e
        have hb3 := Below.next hb hW1
        clear hx hy hI hA hV hfw
        go_wp2_with fail
        go_roundw
        case rel => exact ⟨k + 1, by omega, by go_num, E, C3, hb3⟩
        case measure => simp [intOf]; omega
    · obtain rfl : k = n := by omega
      have E := Lib.hid (show fst_ Fd.num t.fields nb = none from fst_end fun j hj => hI.out j hj (by rw [← HN.out]; exact hj))
      clear hI hfw
      go_wp2_with fail
      refine bodyPost_ret (v := .tuple #[.agg #[.int .i64 0, .string ⟨#[]⟩, .int .i64 0, .int .i64 0, .string ⟨#[]⟩, .slice none 0 0, .bool false], .bool false]) (by simp [results, Tryz.results141, go_sem, r0, r1, r2, r3, r4, r5, r6]) rfl (.none_ E.out ?_)
      iterate 7 refine Below.setCell ?_ (by simp) _
      exact hb
end Go.Proofs.YthfodpbecddheaaGreatDoor
/-
  The developers' Check of a number, for the self-test. No conditions beyond those that each names.
-/
namespace Go.Proofs.YthfodpbecddheaaGreatDoor
open Go.RowKit Go.Shelf
end Go.Proofs.YthfodpbecddheaaGreatDoor
/-
  The developers' checks of one value, by kinds. No conditions beyond those that each names.
-/
namespace Go.Proofs.YthfodpbecddheaaGreatDoor
open Go.RowKit Go.Shelf
set_option maxRecDepth 100000 in
set_option maxHeartbeats 4000000 in
theorem boolean_any (v : Int) (E : Option Addr) (e1 e2 : Nat) (F : Option Addr) (f1 f2 : Nat) (k s : Int) (nm : ByteArray) (G : Option Addr) (g1 g2 : Nat) (q n : Int) (st : ByteArray) (A : Option Addr) (a1 a2 : Nat) (B : Option Addr) (b1 b2 : Nat) (w : World) :
    Calls Tryz.prog 75 #[.agg #[.int .i64 v, .slice E e1 e2, .slice F f1 f2, .int .i64 k, .int .i64 s, .string nm, .slice G g1 g2], .agg #[.int .i64 q, .int .i64 n, .string st, .slice A a1 a2, .slice B b1 b2]] w (Ib (.int .i64 (if 0 ≤ n ∧ n ≤ 1 then 0 else 4)) w) := by
  by_cases h1 : n < 0
  · have d1 : decide (n < 0) = true := decide_eq_true h1
    rw [if_neg (by omega)]
    clear h1
    go_enter Tryz.func75, Tryz.ntmps75
    go_wp2_with (go_in)
    go_ret
    exact ⟨rfl, ab2 _ _ _⟩
  · have d1 : decide (n < 0) = false := decide_eq_false h1
    by_cases h2 : 1 < n
    · have d2 : decide (1 < n) = true := decide_eq_true h2
      rw [if_neg (by omega)]
      clear h1 h2
      go_enter Tryz.func75, Tryz.ntmps75
      go_wp2_with (go_in)
      go_ret
      exact ⟨rfl, ab2 _ _ _⟩
    · have d2 : decide (1 < n) = false := decide_eq_false h2
      rw [if_pos (by omega)]
      clear h1 h2
      go_enter Tryz.func75, Tryz.ntmps75
      go_wp2_with (go_in)
      go_ret
      exact ⟨rfl, ab2 _ _ _⟩
set_option maxRecDepth 100000 in
set_option maxHeartbeats 4000000 in
theorem signed8_any (v : Int) (E : Option Addr) (e1 e2 : Nat) (F : Option Addr) (f1 f2 : Nat) (k : Int) (nm : ByteArray) (G : Option Addr) (g1 g2 : Nat) (q n : Int) (st : ByteArray) (A : Option Addr) (a1 a2 : Nat) (B : Option Addr) (b1 b2 : Nat) (w : World) :
    Calls Tryz.prog 76 #[.agg #[.int .i64 v, .slice E e1 e2, .slice F f1 f2, .int .i64 k, .int .i64 8, .string nm, .slice G g1 g2], .agg #[.int .i64 q, .int .i64 n, .string st, .slice A a1 a2, .slice B b1 b2]] w (Ib (.int .i64 (if -128 ≤ n ∧ n ≤ 127 then 0 else 4)) w) := by
  by_cases h1 : n < -128
  · have d1 : decide (n < -128) = true := decide_eq_true h1
    rw [if_neg (by omega)]
    clear h1
    go_enter Tryz.func76, Tryz.ntmps76
    go_wp2_with (go_in)
    go_ret
    exact ⟨rfl, ab2 _ _ _⟩
  · have d1 : decide (n < -128) = false := decide_eq_false h1
    by_cases h2 : 127 < n
    · have d2 : decide (127 < n) = true := decide_eq_true h2
      rw [if_neg (by omega)]
      clear h1 h2
      go_enter Tryz.func76, Tryz.ntmps76
      go_wp2_with (go_in)
      go_ret
      exact ⟨rfl, ab2 _ _ _⟩
    · have d2 : decide (127 < n) = false := decide_eq_false h2
      rw [if_pos (by omega)]
      clear h1 h2
      go_enter Tryz.func76, Tryz.ntmps76
      go_wp2_with (go_in)
      go_ret
      exact ⟨rfl, ab2 _ _ _⟩
set_option maxRecDepth 100000 in
set_option maxHeartbeats 4000000 in
theorem signed16_any (v : Int) (E : Option Addr) (e1 e2 : Nat) (F : Option Addr) (f1 f2 : Nat) (k : Int) (nm : ByteArray) (G : Option Addr) (g1 g2 : Nat) (q n : Int) (st : ByteArray) (A : Option Addr) (a1 a2 : Nat) (B : Option Addr) (b1 b2 : Nat) (w : World) :
    Calls Tryz.prog 76 #[.agg #[.int .i64 v, .slice E e1 e2, .slice F f1 f2, .int .i64 k, .int .i64 16, .string nm, .slice G g1 g2], .agg #[.int .i64 q, .int .i64 n, .string st, .slice A a1 a2, .slice B b1 b2]] w (Ib (.int .i64 (if -32768 ≤ n ∧ n ≤ 32767 then 0 else 4)) w) := by
  by_cases h1 : n < -32768
  · have d1 : decide (n < -32768) = true := decide_eq_true h1
    rw [if_neg (by omega)]
    clear h1
    go_enter Tryz.func76, Tryz.ntmps76
    go_wp2_with (go_in)
    go_ret
    exact ⟨rfl, ab2 _ _ _⟩
  · have d1 : decide (n < -32768) = false := decide_eq_false h1
    by_cases h2 : 32767 < n
    · have d2 : decide (32767 < n) = true := decide_eq_true h2
      rw [if_neg (by omega)]
      clear h1 h2
      go_enter Tryz.func76, Tryz.ntmps76
      go_wp2_with (go_in)
      go_ret
      exact ⟨rfl, ab2 _ _ _⟩
    · have d2 : decide (32767 < n) = false := decide_eq_false h2
      rw [if_pos (by omega)]
      clear h1 h2
      go_enter Tryz.func76, Tryz.ntmps76
      go_wp2_with (go_in)
      go_ret
      exact ⟨rfl, ab2 _ _ _⟩
set_option maxRecDepth 100000 in
set_option maxHeartbeats 4000000 in
theorem signed32_any (v : Int) (E : Option Addr) (e1 e2 : Nat) (F : Option Addr) (f1 f2 : Nat) (k : Int) (nm : ByteArray) (G : Option Addr) (g1 g2 : Nat) (q n : Int) (st : ByteArray) (A : Option Addr) (a1 a2 : Nat) (B : Option Addr) (b1 b2 : Nat) (w : World) :
    Calls Tryz.prog 76 #[.agg #[.int .i64 v, .slice E e1 e2, .slice F f1 f2, .int .i64 k, .int .i64 32, .string nm, .slice G g1 g2], .agg #[.int .i64 q, .int .i64 n, .string st, .slice A a1 a2, .slice B b1 b2]] w (Ib (.int .i64 (if -2147483648 ≤ n ∧ n ≤ 2147483647 then 0 else 4)) w) := by
  by_cases h1 : n < -2147483648
  · have d1 : decide (n < -2147483648) = true := decide_eq_true h1
    rw [if_neg (by omega)]
    clear h1
    go_enter Tryz.func76, Tryz.ntmps76
    go_wp2_with (go_in)
    go_ret
    exact ⟨rfl, ab2 _ _ _⟩
  · have d1 : decide (n < -2147483648) = false := decide_eq_false h1
    by_cases h2 : 2147483647 < n
    · have d2 : decide (2147483647 < n) = true := decide_eq_true h2
      rw [if_neg (by omega)]
      clear h1 h2
      go_enter Tryz.func76, Tryz.ntmps76
      go_wp2_with (go_in)
      go_ret
      exact ⟨rfl, ab2 _ _ _⟩
    · have d2 : decide (2147483647 < n) = false := decide_eq_false h2
      rw [if_pos (by omega)]
      clear h1 h2
      go_enter Tryz.func76, Tryz.ntmps76
      go_wp2_with (go_in)
      go_ret
      exact ⟨rfl, ab2 _ _ _⟩
set_option maxRecDepth 100000 in
set_option maxHeartbeats 4000000 in
theorem signed64_any (v : Int) (E : Option Addr) (e1 e2 : Nat) (F : Option Addr) (f1 f2 : Nat) (k : Int) (nm : ByteArray) (G : Option Addr) (g1 g2 : Nat) (q n : Int) (st : ByteArray) (A : Option Addr) (a1 a2 : Nat) (B : Option Addr) (b1 b2 : Nat) (w : World) :
    Calls Tryz.prog 76 #[.agg #[.int .i64 v, .slice E e1 e2, .slice F f1 f2, .int .i64 k, .int .i64 64, .string nm, .slice G g1 g2], .agg #[.int .i64 q, .int .i64 n, .string st, .slice A a1 a2, .slice B b1 b2]] w (Ib (.int .i64 (if -9223372036854775808 ≤ n ∧ n ≤ 9223372036854775807 then 0 else 4)) w) := by
  by_cases h1 : n < -9223372036854775808
  · have d1 : decide (n < -9223372036854775808) = true := decide_eq_true h1
    rw [if_neg (by omega)]
    clear h1
    go_enter Tryz.func76, Tryz.ntmps76
    go_wp2_with (go_in)
    go_ret
    exact ⟨rfl, ab2 _ _ _⟩
  · have d1 : decide (n < -9223372036854775808) = false := decide_eq_false h1
    by_cases h2 : 9223372036854775807 < n
    · have d2 : decide (9223372036854775807 < n) = true := decide_eq_true h2
      rw [if_neg (by omega)]
      clear h1 h2
      go_enter Tryz.func76, Tryz.ntmps76
      go_wp2_with (go_in)
      go_ret
      exact ⟨rfl, ab2 _ _ _⟩
    · have d2 : decide (9223372036854775807 < n) = false := decide_eq_false h2
      rw [if_pos (by omega)]
      clear h1 h2
      go_enter Tryz.func76, Tryz.ntmps76
      go_wp2_with (go_in)
      go_ret
      exact ⟨rfl, ab2 _ _ _⟩
set_option maxRecDepth 100000 in
set_option maxHeartbeats 4000000 in
theorem crange_any (n lo hi : Int) (w : World) : Calls Tryz.prog 127 #[.int .i64 n, .int .i64 lo, .int .i64 hi] w (Is (.int .i64 (if lo ≤ n ∧ n ≤ hi then 0 else 4)) w) := by
  by_cases h1 : n < lo
  · have d1 : decide (n < lo) = true := decide_eq_true h1
    rw [if_neg (by omega)]
    clear h1
    go_enter Tryz.func127, Tryz.ntmps127
    go_wp2_with fail
    go_ret
    exact ⟨rfl, rfl⟩
  · have d1 : decide (n < lo) = false := decide_eq_false h1
    by_cases h2 : hi < n
    · have d2 : decide (hi < n) = true := decide_eq_true h2
      rw [if_neg (by omega)]
      clear h1 h2
      go_enter Tryz.func127, Tryz.ntmps127
      go_wp2_with fail
      go_ret
      exact ⟨rfl, rfl⟩
    · have d2 : decide (hi < n) = false := decide_eq_false h2
      rw [if_pos (by omega)]
      clear h1 h2
      go_enter Tryz.func127, Tryz.ntmps127
      go_wp2_with fail
      go_ret
      exact ⟨rfl, rfl⟩
set_option maxRecDepth 100000 in
set_option maxHeartbeats 4000000 in
theorem unsigned8_any (v : Int) (E : Option Addr) (e1 e2 : Nat) (F : Option Addr) (f1 f2 : Nat) (k : Int) (nm : ByteArray) (G : Option Addr) (g1 g2 : Nat) (q n : Int) (st : ByteArray) (A : Option Addr) (a1 a2 : Nat) (B : Option Addr) (b1 b2 : Nat) (w : World) :
    Calls Tryz.prog 77 #[.agg #[.int .i64 v, .slice E e1 e2, .slice F f1 f2, .int .i64 k, .int .i64 8, .string nm, .slice G g1 g2], .agg #[.int .i64 q, .int .i64 n, .string st, .slice A a1 a2, .slice B b1 b2]] w (Ib (.int .i64 (if 0 ≤ n ∧ n ≤ 255 then 0 else 4)) w) := by
  have e1 : IntKind.i64.wrap (IntKind.i64.wrap 256 - 1) = 255 := by decide
  have cR : ∀ W, Calls Tryz.prog 127 #[.int .i64 n, .int .i64 0, .int .i64 (IntKind.i64.wrap (IntKind.i64.wrap 256 - 1))] W (Is (.int .i64 (if 0 ≤ n ∧ n ≤ 255 then 0 else 4)) W) := fun W => by rw [e1]; exact crange_any n 0 255 W
  clear e1
  generalize (if (0 : Int) ≤ n ∧ n ≤ 255 then (0 : Int) else 4) = r at cR ⊢
  go_enter Tryz.func77, Tryz.ntmps77
  go_wp2_with fail
  go_quiet ((go_at_call 127; exact Calls.quiet_of_same ((cR _).mono fun _ _ h => ⟨h.1, h.2.symm⟩)))
  go_wp2_with fail
  go_ret
  exact ⟨rfl, below_drewN (ab2 _ _ _) _⟩
set_option maxRecDepth 100000 in
set_option maxHeartbeats 4000000 in
theorem unsigned16_any (v : Int) (E : Option Addr) (e1 e2 : Nat) (F : Option Addr) (f1 f2 : Nat) (k : Int) (nm : ByteArray) (G : Option Addr) (g1 g2 : Nat) (q n : Int) (st : ByteArray) (A : Option Addr) (a1 a2 : Nat) (B : Option Addr) (b1 b2 : Nat) (w : World) :
    Calls Tryz.prog 77 #[.agg #[.int .i64 v, .slice E e1 e2, .slice F f1 f2, .int .i64 k, .int .i64 16, .string nm, .slice G g1 g2], .agg #[.int .i64 q, .int .i64 n, .string st, .slice A a1 a2, .slice B b1 b2]] w (Ib (.int .i64 (if 0 ≤ n ∧ n ≤ 65535 then 0 else 4)) w) := by
  have e1 : IntKind.i64.wrap (IntKind.i64.wrap 65536 - 1) = 65535 := by decide
  have cR : ∀ W, Calls Tryz.prog 127 #[.int .i64 n, .int .i64 0, .int .i64 (IntKind.i64.wrap (IntKind.i64.wrap 65536 - 1))] W (Is (.int .i64 (if 0 ≤ n ∧ n ≤ 65535 then 0 else 4)) W) := fun W => by rw [e1]; exact crange_any n 0 65535 W
  clear e1
  generalize (if (0 : Int) ≤ n ∧ n ≤ 65535 then (0 : Int) else 4) = r at cR ⊢
  go_enter Tryz.func77, Tryz.ntmps77
  go_wp2_with fail
  go_quiet ((go_at_call 127; exact Calls.quiet_of_same ((cR _).mono fun _ _ h => ⟨h.1, h.2.symm⟩)))
  go_wp2_with fail
  go_ret
  exact ⟨rfl, below_drewN (ab2 _ _ _) _⟩
set_option maxRecDepth 100000 in
set_option maxHeartbeats 4000000 in
theorem unsigned32_any (v : Int) (E : Option Addr) (e1 e2 : Nat) (F : Option Addr) (f1 f2 : Nat) (k : Int) (nm : ByteArray) (G : Option Addr) (g1 g2 : Nat) (q n : Int) (st : ByteArray) (A : Option Addr) (a1 a2 : Nat) (B : Option Addr) (b1 b2 : Nat) (w : World) :
    Calls Tryz.prog 77 #[.agg #[.int .i64 v, .slice E e1 e2, .slice F f1 f2, .int .i64 k, .int .i64 32, .string nm, .slice G g1 g2], .agg #[.int .i64 q, .int .i64 n, .string st, .slice A a1 a2, .slice B b1 b2]] w (Ib (.int .i64 (if 0 ≤ n ∧ n ≤ 4294967295 then 0 else 4)) w) := by
  have e1 : IntKind.i64.wrap (IntKind.i64.wrap 4294967296 - 1) = 4294967295 := by decide
  have cR : ∀ W, Calls Tryz.prog 127 #[.int .i64 n, .int .i64 0, .int .i64 (IntKind.i64.wrap (IntKind.i64.wrap 4294967296 - 1))] W (Is (.int .i64 (if 0 ≤ n ∧ n ≤ 4294967295 then 0 else 4)) W) := fun W => by rw [e1]; exact crange_any n 0 4294967295 W
  clear e1
  generalize (if (0 : Int) ≤ n ∧ n ≤ 4294967295 then (0 : Int) else 4) = r at cR ⊢
  go_enter Tryz.func77, Tryz.ntmps77
  go_wp2_with fail
  go_quiet ((go_at_call 127; exact Calls.quiet_of_same ((cR _).mono fun _ _ h => ⟨h.1, h.2.symm⟩)))
  go_wp2_with fail
  go_ret
  exact ⟨rfl, below_drewN (ab2 _ _ _) _⟩
set_option maxRecDepth 100000 in
set_option maxHeartbeats 4000000 in
theorem text_any (v : Int) (E : Option Addr) (e1 e2 : Nat) (F : Option Addr) (f1 f2 : Nat) (k s : Int) (nm : ByteArray) (G : Option Addr) (g1 g2 : Nat) (q n : Int) (st : List UInt8) (A : Option Addr) (a1 a2 : Nat) (B : Option Addr) (b1 b2 : Nat) (w : World) :
    Calls Tryz.prog 78 #[.agg #[.int .i64 v, .slice E e1 e2, .slice F f1 f2, .int .i64 k, .int .i64 s, .string nm, .slice G g1 g2], .agg #[.int .i64 q, .int .i64 n, .string (bs st), .slice A a1 a2, .slice B b1 b2]] w (Ib (.int .i64 (if (st.length : Int) ≤ s then 0 else 3)) w) := by
  have hz : ((bs st).size : Int) = (st.length : Int) := rfl
  by_cases h1 : s < (st.length : Int)
  · have d1 : decide (s < (st.length : Int)) = true := decide_eq_true h1
    rw [if_neg (by omega)]
    clear h1
    go_enter Tryz.func78, Tryz.ntmps78
    go_wp2_with fail
    go_ret
    exact ⟨rfl, ab2 _ _ _⟩
  · have d1 : decide (s < (st.length : Int)) = false := decide_eq_false h1
    rw [if_pos (by omega)]
    clear h1
    go_enter Tryz.func78, Tryz.ntmps78
    go_wp2_with fail
    go_ret
    exact ⟨rfl, ab2 _ _ _⟩
end Go.Proofs.YthfodpbecddheaaGreatDoor
/-
  The developers' isPure; whole numbers in a short list. No conditions beyond those that each names.
-/
namespace Go.Proofs.YthfodpbecddheaaGreatDoor
open Go.RowKit Go.Shelf
/-- A value has nothing but what its kind uses. -/
def pur (k n : Int) (s : List UInt8) (a b : Nat) : Bool := (decide (k = 4) || decide (s = [])) && ((decide (k = 5) || decide (a = 0)) && ((decide (k = 6) || decide (b = 0)) && (decide (k ≠ 4 ∧ k ≠ 5 ∧ k ≠ 6) || decide (n = 0))))
set_option maxRecDepth 100000 in
set_option maxHeartbeats 4000000 in
theorem isPure_any (k n : Int) (s : List UInt8) (A : Option Addr) (a c : Nat) (B : Option Addr) (b d : Nat) (w : World) :
    Calls Tryz.prog 126 #[.agg #[.int .i64 k, .int .i64 n, .string (bs s), .slice A a c, .slice B b d]] w (Ib (.bool (pur k n s a b)) w) := by
  by_cases k4 : k = 4
  · subst k4
    by_cases hn : n = 0
    · have dn : (n == 0) = true := by simpa using hn
      by_cases ha : a = 0
      · have da : ((a : Int) == 0) = true := by simp; omega
        by_cases hb : b = 0
        · have db : ((b : Int) == 0) = true := by simp; omega
          rw [show pur 4 n s a b = true by simp +contextual [pur, hn, ha, hb]]
          go_enter Tryz.func126, Tryz.ntmps126
          go_wp2_with fail
          go_ret
          exact ⟨rfl, ab1 _ _⟩
        · have db : ((b : Int) == 0) = false := by simp; omega
          rw [show pur 4 n s a b = false by simp +contextual [pur, hn, ha, hb]]
          go_enter Tryz.func126, Tryz.ntmps126
          go_wp2_with fail
          go_ret
          exact ⟨rfl, ab1 _ _⟩
      · have da : ((a : Int) == 0) = false := by simp; omega
        rw [show pur 4 n s a b = false by simp +contextual [pur, hn, ha]]
        go_enter Tryz.func126, Tryz.ntmps126
        go_wp2_with fail
        go_ret
        exact ⟨rfl, ab1 _ _⟩
    · have dn : (n == 0) = false := by simpa using hn
      rw [show pur 4 n s a b = false by simp +contextual [pur, hn]]
      go_enter Tryz.func126, Tryz.ntmps126
      go_wp2_with fail
      go_ret
      exact ⟨rfl, ab1 _ _⟩
  have e4 : (k == 4) = false := by simpa using k4
  by_cases k5 : k = 5
  · subst k5
    by_cases hn : n = 0
    · have dn : (n == 0) = true := by simpa using hn
      by_cases hs : s = []
      · subst hs
        have q0 : (bs ([] : List UInt8)).toList = [] := toList_bs []
        have ds : ((bs ([] : List UInt8)).toList == []) = true := by rw [toList_bs]; rfl
        by_cases hb : b = 0
        · have db : ((b : Int) == 0) = true := by simp; omega
          rw [show pur 5 n [] a b = true by simp +contextual [pur, hn, hb]]
          go_enter Tryz.func126, Tryz.ntmps126
          go_wp2_with fail
          go_ret
          exact ⟨rfl, ab1 _ _⟩
        · have db : ((b : Int) == 0) = false := by simp; omega
          rw [show pur 5 n [] a b = false by simp +contextual [pur, hn, hb]]
          go_enter Tryz.func126, Tryz.ntmps126
          go_wp2_with fail
          go_ret
          exact ⟨rfl, ab1 _ _⟩
      · have ds : ((bs s).toList == []) = false := by rw [toList_bs, beq_eq_false_iff_ne]; exact hs
        rw [show pur 5 n s a b = false by simp +contextual [pur, hn, hs]]
        go_enter Tryz.func126, Tryz.ntmps126
        go_wp2_with fail
        go_ret
        exact ⟨rfl, ab1 _ _⟩
    · have dn : (n == 0) = false := by simpa using hn
      rw [show pur 5 n s a b = false by simp +contextual [pur, hn]]
      go_enter Tryz.func126, Tryz.ntmps126
      go_wp2_with fail
      go_ret
      exact ⟨rfl, ab1 _ _⟩
  have e5 : (k == 5) = false := by simpa using k5
  by_cases k6 : k = 6
  · subst k6
    by_cases hn : n = 0
    · have dn : (n == 0) = true := by simpa using hn
      by_cases hs : s = []
      · subst hs
        have q0 : (bs ([] : List UInt8)).toList = [] := toList_bs []
        have ds : ((bs ([] : List UInt8)).toList == []) = true := by rw [toList_bs]; rfl
        by_cases ha : a = 0
        · have da : ((a : Int) == 0) = true := by simp; omega
          rw [show pur 6 n [] a b = true by simp +contextual [pur, hn, ha]]
          go_enter Tryz.func126, Tryz.ntmps126
          go_wp2_with fail
          go_ret
          exact ⟨rfl, ab1 _ _⟩
        · have da : ((a : Int) == 0) = false := by simp; omega
          rw [show pur 6 n [] a b = false by simp +contextual [pur, hn, ha]]
          go_enter Tryz.func126, Tryz.ntmps126
          go_wp2_with fail
          go_ret
          exact ⟨rfl, ab1 _ _⟩
      · have ds : ((bs s).toList == []) = false := by rw [toList_bs, beq_eq_false_iff_ne]; exact hs
        rw [show pur 6 n s a b = false by simp +contextual [pur, hn, hs]]
        go_enter Tryz.func126, Tryz.ntmps126
        go_wp2_with fail
        go_ret
        exact ⟨rfl, ab1 _ _⟩
    · have dn : (n == 0) = false := by simpa using hn
      rw [show pur 6 n s a b = false by simp +contextual [pur, hn]]
      go_enter Tryz.func126, Tryz.ntmps126
      go_wp2_with fail
      go_ret
      exact ⟨rfl, ab1 _ _⟩
  have e6 : (k == 6) = false := by simpa using k6
  by_cases hs : s = []
  · subst hs
    have q0 : (bs ([] : List UInt8)).toList = [] := toList_bs []
    have ds : ((bs ([] : List UInt8)).toList == []) = true := by rw [toList_bs]; rfl
    by_cases ha : a = 0
    · have da : ((a : Int) == 0) = true := by simp; omega
      by_cases hb : b = 0
      · have db : ((b : Int) == 0) = true := by simp; omega
        rw [show pur k n [] a b = true by simp +contextual [pur, ha, hb, k4, k5, k6]]
        go_enter Tryz.func126, Tryz.ntmps126
        go_wp2_with fail
        go_ret
        exact ⟨rfl, ab1 _ _⟩
      · have db : ((b : Int) == 0) = false := by simp; omega
        rw [show pur k n [] a b = false by simp +contextual [pur, ha, hb, k4, k5, k6]]
        go_enter Tryz.func126, Tryz.ntmps126
        go_wp2_with fail
        go_ret
        exact ⟨rfl, ab1 _ _⟩
    · have da : ((a : Int) == 0) = false := by simp; omega
      rw [show pur k n [] a b = false by simp +contextual [pur, ha, k4, k5, k6]]
      go_enter Tryz.func126, Tryz.ntmps126
      go_wp2_with fail
      go_ret
      exact ⟨rfl, ab1 _ _⟩
  · have ds : ((bs s).toList == []) = false := by rw [toList_bs, beq_eq_false_iff_ne]; exact hs
    rw [show pur k n s a b = false by simp +contextual [pur, hs, k4, k5, k6]]
    go_enter Tryz.func126, Tryz.ntmps126
    go_wp2_with fail
    go_ret
    exact ⟨rfl, ab1 _ _⟩
end Go.Proofs.YthfodpbecddheaaGreatDoor
/-
  Which values a type accepts, and with which error others are not: one function on data. No conditions beyond those that each names.
-/
namespace Go.Proofs.YthfodpbecddheaaGreatDoor
/-- The first that isn't 0. -/
def fex (a b : Int) : Int := if a = 0 then b else a
/-- The fields of the struct that a type names. -/
def fds (S : Sch) (t : Ty) : List Fd := ((fst_ St.name S.structs t.name).getD st0).fields
/-- The numbers of entries ascend. -/
def ascF : List (Int × Vl) → Bool
  | [] => true
  | [_] => true
  | a :: b :: l => decide (a.1 < b.1) && ascF (b :: l)
/-- The entries are of fields, in their order, and none is missing that isn't optional. -/
def shp (d : List Fd) (f : List (Int × Vl)) : Bool := ascF f && (f.all (fun e => (fst_ Fd.num d e.1).isSome) && d.all (fun x => f.any (fun e => decide (e.1 = x.num)) || x.opt))
/-- A number is in the range of a type. -/
def rgd (S : Sch) (t : Ty) (n : Int) : Bool :=
  if t.kind = 1 then decide (n = 0 ∨ n = 1) else
  if t.kind = 2 then decide (-(2 ^ (t.size.toNat - 1)) ≤ n ∧ n < 2 ^ (t.size.toNat - 1)) else
  if t.kind = 3 then decide (0 ≤ n ∧ n < 2 ^ t.size.toNat) else
  if t.kind = 7 then ((fst_ En.name S.enums t.name).getD en0).nums.contains n else true
/-- A text or a list isn't too long. -/
def fits (t : Ty) (a b : Nat) : Bool := decide ((t.kind = 4 → (a : Int) ≤ t.size) ∧ (t.kind = 5 → (b : Int) ≤ t.size))
/-- The first error of a value, 0 where there is none. -/
def vck (S : Sch) (t : Ty) : Vl → Int
  | .mk k n s l f =>
    if (right S t && decide (k = t.kind) && pur k n s l.length f.length && (decide (k ≠ 6) || shp (fds S t) f)) = false then 13 else
    if rgd S t n = false then 4 else
    if fits t s.length l.length = false then 3 else
    fex (vckl (t.elem.headD (.mk 0 0 [] [])) l) (vckf (fds S t) f)
where
  vckl (u : Ty) : List Vl → Int
  | [] => 0
  | x :: xs => fex (vck S u x) (vckl u xs)
  vckf (d : List Fd) : List (Int × Vl) → Int
  | [] => 0
  | (m, x) :: xs => fex (vck S ((fst_ Fd.num d m).getD fd0).type x) (vckf d xs)
theorem fex_zero {a b : Int} (h : a = 0) : fex a b = b := by unfold fex; rw [if_pos h]
theorem fex_ne {a b : Int} (h : a ≠ 0) : fex a b = a := by unfold fex; rw [if_neg h]
theorem fex_assoc (a b c : Int) : fex (fex a b) c = fex a (fex b c) := by
  by_cases h : a = 0
  · rw [fex_zero h, fex_zero h]
  · rw [fex_ne h, fex_ne h, fex_ne h]
theorem vckl_append (S : Sch) (u : Ty) : ∀ l m : List Vl, vck.vckl S u (l ++ m) = fex (vck.vckl S u l) (vck.vckl S u m)
  | [], m => by rw [List.nil_append, vck.vckl, fex_zero rfl]
  | x :: xs, m => by rw [List.cons_append, vck.vckl, vck.vckl, vckl_append S u xs m, fex_assoc]
theorem vckf_append (S : Sch) (d : List Fd) : ∀ l m : List (Int × Vl), vck.vckf S d (l ++ m) = fex (vck.vckf S d l) (vck.vckf S d m)
  | [], m => by rw [List.nil_append, vck.vckf, fex_zero rfl]
  | (a, x) :: xs, m => by rw [List.cons_append, vck.vckf, vck.vckf, vckf_append S d xs m, fex_assoc]
/-- The first k values have no error: what the next one says. -/
theorem vckl_at {S : Sch} {u : Ty} {l : List Vl} {k : Nat} (h : k < l.length) (h0 : vck.vckl S u (l.take k) = 0) : vck.vckl S u (l.take (k + 1)) = vck S u (l[k]'h) := by
  rw [List.take_succ_eq_append_getElem h, vckl_append, fex_zero h0, vck.vckl, vck.vckl]
  unfold fex
  split <;> simp [*]
theorem vckl_stop {S : Sch} {u : Ty} {l : List Vl} {k : Nat} (h : k < l.length) (h0 : vck.vckl S u (l.take k) = 0) (h1 : vck S u (l[k]'h) ≠ 0) : vck.vckl S u l = vck S u (l[k]'h) := by
  have e := vckl_append S u (l.take (k + 1)) (l.drop (k + 1))
  rw [List.take_append_drop, vckl_at h h0, fex_ne h1] at e
  exact e
theorem vckf_at {S : Sch} {d : List Fd} {l : List (Int × Vl)} {k : Nat} (h : k < l.length) (h0 : vck.vckf S d (l.take k) = 0) : vck.vckf S d (l.take (k + 1)) = vck S ((fst_ Fd.num d (l[k]'h).1).getD fd0).type (l[k]'h).2 := by
  rw [List.take_succ_eq_append_getElem h, vckf_append, fex_zero h0]
  obtain ⟨m, x⟩ := l[k]'h
  rw [vck.vckf, vck.vckf]
  unfold fex
  split <;> simp [*]
theorem vckf_stop {S : Sch} {d : List Fd} {l : List (Int × Vl)} {k : Nat} (h : k < l.length) (h0 : vck.vckf S d (l.take k) = 0) (h1 : vck S ((fst_ Fd.num d (l[k]'h).1).getD fd0).type (l[k]'h).2 ≠ 0) : vck.vckf S d l = vck S ((fst_ Fd.num d (l[k]'h).1).getD fd0).type (l[k]'h).2 := by
  have e := vckf_append S d (l.take (k + 1)) (l.drop (k + 1))
  rw [List.take_append_drop, vckf_at h h0, fex_ne h1] at e
  exact e
end Go.Proofs.YthfodpbecddheaaGreatDoor
/-
  The reference's Struct, Enum and field of layer 9, and Permitted. No conditions beyond those that each names.
-/
namespace Go.Proofs.YthfodpbecddheaaGreatDoor
open Go.RowKit
end Go.Proofs.YthfodpbecddheaaGreatDoor
/-
  Both sides' Struct: what was found reads on, whatever becomes of other memory. No conditions beyond those that each names.
-/
namespace Go.Proofs.YthfodpbecddheaaGreatDoor
open Go.RowKit Go.Shelf
/-- A struct was found or not; it reads in every world that G names. -/
def StK (o : Option St) (G : World → World → Prop) (w : World) (e : Ending) (w' : World) : Prop := ∃ v, e = .returned (.tuple #[v, .bool o.isSome]) ∧ (∀ w2, G w' w2 → StV w2 (o.getD st0) v) ∧ Below w.heap.size w w'
theorem StK.some_ {o : Option St} {G : World → World → Prop} {w w' : World} {t : St} {v : Value} (h : o = some t) (hv : ∀ w2, G w' w2 → StV w2 t v) (hb : Below w.heap.size w w') : StK o G w (.returned (.tuple #[v, .bool true])) w' := by
  subst h; exact ⟨v, rfl, hv, hb⟩
theorem StK.none_ {o : Option St} {G : World → World → Prop} {w w' : World} (h : o = none) (hb : Below w.heap.size w w') : StK o G w (.returned (.tuple #[.agg #[.string ⟨#[]⟩, .slice none 0 0], .bool false])) w' := by
  subst h; exact ⟨_, rfl, fun w2 _ => StV.zero w2, hb⟩
set_option maxRecDepth 100000 in
set_option maxHeartbeats 4000000 in
theorem devStruct_k (S : Sch) (nm : List UInt8) (v : Value) (w : World) (hv : ScV w S v) (hn : S.structs.length ≤ 1000) (hfw : ∀ t ∈ S.structs, t.fields.length ≤ 1000 ∧ ∀ f ∈ t.fields, fewT f.type = true) :
    Calls Tryz.prog 63 #[v, .string (bs nm)] w (StK (fst_ St.name S.structs nm) (Kpl w.heap.size) w) := by
  obtain ⟨A, c, A2, c2, rfl, hS⟩ := hv
  have hSs := hS.st
  clear hS
  obtain ⟨m, hm⟩ : ∃ m, S.enums.length = m := ⟨_, rfl⟩
  obtain ⟨n, hn2⟩ : ∃ n, S.structs.length = n := ⟨_, rfl⟩
  have HN := Lib.hid hn2
  rw [hn2] at hn
  rw [hm, hn2]
  clear hn2 hm
  have z1 : (w.alloc (Obj.cells #[.int .i64 S.ver, .slice A m c, .slice A2 n c2] 25)).heap.size = w.heap.size + 1 := by simp
  have B1 := (Bx.new3 w 25 (.int .i64 S.ver) (.slice A m c) (.slice A2 n c2)).next (ab1 _ (Obj.cells #[.string ⟨#[]⟩, .slice none 0 0] 53))
  have B2 := Bx.new2 (w.alloc (Obj.cells #[.int .i64 S.ver, .slice A m c, .slice A2 n c2] 25)) 53 (.string ⟨#[]⟩) (.slice none 0 0)
  rw [z1] at B2
  have hab := ab2 w (Obj.cells #[.int .i64 S.ver, .slice A m c, .slice A2 n c2] 25) (Obj.cells #[.string ⟨#[]⟩, .slice none 0 0] 53)
  have HI0 : Hid (∀ j (hj : j < S.structs.length), j < 0 → (S.structs[j]'hj).name ≠ nm) := Lib.hid fun j _ h => by omega
  clear z1
  go_enter Tryz.func63, Tryz.ntmps63
  go_wp2_with fail
  go_loopw [11] (fun i wr => ∃ k : Nat, k ≤ n ∧ i = .int .i64 (k : Int) ∧ Hid (∀ j (hj : j < S.structs.length), j < k → (S.structs[j]'hj).name ≠ nm) ∧ Bx wr (w.heap.size + 1) [.string ⟨#[]⟩, .slice none 0 0] ∧ Below w.heap.size w wr) (fun i _ => n - (intOf i).toNat)
  case atStart => exact ⟨0, by omega, rfl, HI0, B2, hab⟩
  case round =>
    obtain ⟨k, hk, rfl, hI, C2, hb⟩ := hrel
    clear HI0 B1 B2 hab
    have r0 := C2.c 0 rfl
    have r1 := C2.c 1 rfl
    have s0 := C2.f 0 rfl
    have s1 := C2.f 1 rfl
    have l2 := C2.lt
    by_cases hlt : k < n
    · have hkm : k < S.structs.length := by rw [HN.out]; exact hlt
      obtain ⟨a, rfl, hA⟩ := hSs.get (i := k) hkm
      obtain ⟨A3, c3, h0, h1, hV⟩ := hA.val
      replace h0 := cell_next hb h0
      replace h1 := cell_next hb h1
      have hblk : (a.add (k * 2)).block < wr.heap.size := blk_lt h0
      have hx : (S.structs[k]'hkm).name = nm → fst_ St.name S.structs nm = some (S.structs[k]'hkm) := fun e => fst_at hkm hI.out e
      have hy : (S.structs[k]'hkm).name ≠ nm → ∀ j (hj : j < S.structs.length), j < k + 1 → (S.structs[j]'hj).name ≠ nm := fun e j hj hjk => by
        by_cases hjk2 : j < k
        · exact hI.out j hj hjk2
        · obtain rfl : j = k := by omega
          exact e
      obtain ⟨g1, g2⟩ := hfw _ (List.getElem_mem hkm)
      generalize S.structs[k]'hkm = t at *
      have hW1 := ab1 wr (Obj.cells #[.string (bs t.name), .slice A3 t.fields.length c3] 53)
      have B7 := Bx.new2 wr 53 (.string (bs t.name)) (.slice A3 t.fields.length c3)
      have C3 := C2.next hW1
      by_cases e : t.name = nm
      · have E := Lib.hid (hx e)
        obtain ⟨A4, c4, hV0, hV⟩ := hV
        obtain ⟨rfl, -, rfl⟩ : A3 = A4 ∧ t.fields.length = t.fields.length ∧ c3 = c4 := by injection hV0 with h; simp at h; exact ⟨h.1, rfl, h.2⟩
        have cE := eachField_any t.fields A3 c3 (wr.alloc (Obj.cells #[.string (bs t.name), .slice A3 t.fields.length c3] 53)) (by omega) (hV.next fun x p => FdA.next (Below.next hb hW1)) (fun i h v w' hv => newField_any _ v w' (g2 _ (List.getElem_mem h)) hv)
        have hz : wr.heap.size + 1 ≤ (wr.alloc (Obj.cells #[.string (bs t.name), .slice A3 t.fields.length c3] 53)).heap.size := by simp
        clear hx hy hI hA hV hV0 g1 g2
        subst e
        have q1 := sq_t t.name
        unfold EfP at cE
        generalize hq : t.fields.length = q at *
        have HQ := Lib.hid hq
        clear hq
        go_wp2_with fail
        refine cE.mono ?_
        rintro e3 w3 ⟨A9, c9, rfl, hN9, hb9⟩
        have hb3 := Below.next (Below.next hb hW1) hb9
        have D7 := B7.next hb9
        have D3 := C3.next hb9
        have p0 := D7.c 0 rfl
        have p1 := D7.c 1 rfl
        have p2 := D7.f 1 rfl
        have p3 := D7.lt
        have t0 := D3.c 0 rfl
        have t1 := D3.c 1 rfl
        have t2 := D3.f 0 rfl
        have t3 := D3.f 1 rfl
        have t4 := D3.lt
        clear cE B7 C3 C2 r0 r1 s0 s1 h0 h1 hblk hW1
        go_wp2_with fail
        refine bodyPost_ret (v := .tuple #[.agg #[.string (bs t.name), .slice A9 q c9], .bool true]) (by simp [results, Tryz.results63, go_sem, t0, t1]) rfl ?_
        refine .some_ E.out (fun w2 hk2 => ⟨A9, c9, by rw [HQ.out], ((hN9.next ?_).next (hk2.mono (Nat.le_trans hb.size (Nat.le_trans (Nat.le_succ _) hz)))).rw_⟩) ?_
        · iterate 3 refine Kpl.set ?_ (by first | (show wr.heap.size < _; omega) | (show w.heap.size + 1 < _; omega)) _
          exact Kpl.of (Below.refl _ _)
        · have hws := hb.size
          iterate 3 refine Below.setCell ?_ (by first | (show w.heap.size ≤ wr.heap.size; omega) | (show w.heap.size ≤ w.heap.size + 1; omega)) _
          exact hb3
      · have E := Lib.hid (hy e)
        have q1 := sq_f e
        have hb3 := Below.next hb hW1
        clear hx hy hI hA hV hfw
        go_wp2_with fail
        go_roundw
        case rel => exact ⟨k + 1, by omega, by go_num, E, C3, hb3⟩
        case measure => simp [intOf]; omega
    · obtain rfl : k = n := by omega
      have E := Lib.hid (show fst_ St.name S.structs nm = none from fst_end fun j hj => hI.out j hj (by rw [← HN.out]; exact hj))
      clear hI hfw
      go_wp2_with fail
      refine bodyPost_ret (v := .tuple #[.agg #[.string ⟨#[]⟩, .slice none 0 0], .bool false]) (by simp [results, Tryz.results63, go_sem, r0, r1]) rfl (.none_ E.out ?_)
      iterate 2 refine Below.setCell ?_ (by simp) _
      exact hb
end Go.Proofs.YthfodpbecddheaaGreatDoor
/-
  Which types the developers permit: the kinds without parts. No conditions beyond those that each names.
-/
namespace Go.Proofs.YthfodpbecddheaaGreatDoor
open Go.RowKit Go.Shelf
set_option maxRecDepth 100000 in
set_option maxHeartbeats 8000000 in
theorem permitso_any (S : Sch) (k : Int) (k1 : k ≠ 1) (k2 : k ≠ 2) (k3 : k ≠ 3) (k4 : k ≠ 4) (k5 : k ≠ 5) (k6 : k ≠ 6) (k7 : k ≠ 7) (s : Int) (n : List UInt8) (e : List Ty) (v u : Value) (w : World) (hS : ScV w S v) (hT : TyV w (.mk k s n e) u) (hl : e.length ≤ 9223372036854775807) :
    Calls Tryz.prog 32 #[v, u] w (Ib (.bool (right S (.mk k s n e))) w) := by
  obtain ⟨A, c, A2, c2, rfl, -⟩ := hS
  obtain ⟨A3, c3, rfl, -⟩ := TyV.mk_.1 hT
  rw [right_eq]
  have hz : szOk k s = false := by unfold szOk; rw [if_neg k1, if_neg k2, if_neg k3, if_neg k4, if_neg k5, if_neg k6, if_neg k7]
  rw [hz, Bool.false_and]
  have x1 : (k == 1) = false := by simpa using k1
  have x2 : (k == 2) = false := by simpa using k2
  have x3 : (k == 3) = false := by simpa using k3
  have x4 : (k == 4) = false := by simpa using k4
  have x5 : (k == 5) = false := by simpa using k5
  have x6 : (k == 6) = false := by simpa using k6
  have x7 : (k == 7) = false := by simpa using k7
  clear hz k1 k2 k3 k4 k5 k6 k7
  clear hT
  generalize e.length = m at *
  by_cases hn : n = []
  · subst hn
    have q0 : (bs ([] : List UInt8)).toList = [] := toList_bs []
    have q1 : ((bs ([] : List UInt8)).toList == []) = true := by rw [toList_bs]; rfl
    by_cases he : m = 0
    · subst he
      by_cases hs : s = 0
      · subst hs
        skip
        go_enter Tryz.func32, Tryz.ntmps32
        go_wp2_with fail
        go_ret
        exact ⟨rfl, ab2 _ _ _⟩
      · have qs : (s == 0) = false := by simpa using hs
        skip
        go_enter Tryz.func32, Tryz.ntmps32
        go_wp2_with fail
        go_ret
        exact ⟨rfl, ab2 _ _ _⟩
    · have qe : ((m : Int) == 0) = false := by simp; omega
      by_cases hs : s = 0
      · subst hs
        skip
        go_enter Tryz.func32, Tryz.ntmps32
        go_wp2_with fail
        go_ret
        exact ⟨rfl, ab2 _ _ _⟩
      · have qs : (s == 0) = false := by simpa using hs
        skip
        go_enter Tryz.func32, Tryz.ntmps32
        go_wp2_with fail
        go_ret
        exact ⟨rfl, ab2 _ _ _⟩
  · have q1 : ((bs n).toList == []) = false := by rw [toList_bs, beq_eq_false_iff_ne]; exact hn
    by_cases he : m = 0
    · subst he
      by_cases hs : s = 0
      · subst hs
        skip
        go_enter Tryz.func32, Tryz.ntmps32
        go_wp2_with fail
        go_ret
        exact ⟨rfl, ab2 _ _ _⟩
      · have qs : (s == 0) = false := by simpa using hs
        skip
        go_enter Tryz.func32, Tryz.ntmps32
        go_wp2_with fail
        go_ret
        exact ⟨rfl, ab2 _ _ _⟩
    · have qe : ((m : Int) == 0) = false := by simp; omega
      by_cases hs : s = 0
      · subst hs
        skip
        go_enter Tryz.func32, Tryz.ntmps32
        go_wp2_with fail
        go_ret
        exact ⟨rfl, ab2 _ _ _⟩
      · have qs : (s == 0) = false := by simpa using hs
        skip
        go_enter Tryz.func32, Tryz.ntmps32
        go_wp2_with fail
        go_ret
        exact ⟨rfl, ab2 _ _ _⟩
set_option maxRecDepth 100000 in
set_option maxHeartbeats 8000000 in
theorem permits1_any (S : Sch) (s : Int) (n : List UInt8) (e : List Ty) (v u : Value) (w : World) (hS : ScV w S v) (hT : TyV w (.mk 1 s n e) u) (hl : e.length ≤ 9223372036854775807) :
    Calls Tryz.prog 32 #[v, u] w (Ib (.bool (right S (.mk 1 s n e))) w) := by
  obtain ⟨A, c, A2, c2, rfl, -⟩ := hS
  obtain ⟨A3, c3, rfl, -⟩ := TyV.mk_.1 hT
  rw [right_eq]
  rw [if_neg (by decide), if_neg (by decide), if_neg (by decide)]
  clear hT
  generalize e.length = m at *
  by_cases hn : n = []
  · subst hn
    have q0 : (bs ([] : List UInt8)).toList = [] := toList_bs []
    have q1 : ((bs ([] : List UInt8)).toList == []) = true := by rw [toList_bs]; rfl
    by_cases he : m = 0
    · subst he
      by_cases hs : s = 0
      · subst hs
        rw [show (szOk 1 0 && (decide (([] : List UInt8) = []) && decide (0 = 0))) = true by simp [szOk]]
        go_enter Tryz.func32, Tryz.ntmps32
        go_wp2_with fail
        go_ret
        exact ⟨rfl, ab2 _ _ _⟩
      · have qs : (s == 0) = false := by simpa using hs
        rw [show (szOk 1 s && (decide (([] : List UInt8) = []) && decide (0 = 0))) = false by simp [szOk, hs]]
        go_enter Tryz.func32, Tryz.ntmps32
        go_wp2_with fail
        go_ret
        exact ⟨rfl, ab2 _ _ _⟩
    · have qe : ((m : Int) == 0) = false := by simp; omega
      by_cases hs : s = 0
      · subst hs
        rw [show (szOk 1 0 && (decide (([] : List UInt8) = []) && decide (m = 0))) = false by simp [szOk, he]]
        go_enter Tryz.func32, Tryz.ntmps32
        go_wp2_with fail
        go_ret
        exact ⟨rfl, ab2 _ _ _⟩
      · have qs : (s == 0) = false := by simpa using hs
        rw [show (szOk 1 s && (decide (([] : List UInt8) = []) && decide (m = 0))) = false by simp [szOk, he, hs]]
        go_enter Tryz.func32, Tryz.ntmps32
        go_wp2_with fail
        go_ret
        exact ⟨rfl, ab2 _ _ _⟩
  · have q1 : ((bs n).toList == []) = false := by rw [toList_bs, beq_eq_false_iff_ne]; exact hn
    by_cases he : m = 0
    · subst he
      by_cases hs : s = 0
      · subst hs
        rw [show (szOk 1 0 && (decide ((n : List UInt8) = []) && decide (0 = 0))) = false by simp [szOk, hn]]
        go_enter Tryz.func32, Tryz.ntmps32
        go_wp2_with fail
        go_ret
        exact ⟨rfl, ab2 _ _ _⟩
      · have qs : (s == 0) = false := by simpa using hs
        rw [show (szOk 1 s && (decide ((n : List UInt8) = []) && decide (0 = 0))) = false by simp [szOk, hn, hs]]
        go_enter Tryz.func32, Tryz.ntmps32
        go_wp2_with fail
        go_ret
        exact ⟨rfl, ab2 _ _ _⟩
    · have qe : ((m : Int) == 0) = false := by simp; omega
      by_cases hs : s = 0
      · subst hs
        rw [show (szOk 1 0 && (decide ((n : List UInt8) = []) && decide (m = 0))) = false by simp [szOk, hn, he]]
        go_enter Tryz.func32, Tryz.ntmps32
        go_wp2_with fail
        go_ret
        exact ⟨rfl, ab2 _ _ _⟩
      · have qs : (s == 0) = false := by simpa using hs
        rw [show (szOk 1 s && (decide ((n : List UInt8) = []) && decide (m = 0))) = false by simp [szOk, hn, he, hs]]
        go_enter Tryz.func32, Tryz.ntmps32
        go_wp2_with fail
        go_ret
        exact ⟨rfl, ab2 _ _ _⟩
set_option maxRecDepth 100000 in
set_option maxHeartbeats 8000000 in
theorem permits4_any (S : Sch) (s : Int) (n : List UInt8) (e : List Ty) (v u : Value) (w : World) (hS : ScV w S v) (hT : TyV w (.mk 4 s n e) u) (hl : e.length ≤ 9223372036854775807) :
    Calls Tryz.prog 32 #[v, u] w (Ib (.bool (right S (.mk 4 s n e))) w) := by
  obtain ⟨A, c, A2, c2, rfl, -⟩ := hS
  obtain ⟨A3, c3, rfl, -⟩ := TyV.mk_.1 hT
  rw [right_eq]
  rw [if_neg (by decide), if_neg (by decide), if_neg (by decide)]
  clear hT
  generalize e.length = m at *
  by_cases hn : n = []
  · subst hn
    have q0 : (bs ([] : List UInt8)).toList = [] := toList_bs []
    have q1 : ((bs ([] : List UInt8)).toList == []) = true := by rw [toList_bs]; rfl
    by_cases he : m = 0
    · subst he
      by_cases hs : s = 0
      · subst hs
        rw [show (szOk 4 0 && (decide (([] : List UInt8) = []) && decide (0 = 0))) = false by simp [szOk]]
        go_enter Tryz.func32, Tryz.ntmps32
        go_wp2_with fail
        go_ret
        exact ⟨rfl, ab2 _ _ _⟩
      · have qs : (s == 0) = false := by simpa using hs
        by_cases h1 : 1 ≤ s
        · have d1 : decide (1 ≤ s) = true := decide_eq_true h1
          by_cases h2 : s ≤ 2000
          · have d2 : decide (s ≤ 2000) = true := decide_eq_true h2
            have hr : (szOk 4 s && (decide (([] : List UInt8) = []) && decide (0 = 0))) = true := by simp [szOk, h1, h2]
            clear h1 h2 hs
            rw [hr]
            go_enter Tryz.func32, Tryz.ntmps32
            go_wp2_with fail
            go_ret
            exact ⟨rfl, ab2 _ _ _⟩
          · have d2 : decide (s ≤ 2000) = false := decide_eq_false h2
            have hr : (szOk 4 s && (decide (([] : List UInt8) = []) && decide (0 = 0))) = false := by simp [szOk, h2]
            clear h1 h2 hs
            rw [hr]
            go_enter Tryz.func32, Tryz.ntmps32
            go_wp2_with fail
            go_ret
            exact ⟨rfl, ab2 _ _ _⟩
        · have d1 : decide (1 ≤ s) = false := decide_eq_false h1
          have hr : (szOk 4 s && (decide (([] : List UInt8) = []) && decide (0 = 0))) = false := by simp [szOk, h1]
          clear h1 hs
          rw [hr]
          go_enter Tryz.func32, Tryz.ntmps32
          go_wp2_with fail
          go_ret
          exact ⟨rfl, ab2 _ _ _⟩
    · have qe : ((m : Int) == 0) = false := by simp; omega
      by_cases hs : s = 0
      · subst hs
        rw [show (szOk 4 0 && (decide (([] : List UInt8) = []) && decide (m = 0))) = false by simp [szOk]]
        go_enter Tryz.func32, Tryz.ntmps32
        go_wp2_with fail
        go_ret
        exact ⟨rfl, ab2 _ _ _⟩
      · have qs : (s == 0) = false := by simpa using hs
        rw [show (szOk 4 s && (decide (([] : List UInt8) = []) && decide (m = 0))) = false by simp [szOk, he]]
        go_enter Tryz.func32, Tryz.ntmps32
        go_wp2_with fail
        go_ret
        exact ⟨rfl, ab2 _ _ _⟩
  · have q1 : ((bs n).toList == []) = false := by rw [toList_bs, beq_eq_false_iff_ne]; exact hn
    by_cases he : m = 0
    · subst he
      by_cases hs : s = 0
      · subst hs
        rw [show (szOk 4 0 && (decide ((n : List UInt8) = []) && decide (0 = 0))) = false by simp [szOk]]
        go_enter Tryz.func32, Tryz.ntmps32
        go_wp2_with fail
        go_ret
        exact ⟨rfl, ab2 _ _ _⟩
      · have qs : (s == 0) = false := by simpa using hs
        rw [show (szOk 4 s && (decide ((n : List UInt8) = []) && decide (0 = 0))) = false by simp [szOk, hn]]
        go_enter Tryz.func32, Tryz.ntmps32
        go_wp2_with fail
        go_ret
        exact ⟨rfl, ab2 _ _ _⟩
    · have qe : ((m : Int) == 0) = false := by simp; omega
      by_cases hs : s = 0
      · subst hs
        rw [show (szOk 4 0 && (decide ((n : List UInt8) = []) && decide (m = 0))) = false by simp [szOk]]
        go_enter Tryz.func32, Tryz.ntmps32
        go_wp2_with fail
        go_ret
        exact ⟨rfl, ab2 _ _ _⟩
      · have qs : (s == 0) = false := by simpa using hs
        rw [show (szOk 4 s && (decide ((n : List UInt8) = []) && decide (m = 0))) = false by simp [szOk, hn, he]]
        go_enter Tryz.func32, Tryz.ntmps32
        go_wp2_with fail
        go_ret
        exact ⟨rfl, ab2 _ _ _⟩
set_option maxRecDepth 100000 in
set_option maxHeartbeats 8000000 in
theorem permits2_any (S : Sch) (s : Int) (n : List UInt8) (e : List Ty) (v u : Value) (w : World) (hS : ScV w S v) (hT : TyV w (.mk 2 s n e) u) (hl : e.length ≤ 9223372036854775807) :
    Calls Tryz.prog 32 #[v, u] w (Ib (.bool (right S (.mk 2 s n e))) w) := by
  obtain ⟨A, c, A2, c2, rfl, -⟩ := hS
  obtain ⟨A3, c3, rfl, -⟩ := TyV.mk_.1 hT
  rw [right_eq]
  rw [if_neg (by decide), if_neg (by decide), if_neg (by decide)]
  clear hT
  generalize e.length = m at *
  by_cases hn : n = []
  · subst hn
    have q0 : (bs ([] : List UInt8)).toList = [] := toList_bs []
    have q1 : ((bs ([] : List UInt8)).toList == []) = true := by rw [toList_bs]; rfl
    by_cases he : m = 0
    · subst he
      by_cases hs : s = 0
      · subst hs
        have hB := Bx.new4 ((w.alloc (Obj.cells #[.int .i64 S.ver, .slice A S.enums.length c, .slice A2 S.structs.length c2] 25)).alloc (Obj.cells #[.int .i64 2, .int .i64 0, .string (bs []), .slice A3 0 c3] 29)) 3 (.int .i64 8) (.int .i64 16) (.int .i64 32) (.int .i64 64)
        rw [show ((w.alloc (Obj.cells #[.int .i64 S.ver, .slice A S.enums.length c, .slice A2 S.structs.length c2] 25)).alloc (Obj.cells #[.int .i64 2, .int .i64 0, .string (bs []), .slice A3 0 c3] 29)).heap.size = w.heap.size + 1 + 1 by simp] at hB
        have cC := containsInts_any [8, 16, 32, 64] 0 (some ⟨w.heap.size + 1 + 1, 0, none⟩) 4 _ (by simp) (.inr ⟨_, rfl, fun i hi => by
          have hi : i < 4 := hi
          match i, hi with
          | 0, _ => exact hB.c 0 rfl
          | 1, _ => exact hB.c 1 rfl
          | 2, _ => exact hB.c 2 rfl
          | 3, _ => exact hB.c 3 rfl⟩)
        have hr : (szOk 2 0 && (decide (([] : List UInt8) = []) && decide (0 = 0))) = false := by simp [szOk]
        rw [hr]
        clear hr hB
        rw [show ([8, 16, 32, 64] : List Int).contains 0 = false by decide] at cC
        have cC : Calls Tryz.prog 54 #[.slice (some ⟨w.heap.size + 1 + 1, 0, none⟩) 4 4, .int .i64 0] _ _ := cC
        skip
        go_enter Tryz.func32, Tryz.ntmps32
        go_wp2_with fail
        refine cC.mono ?_
        rintro e9 w9 ⟨rfl, rfl⟩
        go_wp2_with fail
        go_ret
        exact ⟨rfl, ab3 _ _ _ _⟩
      · have qs : (s == 0) = false := by simpa using hs
        have hB := Bx.new4 ((w.alloc (Obj.cells #[.int .i64 S.ver, .slice A S.enums.length c, .slice A2 S.structs.length c2] 25)).alloc (Obj.cells #[.int .i64 2, .int .i64 s, .string (bs []), .slice A3 0 c3] 29)) 3 (.int .i64 8) (.int .i64 16) (.int .i64 32) (.int .i64 64)
        rw [show ((w.alloc (Obj.cells #[.int .i64 S.ver, .slice A S.enums.length c, .slice A2 S.structs.length c2] 25)).alloc (Obj.cells #[.int .i64 2, .int .i64 s, .string (bs []), .slice A3 0 c3] 29)).heap.size = w.heap.size + 1 + 1 by simp] at hB
        have cC := containsInts_any [8, 16, 32, 64] s (some ⟨w.heap.size + 1 + 1, 0, none⟩) 4 _ (by simp) (.inr ⟨_, rfl, fun i hi => by
          have hi : i < 4 := hi
          match i, hi with
          | 0, _ => exact hB.c 0 rfl
          | 1, _ => exact hB.c 1 rfl
          | 2, _ => exact hB.c 2 rfl
          | 3, _ => exact hB.c 3 rfl⟩)
        have hr : (szOk 2 s && (decide (([] : List UInt8) = []) && decide (0 = 0))) = [8, 16, 32, 64].contains s := by rw [Bool.eq_iff_iff]; simp [szOk, or_assoc]
        rw [hr]
        clear hr hB
        have cC : Calls Tryz.prog 54 #[.slice (some ⟨w.heap.size + 1 + 1, 0, none⟩) 4 4, .int .i64 s] _ _ := cC
        generalize [8, 16, 32, 64].contains s = r at cC ⊢
        skip
        go_enter Tryz.func32, Tryz.ntmps32
        go_wp2_with fail
        refine cC.mono ?_
        rintro e9 w9 ⟨rfl, rfl⟩
        go_wp2_with fail
        go_ret
        exact ⟨rfl, ab3 _ _ _ _⟩
    · have qe : ((m : Int) == 0) = false := by simp; omega
      by_cases hs : s = 0
      · subst hs
        rw [show (szOk 2 0 && (decide (([] : List UInt8) = []) && decide (m = 0))) = false by simp [he]]
        go_enter Tryz.func32, Tryz.ntmps32
        go_wp2_with fail
        go_ret
        exact ⟨rfl, ab2 _ _ _⟩
      · have qs : (s == 0) = false := by simpa using hs
        rw [show (szOk 2 s && (decide (([] : List UInt8) = []) && decide (m = 0))) = false by simp [he]]
        go_enter Tryz.func32, Tryz.ntmps32
        go_wp2_with fail
        go_ret
        exact ⟨rfl, ab2 _ _ _⟩
  · have q1 : ((bs n).toList == []) = false := by rw [toList_bs, beq_eq_false_iff_ne]; exact hn
    by_cases he : m = 0
    · subst he
      by_cases hs : s = 0
      · subst hs
        rw [show (szOk 2 0 && (decide ((n : List UInt8) = []) && decide (0 = 0))) = false by simp [hn]]
        go_enter Tryz.func32, Tryz.ntmps32
        go_wp2_with fail
        go_ret
        exact ⟨rfl, ab2 _ _ _⟩
      · have qs : (s == 0) = false := by simpa using hs
        rw [show (szOk 2 s && (decide ((n : List UInt8) = []) && decide (0 = 0))) = false by simp [hn]]
        go_enter Tryz.func32, Tryz.ntmps32
        go_wp2_with fail
        go_ret
        exact ⟨rfl, ab2 _ _ _⟩
    · have qe : ((m : Int) == 0) = false := by simp; omega
      by_cases hs : s = 0
      · subst hs
        rw [show (szOk 2 0 && (decide ((n : List UInt8) = []) && decide (m = 0))) = false by simp [hn, he]]
        go_enter Tryz.func32, Tryz.ntmps32
        go_wp2_with fail
        go_ret
        exact ⟨rfl, ab2 _ _ _⟩
      · have qs : (s == 0) = false := by simpa using hs
        rw [show (szOk 2 s && (decide ((n : List UInt8) = []) && decide (m = 0))) = false by simp [hn, he]]
        go_enter Tryz.func32, Tryz.ntmps32
        go_wp2_with fail
        go_ret
        exact ⟨rfl, ab2 _ _ _⟩
set_option maxRecDepth 100000 in
set_option maxHeartbeats 8000000 in
theorem permits3_any (S : Sch) (s : Int) (n : List UInt8) (e : List Ty) (v u : Value) (w : World) (hS : ScV w S v) (hT : TyV w (.mk 3 s n e) u) (hl : e.length ≤ 9223372036854775807) :
    Calls Tryz.prog 32 #[v, u] w (Ib (.bool (right S (.mk 3 s n e))) w) := by
  obtain ⟨A, c, A2, c2, rfl, -⟩ := hS
  obtain ⟨A3, c3, rfl, -⟩ := TyV.mk_.1 hT
  rw [right_eq]
  rw [if_neg (by decide), if_neg (by decide), if_neg (by decide)]
  clear hT
  generalize e.length = m at *
  by_cases hn : n = []
  · subst hn
    have q0 : (bs ([] : List UInt8)).toList = [] := toList_bs []
    have q1 : ((bs ([] : List UInt8)).toList == []) = true := by rw [toList_bs]; rfl
    by_cases he : m = 0
    · subst he
      by_cases hs : s = 0
      · subst hs
        have hB := Bx.new3 ((w.alloc (Obj.cells #[.int .i64 S.ver, .slice A S.enums.length c, .slice A2 S.structs.length c2] 25)).alloc (Obj.cells #[.int .i64 3, .int .i64 0, .string (bs []), .slice A3 0 c3] 29)) 3 (.int .i64 8) (.int .i64 16) (.int .i64 32)
        rw [show ((w.alloc (Obj.cells #[.int .i64 S.ver, .slice A S.enums.length c, .slice A2 S.structs.length c2] 25)).alloc (Obj.cells #[.int .i64 3, .int .i64 0, .string (bs []), .slice A3 0 c3] 29)).heap.size = w.heap.size + 1 + 1 by simp] at hB
        have cC := containsInts_any [8, 16, 32] 0 (some ⟨w.heap.size + 1 + 1, 0, none⟩) 3 _ (by simp) (.inr ⟨_, rfl, fun i hi => by
          have hi : i < 3 := hi
          match i, hi with
          | 0, _ => exact hB.c 0 rfl
          | 1, _ => exact hB.c 1 rfl
          | 2, _ => exact hB.c 2 rfl⟩)
        have hr : (szOk 3 0 && (decide (([] : List UInt8) = []) && decide (0 = 0))) = false := by simp [szOk]
        rw [hr]
        clear hr hB
        rw [show ([8, 16, 32] : List Int).contains 0 = false by decide] at cC
        have cC : Calls Tryz.prog 54 #[.slice (some ⟨w.heap.size + 1 + 1, 0, none⟩) 3 3, .int .i64 0] _ _ := cC
        skip
        go_enter Tryz.func32, Tryz.ntmps32
        go_wp2_with fail
        refine cC.mono ?_
        rintro e9 w9 ⟨rfl, rfl⟩
        go_wp2_with fail
        go_ret
        exact ⟨rfl, ab3 _ _ _ _⟩
      · have qs : (s == 0) = false := by simpa using hs
        have hB := Bx.new3 ((w.alloc (Obj.cells #[.int .i64 S.ver, .slice A S.enums.length c, .slice A2 S.structs.length c2] 25)).alloc (Obj.cells #[.int .i64 3, .int .i64 s, .string (bs []), .slice A3 0 c3] 29)) 3 (.int .i64 8) (.int .i64 16) (.int .i64 32)
        rw [show ((w.alloc (Obj.cells #[.int .i64 S.ver, .slice A S.enums.length c, .slice A2 S.structs.length c2] 25)).alloc (Obj.cells #[.int .i64 3, .int .i64 s, .string (bs []), .slice A3 0 c3] 29)).heap.size = w.heap.size + 1 + 1 by simp] at hB
        have cC := containsInts_any [8, 16, 32] s (some ⟨w.heap.size + 1 + 1, 0, none⟩) 3 _ (by simp) (.inr ⟨_, rfl, fun i hi => by
          have hi : i < 3 := hi
          match i, hi with
          | 0, _ => exact hB.c 0 rfl
          | 1, _ => exact hB.c 1 rfl
          | 2, _ => exact hB.c 2 rfl⟩)
        have hr : (szOk 3 s && (decide (([] : List UInt8) = []) && decide (0 = 0))) = [8, 16, 32].contains s := by rw [Bool.eq_iff_iff]; simp [szOk, or_assoc]
        rw [hr]
        clear hr hB
        have cC : Calls Tryz.prog 54 #[.slice (some ⟨w.heap.size + 1 + 1, 0, none⟩) 3 3, .int .i64 s] _ _ := cC
        generalize [8, 16, 32].contains s = r at cC ⊢
        skip
        go_enter Tryz.func32, Tryz.ntmps32
        go_wp2_with fail
        refine cC.mono ?_
        rintro e9 w9 ⟨rfl, rfl⟩
        go_wp2_with fail
        go_ret
        exact ⟨rfl, ab3 _ _ _ _⟩
    · have qe : ((m : Int) == 0) = false := by simp; omega
      by_cases hs : s = 0
      · subst hs
        rw [show (szOk 3 0 && (decide (([] : List UInt8) = []) && decide (m = 0))) = false by simp [he]]
        go_enter Tryz.func32, Tryz.ntmps32
        go_wp2_with fail
        go_ret
        exact ⟨rfl, ab2 _ _ _⟩
      · have qs : (s == 0) = false := by simpa using hs
        rw [show (szOk 3 s && (decide (([] : List UInt8) = []) && decide (m = 0))) = false by simp [he]]
        go_enter Tryz.func32, Tryz.ntmps32
        go_wp2_with fail
        go_ret
        exact ⟨rfl, ab2 _ _ _⟩
  · have q1 : ((bs n).toList == []) = false := by rw [toList_bs, beq_eq_false_iff_ne]; exact hn
    by_cases he : m = 0
    · subst he
      by_cases hs : s = 0
      · subst hs
        rw [show (szOk 3 0 && (decide ((n : List UInt8) = []) && decide (0 = 0))) = false by simp [hn]]
        go_enter Tryz.func32, Tryz.ntmps32
        go_wp2_with fail
        go_ret
        exact ⟨rfl, ab2 _ _ _⟩
      · have qs : (s == 0) = false := by simpa using hs
        rw [show (szOk 3 s && (decide ((n : List UInt8) = []) && decide (0 = 0))) = false by simp [hn]]
        go_enter Tryz.func32, Tryz.ntmps32
        go_wp2_with fail
        go_ret
        exact ⟨rfl, ab2 _ _ _⟩
    · have qe : ((m : Int) == 0) = false := by simp; omega
      by_cases hs : s = 0
      · subst hs
        rw [show (szOk 3 0 && (decide ((n : List UInt8) = []) && decide (m = 0))) = false by simp [hn, he]]
        go_enter Tryz.func32, Tryz.ntmps32
        go_wp2_with fail
        go_ret
        exact ⟨rfl, ab2 _ _ _⟩
      · have qs : (s == 0) = false := by simpa using hs
        rw [show (szOk 3 s && (decide ((n : List UInt8) = []) && decide (m = 0))) = false by simp [hn, he]]
        go_enter Tryz.func32, Tryz.ntmps32
        go_wp2_with fail
        go_ret
        exact ⟨rfl, ab2 _ _ _⟩
end Go.Proofs.YthfodpbecddheaaGreatDoor


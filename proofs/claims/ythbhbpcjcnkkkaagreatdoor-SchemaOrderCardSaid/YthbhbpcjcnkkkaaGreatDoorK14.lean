/-
  The developers' Struct and FieldOf. No conditions beyond those that each names.
-/
import Derived.Test.YthbhbpcjcnkkkaaGreatDoorK13
import Derived.Test.YthbhbpcjcnkkkaaGreatDoorK12
import Derived.Test.YthbhbpcjcnkkkaaGreatDoorK06
import Derived.Lib.LaidU8
import Derived.Lib.LaidTab
import Derived.Stop.LaidErr
import Derived.MakeChecks
import Derived.Deep.Slices
import Derived.WideKeyArgs
import Derived.ChangeMaps5
namespace Go.Proofs.YthbhbpcjcnkkkaaGreatDoor
open Go.RowKit Go.Shelf
set_option maxRecDepth 100000 in
set_option maxHeartbeats 4000000 in
theorem devStruct_any (S : Sch) (nm : List UInt8) (v : Value) (w : World) (hv : ScV w S v) (hn : S.structs.length ≤ 1000) (hfw : ∀ t ∈ S.structs, t.fields.length ≤ 1000 ∧ ∀ f ∈ t.fields, fewT f.type = true) :
    Calls Tryz.prog 13 #[v, .string (bs nm)] w (StO (fst_ St.name S.structs nm) w) := by
  obtain ⟨A, c, A2, c2, rfl, hS⟩ := hv
  have hSs := hS.st
  clear hS
  obtain ⟨m, hm⟩ : ∃ m, S.enums.length = m := ⟨_, rfl⟩
  obtain ⟨n, hn2⟩ : ∃ n, S.structs.length = n := ⟨_, rfl⟩
  have HN := Lib.hid hn2
  rw [hn2] at hn
  rw [hm, hn2]
  clear hn2 hm
  have z1 : (w.alloc (Obj.cells #[.int .i64 S.ver, .slice A m c, .slice A2 n c2] 25)).heap.size = w.heap.size + 1 := by simp
  have B1 := (Bx.new3 w 25 (.int .i64 S.ver) (.slice A m c) (.slice A2 n c2)).next (ab1 _ (Obj.cells #[.string ⟨#[]⟩, .slice none 0 0] 32))
  have B2 := Bx.new2 (w.alloc (Obj.cells #[.int .i64 S.ver, .slice A m c, .slice A2 n c2] 25)) 32 (.string ⟨#[]⟩) (.slice none 0 0)
  rw [z1] at B2
  have hab := ab2 w (Obj.cells #[.int .i64 S.ver, .slice A m c, .slice A2 n c2] 25) (Obj.cells #[.string ⟨#[]⟩, .slice none 0 0] 32)
  have HI0 : Hid (∀ j (hj : j < S.structs.length), j < 0 → (S.structs[j]'hj).name ≠ nm) := Lib.hid fun j _ h => by omega
  clear z1
  go_enter Tryz.func13, Tryz.ntmps13
  go_wp2_with fail
  go_loopw [11] (fun i wr => ∃ k : Nat, k ≤ n ∧ i = .int .i64 (k : Int) ∧ Hid (∀ j (hj : j < S.structs.length), j < k → (S.structs[j]'hj).name ≠ nm) ∧ Bx wr (w.heap.size + 1) [.string ⟨#[]⟩, .slice none 0 0] ∧ Below w.heap.size w wr) (fun i _ => n - (intOf i).toNat)
  case atStart => exact ⟨0, by omega, rfl, HI0, B2, hab⟩
  case round =>
    obtain ⟨k, hk, rfl, hI, C2, hb⟩ := hrel
    clear HI0 B1 B2 hab
    have r0 := C2.c 0 rfl
    have r1 := C2.c 1 rfl
    have s0 := C2.f 0 rfl
    have s1 := C2.f 1 rfl
    have l2 := C2.lt
    by_cases hlt : k < n
    · have hkm : k < S.structs.length := by rw [HN.out]; exact hlt
      obtain ⟨a, rfl, hA⟩ := hSs.get (i := k) hkm
      obtain ⟨A3, c3, h0, h1, hV⟩ := hA.val
      replace h0 := cell_next hb h0
      replace h1 := cell_next hb h1
      have hblk : (a.add (k * 2)).block < wr.heap.size := blk_lt h0
      have hx : (S.structs[k]'hkm).name = nm → fst_ St.name S.structs nm = some (S.structs[k]'hkm) := fun e => fst_at hkm hI.out e
      have hy : (S.structs[k]'hkm).name ≠ nm → ∀ j (hj : j < S.structs.length), j < k + 1 → (S.structs[j]'hj).name ≠ nm := fun e j hj hjk => by
        by_cases hjk2 : j < k
        · exact hI.out j hj hjk2
        · obtain rfl : j = k := by omega
          exact e
      obtain ⟨g1, g2⟩ := hfw _ (List.getElem_mem hkm)
      generalize S.structs[k]'hkm = t at *
      have hW1 := ab1 wr (Obj.cells #[.string (bs t.name), .slice A3 t.fields.length c3] 32)
      have B7 := Bx.new2 wr 32 (.string (bs t.name)) (.slice A3 t.fields.length c3)
      have C3 := C2.next hW1
      by_cases e : t.name = nm
      · have E := Lib.hid (hx e)
        obtain ⟨A4, c4, hV0, hV⟩ := hV
        obtain ⟨rfl, -, rfl⟩ : A3 = A4 ∧ t.fields.length = t.fields.length ∧ c3 = c4 := by injection hV0 with h; simp at h; exact ⟨h.1, rfl, h.2⟩
        have cE := eachField_any t.fields A3 c3 (wr.alloc (Obj.cells #[.string (bs t.name), .slice A3 t.fields.length c3] 32)) (by omega) (hV.next fun x p => FdA.next (Below.next hb hW1)) (fun i h v w' hv => newField_any _ v w' (g2 _ (List.getElem_mem h)) hv)
        have hz : wr.heap.size + 1 ≤ (wr.alloc (Obj.cells #[.string (bs t.name), .slice A3 t.fields.length c3] 32)).heap.size := by simp
        clear hx hy hI hA hV hV0 g1 g2
        subst e
        have q1 := sq_t t.name
        unfold EfP at cE
        generalize hq : t.fields.length = q at *
        have HQ := Lib.hid hq
        clear hq
        go_wp2_with fail
        refine cE.mono ?_
        rintro e3 w3 ⟨A9, c9, rfl, hN9, hb9⟩
        have hb3 := Below.next (Below.next hb hW1) hb9
        have D7 := B7.next hb9
        have D3 := C3.next hb9
        have p0 := D7.c 0 rfl
        have p1 := D7.c 1 rfl
        have p2 := D7.f 1 rfl
        have p3 := D7.lt
        have t0 := D3.c 0 rfl
        have t1 := D3.c 1 rfl
        have t2 := D3.f 0 rfl
        have t3 := D3.f 1 rfl
        have t4 := D3.lt
        clear cE B7 C3 C2 r0 r1 s0 s1 h0 h1 hblk hW1
        go_wp2_with fail
        refine bodyPost_ret (v := .tuple #[.agg #[.string (bs t.name), .slice A9 q c9], .bool true]) (by simp [results, Tryz.results13, go_sem, t0, t1]) rfl ?_
        refine .some_ E.out ⟨A9, c9, by rw [HQ.out], (hN9.next ?_).rw_⟩ ?_
        · iterate 3 refine Kpl.set ?_ (by first | (show wr.heap.size < _; omega) | (show w.heap.size + 1 < _; omega)) _
          exact Kpl.of (Below.refl _ _)
        · have hws := hb.size
          iterate 3 refine Below.setCell ?_ (by first | (show w.heap.size ≤ wr.heap.size; omega) | (show w.heap.size ≤ w.heap.size + 1; omega)) _
          exact hb3
      · have E := Lib.hid (hy e)
        have q1 := sq_f e
        have hb3 := Below.next hb hW1
        clear hx hy hI hA hV hfw
        go_wp2_with fail
        go_roundw
        case rel => exact ⟨k + 1, by omega, by go_num, E, C3, hb3⟩
        case measure => simp [intOf]; omega
    · obtain rfl : k = n := by omega
      have E := Lib.hid (show fst_ St.name S.structs nm = none from fst_end fun j hj => hI.out j hj (by rw [← HN.out]; exact hj))
      clear hI hfw
      go_wp2_with fail
      refine bodyPost_ret (v := .tuple #[.agg #[.string ⟨#[]⟩, .slice none 0 0], .bool false]) (by simp [results, Tryz.results13, go_sem, r0, r1]) rfl (.none_ E.out ?_)
      iterate 2 refine Below.setCell ?_ (by simp) _
      exact hb
set_option maxRecDepth 100000 in
set_option maxHeartbeats 4000000 in
theorem devFieldOf_any (t : St) (nb : Int) (v : Value) (w : World) (hv : StV w t v) (hn : t.fields.length ≤ 1000) (hfw : ∀ f ∈ t.fields, fewT f.type = true) :
    Calls Tryz.prog 19 #[v, .int .i64 nb] w (FdO (fst_ Fd.num t.fields nb) w) := by
  obtain ⟨A, c, rfl, hS⟩ := hv
  obtain ⟨n, hn2⟩ : ∃ n, t.fields.length = n := ⟨_, rfl⟩
  have HN := Lib.hid hn2
  rw [hn2] at hn ⊢
  clear hn2
  have z1 : (w.alloc (Obj.cells #[.string (bs t.name), .slice A n c] 32)).heap.size = w.heap.size + 1 := by simp
  have B2 := Bx.new7 (w.alloc (Obj.cells #[.string (bs t.name), .slice A n c] 32)) 47 (.int .i64 0) (.string ⟨#[]⟩) (.int .i64 0) (.int .i64 0) (.string ⟨#[]⟩) (.slice none 0 0) (.bool false)
  rw [z1] at B2
  have hab := ab2 w (Obj.cells #[.string (bs t.name), .slice A n c] 32) (Obj.cells #[.int .i64 0, .string ⟨#[]⟩, .int .i64 0, .int .i64 0, .string ⟨#[]⟩, .slice none 0 0, .bool false] 47)
  have HI0 : Hid (∀ j (hj : j < t.fields.length), j < 0 → (t.fields[j]'hj).num ≠ nb) := Lib.hid fun j _ h => by omega
  clear z1
  go_enter Tryz.func19, Tryz.ntmps19
  go_wp2_with fail
  go_loopw [11] (fun i wr => ∃ k : Nat, k ≤ n ∧ i = .int .i64 (k : Int) ∧ Hid (∀ j (hj : j < t.fields.length), j < k → (t.fields[j]'hj).num ≠ nb) ∧ Bx wr (w.heap.size + 1) [.int .i64 0, .string ⟨#[]⟩, .int .i64 0, .int .i64 0, .string ⟨#[]⟩, .slice none 0 0, .bool false] ∧ Below w.heap.size w wr) (fun i _ => n - (intOf i).toNat)
  case atStart => exact ⟨0, by omega, rfl, HI0, B2, hab⟩
  case round =>
    obtain ⟨k, hk, rfl, hI, C2, hb⟩ := hrel
    clear HI0 B2 hab
    have r0 := C2.c 0 rfl
    have s0 := C2.f 0 rfl
    have r1 := C2.c 1 rfl
    have s1 := C2.f 1 rfl
    have r2 := C2.c 2 rfl
    have s2 := C2.f 2 rfl
    have r3 := C2.c 3 rfl
    have s3 := C2.f 3 rfl
    have r4 := C2.c 4 rfl
    have s4 := C2.f 4 rfl
    have r5 := C2.c 5 rfl
    have s5 := C2.f 5 rfl
    have r6 := C2.c 6 rfl
    have s6 := C2.f 6 rfl
    have l2 := C2.lt
    by_cases hlt : k < n
    · have hkm : k < t.fields.length := by rw [HN.out]; exact hlt
      obtain ⟨a, rfl, hA⟩ := hS.get (i := k) hkm
      obtain ⟨A3, c3, h0, h1, h2, h3, h4, h5, h6, hV, -⟩ := hA.val
      replace h0 := cell_next hb h0
      replace h1 := cell_next hb h1
      replace h2 := cell_next hb h2
      replace h3 := cell_next hb h3
      replace h4 := cell_next hb h4
      replace h5 := cell_next hb h5
      replace h6 := cell_next hb h6
      have hblk : (a.add (k * 7)).block < wr.heap.size := blk_lt h0
      have hx : (t.fields[k]'hkm).num = nb → fst_ Fd.num t.fields nb = some (t.fields[k]'hkm) := fun e => fst_at hkm hI.out e
      have hy : (t.fields[k]'hkm).num ≠ nb → ∀ j (hj : j < t.fields.length), j < k + 1 → (t.fields[j]'hj).num ≠ nb := fun e j hj hjk => by
        by_cases hjk2 : j < k
        · exact hI.out j hj hjk2
        · obtain rfl : j = k := by omega
          exact e
      have g2 := hfw _ (List.getElem_mem hkm)
      generalize t.fields[k]'hkm = f at *
      have hW1 := ab1 wr (Obj.cells #[.int .i64 f.num, .string (bs f.name), .int .i64 f.type.kind, .int .i64 f.type.size, .string (bs f.type.name), .slice A3 f.type.elem.length c3, .bool f.opt] 47)
      have C3 := C2.next hW1
      by_cases e : f.num = nb
      · have E := Lib.hid (hx e)
        have cE := newField_any f _ (wr.alloc (Obj.cells #[.int .i64 f.num, .string (bs f.name), .int .i64 f.type.kind, .int .i64 f.type.size, .string (bs f.type.name), .slice A3 f.type.elem.length c3, .bool f.opt] 47)) g2 (hV.next (Below.next hb hW1))
        have hz : wr.heap.size + 1 ≤ (wr.alloc (Obj.cells #[.int .i64 f.num, .string (bs f.name), .int .i64 f.type.kind, .int .i64 f.type.size, .string (bs f.type.name), .slice A3 f.type.elem.length c3, .bool f.opt] 47)).heap.size := by simp
        clear hx hy hI hA hV g2 hfw
        subst e
        unfold FtP at cE
        go_wp2_with fail
        refine cE.mono ?_
        rintro e3 w3 ⟨A9, c9, rfl, hN9, hb9⟩
        have hb3 := Below.next (Below.next hb hW1) hb9
        have D3 := C3.next hb9
        have t0 := D3.c 0 rfl
        have u0 := D3.f 0 rfl
        have t1 := D3.c 1 rfl
        have u1 := D3.f 1 rfl
        have t2 := D3.c 2 rfl
        have u2 := D3.f 2 rfl
        have t3 := D3.c 3 rfl
        have u3 := D3.f 3 rfl
        have t4 := D3.c 4 rfl
        have u4 := D3.f 4 rfl
        have t5 := D3.c 5 rfl
        have u5 := D3.f 5 rfl
        have t6 := D3.c 6 rfl
        have u6 := D3.f 6 rfl
        have t9 := D3.lt
        clear cE C3 C2 r0 r1 r2 r3 r4 r5 r6 s0 s1 s2 s3 s4 s5 s6 h0 h1 h2 h3 h4 h5 h6 hblk hW1
        go_wp2_with fail
        refine bodyPost_ret (v := .tuple #[.agg #[.int .i64 f.num, .string (bs f.name), .int .i64 f.type.kind, .int .i64 f.type.size, .string (bs f.type.name), .slice A9 f.type.elem.length c9, .bool f.opt], .bool true]) (by simp [results, Tryz.results19, go_sem, t0, t1, t2, t3, t4, t5, t6]) rfl ?_
        refine .some_ E.out ⟨A9, c9, rfl, (hN9.next ?_).rw_⟩ ?_
        · iterate 7 refine Kpl.set ?_ (by show w.heap.size + 1 < _; omega) _
          exact Kpl.of (Below.refl _ _)
        · iterate 7 refine Below.setCell ?_ (by show w.heap.size ≤ w.heap.size + 1; omega) _
          exact hb3
      · have E := Lib.hid (hy e)
        have q1 : (f.num == nb) = false := by simpa using e
        have hb3 := Below.next hb hW1
        clear hx hy hI hA hV hfw
        go_wp2_with fail
        go_roundw
        case rel => exact ⟨k + 1, by omega, by go_num, E, C3, hb3⟩
        case measure => simp [intOf]; omega
    · obtain rfl : k = n := by omega
      have E := Lib.hid (show fst_ Fd.num t.fields nb = none from fst_end fun j hj => hI.out j hj (by rw [← HN.out]; exact hj))
      clear hI hfw
      go_wp2_with fail
      refine bodyPost_ret (v := .tuple #[.agg #[.int .i64 0, .string ⟨#[]⟩, .int .i64 0, .int .i64 0, .string ⟨#[]⟩, .slice none 0 0, .bool false], .bool false]) (by simp [results, Tryz.results19, go_sem, r0, r1, r2, r3, r4, r5, r6]) rfl (.none_ E.out ?_)
      iterate 7 refine Below.setCell ?_ (by simp) _
      exact hb
end Go.Proofs.YthbhbpcjcnkkkaaGreatDoor
/-
  The chapter's example. No conditions beyond those that each names.
-/
namespace Go.Proofs.YthbhbpcjcnkkkaaGreatDoor
open Go.RowKit Go.Shelf
/-- Objects made one behind the other. -/
def allocs (w : World) (os : List Obj) : World := os.foldl World.alloc w
theorem allocs_below (os : List Obj) : ∀ w, Below w.heap.size w (allocs w os) := by
  induction os with
  | nil => exact fun w => Below.refl _ _
  | cons o os ih => exact fun w => Below.next (ab1 w o) (ih _)
theorem allocs_at (os : List Obj) : ∀ (w : World) (i : Nat) (o : Obj), os[i]? = some o → (allocs w os).heap[w.heap.size + i]? = some o := by
  induction os with
  | nil => intro w i o h; simp at h
  | cons o' os ih =>
    intro w i o h
    cases i with
    | zero =>
      have h : o' = o := by simpa using h
      subst h
      have := (allocs_below os (w.alloc o')).block w.heap.size (by simp)
      exact this.trans (heap_alloc_new w _)
    | succ i =>
      have := ih (w.alloc o') i o (by simpa using h)
      rw [show (w.alloc o').heap.size + i = w.heap.size + (i + 1) by simp; omega] at this
      exact this
theorem Bx.of_heap {w : World} {g : Nat} {a : Array Value} {t : TypeId} (h : w.heap[g]? = some (Obj.cells a t)) : Bx w g a.toList :=
  ⟨(Array.getElem?_eq_some_iff.1 h).1, fun j v e => ⟨by rw [cell_of_row _ _ j a t (0, 0) h]; simpa using e, frozen_of_row _ _ j a t h⟩⟩
def nTag : List UInt8 := [84, 97, 103]
def nPose : List UInt8 := [80, 111, 115, 101]
def nMode : List UInt8 := [77, 111, 100, 101]
def tagSt (k : Int) (nm : List UInt8) : St := ⟨nTag, [⟨1, [109, 111, 100, 101], false, .mk k 0 nm []⟩]⟩
def poseSt : St := ⟨nPose, [⟨1, [120], false, .mk 2 32 [] []⟩, ⟨3, [116, 97, 103, 115], false, .mk 5 4 [] [.mk 6 0 nTag []]⟩]⟩
def exSc (k : Int) (nm : List UInt8) : Sch := ⟨1, [⟨nMode, [[105, 100, 108, 101], [114, 117, 110]], [0, 1]⟩], [tagSt k nm, poseSt]⟩
def exV (g : Nat) : Value := .agg #[.int .i64 1, .slice (some ⟨g + 9, 0, none⟩) 1 1, .slice (some ⟨g + 10, 0, none⟩) 2 2]
/-- The example in memory. -/
structure ExM (W : World) (g : Nat) (k : Int) (nm : List UInt8) : Prop where
  b1 : Bx W (g + 1) [.int .i64 1, .string (bs [109, 111, 100, 101]), .int .i64 k, .int .i64 0, .string (bs nm), .slice none 0 0, .bool false]
  b3 : Bx W (g + 3) [.int .i64 6, .int .i64 0, .string (bs nTag), .slice none 0 0]
  b5 : Bx W (g + 5) [.int .i64 1, .string (bs [120]), .int .i64 2, .int .i64 32, .string (bs []), .slice none 0 0, .bool false, .int .i64 3, .string (bs [116, 97, 103, 115]), .int .i64 5, .int .i64 4, .string (bs []), .slice (some ⟨g + 3, 0, none⟩) 1 1, .bool false]
  b7 : Bx W (g + 7) [.string (bs [105, 100, 108, 101]), .string (bs [114, 117, 110])]
  b8 : Bx W (g + 8) [.int .i64 0, .int .i64 1]
  b9 : Bx W (g + 9) [.string (bs nMode), .slice (some ⟨g + 7, 0, none⟩) 2 2, .slice (some ⟨g + 8, 0, none⟩) 2 2]
  b10 : Bx W (g + 10) [.string (bs nTag), .slice (some ⟨g + 1, 0, none⟩) 1 1, .string (bs nPose), .slice (some ⟨g + 5, 0, none⟩) 2 2]
theorem ExM.next {W W' : World} {g : Nat} {k : Int} {nm : List UInt8} (h : ExM W g k nm) (hb : Below W.heap.size W W') : ExM W' g k nm :=
  ⟨h.b1.next hb, h.b3.next hb, h.b5.next hb, h.b7.next hb, h.b8.next hb, h.b9.next hb, h.b10.next hb⟩
theorem rw1 {α : Type} {P : World → α → Addr → Prop} {z : Nat} {w : World} {x : α} {g : Nat} (h : P w x ⟨g, 0, none⟩) : Rw P z w [x] (some ⟨g, 0, none⟩) := .inr ⟨_, rfl, fun i hi => by
  obtain rfl : i = 0 := by simpa using hi
  rw [Nat.zero_mul]
  exact h⟩
theorem rw2 {α : Type} {P : World → α → Addr → Prop} {z : Nat} {w : World} {x y : α} {g : Nat} (h : P w x ⟨g, 0, none⟩) (k : P w y ⟨g, z, none⟩) : Rw P z w [x, y] (some ⟨g, 0, none⟩) := .inr ⟨_, rfl, fun i hi => by
  match i, hi with
  | 0, _ => rw [Nat.zero_mul]; exact h
  | 1, _ => rw [Addr.add_lit, Nat.one_mul, Nat.zero_add]; exact k⟩
theorem ExM.sc {W : World} {g : Nat} {k : Int} {nm : List UInt8} (h : ExM W g k nm) : ScV W (exSc k nm) (exV g) := by
  have hT : TyA W (.mk 6 0 nTag []) ⟨g + 3, 0, none⟩ := TyA.of (h.b3.c 0 rfl) (h.b3.c 1 rfl) (h.b3.c 2 rfl) (h.b3.c 3 rfl) (.inl rfl)
  refine ⟨_, _, _, _, rfl, ⟨rw1 ⟨h.b9.c 0 rfl, ⟨_, _, h.b9.c 1 rfl, rw2 (h.b7.c 0 rfl) (h.b7.c 1 rfl)⟩, _, _, h.b9.c 2 rfl, rw2 (h.b8.c 0 rfl) (h.b8.c 1 rfl)⟩, rw2 ⟨h.b10.c 0 rfl, _, _, h.b10.c 1 rfl, rw1 ?_⟩ ⟨h.b10.c 2 rfl, _, _, h.b10.c 3 rfl, rw2 ?_ ?_⟩⟩⟩
  · exact ⟨h.b1.c 0 rfl, h.b1.c 1 rfl, h.b1.c 2 rfl, h.b1.c 3 rfl, h.b1.c 4 rfl, ⟨_, _, h.b1.c 5 rfl, .inl rfl⟩, h.b1.c 6 rfl⟩
  · exact ⟨h.b5.c 0 rfl, h.b5.c 1 rfl, h.b5.c 2 rfl, h.b5.c 3 rfl, h.b5.c 4 rfl, ⟨_, _, h.b5.c 5 rfl, .inl rfl⟩, h.b5.c 6 rfl⟩
  · exact ⟨h.b5.c 7 rfl, h.b5.c 8 rfl, h.b5.c 9 rfl, h.b5.c 10 rfl, h.b5.c 11 rfl, ⟨_, _, h.b5.c 12 rfl, rw1 hT⟩, h.b5.c 13 rfl⟩
def ExP (w : World) (e : Ending) (w' : World) : Prop := e = .returned (exV w.heap.size) ∧ ExM w' w.heap.size 7 nMode ∧ Below w.heap.size w w'
theorem exM_of {w W : World} (os : List Obj) (hW : W = allocs w os) {t1 t3 t5 t7 t8 t9 t10 : TypeId}
    (h1 : os[1]? = some (Obj.cells #[.int .i64 1, .string (bs [109, 111, 100, 101]), .int .i64 7, .int .i64 0, .string (bs nMode), .slice none 0 0, .bool false] t1))
    (h3 : os[3]? = some (Obj.cells #[.int .i64 6, .int .i64 0, .string (bs nTag), .slice none 0 0] t3))
    (h5 : os[5]? = some (Obj.cells #[.int .i64 1, .string (bs [120]), .int .i64 2, .int .i64 32, .string (bs []), .slice none 0 0, .bool false, .int .i64 3, .string (bs [116, 97, 103, 115]), .int .i64 5, .int .i64 4, .string (bs []), .slice (some ⟨w.heap.size + 3, 0, none⟩) 1 1, .bool false] t5))
    (h7 : os[7]? = some (Obj.cells #[.string (bs [105, 100, 108, 101]), .string (bs [114, 117, 110])] t7))
    (h8 : os[8]? = some (Obj.cells #[.int .i64 0, .int .i64 1] t8))
    (h9 : os[9]? = some (Obj.cells #[.string (bs nMode), .slice (some ⟨w.heap.size + 7, 0, none⟩) 2 2, .slice (some ⟨w.heap.size + 8, 0, none⟩) 2 2] t9))
    (h10 : os[10]? = some (Obj.cells #[.string (bs nTag), .slice (some ⟨w.heap.size + 1, 0, none⟩) 1 1, .string (bs nPose), .slice (some ⟨w.heap.size + 5, 0, none⟩) 2 2] t10)) : ExM W w.heap.size 7 nMode ∧ Below w.heap.size w W := by
  subst hW
  exact ⟨⟨Bx.of_heap (allocs_at os w 1 _ h1), Bx.of_heap (allocs_at os w 3 _ h3), Bx.of_heap (allocs_at os w 5 _ h5), Bx.of_heap (allocs_at os w 7 _ h7), Bx.of_heap (allocs_at os w 8 _ h8), Bx.of_heap (allocs_at os w 9 _ h9), Bx.of_heap (allocs_at os w 10 _ h10)⟩, allocs_below os w⟩
set_option maxRecDepth 100000 in
set_option maxHeartbeats 4000000 in
theorem example_any (w : World) : Calls Tryz.prog 33 #[] w (ExP w) := by
  go_enter Tryz.func33, Tryz.ntmps33
  go_wp2_with fail
  refine bodyPost_ret (v := exV w.heap.size) (by simp [results, Tryz.results33, go_sem, exV]) rfl ⟨rfl, ?_⟩
  exact exM_of [_, _, _, _, _, _, _, _, _, _, _] rfl rfl rfl rfl rfl rfl rfl rfl
end Go.Proofs.YthbhbpcjcnkkkaaGreatDoor
/-
  What the chapter's example is: mathematics. No conditions beyond those that each names.
-/
namespace Go.Proofs.YthbhbpcjcnkkkaaGreatDoor
theorem ex_few : few (exSc 7 nMode) = true ∧ few (exSc 6 nPose) = true := by decide +kernel
theorem ex_B : FewB (exSc 7 nMode) ∧ FewB (exSc 6 nPose) := ⟨few_B ex_few.1, few_B ex_few.2⟩
theorem ex_P1 : Parts (exSc 7 nMode) := ⟨by decide +kernel, by decide +kernel⟩
theorem ex_P2 : Parts (exSc 6 nPose) := ⟨by decide +kernel, by decide +kernel⟩
theorem ex_L1 : ¬ longS (exSc 7 nMode) := by unfold longS; decide +kernel
theorem ex_L2 : ¬ longS (exSc 6 nPose) := by unfold longS; decide +kernel
theorem ex_nx (k : Int) (nm x : List UInt8) : nx (exSc k nm) x = if x = nTag then dir (.mk k 0 nm []) else if x = nPose then [nTag] else [] := by
  unfold nx
  show nxs ((fst_ St.name [tagSt k nm, poseSt] x).getD st0) = _
  rw [fst_cons, fst_cons, fst_nil]
  by_cases h1 : x = nTag
  · rw [if_pos h1, if_pos (show (tagSt k nm).name = x from h1.symm)]
    show dir (.mk k 0 nm []) ++ [] = _
    rw [List.append_nil]
  · rw [if_neg h1, if_neg (show ¬ (tagSt k nm).name = x from fun h => h1 h.symm)]
    by_cases h2 : x = nPose
    · rw [if_pos h2, if_pos (show poseSt.name = x from h2.symm)]
      rfl
    · rw [if_neg h2, if_neg (show ¬ poseSt.name = x from fun h => h2 h.symm)]
      rfl
theorem ex_nx1 (x : List UInt8) : nx (exSc 7 nMode) x = if x = nTag then [nMode] else if x = nPose then [nTag] else [] := by rw [ex_nx]; rfl
theorem ex_nx2 (x : List UInt8) : nx (exSc 6 nPose) x = if x = nTag then [nPose] else if x = nPose then [nTag] else [] := by rw [ex_nx]; rfl
theorem ex_reach {x y : List UInt8} (h : Reach (nx (exSc 7 nMode)) x y) : (x = nTag ∧ y = nMode) ∨ (x = nPose ∧ (y = nTag ∨ y = nMode)) := by
  have one : ∀ x y, y ∈ nx (exSc 7 nMode) x → (x = nTag ∧ y = nMode) ∨ (x = nPose ∧ y = nTag) := fun x y hy => by
    rw [ex_nx1] at hy
    by_cases h1 : x = nTag
    · rw [if_pos h1] at hy; exact .inl ⟨h1, by simpa using hy⟩
    · rw [if_neg h1] at hy
      by_cases h2 : x = nPose
      · rw [if_pos h2] at hy; exact .inr ⟨h2, by simpa using hy⟩
      · rw [if_neg h2] at hy; cases hy
  induction h with
  | one h =>
    rcases one _ _ h with h | ⟨h, k⟩
    · exact .inl h
    · exact .inr ⟨h, .inl k⟩
  | more _ hz ih =>
    rcases one _ _ hz with ⟨h1, h2⟩ | ⟨h1, h2⟩
    · rcases ih with ⟨-, h3⟩ | ⟨h3, -⟩
      · rw [h3] at h1; exact absurd h1 (by decide)
      · exact .inr ⟨h3, .inr h2⟩
    · rcases ih with ⟨-, h3⟩ | ⟨-, h3 | h3⟩
      · rw [h3] at h1; exact absurd h1 (by decide)
      · rw [h3] at h1; exact absurd h1 (by decide)
      · rw [h3] at h1; exact absurd h1 (by decide)
theorem ex_nc1 : ¬ cyc (exSc 7 nMode) := by
  rintro ⟨t, -, h⟩
  rcases ex_reach h with ⟨h1, h2⟩ | ⟨h1, h2 | h2⟩
  · rw [h1] at h2; exact absurd h2 (by decide)
  · rw [h1] at h2; exact absurd h2 (by decide)
  · rw [h1] at h2; exact absurd h2 (by decide)
theorem ex_c2 : cyc (exSc 6 nPose) := by
  refine ⟨tagSt 6 nPose, List.mem_cons_self .., ?_⟩
  refine .more (y := nPose) (.one ?_) ?_
  · rw [ex_nx2]; decide
  · rw [ex_nx2]; decide
theorem ex_dep : dep (exSc 7 nMode) nTag = 1 ∧ dep (exSc 7 nMode) nPose = 3 := by decide +kernel
theorem ex_nd1 : ¬ deep (exSc 7 nMode) := by
  rintro ⟨t, ht, h⟩
  have ht : t ∈ [tagSt 7 nMode, poseSt] := ht
  rcases List.mem_cons.1 ht with rfl | ht
  · have := ex_dep.1
    have h : 6 < dep (exSc 7 nMode) nTag := h
    omega
  · obtain rfl := List.mem_singleton.1 ht
    have := ex_dep.2
    have h : 6 < dep (exSc 7 nMode) nPose := h
    omega
theorem ex_chk1 : chk (exSc 7 nMode) = 0 := by rw [chk_ns (by decide) ex_L1 ex_P1]; exact (nsR_no ex_nc1).2 ex_nd1
theorem ex_chk2 : chk (exSc 6 nPose) = 19 := by rw [chk_ns (by decide) ex_L2 ex_P2]; unfold nsR; rw [if_pos ex_c2]
theorem ex_depA : depA (exSc 7 nMode) nTag = 1 ∧ depA (exSc 7 nMode) nPose = 3 := by
  unfold depA
  rw [ex_chk1, if_pos rfl, if_pos rfl, if_pos (by decide +kernel), if_pos (by decide +kernel)]
  exact ex_dep
theorem ex_us {l : List (List UInt8)} (h : UsA (exSc 7 nMode) nPose l) : l = [nMode, nTag] := by
  rcases h with ⟨-, -, h⟩ | ⟨h, -⟩
  · refine h.one ⟨by unfold Asc leB; decide +kernel, fun y => ⟨fun hy => ?_, fun hy => ?_⟩⟩
    · rcases List.mem_cons.1 hy with rfl | hy
      · exact .more (y := nTag) (.one (by rw [ex_nx1]; decide)) (by rw [ex_nx1]; decide)
      · obtain rfl := List.mem_singleton.1 hy
        exact .one (by rw [ex_nx1]; decide)
    · rcases ex_reach hy with ⟨h1, -⟩ | ⟨-, h2 | h2⟩
      · exact absurd h1 (by decide)
      · rw [h2]; simp
      · rw [h2]; simp
  · exact absurd ⟨ex_chk1, by decide +kernel⟩ h
theorem ex_fst : fst_ St.name (exSc 7 nMode).structs nTag = some (tagSt 7 nMode) := rfl
theorem ex_fd : fst_ Fd.num poseSt.fields 3 = some ⟨3, [116, 97, 103, 115], false, .mk 5 4 [] [.mk 6 0 nTag []]⟩ := rfl
theorem ex_fw : ∀ t ∈ (exSc 7 nMode).structs, t.fields.length ≤ 1000 ∧ ∀ f ∈ t.fields, fewT f.type = true := by decide +kernel
end Go.Proofs.YthbhbpcjcnkkkaaGreatDoor
/-
  The law's awake. What the library's variables hold is its condition.
-/
namespace Go.Proofs.YthbhbpcjcnkkkaaGreatDoor
open Go.RowKit Go.Shelf
theorem Bx.put {w : World} {b : Nat} {vs : List Value} (h : Bx w b vs) (j : Nat) (v : Value) : Bx (w.setCell ⟨b, j, none⟩ v) b (vs.set j v) := by
  refine ⟨by simp; exact h.lt, fun i u e => ?_⟩
  have fr : (w.setCell ⟨b, j, none⟩ v).frozen? ⟨b, i, none⟩ = w.frozen? ⟨b, i, none⟩ := by simp
  rw [fr]
  by_cases hij : j = i
  · subst hij
    have hl : j < vs.length := by
      have := (List.getElem?_eq_some_iff.1 e).1
      simpa using this
    rw [List.getElem?_set_self hl] at e
    cases e
    have h1 := h.at_ j _ (List.getElem?_eq_getElem hl)
    exact ⟨World.cell?_setCell_same (h := h1.1) .., h1.2⟩
  · rw [List.getElem?_set_ne hij] at e
    have nn : (⟨b, j, none⟩ : Addr) ≠ ⟨b, i, none⟩ := fun e => hij (by injection e)
    exact ⟨(World.cell?_setCell_other (h := nn) ..).trans (h.at_ i u e).1, (h.at_ i u e).2⟩
theorem ExM.hold {W W' : World} {g : Nat} {k k' : Int} {nm nm' : List UInt8} (h : ExM W g k nm) (hg : W.grownBy W' (some (g + 1))) (h1 : Bx W' (g + 1) [.int .i64 1, .string (bs [109, 111, 100, 101]), .int .i64 k', .int .i64 0, .string (bs nm'), .slice none 0 0, .bool false]) : ExM W' g k' nm' :=
  ⟨h1, h.b3.kept hg (by omega), h.b5.kept hg (by omega), h.b7.kept hg (by omega), h.b8.kept hg (by omega), h.b9.kept hg (by omega), h.b10.kept hg (by omega)⟩
theorem ExM.kept {W W' : World} {g b : Nat} {k : Int} {nm : List UInt8} (h : ExM W g k nm) (hg : W.grownBy W' (some b)) (hb : b < g + 1 ∨ g + 10 < b) : ExM W' g k nm :=
  ⟨h.b1.kept hg (by omega), h.b3.kept hg (by omega), h.b5.kept hg (by omega), h.b7.kept hg (by omega), h.b8.kept hg (by omega), h.b9.kept hg (by omega), h.b10.kept hg (by omega)⟩
theorem ExM.pose {W : World} {g : Nat} {k : Int} {nm : List UInt8} (h : ExM W g k nm) : StV W poseSt (.agg #[.string ⟨#[80, 111, 115, 101]⟩, .slice (some ⟨g + 5, 0, none⟩) 2 2]) := by
  have hT : TyA W (.mk 6 0 nTag []) ⟨g + 3, 0, none⟩ := TyA.of (h.b3.c 0 rfl) (h.b3.c 1 rfl) (h.b3.c 2 rfl) (h.b3.c 3 rfl) (.inl rfl)
  refine ⟨_, _, rfl, rw2 ?_ ?_⟩
  · exact ⟨h.b5.c 0 rfl, h.b5.c 1 rfl, h.b5.c 2 rfl, h.b5.c 3 rfl, h.b5.c 4 rfl, ⟨_, _, h.b5.c 5 rfl, .inl rfl⟩, h.b5.c 6 rfl⟩
  · exact ⟨h.b5.c 7 rfl, h.b5.c 8 rfl, h.b5.c 9 rfl, h.b5.c 10 rfl, h.b5.c 11 rfl, ⟨_, _, h.b5.c 12 rfl, rw1 hT⟩, h.b5.c 13 rfl⟩
theorem exStruct {W : World} {g : Nat} (h : ExM W g 7 nMode) : Calls Tryz.prog 13 #[exV g, .string ⟨#[84, 97, 103]⟩] W (fun e w' => ∃ A c, e = .returned (.tuple #[.agg #[.string ⟨#[84, 97, 103]⟩, .slice A 1 c], .bool true]) ∧ Below W.heap.size W w') := by
  have c := devStruct_any (exSc 7 nMode) nTag (exV g) W h.sc (by decide) ex_fw
  rw [ex_fst] at c
  exact c.mono fun e w' ⟨v, e1, ⟨A, c, e2, _⟩, hb⟩ => ⟨A, c, by rw [e1, e2]; rfl, hb⟩
theorem exField {W : World} {g : Nat} (h : ExM W g 7 nMode) : Calls Tryz.prog 19 #[.agg #[.string ⟨#[80, 111, 115, 101]⟩, .slice (some ⟨g + 5, 0, none⟩) 2 2], .int .i64 3] W (fun e w' => ∃ A c, e = .returned (.tuple #[.agg #[.int .i64 3, .string ⟨#[116, 97, 103, 115]⟩, .int .i64 5, .int .i64 4, .string ⟨#[]⟩, .slice A 1 c, .bool false], .bool true]) ∧ Below W.heap.size W w') := by
  have c := devFieldOf_any poseSt 3 _ W h.pose (by decide) (by decide +kernel)
  rw [ex_fd] at c
  exact c.mono fun e w' ⟨v, e1, ⟨A, c, e2, _⟩, hb⟩ => ⟨A, c, by rw [e1, e2]; rfl, hb⟩
theorem exCheck1 {W : World} {g : Nat} (h : ExM W g 7 nMode) (hE : Env W) : Calls Tryz.prog 11 #[exV g] W (Ib (.int .i64 0) W) := by
  have c := check_any (exSc 7 nMode) ex_B.1 (exV g) W h.sc hE
  rw [ex_chk1] at c
  exact c
theorem exCheck2 {W : World} {g : Nat} (h : ExM W g 6 nPose) (hE : Env W) : Calls Tryz.prog 11 #[exV g] W (Ib (.int .i64 19) W) := by
  have c := check_any (exSc 6 nPose) ex_B.2 (exV g) W h.sc hE
  rw [ex_chk2] at c
  exact c
theorem exUses {W : World} {g : Nat} (h : ExM W g 7 nMode) (hE : Env W) : Calls Tryz.prog 25 #[exV g, .string ⟨#[80, 111, 115, 101]⟩] W (fun e w' => ∃ v, e = .returned v ∧ Nms w' [nMode, nTag] v ∧ Below W.heap.size W w') :=
  (devUses_any (exSc 7 nMode) ex_B.1 nPose (by decide) (exV g) W h.sc hE).mono fun e w' ⟨v, l, e1, e2, e3, e4⟩ => ⟨v, e1, by rw [← ex_us e2]; exact e3, e4⟩
theorem exDepth1 {W : World} {g : Nat} (h : ExM W g 7 nMode) (hE : Env W) : Calls Tryz.prog 22 #[exV g, .string ⟨#[84, 97, 103]⟩] W (Ib (.int .i64 1) W) := by
  have c := devDepth_any (exSc 7 nMode) ex_B.1 nTag (by decide) (exV g) W h.sc hE
  rw [ex_depA.1] at c
  exact c
theorem exDepth2 {W : World} {g : Nat} (h : ExM W g 7 nMode) (hE : Env W) : Calls Tryz.prog 22 #[exV g, .string ⟨#[80, 111, 115, 101]⟩] W (Ib (.int .i64 3) W) := by
  have c := devDepth_any (exSc 7 nMode) ex_B.1 nPose (by decide) (exV g) W h.sc hE
  rw [ex_depA.2] at c
  exact c
set_option maxRecDepth 100000 in
set_option maxHeartbeats 8000000 in
theorem awake_any (w : World) (hE : Env w) : Calls Tryz.prog 10 #[] w (Ib (.bool true) w) := by
  go_enter Tryz.func10, Tryz.ntmps10
  go_wp2_with fail
  refine (example_any w).mono ?_
  rintro e w1 ⟨rfl, M1, hb1⟩
  obtain ⟨g1, hg1⟩ : ∃ g1, w.heap.size = g1 := ⟨_, rfl⟩
  unfold exV
  rw [hg1] at M1 ⊢
  have hW1 := ab1 w1 (Obj.cells #[.int .i64 1, .slice (some ⟨g1 + 9, 0, none⟩) 1 1, .slice (some ⟨g1 + 10, 0, none⟩) 2 2] 25)
  have D1 := Bx.new3 w1 25 (.int .i64 1) (.slice (some ⟨g1 + 9, 0, none⟩) 1 1) (.slice (some ⟨g1 + 10, 0, none⟩) 2 2)
  go_wp2_with fail
  refine (example_any _).mono ?_
  rintro e w2 ⟨rfl, M2, hb2⟩
  have hb3 := Below.next (Below.next hb1 hW1) hb2
  have hlm := M1.b10.lt
  replace M1 := (M1.next hW1).next hb2
  replace D1 := D1.next hb2
  obtain ⟨g2, hg2⟩ : ∃ g2, (w1.alloc (Obj.cells #[.int .i64 1, .slice (some ⟨g1 + 9, 0, none⟩) 1 1, .slice (some ⟨g1 + 10, 0, none⟩) 2 2] 25)).heap.size = g2 := ⟨_, rfl⟩
  have hl1 : w1.heap.size + 1 = g2 := by rw [← hg2]; simp
  have hl0 : g1 ≤ w1.heap.size := by rw [← hg1]; exact hb1.size
  unfold exV
  rw [hg2] at M2 ⊢
  have m1 := M2.b10.c 1 rfl
  have m2 := M2.b10.lt
  have m3 := M2.b1.lt
  have q2 := M2.b1.f 2 rfl
  have q3 := M2.b1.f 3 rfl
  have q4 := M2.b1.f 4 rfl
  have q5 := M2.b1.f 5 rfl
  have r2 := M2.b1.c 2 rfl
  have r3 := M2.b1.c 3 rfl
  have r4 := M2.b1.c 4 rfl
  have r5 := M2.b1.c 5 rfl
  have hst : w2.grownBy ((((w2.setCell ⟨g2 + 1, 2, none⟩ (.int .i64 6)).setCell ⟨g2 + 1, 3, none⟩ (.int .i64 0)).setCell ⟨g2 + 1, 4, none⟩ (.string ⟨#[80, 111, 115, 101]⟩)).setCell ⟨g2 + 1, 5, none⟩ (.slice none 0 0)) (some (g2 + 1)) := (((gb_setCell w2 ⟨g2 + 1, 2, none⟩ (.int .i64 6)).trans (gb_setCell _ ⟨g2 + 1, 3, none⟩ (.int .i64 0))).trans (gb_setCell _ ⟨g2 + 1, 4, none⟩ (.string ⟨#[80, 111, 115, 101]⟩))).trans (gb_setCell _ ⟨g2 + 1, 5, none⟩ (.slice none 0 0))
  have E1 : Bx ((((w2.setCell ⟨g2 + 1, 2, none⟩ (.int .i64 6)).setCell ⟨g2 + 1, 3, none⟩ (.int .i64 0)).setCell ⟨g2 + 1, 4, none⟩ (.string ⟨#[80, 111, 115, 101]⟩)).setCell ⟨g2 + 1, 5, none⟩ (.slice none 0 0)) (g2 + 1) [.int .i64 1, .string (bs [109, 111, 100, 101]), .int .i64 6, .int .i64 0, .string (bs nPose), .slice none 0 0, .bool false] := (((M2.b1.put 2 (.int .i64 6)).put 3 (.int .i64 0)).put 4 (.string ⟨#[80, 111, 115, 101]⟩)).put 5 (.slice none 0 0)
  have N2 := M2.hold hst E1
  have N1 := M1.kept hst (.inr (by omega))
  have F1 := D1.kept hst (by omega)
  have hbw := hb3.grown hst hb3.size (fun j hj => by cases hj; omega)
  have hsz : ((((w2.setCell ⟨g2 + 1, 2, none⟩ (.int .i64 6)).setCell ⟨g2 + 1, 3, none⟩ (.int .i64 0)).setCell ⟨g2 + 1, 4, none⟩ (.string ⟨#[80, 111, 115, 101]⟩)).setCell ⟨g2 + 1, 5, none⟩ (.slice none 0 0)).heap.size = w2.heap.size := by simp
  have F2 := Bx.new3 ((((w2.setCell ⟨g2 + 1, 2, none⟩ (.int .i64 6)).setCell ⟨g2 + 1, 3, none⟩ (.int .i64 0)).setCell ⟨g2 + 1, 4, none⟩ (.string ⟨#[80, 111, 115, 101]⟩)).setCell ⟨g2 + 1, 5, none⟩ (.slice none 0 0)) 25 (.int .i64 1) (.slice (some ⟨g2 + 9, 0, none⟩) 1 1) (.slice (some ⟨g2 + 10, 0, none⟩) 2 2)
  go_upto_region 4 with (fail)
  rw [hsz] at F2
  clear hst E1 M1 M2 D1 hsz hW1 hb1 hb2 hb3 m1 m2 m3 q2 q3 q4 q5 r2 r3 r4 r5
  generalize ((((w2.setCell ⟨g2 + 1, 2, none⟩ (.int .i64 6)).setCell ⟨g2 + 1, 3, none⟩ (.int .i64 0)).setCell ⟨g2 + 1, 4, none⟩ (.string ⟨#[80, 111, 115, 101]⟩)).setCell ⟨g2 + 1, 5, none⟩ (.slice none 0 0)) = w4 at *
  have hab := ab1 w4 (Obj.cells #[.int .i64 1, .slice (some ⟨g2 + 9, 0, none⟩) 1 1, .slice (some ⟨g2 + 10, 0, none⟩) 2 2] 25)
  replace N1 := N1.next hab
  replace N2 := N2.next hab
  replace F1 := F1.next hab
  replace hbw := Below.next hbw hab
  replace hE := hE.next hbw
  clear hab
  generalize w4.alloc (Obj.cells #[.int .i64 1, .slice (some ⟨g2 + 9, 0, none⟩) 1 1, .slice (some ⟨g2 + 10, 0, none⟩) 2 2] 25) = w5 at *
  generalize w1.heap.size = p1 at *
  generalize w2.heap.size = p2 at *
  have a0 := F1.c 0 rfl
  have a1 := F1.c 1 rfl
  have a2 := F1.c 2 rfl
  have a3 := F1.lt
  go_wp2_with fail
  refine (exStruct N1).mono ?_
  rintro e w6 ⟨A3, c3, rfl, hb6⟩
  replace N1 := N1.next hb6
  replace N2 := N2.next hb6
  replace F1 := F1.next hb6
  replace F2 := F2.next hb6
  replace hE := hE.next hb6
  replace hbw := Below.next hbw hb6
  have X3 := Bx.new2 w6 32 (.string ⟨#[84, 97, 103]⟩) (.slice A3 1 c3)
  clear a0 a1 a2 a3 hb6
  go_upto_region 5 with (fail)
  have hab := ab1 w6 (Obj.cells #[.string ⟨#[84, 97, 103]⟩, .slice A3 1 c3] 32)
  replace N1 := N1.next hab
  replace N2 := N2.next hab
  replace F1 := F1.next hab
  replace F2 := F2.next hab
  replace hE := hE.next hab
  replace hbw := Below.next hbw hab
  clear hab
  generalize w6.alloc (Obj.cells #[.string ⟨#[84, 97, 103]⟩, .slice A3 1 c3] 32) = w7 at *
  generalize w6.heap.size = p3 at *
  have a0 := F1.c 0 rfl
  have a1 := F1.c 1 rfl
  have a2 := F1.c 2 rfl
  have a3 := F1.lt
  have d2 := N1.b10.c 2 rfl
  have d3 := N1.b10.c 3 rfl
  have d4 := N1.b10.lt
  go_wp2_with fail
  refine (exField N1).mono ?_
  rintro e w8 ⟨A5, c5, rfl, hb8⟩
  replace N1 := N1.next hb8
  replace N2 := N2.next hb8
  replace F1 := F1.next hb8
  replace F2 := F2.next hb8
  replace hE := hE.next hb8
  replace hbw := Below.next hbw hb8
  replace X3 := X3.next hb8
  have X5 := Bx.new7 w8 47 (.int .i64 3) (.string ⟨#[116, 97, 103, 115]⟩) (.int .i64 5) (.int .i64 4) (.string ⟨#[]⟩) (.slice A5 1 c5) (.bool false)
  clear a0 a1 a2 a3 d2 d3 d4 hb8
  go_upto_region 6 with (fail)
  have hab := ab1 w8 (Obj.cells #[.int .i64 3, .string ⟨#[116, 97, 103, 115]⟩, .int .i64 5, .int .i64 4, .string ⟨#[]⟩, .slice A5 1 c5, .bool false] 47)
  replace N1 := N1.next hab
  replace N2 := N2.next hab
  replace F1 := F1.next hab
  replace F2 := F2.next hab
  replace hE := hE.next hab
  replace hbw := Below.next hbw hab
  replace X3 := X3.next hab
  clear hab
  generalize w8.alloc (Obj.cells #[.int .i64 3, .string ⟨#[116, 97, 103, 115]⟩, .int .i64 5, .int .i64 4, .string ⟨#[]⟩, .slice A5 1 c5, .bool false] 47) = w9 at *
  generalize w8.heap.size = p5 at *
  have a0 := F1.c 0 rfl
  have a1 := F1.c 1 rfl
  have a2 := F1.c 2 rfl
  have a3 := F1.lt
  go_wp2_with fail
  refine (exCheck1 N1 hE).mono ?_
  rintro e w10 ⟨rfl, hbA⟩
  replace N1 := N1.next hbA
  replace N2 := N2.next hbA
  replace F1 := F1.next hbA
  replace F2 := F2.next hbA
  replace hE := hE.next hbA
  replace hbw := Below.next hbw hbA
  replace X3 := X3.next hbA
  replace X5 := X5.next hbA
  clear a0 a1 a2 a3 hbA
  have b0 := F2.c 0 rfl
  have b1 := F2.c 1 rfl
  have b2 := F2.c 2 rfl
  have b3 := F2.lt
  go_wp2_with fail
  refine (exCheck2 N2 hE).mono ?_
  rintro e w11 ⟨rfl, hbB⟩
  replace N1 := N1.next hbB
  replace N2 := N2.next hbB
  replace F1 := F1.next hbB
  replace F2 := F2.next hbB
  replace hE := hE.next hbB
  replace hbw := Below.next hbw hbB
  replace X3 := X3.next hbB
  replace X5 := X5.next hbB
  clear b0 b1 b2 b3 hbB
  have a0 := F1.c 0 rfl
  have a1 := F1.c 1 rfl
  have a2 := F1.c 2 rfl
  have a3 := F1.lt
  go_wp2_with fail
  refine (exUses N1 hE).mono ?_
  rintro e w12 ⟨v12, rfl, hN, hbC⟩
  replace N1 := N1.next hbC
  replace N2 := N2.next hbC
  replace F1 := F1.next hbC
  replace F2 := F2.next hbC
  replace hE := hE.next hbC
  replace hbw := Below.next hbw hbC
  replace X3 := X3.next hbC
  replace X5 := X5.next hbC
  clear a0 a1 a2 a3 hbC
  have hab := ab1 w12 (Obj.cells #[.string ⟨#[77, 111, 100, 101]⟩, .string ⟨#[84, 97, 103]⟩] 9)
  have Y := Bx.new2 w12 9 (.string ⟨#[77, 111, 100, 101]⟩) (.string ⟨#[84, 97, 103]⟩)
  replace N1 := N1.next hab
  replace N2 := N2.next hab
  replace F1 := F1.next hab
  replace F2 := F2.next hab
  replace hE := hE.next hab
  replace hbw := Below.next hbw hab
  replace X3 := X3.next hab
  replace X5 := X5.next hab
  have cN := lawNames_any [nMode, nTag] [nMode, nTag] v12 (.slice (some ⟨w12.heap.size, 0, none⟩) 2 2) (w12.alloc (Obj.cells #[.string ⟨#[77, 111, 100, 101]⟩, .string ⟨#[84, 97, 103]⟩] 9)) (by decide) (by decide) (hN.next hab) ⟨_, _, rfl, rw2 (Y.c 0 rfl) (Y.c 1 rfl)⟩
  rw [decide_eq_true rfl] at cN
  clear hab
  go_wp2_with fail
  refine cN.mono ?_
  rintro e w13 ⟨rfl, hbD⟩
  replace N1 := N1.next hbD
  replace N2 := N2.next hbD
  replace F1 := F1.next hbD
  replace F2 := F2.next hbD
  replace hE := hE.next hbD
  replace hbw := Below.next hbw hbD
  replace X3 := X3.next hbD
  replace X5 := X5.next hbD
  clear hbD cN Y hN
  have a0 := F1.c 0 rfl
  have a1 := F1.c 1 rfl
  have a2 := F1.c 2 rfl
  have a3 := F1.lt
  go_wp2_with fail
  refine (exDepth1 N1 hE).mono ?_
  rintro e w14 ⟨rfl, hbE⟩
  replace N1 := N1.next hbE
  replace N2 := N2.next hbE
  replace F1 := F1.next hbE
  replace F2 := F2.next hbE
  replace hE := hE.next hbE
  replace hbw := Below.next hbw hbE
  replace X3 := X3.next hbE
  replace X5 := X5.next hbE
  clear a0 a1 a2 a3 hbE
  have a0 := F1.c 0 rfl
  have a1 := F1.c 1 rfl
  have a2 := F1.c 2 rfl
  have a3 := F1.lt
  go_wp2_with fail
  refine (exDepth2 N1 hE).mono ?_
  rintro e w15 ⟨rfl, hbF⟩
  replace N1 := N1.next hbF
  replace N2 := N2.next hbF
  replace F1 := F1.next hbF
  replace F2 := F2.next hbF
  replace hE := hE.next hbF
  replace hbw := Below.next hbw hbF
  replace X3 := X3.next hbF
  replace X5 := X5.next hbF
  clear a0 a1 a2 a3 hbF
  have x0 := X3.c 0 rfl
  have x1 := X3.lt
  have x2 := X5.c 1 rfl
  have x3 := X5.lt
  go_wp2_with fail
  go_ret
  exact ⟨rfl, hbw⟩
end Go.Proofs.YthbhbpcjcnkkkaaGreatDoor
/-
  The law of Same. Go's own bounds of slices' lengths, and what the library's variables hold, are its conditions.
-/
namespace Go.Proofs.YthbhbpcjcnkkkaaGreatDoor
open Go.RowKit Go.Shelf
theorem eqT_comm (t u : Ty) : eqT u t = eqT t u := by rw [Bool.eq_iff_iff, eqT_iff, eqT_iff]; exact ⟨Eq.symm, Eq.symm⟩
theorem eqT_refl (t : Ty) : eqT t t = true := eqT_iff.2 rfl
end Go.Proofs.YthbhbpcjcnkkkaaGreatDoor
/-
  What rows' proofs need where arguments are types: what a type that came in is, and that arguments read behind the call as they did; the library's variables out of the rows' own condition. No conditions beyond the rows' own.
-/
namespace Go.Proofs.YthbhbpcjcnkkkaaGreatDoor
open Go.ChangeShapes Go.WideShapes Go.ChangeAt Go.RowKit Go.Lib
theorem rowErr (u : TypeId) (h : Tryz.prog.typeName? 3 u = some "*errors.errorString") : u = 204 := by
  have star : "*" ++ "errors.errorString" = "*errors.errorString" := by decide
  exact typeName_ptr_named (nm := "errors.errorString") (by rw [star]; kernel_rfl) (by kernel_rfl) (by decide) u (by rw [star]; exact h)
/-- The rows' list of variables. -/
def laidRows : List (String × DataW Unit) := [("math/bits.deBruijn32tab", Rows.laid_math_bits_deBruijn32tab), ("math/bits.deBruijn64tab", Rows.laid_math_bits_deBruijn64tab), ("internal/strconv.uint64pow10", Rows.laid_internal_strconv_uint64pow10), ("unicode/utf8.acceptRanges", Rows.laid_unicode_utf8_acceptRanges), ("strconv.ErrRange", Rows.laid_strconv_ErrRange), ("strconv.ErrSyntax", Rows.laid_strconv_ErrSyntax), ("unicode/utf8.first", Rows.laid_unicode_utf8_first)]
theorem env_laid {w : World} (hl : laidMetH Tryz.prog laidRows w) : Env w := by
  rw [MakeChecks.laidMetH_plain _ _ _ (by kernel_rfl)] at hl
  have ht := tabIs_of_head (zs := pow10Tab) (g := 2) (t := 186) (e := 57) (n := 20) (by kernel_rfl) (by kernel_rfl) Tryz.underlying186 Tryz.underlying57 (by kernel_rfl) (by kernel_rfl) hl.tail.tail
  obtain ⟨a, s, hv, -, -, -⟩ := laid_sentinel hl.tail.tail.tail.tail (g := 4) (ti := 149) (tp := 204) (te := 206) (ts := 9) (by kernel_rfl) (by kernel_rfl) Tryz.underlying149 rowErr Tryz.underlying204 Tryz.underlying206 rfl rfl Tryz.underlying9 (by kernel_rfl) (by kernel_rfl)
  exact ⟨⟨_, _, hv⟩, ht⟩
theorem trodAll_stays {H : Type} {enc : TypeId × Value → H} {P : Program} (hl : laidOutB P = true) {W W' : World} (hb : Below W.heap.size W W') :
    ∀ {ts : List TypeId} {vs : List Value} {ds : List (DataW H)} {ps : List MemPlace}, (ts.all fun t => P.readableRec t && decide (t < P.types.size)) = true → DataW.TrodAll enc P W 0 (fun _ => true) true ts vs ds ps → (∀ x ∈ ps, x.block < W.heap.size) →
      DataW.TrodAll enc P W' 0 (fun b => decide (b < W.heap.size)) true ts vs ds ps
  | [], [], [], _, _, h, _ => h
  | t :: ts, v :: vs, d :: ds, ps, hr, ⟨p, q, h, hs, e⟩, hlt => by
    simp only [List.all_cons, Bool.and_eq_true, decide_eq_true_eq] at hr
    have hp : ∀ x ∈ p, x.block < W.heap.size := fun x hx => hlt x (by rw [e]; simp [hx])
    have hq : ∀ x ∈ q, x.block < W.heap.size := fun x hx => hlt x (by rw [e]; simp [hx])
    exact ⟨p, q, Go.WideElems.Trod_stays hl hr.1.1 hr.1.2 h (fun x hx => hb.same (hp x hx)) (fun x hx => by simpa using hp x hx), trodAll_stays hl hb hr.2 hs hq, e⟩
set_option maxRecDepth 100000 in
theorem post_stays {H : Type} {enc : TypeId × Value → H} {f : Func} {s : ChangeSpec} {W W' : World} {args : Array Value} {ds : List (DataW H)} {before : List MemPlace} (hs : s.vars = []) (hrt : f.resultTypes = #[4])
    (hW : DataW.Whole enc Tryz.prog f.params.toList s.vars false W args.toList ds [] before) (hres : (s.fn H (ds ++ [])).results = [.lit (.bool true)]) (hvs : (s.fn H (ds ++ [])).vars = []) (hds : (s.fn H (ds ++ [])).args = ds)
    (hr : (f.params.toList.all fun t => Tryz.prog.readableRec t && decide (t < Tryz.prog.types.size)) = true) (hb : Below W.heap.size W W') :
    s.post enc Tryz.prog f false true false false W args (.bool true) W' := by
  have hlt : ∀ p ∈ before, p.block < W.heap.size := fun p hp => hW.lt p hp
  have hW2 := hW
  obtain ⟨p, q, hA, hV, e, _, _⟩ := hW2
  have hA2 : DataW.TrodAll enc Tryz.prog W 0 (fun _ => true) true f.params.toList args.toList ds p := hA
  refine post_true (pa := p) hs hrt hW hres hvs ?_ hb
  rw [hds]
  exact trodAll_stays (by kernel_rfl) hb hr hA2 fun x hx => hlt x (by rw [e]; simp [hx])
section
variable {H : Type} {enc : TypeId × Value → H}
theorem int_cell {W : World} {b : Nat} {sp : Nat → Bool} {hd : Bool} {k : Nat} {t : TypeId} {K : IntKind} {v : Value} {y : DataW H × List MemPlace} (ht : Tryz.prog.underlying t = some (.int K)) (h : DataW.trod enc Tryz.prog W b sp hd k t [v] = some y) : ∃ n, v = .int K n ∧ (Lit.int K n).wf = true := by
  obtain ⟨n, hc, _, hw⟩ := DataW.trod_int ht h
  injection hc with hc _
  exact ⟨n, hc, hw⟩
theorem str_cell {W : World} {b : Nat} {sp : Nat → Bool} {hd : Bool} {k : Nat} {t : TypeId} {v : Value} {y : DataW H × List MemPlace} (ht : Tryz.prog.underlying t = some .string) (h : DataW.trod enc Tryz.prog W b sp hd k t [v] = some y) : ∃ s, v = .string s ∧ s.size ≤ maxLen := by
  obtain ⟨s, hc, _, hs⟩ := DataW.trod_string ht h
  injection hc with hc _
  exact ⟨s, hc, hs⟩
theorem loks_of : ∀ {e : List Ty}, (∀ t ∈ e, lok t) → lok.loks e
  | [], _ => by rw [lok.loks]; trivial
  | t :: ts, h => by
    rw [lok.loks]
    exact ⟨h t (List.mem_cons_self ..), loks_of fun u hu => h u (List.mem_cons_of_mem _ hu)⟩
/-- The cells of a type. -/
def TyC (W : World) (t : Ty) (cs : List Value) : Prop := ∃ A c, cs = [.int .i64 t.kind, .int .i64 t.size, .string (bs t.name), .slice A t.elem.length c] ∧ lok t ∧ Rw TyA 4 W t.elem A
theorem TyC.at_ {W : World} {t : Ty} {cs : List Value} {p : Addr} (h : TyC W t cs) (hat : ∀ j, j < 4 → W.cell? (p.add j) = cs[j]?) : TyA W t p := by
  obtain ⟨A, c, rfl, -, hR⟩ := h
  have h0 := hat 0 (by decide)
  have h1 := hat 1 (by decide)
  have h2 := hat 2 (by decide)
  have h3 := hat 3 (by decide)
  exact TyA.of h0 h1 h2 h3 hR
set_option maxRecDepth 100000 in
theorem open_ty {W : World} (N : Nat) : ∀ (k : Nat) (cs : List Value) (y : DataW H × List MemPlace), k < N → DataW.trod enc Tryz.prog W 0 (fun _ => true) true k 45 cs = some y → ∃ t, TyC W t cs := by
  induction N with
  | zero => intro k cs y h; omega
  | succ N ih =>
    intro k cs y hk h
    obtain ⟨xs, n, rfl, -, hcl, hxl, hg⟩ := DataW.trod_struct Tryz.underlying45 h
    have ez : Tryz.prog.cellsOf 45 = 4 := by kernel_rfl
    rw [ez] at hcl
    match cs, hcl with
    | [c0, c1, c2, c3], _ =>
      have e3 : Tryz.prog.cellsOf 3 = 1 := by kernel_rfl
      have e9 : Tryz.prog.cellsOf 9 = 1 := by kernel_rfl
      have e43 : Tryz.prog.cellsOf 43 = 1 := by kernel_rfl
      have h0 : DataW.trod enc Tryz.prog W 0 (fun _ => true) true n 3 (([c0, c1, c2, c3].drop 0).take (Tryz.prog.cellsOf 3)) = xs[0]? := hg 0 _ rfl
      have h1 : DataW.trod enc Tryz.prog W 0 (fun _ => true) true n 3 (([c0, c1, c2, c3].drop 1).take (Tryz.prog.cellsOf 3)) = xs[1]? := hg 1 _ rfl
      have h2 : DataW.trod enc Tryz.prog W 0 (fun _ => true) true n 9 (([c0, c1, c2, c3].drop 2).take (Tryz.prog.cellsOf 9)) = xs[2]? := hg 2 _ rfl
      have h3 : DataW.trod enc Tryz.prog W 0 (fun _ => true) true n 43 (([c0, c1, c2, c3].drop 3).take (Tryz.prog.cellsOf 43)) = xs[3]? := hg 3 _ rfl
      rw [e3] at h0 h1
      rw [e9] at h2
      rw [e43] at h3
      have h0 : DataW.trod enc Tryz.prog W 0 (fun _ => true) true n 3 [c0] = xs[0]? := h0
      have h1 : DataW.trod enc Tryz.prog W 0 (fun _ => true) true n 3 [c1] = xs[1]? := h1
      have h2 : DataW.trod enc Tryz.prog W 0 (fun _ => true) true n 9 [c2] = xs[2]? := h2
      have h3 : DataW.trod enc Tryz.prog W 0 (fun _ => true) true n 43 [c3] = xs[3]? := h3
      have l4 : xs.length = 4 := hxl
      rw [List.getElem?_eq_getElem (by omega)] at h0 h1 h2 h3
      obtain ⟨K, rfl, -⟩ := int_cell Tryz.underlying3 h0
      obtain ⟨Z, rfl, -⟩ := int_cell Tryz.underlying3 h1
      obtain ⟨S, rfl, -⟩ := str_cell Tryz.underlying9 h2
      rw [bs_of S]
      rcases DataW.trod_slice Tryz.underlying43 h3 with ⟨hc, -⟩ | ⟨a, len, cap, elems, rest, m, rfl, hc, -, -, hl1, hl2, hle, hel, -, -⟩
      · obtain rfl : c3 = .slice none 0 0 := by injection hc
        exact ⟨.mk K Z S.data.toList [], none, 0, rfl, by rw [lok]; exact ⟨by decide, loks_of fun _ h => by cases h⟩, .inl rfl⟩
      · obtain rfl : c3 = .slice (some a) len cap := by injection hc
        have key : ∀ i, i < len → ∃ t : Ty, lok t ∧ TyA W t (a.add (i * 4)) := fun i hi => by
          have h5 := hel i hi
          rw [ez, List.getElem?_eq_getElem (by omega), Option.bind_eq_some_iff] at h5
          obtain ⟨cs', hcs, htr⟩ := h5
          obtain ⟨t, ht⟩ := ih m cs' _ (by omega) htr
          obtain ⟨-, -, hat⟩ := World.cells?_some hcs
          have hlk := ht
          obtain ⟨-, -, -, hlk, -⟩ := hlk
          exact ⟨t, hlk, ht.at_ hat⟩
        have key2 : ∀ i, ∃ t : Ty, i < len → lok t ∧ TyA W t (a.add (i * 4)) := fun i => by
          by_cases hi : i < len
          · obtain ⟨t, ht⟩ := key i hi; exact ⟨t, fun _ => ht⟩
          · exact ⟨.mk 0 0 [] [], fun h => absurd h hi⟩
        obtain ⟨q, hq⟩ := Classical.skolem.1 key2
        have hlen : ((List.range len).map q).length = len := by simp
        refine ⟨.mk K Z S.data.toList ((List.range len).map q), some a, cap, by show _ = [_, _, _, Value.slice (some a) ((List.range len).map q).length cap]; rw [hlen]; rfl, ?_, .inr ⟨a, rfl, fun i hi => ?_⟩⟩
        · rw [lok]
          refine ⟨by rw [hlen]; simp only [maxLen] at hl2; omega, loks_of fun t ht => ?_⟩
          obtain ⟨i, hi, rfl⟩ := List.mem_map.1 ht
          exact (hq i (List.mem_range.1 hi)).1
        · have hi2 : i < len := by
            have : i < ((List.range len).map q).length := hi
            omega
          have hi3 : i < ((List.range len).map q).length := hi
          have e4 : ((List.range len).map q)[i]'hi3 = q i := by simp
          have e : (Ty.mk K Z S.data.toList ((List.range len).map q)).elem[i]'hi = q i := e4
          rw [e]
          exact (hq i hi2).2
set_option maxRecDepth 100000 in
/-- An argument that is a type. -/
theorem open_typ {W : World} {r : Go.Reach} {b0 : Nat} {v : Value} {d : DataW H} {p : List MemPlace} (hv : Value.okWide Tryz.prog W r b0 45 v) (h : DataW.Trod enc Tryz.prog W 0 (fun _ => true) true 45 v d p) :
    ∃ t, lok t ∧ TyV W t v := by
  obtain ⟨cs, rfl, hsz, _⟩ : ∃ cs, v = .agg cs ∧ cs.size = Tryz.prog.cellsOf 45 ∧ Row.okWide Tryz.prog W r b0 45 cs := by
    simpa [Value.okWide, Tryz.underlying45] using hv
  obtain ⟨fuel, hf⟩ := h
  obtain ⟨t, A, c, e, hl, hR⟩ := open_ty (fuel + 1) fuel _ _ (Nat.lt_succ_self _) hf
  refine ⟨t, hl, A, c, ?_, hR⟩
  obtain ⟨l⟩ := cs
  have e : l = _ := e
  rw [e]
end
end Go.Proofs.YthbhbpcjcnkkkaaGreatDoor
/-
  Schemas that come in: what their cells are. No conditions beyond the rows' own.
-/
namespace Go.Proofs.YthbhbpcjcnkkkaaGreatDoor
open Go.ChangeShapes Go.WideShapes Go.ChangeAt Go.RowKit Go.Lib
section
variable {H : Type} {enc : TypeId × Value → H}
/-- The cells cs, wherever they lie, are x. -/
def CsA {α : Type} (P : World → α → Addr → Prop) (z : Nat) (W : World) (x : α) (cs : List Value) : Prop := ∀ p, (∀ j, j < z → W.cell? (p.add j) = cs[j]?) → P W x p
theorem open_sl {W : World} {α : Type} (P : World → α → Addr → Prop) (Q : α → Prop) (z : Nat) (ts te : TypeId) (hts : Tryz.prog.underlying ts = some (.slice te)) (ez : Tryz.prog.cellsOf te = z) (x0 : α)
    (key : ∀ m cs y, DataW.trod enc Tryz.prog W 0 (fun _ => true) true m te cs = some y → ∃ x : α, Q x ∧ CsA P z W x cs)
    {n : Nat} {c : Value} {y : DataW H × List MemPlace} (h : DataW.trod enc Tryz.prog W 0 (fun _ => true) true n ts [c] = some y) :
    ∃ (l : List α) (A : Option Addr) (cap : Nat), c = .slice A l.length cap ∧ l.length ≤ 9223372036854775807 ∧ (∀ x ∈ l, Q x) ∧ Rw P z W l A := by
  rcases DataW.trod_slice hts h with ⟨hc, -⟩ | ⟨a, len, cap, elems, rest, m, rfl, hc, -, -, hl1, hl2, hle, hel, -, -⟩
  · obtain rfl : c = .slice none 0 0 := by injection hc
    exact ⟨[], none, 0, rfl, Nat.zero_le _, fun _ h => (by cases h), .inl rfl⟩
  · obtain rfl : c = .slice (some a) len cap := by injection hc
    have k1 : ∀ i, i < len → ∃ x : α, Q x ∧ P W x (a.add (i * z)) := fun i hi => by
      have h5 := hel i hi
      rw [ez, List.getElem?_eq_getElem (by omega), Option.bind_eq_some_iff] at h5
      obtain ⟨cs', hcs, htr⟩ := h5
      obtain ⟨x, hq, hx⟩ := key m cs' _ htr
      obtain ⟨-, -, hat⟩ := World.cells?_some hcs
      exact ⟨x, hq, hx _ hat⟩
    have k2 : ∀ i, ∃ x : α, i < len → Q x ∧ P W x (a.add (i * z)) := fun i => by
      by_cases hi : i < len
      · obtain ⟨x, hx⟩ := k1 i hi; exact ⟨x, fun _ => hx⟩
      · exact ⟨x0, fun h => absurd h hi⟩
    obtain ⟨q, hq⟩ := Classical.skolem.1 k2
    have hlen : ((List.range len).map q).length = len := by simp
    refine ⟨(List.range len).map q, some a, cap, by rw [hlen], by rw [hlen]; simp only [maxLen] at hl2; omega, fun x hx => ?_, .inr ⟨a, rfl, fun i hi => ?_⟩⟩
    · obtain ⟨i, hi, rfl⟩ := List.mem_map.1 hx
      exact (hq i (List.mem_range.1 hi)).1
    · have hi2 : i < len := by omega
      have e4 : ((List.range len).map q)[i]'hi = q i := by simp
      rw [e4]
      exact (hq i hi2).2
theorem cs_name {W : World} {m : Nat} {cs : List Value} {y : DataW H × List MemPlace} (h : DataW.trod enc Tryz.prog W 0 (fun _ => true) true m 9 cs = some y) : ∃ x : List UInt8, True ∧ CsA TyN 1 W x cs := by
  obtain ⟨s, hc, _, hs⟩ := DataW.trod_string Tryz.underlying9 h
  refine ⟨s.data.toList, trivial, fun p hat => ?_⟩
  have := hat 0 (by decide)
  rw [Addr.add_zero', hc, bs_of s] at this
  exact this
theorem cs_int {W : World} {m : Nat} {cs : List Value} {y : DataW H × List MemPlace} (h : DataW.trod enc Tryz.prog W 0 (fun _ => true) true m 3 cs = some y) : ∃ x : Int, True ∧ CsA TyI 1 W x cs := by
  obtain ⟨n, hc, _, hw⟩ := DataW.trod_int Tryz.underlying3 h
  refine ⟨n, trivial, fun p hat => ?_⟩
  have := hat 0 (by decide)
  rw [Addr.add_zero', hc] at this
  exact this
theorem pl (p : Addr) (W : World) (j : Nat) {u : Value} (h0 : ∃ v0, W.cell? p = some v0) (h : W.cell? (p.add j) = some u) : W.cell? (nx1 p j) = some u := by
  obtain ⟨v0, h0⟩ := h0
  have hs : p.spot = none := spot_none h0
  rw [← h]
  unfold nx1 Addr.add
  obtain ⟨b, o, s⟩ := p
  obtain rfl : s = none := hs
  cases j <;> rfl
set_option maxRecDepth 100000 in
theorem cs_fd {W : World} {k : Nat} {cs : List Value} {y : DataW H × List MemPlace} (h : DataW.trod enc Tryz.prog W 0 (fun _ => true) true k 47 cs = some y) : ∃ f : Fd, lok f.type ∧ CsA FdA 7 W f cs := by
  obtain ⟨xs, n, rfl, -, hcl, hxl, hg⟩ := DataW.trod_struct Tryz.underlying47 h
  have ez : Tryz.prog.cellsOf 47 = 7 := by kernel_rfl
  rw [ez] at hcl
  match cs, hcl with
  | [c0, c1, c2, c3, c4, c5, c6], _ =>
    have h0 : DataW.trod enc Tryz.prog W 0 (fun _ => true) true n 3 (([c0, c1, c2, c3, c4, c5, c6].drop 0).take (Tryz.prog.cellsOf 3)) = xs[0]? := hg 0 _ rfl
    have h1 : DataW.trod enc Tryz.prog W 0 (fun _ => true) true n 9 (([c0, c1, c2, c3, c4, c5, c6].drop 1).take (Tryz.prog.cellsOf 9)) = xs[1]? := hg 1 _ rfl
    have h2 : DataW.trod enc Tryz.prog W 0 (fun _ => true) true n 45 (([c0, c1, c2, c3, c4, c5, c6].drop 2).take (Tryz.prog.cellsOf 45)) = xs[2]? := hg 2 _ rfl
    have h3 : DataW.trod enc Tryz.prog W 0 (fun _ => true) true n 4 (([c0, c1, c2, c3, c4, c5, c6].drop 6).take (Tryz.prog.cellsOf 4)) = xs[3]? := hg 3 _ rfl
    rw [show Tryz.prog.cellsOf 3 = 1 by kernel_rfl] at h0
    rw [show Tryz.prog.cellsOf 9 = 1 by kernel_rfl] at h1
    rw [show Tryz.prog.cellsOf 45 = 4 by kernel_rfl] at h2
    rw [show Tryz.prog.cellsOf 4 = 1 by kernel_rfl] at h3
    have h0 : DataW.trod enc Tryz.prog W 0 (fun _ => true) true n 3 [c0] = xs[0]? := h0
    have h1 : DataW.trod enc Tryz.prog W 0 (fun _ => true) true n 9 [c1] = xs[1]? := h1
    have h2 : DataW.trod enc Tryz.prog W 0 (fun _ => true) true n 45 [c2, c3, c4, c5] = xs[2]? := h2
    have h3 : DataW.trod enc Tryz.prog W 0 (fun _ => true) true n 4 [c6] = xs[3]? := h3
    have l4 : xs.length = 4 := hxl
    rw [List.getElem?_eq_getElem (by omega)] at h0 h1 h2 h3
    obtain ⟨K, rfl, -⟩ := int_cell Tryz.underlying3 h0
    obtain ⟨Z, rfl, -⟩ := str_cell Tryz.underlying9 h1
    obtain ⟨t, A, c, e, hl, hR⟩ := open_ty (n + 1) n _ _ (Nat.lt_succ_self _) h2
    obtain ⟨b, hb, -⟩ := DataW.trod_bool Tryz.underlying4 h3
    injection hb with hb
    subst hb
    injection e with e2 e
    injection e with e3 e
    injection e with e4 e
    injection e with e5 e
    subst e2 e3 e4 e5
    refine ⟨⟨K, Z.data.toList, b, t⟩, hl, fun p hat => ?_⟩
    have q0 : ∃ v0, W.cell? p = some v0 := ⟨_, (congrArg W.cell? (Addr.add_zero' p).symm).trans (hat 0 (by decide))⟩
    have z0 := hat 0 (by decide)
    rw [Addr.add_zero'] at z0
    refine ⟨z0, ?_, pl p W 2 q0 (hat 2 (by decide)), pl p W 3 q0 (hat 3 (by decide)), pl p W 4 q0 (hat 4 (by decide)), ⟨A, c, pl p W 5 q0 (hat 5 (by decide)), hR⟩, pl p W 6 q0 (hat 6 (by decide))⟩
    have := pl p W 1 q0 (hat 1 (by decide))
    rw [bs_of Z] at this
    exact this
set_option maxRecDepth 100000 in
theorem cs_st {W : World} {k : Nat} {cs : List Value} {y : DataW H × List MemPlace} (h : DataW.trod enc Tryz.prog W 0 (fun _ => true) true k 32 cs = some y) : ∃ t : St, (∀ f ∈ t.fields, lok f.type) ∧ CsA StA 2 W t cs := by
  obtain ⟨xs, n, rfl, -, hcl, hxl, hg⟩ := DataW.trod_struct Tryz.underlying32 h
  have ez : Tryz.prog.cellsOf 32 = 2 := by kernel_rfl
  rw [ez] at hcl
  match cs, hcl with
  | [c0, c1], _ =>
    have h0 : DataW.trod enc Tryz.prog W 0 (fun _ => true) true n 9 (([c0, c1].drop 0).take (Tryz.prog.cellsOf 9)) = xs[0]? := hg 0 _ rfl
    have h1 : DataW.trod enc Tryz.prog W 0 (fun _ => true) true n 30 (([c0, c1].drop 1).take (Tryz.prog.cellsOf 30)) = xs[1]? := hg 1 _ rfl
    rw [show Tryz.prog.cellsOf 9 = 1 by kernel_rfl] at h0
    rw [show Tryz.prog.cellsOf 30 = 1 by kernel_rfl] at h1
    have h0 : DataW.trod enc Tryz.prog W 0 (fun _ => true) true n 9 [c0] = xs[0]? := h0
    have h1 : DataW.trod enc Tryz.prog W 0 (fun _ => true) true n 30 [c1] = xs[1]? := h1
    have l4 : xs.length = 2 := hxl
    rw [List.getElem?_eq_getElem (by omega)] at h0 h1
    obtain ⟨Z, rfl, -⟩ := str_cell Tryz.underlying9 h0
    obtain ⟨l, A, cap, rfl, -, hq, hR⟩ := open_sl FdA (fun f => lok f.type) 7 30 47 Tryz.underlying30 (by kernel_rfl) fd0 (fun m cs y h => cs_fd h) h1
    refine ⟨⟨Z.data.toList, l⟩, hq, fun p hat => ?_⟩
    have z0 := hat 0 (by decide)
    rw [Addr.add_zero'] at z0
    have q0 : ∃ v0, W.cell? p = some v0 := ⟨_, z0⟩
    rw [bs_of Z] at z0
    exact ⟨z0, A, cap, pl p W 1 q0 (hat 1 (by decide)), hR⟩
set_option maxRecDepth 100000 in
theorem cs_en {W : World} {k : Nat} {cs : List Value} {y : DataW H × List MemPlace} (h : DataW.trod enc Tryz.prog W 0 (fun _ => true) true k 38 cs = some y) : ∃ x : En, True ∧ CsA EnA 3 W x cs := by
  obtain ⟨xs, n, rfl, -, hcl, hxl, hg⟩ := DataW.trod_struct Tryz.underlying38 h
  have ez : Tryz.prog.cellsOf 38 = 3 := by kernel_rfl
  rw [ez] at hcl
  match cs, hcl with
  | [c0, c1, c2], _ =>
    have h0 : DataW.trod enc Tryz.prog W 0 (fun _ => true) true n 9 (([c0, c1, c2].drop 0).take (Tryz.prog.cellsOf 9)) = xs[0]? := hg 0 _ rfl
    have h1 : DataW.trod enc Tryz.prog W 0 (fun _ => true) true n 35 (([c0, c1, c2].drop 1).take (Tryz.prog.cellsOf 35)) = xs[1]? := hg 1 _ rfl
    have h2 : DataW.trod enc Tryz.prog W 0 (fun _ => true) true n 36 (([c0, c1, c2].drop 2).take (Tryz.prog.cellsOf 36)) = xs[2]? := hg 2 _ rfl
    rw [show Tryz.prog.cellsOf 9 = 1 by kernel_rfl] at h0
    rw [show Tryz.prog.cellsOf 35 = 1 by kernel_rfl] at h1
    rw [show Tryz.prog.cellsOf 36 = 1 by kernel_rfl] at h2
    have h0 : DataW.trod enc Tryz.prog W 0 (fun _ => true) true n 9 [c0] = xs[0]? := h0
    have h1 : DataW.trod enc Tryz.prog W 0 (fun _ => true) true n 35 [c1] = xs[1]? := h1
    have h2 : DataW.trod enc Tryz.prog W 0 (fun _ => true) true n 36 [c2] = xs[2]? := h2
    have l4 : xs.length = 3 := hxl
    rw [List.getElem?_eq_getElem (by omega)] at h0 h1 h2
    obtain ⟨Z, rfl, -⟩ := str_cell Tryz.underlying9 h0
    obtain ⟨l, A, cap, rfl, -, -, hR⟩ := open_sl TyN (fun _ => True) 1 35 9 Tryz.underlying35 (by kernel_rfl) [] (fun m cs y h => cs_name h) h1
    obtain ⟨l2, A2, cap2, rfl, -, -, hR2⟩ := open_sl TyI (fun _ => True) 1 36 3 Tryz.underlying36 (by kernel_rfl) 0 (fun m cs y h => cs_int h) h2
    refine ⟨⟨Z.data.toList, l, l2⟩, trivial, fun p hat => ?_⟩
    have z0 := hat 0 (by decide)
    rw [Addr.add_zero'] at z0
    have q0 : ∃ v0, W.cell? p = some v0 := ⟨_, z0⟩
    rw [bs_of Z] at z0
    exact ⟨z0, ⟨A, cap, pl p W 1 q0 (hat 1 (by decide)), hR⟩, A2, cap2, pl p W 2 q0 (hat 2 (by decide)), hR2⟩
set_option maxRecDepth 100000 in
/-- An argument that is a schema. -/
theorem open_sch {W : World} {r : Go.Reach} {b0 : Nat} {v : Value} {d : DataW H} {p : List MemPlace} (hv : Value.okWide Tryz.prog W r b0 25 v) (h : DataW.Trod enc Tryz.prog W 0 (fun _ => true) true 25 v d p) :
    ∃ S, lokS S ∧ ScV W S v := by
  obtain ⟨cs, rfl, hsz, _⟩ : ∃ cs, v = .agg cs ∧ cs.size = Tryz.prog.cellsOf 25 ∧ Row.okWide Tryz.prog W r b0 25 cs := by
    simpa [Value.okWide, Tryz.underlying25] using hv
  obtain ⟨fuel, hf⟩ := h
  obtain ⟨l⟩ := cs
  have hf : DataW.trod enc Tryz.prog W 0 (fun _ => true) true fuel 25 l = some (d, p) := hf
  obtain ⟨xs, n, rfl, -, hcl, hxl, hg⟩ := DataW.trod_struct Tryz.underlying25 hf
  have ez : Tryz.prog.cellsOf 25 = 3 := by kernel_rfl
  rw [ez] at hcl
  match l, hcl with
  | [c0, c1, c2], _ =>
    have h0 : DataW.trod enc Tryz.prog W 0 (fun _ => true) true n 3 (([c0, c1, c2].drop 0).take (Tryz.prog.cellsOf 3)) = xs[0]? := hg 0 _ rfl
    have h1 : DataW.trod enc Tryz.prog W 0 (fun _ => true) true n 22 (([c0, c1, c2].drop 1).take (Tryz.prog.cellsOf 22)) = xs[1]? := hg 1 _ rfl
    have h2 : DataW.trod enc Tryz.prog W 0 (fun _ => true) true n 23 (([c0, c1, c2].drop 2).take (Tryz.prog.cellsOf 23)) = xs[2]? := hg 2 _ rfl
    rw [show Tryz.prog.cellsOf 3 = 1 by kernel_rfl] at h0
    rw [show Tryz.prog.cellsOf 22 = 1 by kernel_rfl] at h1
    rw [show Tryz.prog.cellsOf 23 = 1 by kernel_rfl] at h2
    have h0 : DataW.trod enc Tryz.prog W 0 (fun _ => true) true n 3 [c0] = xs[0]? := h0
    have h1 : DataW.trod enc Tryz.prog W 0 (fun _ => true) true n 22 [c1] = xs[1]? := h1
    have h2 : DataW.trod enc Tryz.prog W 0 (fun _ => true) true n 23 [c2] = xs[2]? := h2
    have l4 : xs.length = 3 := hxl
    rw [List.getElem?_eq_getElem (by omega)] at h0 h1 h2
    obtain ⟨K, rfl, -⟩ := int_cell Tryz.underlying3 h0
    obtain ⟨l, A, cap, rfl, -, -, hR⟩ := open_sl EnA (fun _ => True) 3 22 38 Tryz.underlying22 (by kernel_rfl) en0 (fun m cs y h => cs_en h) h1
    obtain ⟨l2, A2, cap2, rfl, -, hq, hR2⟩ := open_sl StA (fun t => ∀ f ∈ t.fields, lok f.type) 2 23 32 Tryz.underlying23 (by kernel_rfl) st0 (fun m cs y h => cs_st h) h2
    exact ⟨⟨K, l, l2⟩, hq, A, cap, A2, cap2, rfl, ⟨hR, hR2⟩⟩
end
end Go.Proofs.YthbhbpcjcnkkkaaGreatDoor

import Derived.Test.YtnfdoflmdlomhaaGreatDoorM19
import Derived.Test.YtnfdoflmdlomhaaGreatDoorM18
/-
  The developers' Struct and FieldOf. No conditions beyond those that each names.
-/
namespace Go.Proofs.YtnfdoflmdlomhaaGreatDoor
open Go.RowKit Go.Shelf
set_option maxRecDepth 100000 in
set_option maxHeartbeats 4000000 in
theorem devStruct_any (S : Sch) (nm : List UInt8) (v : Value) (w : World) (hv : ScV w S v) (hn : S.structs.length ≤ 1000) (hfw : ∀ t ∈ S.structs, t.fields.length ≤ 1000 ∧ ∀ f ∈ t.fields, fewT f.type = true) :
    Calls Tryz.prog 14 #[v, .string (bs nm)] w (StO (fst_ St.name S.structs nm) w) := by
  obtain ⟨A, c, A2, c2, rfl, hS⟩ := hv
  have hSs := hS.st
  clear hS
  obtain ⟨m, hm⟩ : ∃ m, S.enums.length = m := ⟨_, rfl⟩
  obtain ⟨n, hn2⟩ : ∃ n, S.structs.length = n := ⟨_, rfl⟩
  have HN := Lib.hid hn2
  rw [hn2] at hn
  rw [hm, hn2]
  clear hn2 hm
  have z1 : (w.alloc (Obj.cells #[.int .i64 S.ver, .slice A m c, .slice A2 n c2] 25)).heap.size = w.heap.size + 1 := by simp
  have B1 := (Bx.new3 w 25 (.int .i64 S.ver) (.slice A m c) (.slice A2 n c2)).next (ab1 _ (Obj.cells #[.string ⟨#[]⟩, .slice none 0 0] 32))
  have B2 := Bx.new2 (w.alloc (Obj.cells #[.int .i64 S.ver, .slice A m c, .slice A2 n c2] 25)) 32 (.string ⟨#[]⟩) (.slice none 0 0)
  rw [z1] at B2
  have hab := ab2 w (Obj.cells #[.int .i64 S.ver, .slice A m c, .slice A2 n c2] 25) (Obj.cells #[.string ⟨#[]⟩, .slice none 0 0] 32)
  have HI0 : Hid (∀ j (hj : j < S.structs.length), j < 0 → (S.structs[j]'hj).name ≠ nm) := Lib.hid fun j _ h => by omega
  clear z1
  go_enter Tryz.func14, Tryz.ntmps14
  go_wp2_with fail
  go_loopw [11] (fun i wr => ∃ k : Nat, k ≤ n ∧ i = .int .i64 (k : Int) ∧ Hid (∀ j (hj : j < S.structs.length), j < k → (S.structs[j]'hj).name ≠ nm) ∧ Bx wr (w.heap.size + 1) [.string ⟨#[]⟩, .slice none 0 0] ∧ Below w.heap.size w wr) (fun i _ => n - (intOf i).toNat)
  case atStart => exact ⟨0, by omega, rfl, HI0, B2, hab⟩
  case round =>
    obtain ⟨k, hk, rfl, hI, C2, hb⟩ := hrel
    clear HI0 B1 B2 hab
    have r0 := C2.c 0 rfl
    have r1 := C2.c 1 rfl
    have s0 := C2.f 0 rfl
    have s1 := C2.f 1 rfl
    have l2 := C2.lt
    by_cases hlt : k < n
    · have hkm : k < S.structs.length := by rw [HN.out]; exact hlt
      obtain ⟨a, rfl, hA⟩ := hSs.get (i := k) hkm
      obtain ⟨A3, c3, h0, h1, hV⟩ := hA.val
      replace h0 := cell_next hb h0
      replace h1 := cell_next hb h1
      have hblk : (a.add (k * 2)).block < wr.heap.size := blk_lt h0
      have hx : (S.structs[k]'hkm).name = nm → fst_ St.name S.structs nm = some (S.structs[k]'hkm) := fun e => fst_at hkm hI.out e
      have hy : (S.structs[k]'hkm).name ≠ nm → ∀ j (hj : j < S.structs.length), j < k + 1 → (S.structs[j]'hj).name ≠ nm := fun e j hj hjk => by
        by_cases hjk2 : j < k
        · exact hI.out j hj hjk2
        · obtain rfl : j = k := by omega
          exact e
      obtain ⟨g1, g2⟩ := hfw _ (List.getElem_mem hkm)
      generalize S.structs[k]'hkm = t at *
      have hW1 := ab1 wr (Obj.cells #[.string (bs t.name), .slice A3 t.fields.length c3] 32)
      have B7 := Bx.new2 wr 32 (.string (bs t.name)) (.slice A3 t.fields.length c3)
      have C3 := C2.next hW1
      by_cases e : t.name = nm
      · have E := Lib.hid (hx e)
        obtain ⟨A4, c4, hV0, hV⟩ := hV
        obtain ⟨rfl, -, rfl⟩ : A3 = A4 ∧ t.fields.length = t.fields.length ∧ c3 = c4 := by injection hV0 with h; simp at h; exact ⟨h.1, rfl, h.2⟩
        have cE := eachField_any t.fields A3 c3 (wr.alloc (Obj.cells #[.string (bs t.name), .slice A3 t.fields.length c3] 32)) (by omega) (hV.next fun x p => FdA.next (Below.next hb hW1)) (fun i h v w' hv => newField_any _ v w' (g2 _ (List.getElem_mem h)) hv)
        have hz : wr.heap.size + 1 ≤ (wr.alloc (Obj.cells #[.string (bs t.name), .slice A3 t.fields.length c3] 32)).heap.size := by simp
        clear hx hy hI hA hV hV0 g1 g2
        subst e
        have q1 := sq_t t.name
        unfold EfP at cE
        generalize hq : t.fields.length = q at *
        have HQ := Lib.hid hq
        clear hq
        go_wp2_with fail
        refine cE.mono ?_
        rintro e3 w3 ⟨A9, c9, rfl, hN9, hb9⟩
        have hb3 := Below.next (Below.next hb hW1) hb9
        have D7 := B7.next hb9
        have D3 := C3.next hb9
        have p0 := D7.c 0 rfl
        have p1 := D7.c 1 rfl
        have p2 := D7.f 1 rfl
        have p3 := D7.lt
        have t0 := D3.c 0 rfl
        have t1 := D3.c 1 rfl
        have t2 := D3.f 0 rfl
        have t3 := D3.f 1 rfl
        have t4 := D3.lt
        clear cE B7 C3 C2 r0 r1 s0 s1 h0 h1 hblk hW1
        go_wp2_with fail
        refine bodyPost_ret (v := .tuple #[.agg #[.string (bs t.name), .slice A9 q c9], .bool true]) (by simp [results, Tryz.results14, go_sem, t0, t1]) rfl ?_
        refine .some_ E.out ⟨A9, c9, by rw [HQ.out], (hN9.next ?_).rw_⟩ ?_
        · iterate 3 refine Kpl.set ?_ (by first | (show wr.heap.size < _; omega) | (show w.heap.size + 1 < _; omega)) _
          exact Kpl.of (Below.refl _ _)
        · have hws := hb.size
          iterate 3 refine Below.setCell ?_ (by first | (show w.heap.size ≤ wr.heap.size; omega) | (show w.heap.size ≤ w.heap.size + 1; omega)) _
          exact hb3
      · have E := Lib.hid (hy e)
        have q1 := sq_f e
        have hb3 := Below.next hb hW1
        clear hx hy hI hA hV hfw
        go_wp2_with fail
        go_roundw
        case rel => exact ⟨k + 1, by omega, by go_num, E, C3, hb3⟩
        case measure => simp [intOf]; omega
    · obtain rfl : k = n := by omega
      have E := Lib.hid (show fst_ St.name S.structs nm = none from fst_end fun j hj => hI.out j hj (by rw [← HN.out]; exact hj))
      clear hI hfw
      go_wp2_with fail
      refine bodyPost_ret (v := .tuple #[.agg #[.string ⟨#[]⟩, .slice none 0 0], .bool false]) (by simp [results, Tryz.results14, go_sem, r0, r1]) rfl (.none_ E.out ?_)
      iterate 2 refine Below.setCell ?_ (by simp) _
      exact hb
set_option maxRecDepth 100000 in
set_option maxHeartbeats 4000000 in
theorem devFieldOf_any (t : St) (nb : Int) (v : Value) (w : World) (hv : StV w t v) (hn : t.fields.length ≤ 1000) (hfw : ∀ f ∈ t.fields, fewT f.type = true) :
    Calls Tryz.prog 20 #[v, .int .i64 nb] w (FdO (fst_ Fd.num t.fields nb) w) := by
  obtain ⟨A, c, rfl, hS⟩ := hv
  obtain ⟨n, hn2⟩ : ∃ n, t.fields.length = n := ⟨_, rfl⟩
  have HN := Lib.hid hn2
  rw [hn2] at hn ⊢
  clear hn2
  have z1 : (w.alloc (Obj.cells #[.string (bs t.name), .slice A n c] 32)).heap.size = w.heap.size + 1 := by simp
  have B2 := Bx.new7 (w.alloc (Obj.cells #[.string (bs t.name), .slice A n c] 32)) 47 (.int .i64 0) (.string ⟨#[]⟩) (.int .i64 0) (.int .i64 0) (.string ⟨#[]⟩) (.slice none 0 0) (.bool false)
  rw [z1] at B2
  have hab := ab2 w (Obj.cells #[.string (bs t.name), .slice A n c] 32) (Obj.cells #[.int .i64 0, .string ⟨#[]⟩, .int .i64 0, .int .i64 0, .string ⟨#[]⟩, .slice none 0 0, .bool false] 47)
  have HI0 : Hid (∀ j (hj : j < t.fields.length), j < 0 → (t.fields[j]'hj).num ≠ nb) := Lib.hid fun j _ h => by omega
  clear z1
  go_enter Tryz.func20, Tryz.ntmps20
  go_wp2_with fail
  go_loopw [11] (fun i wr => ∃ k : Nat, k ≤ n ∧ i = .int .i64 (k : Int) ∧ Hid (∀ j (hj : j < t.fields.length), j < k → (t.fields[j]'hj).num ≠ nb) ∧ Bx wr (w.heap.size + 1) [.int .i64 0, .string ⟨#[]⟩, .int .i64 0, .int .i64 0, .string ⟨#[]⟩, .slice none 0 0, .bool false] ∧ Below w.heap.size w wr) (fun i _ => n - (intOf i).toNat)
  case atStart => exact ⟨0, by omega, rfl, HI0, B2, hab⟩
  case round =>
    obtain ⟨k, hk, rfl, hI, C2, hb⟩ := hrel
    clear HI0 B2 hab
    have r0 := C2.c 0 rfl
    have s0 := C2.f 0 rfl
    have r1 := C2.c 1 rfl
    have s1 := C2.f 1 rfl
    have r2 := C2.c 2 rfl
    have s2 := C2.f 2 rfl
    have r3 := C2.c 3 rfl
    have s3 := C2.f 3 rfl
    have r4 := C2.c 4 rfl
    have s4 := C2.f 4 rfl
    have r5 := C2.c 5 rfl
    have s5 := C2.f 5 rfl
    have r6 := C2.c 6 rfl
    have s6 := C2.f 6 rfl
    have l2 := C2.lt
    by_cases hlt : k < n
    · have hkm : k < t.fields.length := by rw [HN.out]; exact hlt
      obtain ⟨a, rfl, hA⟩ := hS.get (i := k) hkm
      obtain ⟨A3, c3, h0, h1, h2, h3, h4, h5, h6, hV, -⟩ := hA.val
      replace h0 := cell_next hb h0
      replace h1 := cell_next hb h1
      replace h2 := cell_next hb h2
      replace h3 := cell_next hb h3
      replace h4 := cell_next hb h4
      replace h5 := cell_next hb h5
      replace h6 := cell_next hb h6
      have hblk : (a.add (k * 7)).block < wr.heap.size := blk_lt h0
      have hx : (t.fields[k]'hkm).num = nb → fst_ Fd.num t.fields nb = some (t.fields[k]'hkm) := fun e => fst_at hkm hI.out e
      have hy : (t.fields[k]'hkm).num ≠ nb → ∀ j (hj : j < t.fields.length), j < k + 1 → (t.fields[j]'hj).num ≠ nb := fun e j hj hjk => by
        by_cases hjk2 : j < k
        · exact hI.out j hj hjk2
        · obtain rfl : j = k := by omega
          exact e
      have g2 := hfw _ (List.getElem_mem hkm)
      generalize t.fields[k]'hkm = f at *
      have hW1 := ab1 wr (Obj.cells #[.int .i64 f.num, .string (bs f.name), .int .i64 f.type.kind, .int .i64 f.type.size, .string (bs f.type.name), .slice A3 f.type.elem.length c3, .bool f.opt] 47)
      have C3 := C2.next hW1
      by_cases e : f.num = nb
      · have E := Lib.hid (hx e)
        have cE := newField_any f _ (wr.alloc (Obj.cells #[.int .i64 f.num, .string (bs f.name), .int .i64 f.type.kind, .int .i64 f.type.size, .string (bs f.type.name), .slice A3 f.type.elem.length c3, .bool f.opt] 47)) g2 (hV.next (Below.next hb hW1))
        have hz : wr.heap.size + 1 ≤ (wr.alloc (Obj.cells #[.int .i64 f.num, .string (bs f.name), .int .i64 f.type.kind, .int .i64 f.type.size, .string (bs f.type.name), .slice A3 f.type.elem.length c3, .bool f.opt] 47)).heap.size := by simp
        clear hx hy hI hA hV g2 hfw
        subst e
        unfold FtP at cE
        go_wp2_with fail
        refine cE.mono ?_
        rintro e3 w3 ⟨A9, c9, rfl, hN9, hb9⟩
        have hb3 := Below.next (Below.next hb hW1) hb9
        have D3 := C3.next hb9
        have t0 := D3.c 0 rfl
        have u0 := D3.f 0 rfl
        have t1 := D3.c 1 rfl
        have u1 := D3.f 1 rfl
        have t2 := D3.c 2 rfl
        have u2 := D3.f 2 rfl
        have t3 := D3.c 3 rfl
        have u3 := D3.f 3 rfl
        have t4 := D3.c 4 rfl
        have u4 := D3.f 4 rfl
        have t5 := D3.c 5 rfl
        have u5 := D3.f 5 rfl
        have t6 := D3.c 6 rfl
        have u6 := D3.f 6 rfl
        have t9 := D3.lt
        clear cE C3 C2 r0 r1 r2 r3 r4 r5 r6 s0 s1 s2 s3 s4 s5 s6 h0 h1 h2 h3 h4 h5 h6 hblk hW1
        go_wp2_with fail
        refine bodyPost_ret (v := .tuple #[.agg #[.int .i64 f.num, .string (bs f.name), .int .i64 f.type.kind, .int .i64 f.type.size, .string (bs f.type.name), .slice A9 f.type.elem.length c9, .bool f.opt], .bool true]) (by simp [results, Tryz.results20, go_sem, t0, t1, t2, t3, t4, t5, t6]) rfl ?_
        refine .some_ E.out ⟨A9, c9, rfl, (hN9.next ?_).rw_⟩ ?_
        · iterate 7 refine Kpl.set ?_ (by show w.heap.size + 1 < _; omega) _
          exact Kpl.of (Below.refl _ _)
        · iterate 7 refine Below.setCell ?_ (by show w.heap.size ≤ w.heap.size + 1; omega) _
          exact hb3
      · have E := Lib.hid (hy e)
        have q1 : (f.num == nb) = false := by simpa using e
        have hb3 := Below.next hb hW1
        clear hx hy hI hA hV hfw
        go_wp2_with fail
        go_roundw
        case rel => exact ⟨k + 1, by omega, by go_num, E, C3, hb3⟩
        case measure => simp [intOf]; omega
    · obtain rfl : k = n := by omega
      have E := Lib.hid (show fst_ Fd.num t.fields nb = none from fst_end fun j hj => hI.out j hj (by rw [← HN.out]; exact hj))
      clear hI hfw
      go_wp2_with fail
      refine bodyPost_ret (v := .tuple #[.agg #[.int .i64 0, .string ⟨#[]⟩, .int .i64 0, .int .i64 0, .string ⟨#[]⟩, .slice none 0 0, .bool false], .bool false]) (by simp [results, Tryz.results20, go_sem, r0, r1, r2, r3, r4, r5, r6]) rfl (.none_ E.out ?_)
      iterate 7 refine Below.setCell ?_ (by simp) _
      exact hb
end Go.Proofs.YtnfdoflmdlomhaaGreatDoor
/-
  The chapter's example. No conditions beyond those that each names.
-/
namespace Go.Proofs.YtnfdoflmdlomhaaGreatDoor
open Go.RowKit Go.Shelf
/-- Objects made one behind the other. -/
def allocs (w : World) (os : List Obj) : World := os.foldl World.alloc w
theorem allocs_below (os : List Obj) : ∀ w, Below w.heap.size w (allocs w os) := by
  induction os with
  | nil => exact fun w => Below.refl _ _
  | cons o os ih => exact fun w => Below.next (ab1 w o) (ih _)
theorem allocs_at (os : List Obj) : ∀ (w : World) (i : Nat) (o : Obj), os[i]? = some o → (allocs w os).heap[w.heap.size + i]? = some o := by
  induction os with
  | nil => intro w i o h; simp at h
  | cons o' os ih =>
    intro w i o h
    cases i with
    | zero =>
      have h : o' = o := by simpa using h
      subst h
      have := (allocs_below os (w.alloc o')).block w.heap.size (by simp)
      exact this.trans (heap_alloc_new w _)
    | succ i =>
      have := ih (w.alloc o') i o (by simpa using h)
      rw [show (w.alloc o').heap.size + i = w.heap.size + (i + 1) by simp; omega] at this
      exact this
theorem Bx.of_heap {w : World} {g : Nat} {a : Array Value} {t : TypeId} (h : w.heap[g]? = some (Obj.cells a t)) : Bx w g a.toList :=
  ⟨(Array.getElem?_eq_some_iff.1 h).1, fun j v e => ⟨by rw [cell_of_row _ _ j a t (0, 0) h]; simpa using e, frozen_of_row _ _ j a t h⟩⟩
def nTag : List UInt8 := [84, 97, 103]
def nPose : List UInt8 := [80, 111, 115, 101]
def nMode : List UInt8 := [77, 111, 100, 101]
def tagSt (k : Int) (nm : List UInt8) : St := ⟨nTag, [⟨1, [109, 111, 100, 101], false, .mk k 0 nm []⟩]⟩
def poseSt : St := ⟨nPose, [⟨1, [120], false, .mk 2 32 [] []⟩, ⟨3, [116, 97, 103, 115], false, .mk 5 4 [] [.mk 6 0 nTag []]⟩]⟩
def exSc (k : Int) (nm : List UInt8) : Sch := ⟨1, [⟨nMode, [[105, 100, 108, 101], [114, 117, 110]], [0, 1]⟩], [tagSt k nm, poseSt]⟩
def exV (g : Nat) : Value := .agg #[.int .i64 1, .slice (some ⟨g + 9, 0, none⟩) 1 1, .slice (some ⟨g + 10, 0, none⟩) 2 2]
/-- The example in memory. -/
structure ExM (W : World) (g : Nat) (k : Int) (nm : List UInt8) : Prop where
  b1 : Bx W (g + 1) [.int .i64 1, .string (bs [109, 111, 100, 101]), .int .i64 k, .int .i64 0, .string (bs nm), .slice none 0 0, .bool false]
  b3 : Bx W (g + 3) [.int .i64 6, .int .i64 0, .string (bs nTag), .slice none 0 0]
  b5 : Bx W (g + 5) [.int .i64 1, .string (bs [120]), .int .i64 2, .int .i64 32, .string (bs []), .slice none 0 0, .bool false, .int .i64 3, .string (bs [116, 97, 103, 115]), .int .i64 5, .int .i64 4, .string (bs []), .slice (some ⟨g + 3, 0, none⟩) 1 1, .bool false]
  b7 : Bx W (g + 7) [.string (bs [105, 100, 108, 101]), .string (bs [114, 117, 110])]
  b8 : Bx W (g + 8) [.int .i64 0, .int .i64 1]
  b9 : Bx W (g + 9) [.string (bs nMode), .slice (some ⟨g + 7, 0, none⟩) 2 2, .slice (some ⟨g + 8, 0, none⟩) 2 2]
  b10 : Bx W (g + 10) [.string (bs nTag), .slice (some ⟨g + 1, 0, none⟩) 1 1, .string (bs nPose), .slice (some ⟨g + 5, 0, none⟩) 2 2]
theorem ExM.next {W W' : World} {g : Nat} {k : Int} {nm : List UInt8} (h : ExM W g k nm) (hb : Below W.heap.size W W') : ExM W' g k nm :=
  ⟨h.b1.next hb, h.b3.next hb, h.b5.next hb, h.b7.next hb, h.b8.next hb, h.b9.next hb, h.b10.next hb⟩
theorem rw1 {α : Type} {P : World → α → Addr → Prop} {z : Nat} {w : World} {x : α} {g : Nat} (h : P w x ⟨g, 0, none⟩) : Rw P z w [x] (some ⟨g, 0, none⟩) := .inr ⟨_, rfl, fun i hi => by
  obtain rfl : i = 0 := by simpa using hi
  rw [Nat.zero_mul]
  exact h⟩
theorem rw2 {α : Type} {P : World → α → Addr → Prop} {z : Nat} {w : World} {x y : α} {g : Nat} (h : P w x ⟨g, 0, none⟩) (k : P w y ⟨g, z, none⟩) : Rw P z w [x, y] (some ⟨g, 0, none⟩) := .inr ⟨_, rfl, fun i hi => by
  match i, hi with
  | 0, _ => rw [Nat.zero_mul]; exact h
  | 1, _ => rw [Addr.add_lit, Nat.one_mul, Nat.zero_add]; exact k⟩
theorem ExM.sc {W : World} {g : Nat} {k : Int} {nm : List UInt8} (h : ExM W g k nm) : ScV W (exSc k nm) (exV g) := by
  have hT : TyA W (.mk 6 0 nTag []) ⟨g + 3, 0, none⟩ := TyA.of (h.b3.c 0 rfl) (h.b3.c 1 rfl) (h.b3.c 2 rfl) (h.b3.c 3 rfl) (.inl rfl)
  refine ⟨_, _, _, _, rfl, ⟨rw1 ⟨h.b9.c 0 rfl, ⟨_, _, h.b9.c 1 rfl, rw2 (h.b7.c 0 rfl) (h.b7.c 1 rfl)⟩, _, _, h.b9.c 2 rfl, rw2 (h.b8.c 0 rfl) (h.b8.c 1 rfl)⟩, rw2 ⟨h.b10.c 0 rfl, _, _, h.b10.c 1 rfl, rw1 ?_⟩ ⟨h.b10.c 2 rfl, _, _, h.b10.c 3 rfl, rw2 ?_ ?_⟩⟩⟩
  · exact ⟨h.b1.c 0 rfl, h.b1.c 1 rfl, h.b1.c 2 rfl, h.b1.c 3 rfl, h.b1.c 4 rfl, ⟨_, _, h.b1.c 5 rfl, .inl rfl⟩, h.b1.c 6 rfl⟩
  · exact ⟨h.b5.c 0 rfl, h.b5.c 1 rfl, h.b5.c 2 rfl, h.b5.c 3 rfl, h.b5.c 4 rfl, ⟨_, _, h.b5.c 5 rfl, .inl rfl⟩, h.b5.c 6 rfl⟩
  · exact ⟨h.b5.c 7 rfl, h.b5.c 8 rfl, h.b5.c 9 rfl, h.b5.c 10 rfl, h.b5.c 11 rfl, ⟨_, _, h.b5.c 12 rfl, rw1 hT⟩, h.b5.c 13 rfl⟩
def ExP (w : World) (e : Ending) (w' : World) : Prop := e = .returned (exV w.heap.size) ∧ ExM w' w.heap.size 7 nMode ∧ Below w.heap.size w w'
theorem exM_of {w W : World} (os : List Obj) (hW : W = allocs w os) {t1 t3 t5 t7 t8 t9 t10 : TypeId}
    (h1 : os[1]? = some (Obj.cells #[.int .i64 1, .string (bs [109, 111, 100, 101]), .int .i64 7, .int .i64 0, .string (bs nMode), .slice none 0 0, .bool false] t1))
    (h3 : os[3]? = some (Obj.cells #[.int .i64 6, .int .i64 0, .string (bs nTag), .slice none 0 0] t3))
    (h5 : os[5]? = some (Obj.cells #[.int .i64 1, .string (bs [120]), .int .i64 2, .int .i64 32, .string (bs []), .slice none 0 0, .bool false, .int .i64 3, .string (bs [116, 97, 103, 115]), .int .i64 5, .int .i64 4, .string (bs []), .slice (some ⟨w.heap.size + 3, 0, none⟩) 1 1, .bool false] t5))
    (h7 : os[7]? = some (Obj.cells #[.string (bs [105, 100, 108, 101]), .string (bs [114, 117, 110])] t7))
    (h8 : os[8]? = some (Obj.cells #[.int .i64 0, .int .i64 1] t8))
    (h9 : os[9]? = some (Obj.cells #[.string (bs nMode), .slice (some ⟨w.heap.size + 7, 0, none⟩) 2 2, .slice (some ⟨w.heap.size + 8, 0, none⟩) 2 2] t9))
    (h10 : os[10]? = some (Obj.cells #[.string (bs nTag), .slice (some ⟨w.heap.size + 1, 0, none⟩) 1 1, .string (bs nPose), .slice (some ⟨w.heap.size + 5, 0, none⟩) 2 2] t10)) : ExM W w.heap.size 7 nMode ∧ Below w.heap.size w W := by
  subst hW
  exact ⟨⟨Bx.of_heap (allocs_at os w 1 _ h1), Bx.of_heap (allocs_at os w 3 _ h3), Bx.of_heap (allocs_at os w 5 _ h5), Bx.of_heap (allocs_at os w 7 _ h7), Bx.of_heap (allocs_at os w 8 _ h8), Bx.of_heap (allocs_at os w 9 _ h9), Bx.of_heap (allocs_at os w 10 _ h10)⟩, allocs_below os w⟩
set_option maxRecDepth 100000 in
set_option maxHeartbeats 4000000 in
theorem example_any (w : World) : Calls Tryz.prog 36 #[] w (ExP w) := by
  go_enter Tryz.func36, Tryz.ntmps36
  go_wp2_with fail
  refine bodyPost_ret (v := exV w.heap.size) (by simp [results, Tryz.results36, go_sem, exV]) rfl ⟨rfl, ?_⟩
  exact exM_of [_, _, _, _, _, _, _, _, _, _, _] rfl rfl rfl rfl rfl rfl rfl rfl
end Go.Proofs.YtnfdoflmdlomhaaGreatDoor
/-
  What the chapter's example is: mathematics. No conditions beyond those that each names.
-/
namespace Go.Proofs.YtnfdoflmdlomhaaGreatDoor
theorem ex_few : few (exSc 7 nMode) = true ∧ few (exSc 6 nPose) = true := by decide +kernel
theorem ex_B : FewB (exSc 7 nMode) ∧ FewB (exSc 6 nPose) := ⟨few_B ex_few.1, few_B ex_few.2⟩
theorem ex_P1 : Parts (exSc 7 nMode) := ⟨by decide +kernel, by decide +kernel⟩
theorem ex_P2 : Parts (exSc 6 nPose) := ⟨by decide +kernel, by decide +kernel⟩
theorem ex_L1 : ¬ longS (exSc 7 nMode) := by unfold longS; decide +kernel
theorem ex_L2 : ¬ longS (exSc 6 nPose) := by unfold longS; decide +kernel
theorem ex_nx (k : Int) (nm x : List UInt8) : nx (exSc k nm) x = if x = nTag then dir (.mk k 0 nm []) else if x = nPose then [nTag] else [] := by
  unfold nx
  show nxs ((fst_ St.name [tagSt k nm, poseSt] x).getD st0) = _
  rw [fst_cons, fst_cons, fst_nil]
  by_cases h1 : x = nTag
  · rw [if_pos h1, if_pos (show (tagSt k nm).name = x from h1.symm)]
    show dir (.mk k 0 nm []) ++ [] = _
    rw [List.append_nil]
  · rw [if_neg h1, if_neg (show ¬ (tagSt k nm).name = x from fun h => h1 h.symm)]
    by_cases h2 : x = nPose
    · rw [if_pos h2, if_pos (show poseSt.name = x from h2.symm)]
      rfl
    · rw [if_neg h2, if_neg (show ¬ poseSt.name = x from fun h => h2 h.symm)]
      rfl
theorem ex_nx1 (x : List UInt8) : nx (exSc 7 nMode) x = if x = nTag then [nMode] else if x = nPose then [nTag] else [] := by rw [ex_nx]; rfl
theorem ex_nx2 (x : List UInt8) : nx (exSc 6 nPose) x = if x = nTag then [nPose] else if x = nPose then [nTag] else [] := by rw [ex_nx]; rfl
theorem ex_reach {x y : List UInt8} (h : Reach (nx (exSc 7 nMode)) x y) : (x = nTag ∧ y = nMode) ∨ (x = nPose ∧ (y = nTag ∨ y = nMode)) := by
  have one : ∀ x y, y ∈ nx (exSc 7 nMode) x → (x = nTag ∧ y = nMode) ∨ (x = nPose ∧ y = nTag) := fun x y hy => by
    rw [ex_nx1] at hy
    by_cases h1 : x = nTag
    · rw [if_pos h1] at hy; exact .inl ⟨h1, by simpa using hy⟩
    · rw [if_neg h1] at hy
      by_cases h2 : x = nPose
      · rw [if_pos h2] at hy; exact .inr ⟨h2, by simpa using hy⟩
      · rw [if_neg h2] at hy; cases hy
  induction h with
  | one h =>
    rcases one _ _ h with h | ⟨h, k⟩
    · exact .inl h
    · exact .inr ⟨h, .inl k⟩
  | more _ hz ih =>
    rcases one _ _ hz with ⟨h1, h2⟩ | ⟨h1, h2⟩
    · rcases ih with ⟨-, h3⟩ | ⟨h3, -⟩
      · rw [h3] at h1; exact absurd h1 (by decide)
      · exact .inr ⟨h3, .inr h2⟩
    · rcases ih with ⟨-, h3⟩ | ⟨-, h3 | h3⟩
      · rw [h3] at h1; exact absurd h1 (by decide)
      · rw [h3] at h1; exact absurd h1 (by decide)
      · rw [h3] at h1; exact absurd h1 (by decide)
theorem ex_nc1 : ¬ cyc (exSc 7 nMode) := by
  rintro ⟨t, -, h⟩
  rcases ex_reach h with ⟨h1, h2⟩ | ⟨h1, h2 | h2⟩
  · rw [h1] at h2; exact absurd h2 (by decide)
  · rw [h1] at h2; exact absurd h2 (by decide)
  · rw [h1] at h2; exact absurd h2 (by decide)
theorem ex_c2 : cyc (exSc 6 nPose) := by
  refine ⟨tagSt 6 nPose, List.mem_cons_self .., ?_⟩
  refine .more (y := nPose) (.one ?_) ?_
  · rw [ex_nx2]; decide
  · rw [ex_nx2]; decide
theorem ex_dep : dep (exSc 7 nMode) nTag = 1 ∧ dep (exSc 7 nMode) nPose = 3 := by decide +kernel
theorem ex_nd1 : ¬ deep (exSc 7 nMode) := by
  rintro ⟨t, ht, h⟩
  have ht : t ∈ [tagSt 7 nMode, poseSt] := ht
  rcases List.mem_cons.1 ht with rfl | ht
  · have := ex_dep.1
    have h : 6 < dep (exSc 7 nMode) nTag := h
    omega
  · obtain rfl := List.mem_singleton.1 ht
    have := ex_dep.2
    have h : 6 < dep (exSc 7 nMode) nPose := h
    omega
theorem ex_chk1 : chk (exSc 7 nMode) = 0 := by rw [chk_ns (by decide) ex_L1 ex_P1]; exact (nsR_no ex_nc1).2 ex_nd1
theorem ex_chk2 : chk (exSc 6 nPose) = 19 := by rw [chk_ns (by decide) ex_L2 ex_P2]; unfold nsR; rw [if_pos ex_c2]
theorem ex_depA : depA (exSc 7 nMode) nTag = 1 ∧ depA (exSc 7 nMode) nPose = 3 := by
  unfold depA
  rw [ex_chk1, if_pos rfl, if_pos rfl, if_pos (by decide +kernel), if_pos (by decide +kernel)]
  exact ex_dep
theorem ex_us {l : List (List UInt8)} (h : UsA (exSc 7 nMode) nPose l) : l = [nMode, nTag] := by
  rcases h with ⟨-, -, h⟩ | ⟨h, -⟩
  · refine h.one ⟨by unfold Asc leB; decide +kernel, fun y => ⟨fun hy => ?_, fun hy => ?_⟩⟩
    · rcases List.mem_cons.1 hy with rfl | hy
      · exact .more (y := nTag) (.one (by rw [ex_nx1]; decide)) (by rw [ex_nx1]; decide)
      · obtain rfl := List.mem_singleton.1 hy
        exact .one (by rw [ex_nx1]; decide)
    · rcases ex_reach hy with ⟨h1, -⟩ | ⟨-, h2 | h2⟩
      · exact absurd h1 (by decide)
      · rw [h2]; simp
      · rw [h2]; simp
  · exact absurd ⟨ex_chk1, by decide +kernel⟩ h
theorem ex_fst : fst_ St.name (exSc 7 nMode).structs nTag = some (tagSt 7 nMode) := rfl
theorem ex_fd : fst_ Fd.num poseSt.fields 3 = some ⟨3, [116, 97, 103, 115], false, .mk 5 4 [] [.mk 6 0 nTag []]⟩ := rfl
theorem ex_fw : ∀ t ∈ (exSc 7 nMode).structs, t.fields.length ≤ 1000 ∧ ∀ f ∈ t.fields, fewT f.type = true := by decide +kernel
end Go.Proofs.YtnfdoflmdlomhaaGreatDoor
/-
  The law's awake. What the library's variables hold is its condition.
-/
namespace Go.Proofs.YtnfdoflmdlomhaaGreatDoor
open Go.RowKit Go.Shelf
theorem Bx.put {w : World} {b : Nat} {vs : List Value} (h : Bx w b vs) (j : Nat) (v : Value) : Bx (w.setCell ⟨b, j, none⟩ v) b (vs.set j v) := by
  refine ⟨by simp; exact h.lt, fun i u e => ?_⟩
  have fr : (w.setCell ⟨b, j, none⟩ v).frozen? ⟨b, i, none⟩ = w.frozen? ⟨b, i, none⟩ := by simp
  rw [fr]
  by_cases hij : j = i
  · subst hij
    have hl : j < vs.length := by
      have := (List.getElem?_eq_some_iff.1 e).1
      simpa using this
    rw [List.getElem?_set_self hl] at e
    cases e
    have h1 := h.at_ j _ (List.getElem?_eq_getElem hl)
    exact ⟨World.cell?_setCell_same (h := h1.1) .., h1.2⟩
  · rw [List.getElem?_set_ne hij] at e
    have nn : (⟨b, j, none⟩ : Addr) ≠ ⟨b, i, none⟩ := fun e => hij (by injection e)
    exact ⟨(World.cell?_setCell_other (h := nn) ..).trans (h.at_ i u e).1, (h.at_ i u e).2⟩
theorem ExM.hold {W W' : World} {g : Nat} {k k' : Int} {nm nm' : List UInt8} (h : ExM W g k nm) (hg : W.grownBy W' (some (g + 1))) (h1 : Bx W' (g + 1) [.int .i64 1, .string (bs [109, 111, 100, 101]), .int .i64 k', .int .i64 0, .string (bs nm'), .slice none 0 0, .bool false]) : ExM W' g k' nm' :=
  ⟨h1, h.b3.kept hg (by omega), h.b5.kept hg (by omega), h.b7.kept hg (by omega), h.b8.kept hg (by omega), h.b9.kept hg (by omega), h.b10.kept hg (by omega)⟩
theorem ExM.kept {W W' : World} {g b : Nat} {k : Int} {nm : List UInt8} (h : ExM W g k nm) (hg : W.grownBy W' (some b)) (hb : b < g + 1 ∨ g + 10 < b) : ExM W' g k nm :=
  ⟨h.b1.kept hg (by omega), h.b3.kept hg (by omega), h.b5.kept hg (by omega), h.b7.kept hg (by omega), h.b8.kept hg (by omega), h.b9.kept hg (by omega), h.b10.kept hg (by omega)⟩
theorem ExM.pose {W : World} {g : Nat} {k : Int} {nm : List UInt8} (h : ExM W g k nm) : StV W poseSt (.agg #[.string ⟨#[80, 111, 115, 101]⟩, .slice (some ⟨g + 5, 0, none⟩) 2 2]) := by
  have hT : TyA W (.mk 6 0 nTag []) ⟨g + 3, 0, none⟩ := TyA.of (h.b3.c 0 rfl) (h.b3.c 1 rfl) (h.b3.c 2 rfl) (h.b3.c 3 rfl) (.inl rfl)
  refine ⟨_, _, rfl, rw2 ?_ ?_⟩
  · exact ⟨h.b5.c 0 rfl, h.b5.c 1 rfl, h.b5.c 2 rfl, h.b5.c 3 rfl, h.b5.c 4 rfl, ⟨_, _, h.b5.c 5 rfl, .inl rfl⟩, h.b5.c 6 rfl⟩
  · exact ⟨h.b5.c 7 rfl, h.b5.c 8 rfl, h.b5.c 9 rfl, h.b5.c 10 rfl, h.b5.c 11 rfl, ⟨_, _, h.b5.c 12 rfl, rw1 hT⟩, h.b5.c 13 rfl⟩
theorem exStruct {W : World} {g : Nat} (h : ExM W g 7 nMode) : Calls Tryz.prog 14 #[exV g, .string ⟨#[84, 97, 103]⟩] W (fun e w' => ∃ A c, e = .returned (.tuple #[.agg #[.string ⟨#[84, 97, 103]⟩, .slice A 1 c], .bool true]) ∧ Below W.heap.size W w') := by
  have c := devStruct_any (exSc 7 nMode) nTag (exV g) W h.sc (by decide) ex_fw
  rw [ex_fst] at c
  exact c.mono fun e w' ⟨v, e1, ⟨A, c, e2, _⟩, hb⟩ => ⟨A, c, by rw [e1, e2]; rfl, hb⟩
theorem exField {W : World} {g : Nat} (h : ExM W g 7 nMode) : Calls Tryz.prog 20 #[.agg #[.string ⟨#[80, 111, 115, 101]⟩, .slice (some ⟨g + 5, 0, none⟩) 2 2], .int .i64 3] W (fun e w' => ∃ A c, e = .returned (.tuple #[.agg #[.int .i64 3, .string ⟨#[116, 97, 103, 115]⟩, .int .i64 5, .int .i64 4, .string ⟨#[]⟩, .slice A 1 c, .bool false], .bool true]) ∧ Below W.heap.size W w') := by
  have c := devFieldOf_any poseSt 3 _ W h.pose (by decide) (by decide +kernel)
  rw [ex_fd] at c
  exact c.mono fun e w' ⟨v, e1, ⟨A, c, e2, _⟩, hb⟩ => ⟨A, c, by rw [e1, e2]; rfl, hb⟩
theorem exCheck1 {W : World} {g : Nat} (h : ExM W g 7 nMode) (hE : Env W) : Calls Tryz.prog 12 #[exV g] W (Ib (.int .i64 0) W) := by
  have c := check_any (exSc 7 nMode) ex_B.1 (exV g) W h.sc hE
  rw [ex_chk1] at c
  exact c
theorem exCheck2 {W : World} {g : Nat} (h : ExM W g 6 nPose) (hE : Env W) : Calls Tryz.prog 12 #[exV g] W (Ib (.int .i64 19) W) := by
  have c := check_any (exSc 6 nPose) ex_B.2 (exV g) W h.sc hE
  rw [ex_chk2] at c
  exact c
theorem exUses {W : World} {g : Nat} (h : ExM W g 7 nMode) (hE : Env W) : Calls Tryz.prog 26 #[exV g, .string ⟨#[80, 111, 115, 101]⟩] W (fun e w' => ∃ v, e = .returned v ∧ Nms w' [nMode, nTag] v ∧ Below W.heap.size W w') :=
  (devUses_any (exSc 7 nMode) ex_B.1 nPose (by decide) (exV g) W h.sc hE).mono fun e w' ⟨v, l, e1, e2, e3, e4⟩ => ⟨v, e1, by rw [← ex_us e2]; exact e3, e4⟩
theorem exDepth1 {W : World} {g : Nat} (h : ExM W g 7 nMode) (hE : Env W) : Calls Tryz.prog 23 #[exV g, .string ⟨#[84, 97, 103]⟩] W (Ib (.int .i64 1) W) := by
  have c := devDepth_any (exSc 7 nMode) ex_B.1 nTag (by decide) (exV g) W h.sc hE
  rw [ex_depA.1] at c
  exact c
theorem exDepth2 {W : World} {g : Nat} (h : ExM W g 7 nMode) (hE : Env W) : Calls Tryz.prog 23 #[exV g, .string ⟨#[80, 111, 115, 101]⟩] W (Ib (.int .i64 3) W) := by
  have c := devDepth_any (exSc 7 nMode) ex_B.1 nPose (by decide) (exV g) W h.sc hE
  rw [ex_depA.2] at c
  exact c
set_option maxRecDepth 100000 in
set_option maxHeartbeats 8000000 in
theorem awake_any (w : World) (hE : Env w) : Calls Tryz.prog 11 #[] w (Ib (.bool true) w) := by
  go_enter Tryz.func11, Tryz.ntmps11
  go_wp2_with fail
  refine (example_any w).mono ?_
  rintro e w1 ⟨rfl, M1, hb1⟩
  obtain ⟨g1, hg1⟩ : ∃ g1, w.heap.size = g1 := ⟨_, rfl⟩
  unfold exV
  rw [hg1] at M1 ⊢
  have hW1 := ab1 w1 (Obj.cells #[.int .i64 1, .slice (some ⟨g1 + 9, 0, none⟩) 1 1, .slice (some ⟨g1 + 10, 0, none⟩) 2 2] 25)
  have D1 := Bx.new3 w1 25 (.int .i64 1) (.slice (some ⟨g1 + 9, 0, none⟩) 1 1) (.slice (some ⟨g1 + 10, 0, none⟩) 2 2)
  go_wp2_with fail
  refine (example_any _).mono ?_
  rintro e w2 ⟨rfl, M2, hb2⟩
  have hb3 := Below.next (Below.next hb1 hW1) hb2
  have hlm := M1.b10.lt
  replace M1 := (M1.next hW1).next hb2
  replace D1 := D1.next hb2
  obtain ⟨g2, hg2⟩ : ∃ g2, (w1.alloc (Obj.cells #[.int .i64 1, .slice (some ⟨g1 + 9, 0, none⟩) 1 1, .slice (some ⟨g1 + 10, 0, none⟩) 2 2] 25)).heap.size = g2 := ⟨_, rfl⟩
  have hl1 : w1.heap.size + 1 = g2 := by rw [← hg2]; simp
  have hl0 : g1 ≤ w1.heap.size := by rw [← hg1]; exact hb1.size
  unfold exV
  rw [hg2] at M2 ⊢
  have m1 := M2.b10.c 1 rfl
  have m2 := M2.b10.lt
  have m3 := M2.b1.lt
  have q2 := M2.b1.f 2 rfl
  have q3 := M2.b1.f 3 rfl
  have q4 := M2.b1.f 4 rfl
  have q5 := M2.b1.f 5 rfl
  have r2 := M2.b1.c 2 rfl
  have r3 := M2.b1.c 3 rfl
  have r4 := M2.b1.c 4 rfl
  have r5 := M2.b1.c 5 rfl
  have hst : w2.grownBy ((((w2.setCell ⟨g2 + 1, 2, none⟩ (.int .i64 6)).setCell ⟨g2 + 1, 3, none⟩ (.int .i64 0)).setCell ⟨g2 + 1, 4, none⟩ (.string ⟨#[80, 111, 115, 101]⟩)).setCell ⟨g2 + 1, 5, none⟩ (.slice none 0 0)) (some (g2 + 1)) := (((gb_setCell w2 ⟨g2 + 1, 2, none⟩ (.int .i64 6)).trans (gb_setCell _ ⟨g2 + 1, 3, none⟩ (.int .i64 0))).trans (gb_setCell _ ⟨g2 + 1, 4, none⟩ (.string ⟨#[80, 111, 115, 101]⟩))).trans (gb_setCell _ ⟨g2 + 1, 5, none⟩ (.slice none 0 0))
  have E1 : Bx ((((w2.setCell ⟨g2 + 1, 2, none⟩ (.int .i64 6)).setCell ⟨g2 + 1, 3, none⟩ (.int .i64 0)).setCell ⟨g2 + 1, 4, none⟩ (.string ⟨#[80, 111, 115, 101]⟩)).setCell ⟨g2 + 1, 5, none⟩ (.slice none 0 0)) (g2 + 1) [.int .i64 1, .string (bs [109, 111, 100, 101]), .int .i64 6, .int .i64 0, .string (bs nPose), .slice none 0 0, .bool false] := (((M2.b1.put 2 (.int .i64 6)).put 3 (.int .i64 0)).put 4 (.string ⟨#[80, 111, 115, 101]⟩)).put 5 (.slice none 0 0)
  have N2 := M2.hold hst E1
  have N1 := M1.kept hst (.inr (by omega))
  have F1 := D1.kept hst (by omega)
  have hbw := hb3.grown hst hb3.size (fun j hj => by cases hj; omega)
  have hsz : ((((w2.setCell ⟨g2 + 1, 2, none⟩ (.int .i64 6)).setCell ⟨g2 + 1, 3, none⟩ (.int .i64 0)).setCell ⟨g2 + 1, 4, none⟩ (.string ⟨#[80, 111, 115, 101]⟩)).setCell ⟨g2 + 1, 5, none⟩ (.slice none 0 0)).heap.size = w2.heap.size := by simp
  have F2 := Bx.new3 ((((w2.setCell ⟨g2 + 1, 2, none⟩ (.int .i64 6)).setCell ⟨g2 + 1, 3, none⟩ (.int .i64 0)).setCell ⟨g2 + 1, 4, none⟩ (.string ⟨#[80, 111, 115, 101]⟩)).setCell ⟨g2 + 1, 5, none⟩ (.slice none 0 0)) 25 (.int .i64 1) (.slice (some ⟨g2 + 9, 0, none⟩) 1 1) (.slice (some ⟨g2 + 10, 0, none⟩) 2 2)
  go_upto_region 4 with (fail)
  rw [hsz] at F2
  clear hst E1 M1 M2 D1 hsz hW1 hb1 hb2 hb3 m1 m2 m3 q2 q3 q4 q5 r2 r3 r4 r5
  generalize ((((w2.setCell ⟨g2 + 1, 2, none⟩ (.int .i64 6)).setCell ⟨g2 + 1, 3, none⟩ (.int .i64 0)).setCell ⟨g2 + 1, 4, none⟩ (.string ⟨#[80, 111, 115, 101]⟩)).setCell ⟨g2 + 1, 5, none⟩ (.slice none 0 0)) = w4 at *
  have hab := ab1 w4 (Obj.cells #[.int .i64 1, .slice (some ⟨g2 + 9, 0, none⟩) 1 1, .slice (some ⟨g2 + 10, 0, none⟩) 2 2] 25)
  replace N1 := N1.next hab
  replace N2 := N2.next hab
  replace F1 := F1.next hab
  replace hbw := Below.next hbw hab
  replace hE := hE.next hbw
  clear hab
  generalize w4.alloc (Obj.cells #[.int .i64 1, .slice (some ⟨g2 + 9, 0, none⟩) 1 1, .slice (some ⟨g2 + 10, 0, none⟩) 2 2] 25) = w5 at *
  generalize w1.heap.size = p1 at *
  generalize w2.heap.size = p2 at *
  have a0 := F1.c 0 rfl
  have a1 := F1.c 1 rfl
  have a2 := F1.c 2 rfl
  have a3 := F1.lt
  go_wp2_with fail
  refine (exStruct N1).mono ?_
  rintro e w6 ⟨A3, c3, rfl, hb6⟩
  replace N1 := N1.next hb6
  replace N2 := N2.next hb6
  replace F1 := F1.next hb6
  replace F2 := F2.next hb6
  replace hE := hE.next hb6
  replace hbw := Below.next hbw hb6
  have X3 := Bx.new2 w6 32 (.string ⟨#[84, 97, 103]⟩) (.slice A3 1 c3)
  clear a0 a1 a2 a3 hb6
  go_upto_region 5 with (fail)
  have hab := ab1 w6 (Obj.cells #[.string ⟨#[84, 97, 103]⟩, .slice A3 1 c3] 32)
  replace N1 := N1.next hab
  replace N2 := N2.next hab
  replace F1 := F1.next hab
  replace F2 := F2.next hab
  replace hE := hE.next hab
  replace hbw := Below.next hbw hab
  clear hab
  generalize w6.alloc (Obj.cells #[.string ⟨#[84, 97, 103]⟩, .slice A3 1 c3] 32) = w7 at *
  generalize w6.heap.size = p3 at *
  have a0 := F1.c 0 rfl
  have a1 := F1.c 1 rfl
  have a2 := F1.c 2 rfl
  have a3 := F1.lt
  have d2 := N1.b10.c 2 rfl
  have d3 := N1.b10.c 3 rfl
  have d4 := N1.b10.lt
  go_wp2_with fail
  refine (exField N1).mono ?_
  rintro e w8 ⟨A5, c5, rfl, hb8⟩
  replace N1 := N1.next hb8
  replace N2 := N2.next hb8
  replace F1 := F1.next hb8
  replace F2 := F2.next hb8
  replace hE := hE.next hb8
  replace hbw := Below.next hbw hb8
  replace X3 := X3.next hb8
  have X5 := Bx.new7 w8 47 (.int .i64 3) (.string ⟨#[116, 97, 103, 115]⟩) (.int .i64 5) (.int .i64 4) (.string ⟨#[]⟩) (.slice A5 1 c5) (.bool false)
  clear a0 a1 a2 a3 d2 d3 d4 hb8
  go_upto_region 6 with (fail)
  have hab := ab1 w8 (Obj.cells #[.int .i64 3, .string ⟨#[116, 97, 103, 115]⟩, .int .i64 5, .int .i64 4, .string ⟨#[]⟩, .slice A5 1 c5, .bool false] 47)
  replace N1 := N1.next hab
  replace N2 := N2.next hab
  replace F1 := F1.next hab
  replace F2 := F2.next hab
  replace hE := hE.next hab
  replace hbw := Below.next hbw hab
  replace X3 := X3.next hab
  clear hab
  generalize w8.alloc (Obj.cells #[.int .i64 3, .string ⟨#[116, 97, 103, 115]⟩, .int .i64 5, .int .i64 4, .string ⟨#[]⟩, .slice A5 1 c5, .bool false] 47) = w9 at *
  generalize w8.heap.size = p5 at *
  have a0 := F1.c 0 rfl
  have a1 := F1.c 1 rfl
  have a2 := F1.c 2 rfl
  have a3 := F1.lt
  go_wp2_with fail
  refine (exCheck1 N1 hE).mono ?_
  rintro e w10 ⟨rfl, hbA⟩
  replace N1 := N1.next hbA
  replace N2 := N2.next hbA
  replace F1 := F1.next hbA
  replace F2 := F2.next hbA
  replace hE := hE.next hbA
  replace hbw := Below.next hbw hbA
  replace X3 := X3.next hbA
  replace X5 := X5.next hbA
  clear a0 a1 a2 a3 hbA
  have b0 := F2.c 0 rfl
  have b1 := F2.c 1 rfl
  have b2 := F2.c 2 rfl
  have b3 := F2.lt
  go_wp2_with fail
  refine (exCheck2 N2 hE).mono ?_
  rintro e w11 ⟨rfl, hbB⟩
  replace N1 := N1.next hbB
  replace N2 := N2.next hbB
  replace F1 := F1.next hbB
  replace F2 := F2.next hbB
  replace hE := hE.next hbB
  replace hbw := Below.next hbw hbB
  replace X3 := X3.next hbB
  replace X5 := X5.next hbB
  clear b0 b1 b2 b3 hbB
  have a0 := F1.c 0 rfl
  have a1 := F1.c 1 rfl
  have a2 := F1.c 2 rfl
  have a3 := F1.lt
  go_wp2_with fail
  refine (exUses N1 hE).mono ?_
  rintro e w12 ⟨v12, rfl, hN, hbC⟩
  replace N1 := N1.next hbC
  replace N2 := N2.next hbC
  replace F1 := F1.next hbC
  replace F2 := F2.next hbC
  replace hE := hE.next hbC
  replace hbw := Below.next hbw hbC
  replace X3 := X3.next hbC
  replace X5 := X5.next hbC
  clear a0 a1 a2 a3 hbC
  have hab := ab1 w12 (Obj.cells #[.string ⟨#[77, 111, 100, 101]⟩, .string ⟨#[84, 97, 103]⟩] 9)
  have Y := Bx.new2 w12 9 (.string ⟨#[77, 111, 100, 101]⟩) (.string ⟨#[84, 97, 103]⟩)
  replace N1 := N1.next hab
  replace N2 := N2.next hab
  replace F1 := F1.next hab
  replace F2 := F2.next hab
  replace hE := hE.next hab
  replace hbw := Below.next hbw hab
  replace X3 := X3.next hab
  replace X5 := X5.next hab
  have cN := lawNames_any [nMode, nTag] [nMode, nTag] v12 (.slice (some ⟨w12.heap.size, 0, none⟩) 2 2) (w12.alloc (Obj.cells #[.string ⟨#[77, 111, 100, 101]⟩, .string ⟨#[84, 97, 103]⟩] 9)) (by decide) (by decide) (hN.next hab) ⟨_, _, rfl, rw2 (Y.c 0 rfl) (Y.c 1 rfl)⟩
  rw [decide_eq_true rfl] at cN
  clear hab
  go_wp2_with fail
  refine cN.mono ?_
  rintro e w13 ⟨rfl, hbD⟩
  replace N1 := N1.next hbD
  replace N2 := N2.next hbD
  replace F1 := F1.next hbD
  replace F2 := F2.next hbD
  replace hE := hE.next hbD
  replace hbw := Below.next hbw hbD
  replace X3 := X3.next hbD
  replace X5 := X5.next hbD
  clear hbD cN Y hN
  have a0 := F1.c 0 rfl
  have a1 := F1.c 1 rfl
  have a2 := F1.c 2 rfl
  have a3 := F1.lt
  go_wp2_with fail
  refine (exDepth1 N1 hE).mono ?_
  rintro e w14 ⟨rfl, hbE⟩
  replace N1 := N1.next hbE
  replace N2 := N2.next hbE
  replace F1 := F1.next hbE
  replace F2 := F2.next hbE
  replace hE := hE.next hbE
  replace hbw := Below.next hbw hbE
  replace X3 := X3.next hbE
  replace X5 := X5.next hbE
  clear a0 a1 a2 a3 hbE
  have a0 := F1.c 0 rfl
  have a1 := F1.c 1 rfl
  have a2 := F1.c 2 rfl
  have a3 := F1.lt
  go_wp2_with fail
  refine (exDepth2 N1 hE).mono ?_
  rintro e w15 ⟨rfl, hbF⟩
  replace N1 := N1.next hbF
  replace N2 := N2.next hbF
  replace F1 := F1.next hbF
  replace F2 := F2.next hbF
  replace hE := hE.next hbF
  replace hbw := Below.next hbw hbF
  replace X3 := X3.next hbF
  replace X5 := X5.next hbF
  clear a0 a1 a2 a3 hbF
  have x0 := X3.c 0 rfl
  have x1 := X3.lt
  have x2 := X5.c 1 rfl
  have x3 := X5.lt
  go_wp2_with fail
  go_ret
  exact ⟨rfl, hbw⟩
end Go.Proofs.YtnfdoflmdlomhaaGreatDoor

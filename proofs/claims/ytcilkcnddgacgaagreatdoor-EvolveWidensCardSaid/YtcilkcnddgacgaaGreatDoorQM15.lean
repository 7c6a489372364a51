/-
  The developers' Struct and FieldOf. No conditions beyond those that each names.
-/
import Derived.Test.YtcilkcnddgacgaaGreatDoorQM14
import Derived.Test.YtcilkcnddgacgaaGreatDoorQM11
import Derived.Deep.QuietTactic
import Derived.BigQuiet
import Derived.Test.YtcilkcnddgacgaaGreatDoorQM13
namespace Go.Proofs.YtcilkcnddgacgaaGreatDoor
open Go.RowKit Go.Shelf
set_option maxRecDepth 100000 in
set_option maxHeartbeats 4000000 in
theorem devFieldOf_any (t : St) (nb : Int) (v : Value) (w : World) (hv : StV w t v) (hn : t.fields.length ≤ 1000) (hfw : ∀ f ∈ t.fields, fewT f.type = true) :
    Calls Tryz.prog 118 #[v, .int .i64 nb] w (FdO (fst_ Fd.num t.fields nb) w) := by
  obtain ⟨A, c, rfl, hS⟩ := hv
  obtain ⟨n, hn2⟩ : ∃ n, t.fields.length = n := ⟨_, rfl⟩
  have HN := Lib.hid hn2
  rw [hn2] at hn ⊢
  clear hn2
  have z1 : (w.alloc (Obj.cells #[.string (bs t.name), .slice A n c] 37)).heap.size = w.heap.size + 1 := by simp
  have B2 := Bx.new7 (w.alloc (Obj.cells #[.string (bs t.name), .slice A n c] 37)) 61 (.int .i64 0) (.string ⟨#[]⟩) (.int .i64 0) (.int .i64 0) (.string ⟨#[]⟩) (.slice none 0 0) (.bool false)
  rw [z1] at B2
  have hab := ab2 w (Obj.cells #[.string (bs t.name), .slice A n c] 37) (Obj.cells #[.int .i64 0, .string ⟨#[]⟩, .int .i64 0, .int .i64 0, .string ⟨#[]⟩, .slice none 0 0, .bool false] 61)
  have HI0 : Hid (∀ j (hj : j < t.fields.length), j < 0 → (t.fields[j]'hj).num ≠ nb) := Lib.hid fun j _ h => by omega
  clear z1
  go_enter Tryz.func118, Tryz.ntmps118
  go_wp2_with fail
  go_loopw [11] (fun i wr => ∃ k : Nat, k ≤ n ∧ i = .int .i64 (k : Int) ∧ Hid (∀ j (hj : j < t.fields.length), j < k → (t.fields[j]'hj).num ≠ nb) ∧ Bx wr (w.heap.size + 1) [.int .i64 0, .string ⟨#[]⟩, .int .i64 0, .int .i64 0, .string ⟨#[]⟩, .slice none 0 0, .bool false] ∧ Below w.heap.size w wr) (fun i _ => n - (intOf i).toNat)
  case atStart => exact ⟨0, by omega, rfl, HI0, B2, hab⟩
  case round =>
    obtain ⟨k, hk, rfl, hI, C2, hb⟩ := hrel
    clear HI0 B2 hab
    have r0 := C2.c 0 rfl
    have s0 := C2.f 0 rfl
    have r1 := C2.c 1 rfl
    have s1 := C2.f 1 rfl
    have r2 := C2.c 2 rfl
    have s2 := C2.f 2 rfl
    have r3 := C2.c 3 rfl
    have s3 := C2.f 3 rfl
    have r4 := C2.c 4 rfl
    have s4 := C2.f 4 rfl
    have r5 := C2.c 5 rfl
    have s5 := C2.f 5 rfl
    have r6 := C2.c 6 rfl
    have s6 := C2.f 6 rfl
    have l2 := C2.lt
    by_cases hlt : k < n
    · have hkm : k < t.fields.length := by rw [HN.out]; exact hlt
      obtain ⟨a, rfl, hA⟩ := hS.get (i := k) hkm
      obtain ⟨A3, c3, h0, h1, h2, h3, h4, h5, h6, hV, -⟩ := hA.val
      replace h0 := cell_next hb h0
      replace h1 := cell_next hb h1
      replace h2 := cell_next hb h2
      replace h3 := cell_next hb h3
      replace h4 := cell_next hb h4
      replace h5 := cell_next hb h5
      replace h6 := cell_next hb h6
      have hblk : (a.add (k * 7)).block < wr.heap.size := blk_lt h0
      have hx : (t.fields[k]'hkm).num = nb → fst_ Fd.num t.fields nb = some (t.fields[k]'hkm) := fun e => fst_at hkm hI.out e
      have hy : (t.fields[k]'hkm).num ≠ nb → ∀ j (hj : j < t.fields.length), j < k + 1 → (t.fields[j]'hj).num ≠ nb := fun e j hj hjk => by
        by_cases hjk2 : j < k
        · exact hI.out j hj hjk2
        · obtain rfl : j = k := by omega
          exact e
      have g2 := hfw _ (List.getElem_mem hkm)
      generalize t.fields[k]'hkm = f at *
      have hW1 := ab1 wr (Obj.cells #[.int .i64 f.num, .string (bs f.name), .int .i64 f.type.kind, .int .i64 f.type.size, .string (bs f.type.name), .slice A3 f.type.elem.length c3, .bool f.opt] 61)
      have C3 := C2.next hW1
      by_cases e : f.num = nb
      · have E := Lib.hid (hx e)
        have cE := newField_any f _ (wr.alloc (Obj.cells #[.int .i64 f.num, .string (bs f.name), .int .i64 f.type.kind, .int .i64 f.type.size, .string (bs f.type.name), .slice A3 f.type.elem.length c3, .bool f.opt] 61)) g2 (hV.next (Below.next hb hW1))
        have hz : wr.heap.size + 1 ≤ (wr.alloc (Obj.cells #[.int .i64 f.num, .string (bs f.name), .int .i64 f.type.kind, .int .i64 f.type.size, .string (bs f.type.name), .slice A3 f.type.elem.length c3, .bool f.opt] 61)).heap.size := by simp
        clear hx hy hI hA hV g2 hfw
        subst e
        unfold FtP at cE
        go_wp2_with fail
        refine cE.mono ?_
        rintro e3 w3 ⟨A9, c9, rfl, hN9, hb9⟩
        have hb3 := Below.next (Below.next hb hW1) hb9
        have D3 := C3.next hb9
        have t0 := D3.c 0 rfl
        have u0 := D3.f 0 rfl
        have t1 := D3.c 1 rfl
        have u1 := D3.f 1 rfl
        have t2 := D3.c 2 rfl
        have u2 := D3.f 2 rfl
        have t3 := D3.c 3 rfl
        have u3 := D3.f 3 rfl
        have t4 := D3.c 4 rfl
        have u4 := D3.f 4 rfl
        have t5 := D3.c 5 rfl
        have u5 := D3.f 5 rfl
        have t6 := D3.c 6 rfl
        have u6 := D3.f 6 rfl
        have t9 := D3.lt
        clear cE C3 C2 r0 r1 r2 r3 r4 r5 r6 s0 s1 s2 s3 s4 s5 s6 h0 h1 h2 h3 h4 h5 h6 hblk hW1
        go_wp2_with fail
        refine bodyPost_ret (v := .tuple #[.agg #[.int .i64 f.num, .string (bs f.name), .int .i64 f.type.kind, .int .i64 f.type.size, .string (bs f.type.name), .slice A9 f.type.elem.length c9, .bool f.opt], .bool true]) (by simp [results, Tryz.results118, go_sem, t0, t1, t2, t3, t4, t5, t6]) rfl ?_
        refine .some_ E.out ⟨A9, c9, rfl, (hN9.next ?_).rw_⟩ ?_
        · iterate 7 refine Kpl.set ?_ (by show w.heap.size + 1 < _; omega) _
          exact Kpl.of (Below.refl _ _)
        · iterate 7 refine Below.setCell ?_ (by show w.heap.size ≤ w.heap.size + 1; omega) _
          exact hb3
      · have E := Lib.hid (hy e)
        have q1 : (f.num == nb) = false := by simpa using e
        have hb3 := Below.next hb hW1
        clear hx hy hI hA hV hfw
        go_wp2_with fail
        go_roundw
        case rel => exact ⟨k + 1, by omega, by go_num, E, C3, hb3⟩
        case measure => simp [intOf]; omega
    · obtain rfl : k = n := by omega
      have E := Lib.hid (show fst_ Fd.num t.fields nb = none from fst_end fun j hj => hI.out j hj (by rw [← HN.out]; exact hj))
      clear hI hfw
      go_wp2_with fail
      refine bodyPost_ret (v := .tuple #[.agg #[.int .i64 0, .string ⟨#[]⟩, .int .i64 0, .int .i64 0, .string ⟨#[]⟩, .slice none 0 0, .bool false], .bool false]) (by simp [results, Tryz.results118, go_sem, r0, r1, r2, r3, r4, r5, r6]) rfl (.none_ E.out ?_)
      iterate 7 refine Below.setCell ?_ (by simp) _
      exact hb
end Go.Proofs.YtcilkcnddgacgaaGreatDoor
/-
  The developers' Enum. No conditions beyond those that each names.
-/
namespace Go.Proofs.YtcilkcnddgacgaaGreatDoor
open Go.RowKit Go.Shelf
/-- Elements of one cell in new memory. -/
def SlN {α : Type} (P : World → α → Addr → Prop) (lo : Nat) (w : World) (l : List α) (A : Option Addr) : Prop := ∀ w', Kpl lo w w' → Rw P 1 w' l A
theorem SlN.next {α : Type} {P : World → α → Addr → Prop} {lo : Nat} {w w' : World} {l : List α} {A : Option Addr} (h : SlN P lo w l A) (k : Kpl lo w w') : SlN P lo w' l A := fun w2 k2 => h w2 (k.trans k2)
theorem SlN.rw_ {α : Type} {P : World → α → Addr → Prop} {lo : Nat} {w : World} {l : List α} {A : Option Addr} (h : SlN P lo w l A) : Rw P 1 w l A := h w ⟨Nat.le_refl _, fun _ _ _ => rfl⟩
theorem SlN.low {α : Type} {P : World → α → Addr → Prop} {lo hi : Nat} {w : World} {l : List α} {A : Option Addr} (h : SlN P hi w l A) (hl : lo ≤ hi) : SlN P lo w l A := fun w2 k2 => h w2 (k2.mono hl)
theorem slN_of {α : Type} {P : World → α → Addr → Prop} {enc : α → Value} (hP : ∀ w x p, P w x p ↔ w.cell? p = some (enc x)) {w : World} {lo : Nat} {e : TypeId} {v : Value} {l : List α} (h : w.ownsRow lo e 1 v l.length (l.map enc)) : ∃ A c, v = .slice A l.length c ∧ SlN P lo w l A := by
  have h0 := h
  unfold World.ownsRow at h0
  rcases h0.2 with ⟨rfl, h1⟩ | ⟨g, cap, cur, rfl, h2, h3, h4⟩
  · exact ⟨none, 0, by rw [h1], fun _ _ => .inl (List.eq_nil_of_length_eq_zero h1)⟩
  · refine ⟨_, cap, rfl, fun w2 k => .inr ⟨_, rfl, fun i hi => (hP _ _ _).2 ?_⟩⟩
    have ho : w2.ownsRow lo e 1 (.slice (some ⟨g, 0, none⟩) l.length cap) l.length (l.map enc) := by
      unfold World.ownsRow
      refine ⟨h0.1, .inr ⟨g, cap, cur, rfl, h2, ?_, h4⟩⟩
      rw [k.blk g h2 (Array.getElem?_eq_some_iff.1 h3).1]
      exact h3
    rw [Nat.mul_one]
    exact World.ownsRow.cells ho (g := g) rfl i _ (by rw [List.getElem?_map, List.getElem?_eq_getElem hi]; rfl)
def CnP {α : Type} (P : World → α → Addr → Prop) (l : List α) (w : World) (e : Ending) (w' : World) : Prop := ∃ A c, e = .returned (.slice A l.length c) ∧ SlN P w.heap.size w' l A ∧ Below w.heap.size w w'
def FCl {α : Type} (P : World → α → Addr → Prop) (l : List α) (W0 : World) : Fact := ⟨fun v w' => ∃ A c, v = .slice A l.length c ∧ SlN P W0.heap.size w' l A ∧ Below W0.heap.size W0 w', fun _ _ _ ⟨A, c, h1, h2, h3⟩ hb => ⟨A, c, h1, h2.next (Kpl.of hb), upG h3 hb⟩⟩
theorem infoNms : (Tryz.prog.info? 9).map (fun i => (i.zero, i.size, i.bytes)) = some (some (.string ⟨#[]⟩), 1, 16) := by kernel_rfl
set_option maxRecDepth 100000 in
set_option maxHeartbeats 2000000 in
theorem cloneNms_any (l : List (List UInt8)) (A : Option Addr) (c : Nat) (w : World) (hl : l.length ≤ 1000000) (hR : Rw TyN 1 w l A) :
    Calls Tryz.prog 146 #[.slice A l.length c] w (CnP TyN l w) := by
  obtain ⟨i, hi, hz, hs5, hby⟩ := info_parts infoNms
  by_cases h0 : l = []
  · subst h0
    cases A with
    | none => exact (AnyE.slices_Clone_nil Tryz.clone146 0 c w).mono fun e w' ⟨h1, h2⟩ => ⟨none, 0, h1, fun _ _ => .inl rfl, by rw [h2]; exact Below.refl _ _⟩
    | some a =>
      have q22 : ∀ (w : World) (a : Option Addr) (n c n' c' : Nat), (binOp .eql 64 (.slice a n c) (.slice none n' c')).run Tryz.prog w = .ok (.bool a.isNone) w := fun w a n c n' c' => Lib.run_eql_slice_nil w _ _ a n c n' c' Tryz.underlying64
      go_enter Tryz.func146, Tryz.ntmps146
      go_wp2_with (at_builtin; refine wpList_append_own _ rfl _ _ 64 rfl w.heap.size 9 i _ 1 16 Tryz.underlying64 hi hz hs5 hby rfl (by decide) _ _ _ rfl (World.ownsRow_made w #[] 0 (Nat.le_refl _) (Nat.zero_le _) rfl) a 0 c [] rfl rfl (by intro j u hj; simp at hj) (by intro u hu; cases hu) (by unfold maxLen; omega) (by omega) (by simp) ?_)
      intro v' w1 hown hgrow hnil
      go_wp2
      go_ret
      have ho : w1.ownsRow w.heap.size 9 1 v' ([] : List (List UInt8)).length (([] : List (List UInt8)).map (fun x => Value.string (bs x))) := by simpa using hown
      obtain ⟨A', c', rfl, hS⟩ := slN_of (P := TyN) (fun _ _ _ => Iff.rfl) ho
      exact ⟨A', c', rfl, hS, ((Below.refl _ w).alloc (Nat.le_refl _) _).grown hgrow (by simp) (by intro k hk; simp [Value.ownBlock] at hk; omega)⟩
  · rcases hR with h | ⟨a, rfl, h⟩
    · exact absurd h h0
    · have h1 : 0 < l.length := List.length_pos_iff.2 h0
      have hs : a.spot = none := by
        have h2 : w.cell? (a.add (0 * 1)) = some ((fun x => Value.string (bs x)) (l[0]'h1)) := h 0 h1
        have := spot_none0 h2
        simpa [Addr.add] using this
      obtain ⟨b, off, s⟩ := a
      have hs : s = none := hs
      subst hs
      refine (AnyE.slices_Clone Tryz.clone146 i _ 1 16 hi hz hs5 hby rfl (by decide) Tryz.sizeOf9 b off l.length c (l.map (fun x => Value.string (bs x))) w (by simp) (by unfold maxLen; omega) (by omega) (fun j u hu => ?_) (fun u hu => ?_)).mono fun e w' ⟨v', e1, e2, _, e4⟩ => ?_
      · have hj : j < l.length := by
          have := (List.getElem?_eq_some_iff.1 hu).1
          simpa using this
        rw [List.getElem?_map, List.getElem?_eq_getElem hj] at hu
        have h2 : w.cell? ((⟨b, off, none⟩ : Addr).add (j * 1)) = some ((fun x => Value.string (bs x)) (l[j]'hj)) := h j hj
        rw [Nat.mul_one, Addr.add_lit] at h2
        rw [h2]
        exact hu
      · obtain ⟨x, -, rfl⟩ := List.mem_map.1 hu
        rfl
      · obtain ⟨A', c', rfl, hS⟩ := slN_of (P := TyN) (fun _ _ _ => Iff.rfl) e2
        exact ⟨A', c', e1, hS, e4⟩
theorem infoIns : (Tryz.prog.info? 3).map (fun i => (i.zero, i.size, i.bytes)) = some (some (.int .i64 0), 1, 8) := by kernel_rfl
set_option maxRecDepth 100000 in
set_option maxHeartbeats 2000000 in
theorem cloneIns_any (l : List Int) (A : Option Addr) (c : Nat) (w : World) (hl : l.length ≤ 1000000) (hR : Rw TyI 1 w l A) :
    Calls Tryz.prog 147 #[.slice A l.length c] w (CnP TyI l w) := by
  obtain ⟨i, hi, hz, hs5, hby⟩ := info_parts infoIns
  by_cases h0 : l = []
  · subst h0
    cases A with
    | none => exact (AnyE.slices_Clone_nil Tryz.clone147 0 c w).mono fun e w' ⟨h1, h2⟩ => ⟨none, 0, h1, fun _ _ => .inl rfl, by rw [h2]; exact Below.refl _ _⟩
    | some a =>
      have q22 : ∀ (w : World) (a : Option Addr) (n c n' c' : Nat), (binOp .eql 77 (.slice a n c) (.slice none n' c')).run Tryz.prog w = .ok (.bool a.isNone) w := fun w a n c n' c' => Lib.run_eql_slice_nil w _ _ a n c n' c' Tryz.underlying77
      go_enter Tryz.func147, Tryz.ntmps147
      go_wp2_with (at_builtin; refine wpList_append_own _ rfl _ _ 77 rfl w.heap.size 3 i _ 1 8 Tryz.underlying77 hi hz hs5 hby rfl (by decide) _ _ _ rfl (World.ownsRow_made w #[] 0 (Nat.le_refl _) (Nat.zero_le _) rfl) a 0 c [] rfl rfl (by intro j u hj; simp at hj) (by intro u hu; cases hu) (by unfold maxLen; omega) (by omega) (by simp) ?_)
      intro v' w1 hown hgrow hnil
      go_wp2
      go_ret
      have ho : w1.ownsRow w.heap.size 3 1 v' ([] : List Int).length (([] : List Int).map (fun x => Value.int .i64 x)) := by simpa using hown
      obtain ⟨A', c', rfl, hS⟩ := slN_of (P := TyI) (fun _ _ _ => Iff.rfl) ho
      exact ⟨A', c', rfl, hS, ((Below.refl _ w).alloc (Nat.le_refl _) _).grown hgrow (by simp) (by intro k hk; simp [Value.ownBlock] at hk; omega)⟩
  · rcases hR with h | ⟨a, rfl, h⟩
    · exact absurd h h0
    · have h1 : 0 < l.length := List.length_pos_iff.2 h0
      have hs : a.spot = none := by
        have h2 : w.cell? (a.add (0 * 1)) = some ((fun x => Value.int .i64 x) (l[0]'h1)) := h 0 h1
        have := spot_none0 h2
        simpa [Addr.add] using this
      obtain ⟨b, off, s⟩ := a
      have hs : s = none := hs
      subst hs
      refine (AnyE.slices_Clone Tryz.clone147 i _ 1 8 hi hz hs5 hby rfl (by decide) Tryz.sizeOf3 b off l.length c (l.map (fun x => Value.int .i64 x)) w (by simp) (by unfold maxLen; omega) (by omega) (fun j u hu => ?_) (fun u hu => ?_)).mono fun e w' ⟨v', e1, e2, _, e4⟩ => ?_
      · have hj : j < l.length := by
          have := (List.getElem?_eq_some_iff.1 hu).1
          simpa using this
        rw [List.getElem?_map, List.getElem?_eq_getElem hj] at hu
        have h2 : w.cell? ((⟨b, off, none⟩ : Addr).add (j * 1)) = some ((fun x => Value.int .i64 x) (l[j]'hj)) := h j hj
        rw [Nat.mul_one, Addr.add_lit] at h2
        rw [h2]
        exact hu
      · obtain ⟨x, -, rfl⟩ := List.mem_map.1 hu
        rfl
      · obtain ⟨A', c', rfl, hS⟩ := slN_of (P := TyI) (fun _ _ _ => Iff.rfl) e2
        exact ⟨A', c', e1, hS, e4⟩
set_option maxRecDepth 100000 in
set_option maxHeartbeats 8000000 in
theorem devEnum_any (S : Sch) (nm : List UInt8) (v : Value) (w : World) (hv : ScV w S v) (hn : S.enums.length ≤ 1000) (hfw : ∀ t ∈ S.enums, t.names.length ≤ 1000 ∧ t.nums.length ≤ 1000) :
    Calls Tryz.prog 104 #[v, .string (bs nm)] w (EnO (fst_ En.name S.enums nm) w) := by
  obtain ⟨A, c, A2, c2, rfl, hS⟩ := hv
  have hSs := hS.en
  clear hS
  obtain ⟨n, hn2⟩ : ∃ n, S.enums.length = n := ⟨_, rfl⟩
  obtain ⟨m, hm⟩ : ∃ m, S.structs.length = m := ⟨_, rfl⟩
  have HN := Lib.hid hn2
  rw [hn2] at hn
  rw [hm, hn2]
  clear hn2 hm
  have z1 : (w.alloc (Obj.cells #[.int .i64 S.ver, .slice A n c, .slice A2 m c2] 25)).heap.size = w.heap.size + 1 := by simp
  have B2 := Bx.new3 (w.alloc (Obj.cells #[.int .i64 S.ver, .slice A n c, .slice A2 m c2] 25)) 94 (.string ⟨#[]⟩) (.slice none 0 0) (.slice none 0 0)
  rw [z1] at B2
  have hab := ab2 w (Obj.cells #[.int .i64 S.ver, .slice A n c, .slice A2 m c2] 25) (Obj.cells #[.string ⟨#[]⟩, .slice none 0 0, .slice none 0 0] 94)
  have HI0 : Hid (∀ j (hj : j < S.enums.length), j < 0 → (S.enums[j]'hj).name ≠ nm) := Lib.hid fun j _ h => by omega
  clear z1
  go_enter Tryz.func104, Tryz.ntmps104
  go_wp2_with fail
  go_loopw [11] (fun i wr => ∃ k : Nat, k ≤ n ∧ i = .int .i64 (k : Int) ∧ Hid (∀ j (hj : j < S.enums.length), j < k → (S.enums[j]'hj).name ≠ nm) ∧ Bx wr (w.heap.size + 1) [.string ⟨#[]⟩, .slice none 0 0, .slice none 0 0] ∧ Below w.heap.size w wr) (fun i _ => n - (intOf i).toNat)
  case atStart => exact ⟨0, by omega, rfl, HI0, B2, hab⟩
  case round =>
    obtain ⟨k, hk, rfl, hI, C2, hb⟩ := hrel
    clear HI0 B2 hab
    have r0 := C2.c 0 rfl
    have r1 := C2.c 1 rfl
    have r2 := C2.c 2 rfl
    have s0 := C2.f 0 rfl
    have s1 := C2.f 1 rfl
    have s2 := C2.f 2 rfl
    have l2 := C2.lt
    by_cases hlt : k < n
    · have hkm : k < S.enums.length := by rw [HN.out]; exact hlt
      obtain ⟨a, rfl, hA⟩ := hSs.get (i := k) hkm
      obtain ⟨A3, c3, A4, c4, h0, h1, h2, hV⟩ := hA.val
      replace h0 := cell_next hb h0
      replace h1 := cell_next hb h1
      replace h2 := cell_next hb h2
      have hblk : (a.add (k * 3)).block < wr.heap.size := blk_lt h0
      have hx : (S.enums[k]'hkm).name = nm → fst_ En.name S.enums nm = some (S.enums[k]'hkm) := fun e => fst_at hkm hI.out e
      have hy : (S.enums[k]'hkm).name ≠ nm → ∀ j (hj : j < S.enums.length), j < k + 1 → (S.enums[j]'hj).name ≠ nm := fun e j hj hjk => by
        by_cases hjk2 : j < k
        · exact hI.out j hj hjk2
        · obtain rfl : j = k := by omega
          exact e
      obtain ⟨g1, g2⟩ := hfw _ (List.getElem_mem hkm)
      generalize S.enums[k]'hkm = t at *
      have hW1 := ab1 wr (Obj.cells #[.string (bs t.name), .slice A3 t.names.length c3, .slice A4 t.nums.length c4] 94)
      have B7 := Bx.new3 wr 94 (.string (bs t.name)) (.slice A3 t.names.length c3) (.slice A4 t.nums.length c4)
      have C3 := C2.next hW1
      by_cases e : t.name = nm
      · have E := Lib.hid (hx e)
        obtain ⟨A5, c5, A6, c6, hV0, hVn, hVi⟩ := hV
        obtain ⟨rfl, rfl, rfl, rfl⟩ : A3 = A5 ∧ c3 = c5 ∧ A4 = A6 ∧ c4 = c6 := by injection hV0 with h; simp at h; exact ⟨h.1.1, h.1.2, h.2.1, h.2.2⟩
        have hz : (wr.alloc (Obj.cells #[.string (bs t.name), .slice A3 t.names.length c3, .slice A4 t.nums.length c4] 94)).heap.size = wr.heap.size + 1 := by simp
        have hbW := Below.next hb hW1
        clear hx hy hI hA hV0
        subst e
        have q1 := sq_t t.name
        go_upto_region 5 with (fail)
        generalize wr.alloc (Obj.cells #[.string (bs t.name), .slice A3 t.names.length c3, .slice A4 t.nums.length c4] 94) = W1 at *
        have cN := fun W (h : Below W1.heap.size W1 W) => cloneNms_any t.names A3 c3 W (by omega) (hVn.next fun _ _ => TyN.next (Below.next hbW h))
        have cI := fun W (h : Below W1.heap.size W1 W) => cloneIns_any t.nums A4 c4 W (by omega) (hVi.next fun _ _ => TyI.next (Below.next hbW h))
        have p1 := B7.c 1 rfl
        have p2 := B7.c 2 rfl
        have p3 := B7.lt
        refine wp_region_seqN (by kernel_rfl) (FF [(7, Fact.at_ W1 (.pointer (some ⟨wr.heap.size, 0, none⟩))), (19, Fact.at_ W1 (.pointer (some ⟨wr.heap.size, 1, none⟩))), (20, Fact.at_ W1 (.slice A3 t.names.length c3)), (21, FCl TyN t.names W1), (22, Fact.at_ W1 (.pointer (some ⟨wr.heap.size, 2, none⟩))), (23, Fact.at_ W1 (.slice A4 t.nums.length c4)), (24, FCl TyI t.nums W1), (25, Fact.at_ W1 (.pointer (some ⟨wr.heap.size, 1, none⟩)))]) [7] [] 30 7 [19, 20, 21, 22, 23, 24, 25] rfl (by kernel_rfl) (by kernel_rfl) (by decide) (by kernel_rfl) (by kernel_rfl) ?_ ?_ ?_
        · intro t9 ht9
          simp only [List.mem_cons, List.not_mem_nil, or_false] at ht9
          rcases ht9 with rfl
          · exact ⟨rfl, Below.refl _ _⟩
        · refine fcs ⟨Ob.new_ (at1 7 19 (.pointer (some ⟨wr.heap.size, 0, none⟩)) (.pointer (some ⟨wr.heap.size, 1, none⟩)) rfl (by first | exact .inl rfl | exact .inr ⟨_, _, _, rfl, rfl, by kernel_rfl, by decide, rfl⟩) (by kernel_rfl) rfl rfl (fun a9 W9 hb9 h9 => by simp [execOp, h9] <;> go_simp)) (by kernel_rfl), ?_⟩
          refine fcs ⟨Ob.new_ (at1 19 20 (.pointer (some ⟨wr.heap.size, 1, none⟩)) (.slice A3 t.names.length c3) rfl (by first | exact .inl rfl | exact .inr ⟨_, _, _, rfl, rfl, by kernel_rfl, by decide, rfl⟩) (by kernel_rfl) rfl rfl (fun a9 W9 hb9 h9 => by have g1 := cell_next hb9 p1; simp [execOp, h9] <;> go_simp)) (by kernel_rfl), ?_⟩
          refine fcs ⟨Ob.new_ (at_enter (W0 := W1) (by first | exact .inl rfl | exact .inr ⟨_, _, _, rfl, rfl, by kernel_rfl, by decide, rfl⟩) (fun a9 W9 hf9 => by have p20 := hf9 20 (by kernel_rfl); have q20 : a9.tmps.getD 20 undef = (.slice A3 t.names.length c3) := p20.1; have hb9 := p20.2; exact ⟨146, #[(.slice A3 t.names.length c3)], by rw [← q20]; simpa [execOp, resolve, Act.eval] using run_invoke (by kernel_rfl) _ W9, (cN W9 hb9).mono fun e w' ⟨A9, c9, e1, e2, e3⟩ => ⟨_, e1, e3, fun s hs => by injection hs with hs; subst hs; exact ⟨A9, c9, rfl, e2.low hb9.size, upG hb9 e3⟩⟩⟩)) (by kernel_rfl), ?_⟩
          refine fcs ⟨Ob.new_ (at1 7 22 (.pointer (some ⟨wr.heap.size, 0, none⟩)) (.pointer (some ⟨wr.heap.size, 2, none⟩)) rfl (by first | exact .inl rfl | exact .inr ⟨_, _, _, rfl, rfl, by kernel_rfl, by decide, rfl⟩) (by kernel_rfl) rfl rfl (fun a9 W9 hb9 h9 => by simp [execOp, h9] <;> go_simp)) (by kernel_rfl), ?_⟩
          refine fcs ⟨Ob.new_ (at1 22 23 (.pointer (some ⟨wr.heap.size, 2, none⟩)) (.slice A4 t.nums.length c4) rfl (by first | exact .inl rfl | exact .inr ⟨_, _, _, rfl, rfl, by kernel_rfl, by decide, rfl⟩) (by kernel_rfl) rfl rfl (fun a9 W9 hb9 h9 => by have g2 := cell_next hb9 p2; simp [execOp, h9] <;> go_simp)) (by kernel_rfl), ?_⟩
          refine fcs ⟨Ob.new_ (at_enter (W0 := W1) (by first | exact .inl rfl | exact .inr ⟨_, _, _, rfl, rfl, by kernel_rfl, by decide, rfl⟩) (fun a9 W9 hf9 => by have p23 := hf9 23 (by kernel_rfl); have q23 : a9.tmps.getD 23 undef = (.slice A4 t.nums.length c4) := p23.1; have hb9 := p23.2; exact ⟨147, #[(.slice A4 t.nums.length c4)], by rw [← q23]; simpa [execOp, resolve, Act.eval] using run_invoke (by kernel_rfl) _ W9, (cI W9 hb9).mono fun e w' ⟨A9, c9, e1, e2, e3⟩ => ⟨_, e1, e3, fun s hs => by injection hs with hs; subst hs; exact ⟨A9, c9, rfl, e2.low hb9.size, upG hb9 e3⟩⟩⟩)) (by kernel_rfl), ?_⟩
          refine fcs ⟨Ob.new_ (at1 7 25 (.pointer (some ⟨wr.heap.size, 0, none⟩)) (.pointer (some ⟨wr.heap.size, 1, none⟩)) rfl (by first | exact .inl rfl | exact .inr ⟨_, _, _, rfl, rfl, by kernel_rfl, by decide, rfl⟩) (by kernel_rfl) rfl rfl (fun a9 W9 hb9 h9 => by simp [execOp, h9] <;> go_simp)) (by kernel_rfl), ?_⟩
          exact fnl
        intro vv wv hvv hbv _ _
        have hv25 : vv 25 = (.pointer (some ⟨wr.heap.size, 1, none⟩)) := (hvv 25 (by decide)).1
        simp only [lay, List.foldl_cons, List.foldl_nil, List.setIfInBounds_toArray, List.set_cons_succ, List.set_cons_zero, hv25, List.drop_succ_cons, List.drop_zero]
        obtain ⟨A9, c9, e21, hN9, -⟩ := hvv 21 (by decide)
        obtain ⟨A8, c8, e24, hI9, -⟩ := hvv 24 (by decide)
        simp only [e21, e24]
        have hb3 := Below.next hbW hbv
        have D7 := B7.next hbv
        have D3 := C3.next hbv
        have u0 := D7.c 0 rfl
        have u1 := D7.c 1 rfl
        have u2 := D7.c 2 rfl
        have u3 := D7.f 1 rfl
        have u4 := D7.f 2 rfl
        have u5 := D7.lt
        have t0 := D3.c 0 rfl
        have t1 := D3.c 1 rfl
        have t2 := D3.c 2 rfl
        have t3 := D3.f 0 rfl
        have t4 := D3.f 1 rfl
        have t5 := D3.f 2 rfl
        have t6 := D3.lt
        obtain ⟨q1_, HQ1⟩ : ∃ q, Hid (t.names.length = q) := ⟨_, Lib.hid rfl⟩
        obtain ⟨q2_, HQ2⟩ : ∃ q, Hid (t.nums.length = q) := ⟨_, Lib.hid rfl⟩
        rw [HQ1.out] at u1
        rw [HQ2.out] at u2
        rw [HQ1.out, HQ2.out]
        clear hvv D7 hbv cN cI B7 C3 C2 r0 r1 r2 s0 s1 s2 h0 h1 h2 hblk hW1 p1 p2 p3 e21 e24 hVn hVi
        go_wp2_with fail
        refine bodyPost_ret (v := .tuple #[.agg #[.string (bs t.name), .slice A9 q1_ c9, .slice A8 q2_ c8], .bool true]) (by simp [results, Tryz.results104, go_sem, t0, t1, t2]) rfl ?_
        refine .some_ E.out ⟨A9, c9, A8, c8, by rw [HQ1.out, HQ2.out], (hN9.next ?_).rw_, (hI9.next ?_).rw_⟩ ?_
        · iterate 5 refine Kpl.set ?_ (by first | (show wr.heap.size < _; omega) | (show w.heap.size + 1 < _; omega)) _
          exact Kpl.of (Below.refl _ _)
        · iterate 5 refine Kpl.set ?_ (by first | (show wr.heap.size < _; omega) | (show w.heap.size + 1 < _; omega)) _
          exact Kpl.of (Below.refl _ _)
        · have hws := hb.size
          iterate 5 refine Below.setCell ?_ (by first | (show w.heap.size ≤ wr.heap.size; omega) | (show w.heap.size ≤ w.heap.size + 1; omega)) _
          exact hb3
      · have E := Lib.hid (hy e)
        have q1 := sq_f e
        have hb3 := Below.next hb hW1
        clear hx hy hI hA hV hfw
        go_wp2_with fail
        go_roundw
        case rel => exact ⟨k + 1, by omega, by go_num, E, C3, hb3⟩
        case measure => simp [intOf]; omega
    · obtain rfl : k = n := by omega
      have E := Lib.hid (show fst_ En.name S.enums nm = none from fst_end fun j hj => hI.out j hj (by rw [← HN.out]; exact hj))
      clear hI hfw
      go_wp2_with fail
      refine bodyPost_ret (v := .tuple #[.agg #[.string ⟨#[]⟩, .slice none 0 0, .slice none 0 0], .bool false]) (by simp [results, Tryz.results104, go_sem, r0, r1, r2]) rfl (.none_ E.out ?_)
      iterate 3 refine Below.setCell ?_ (by simp) _
      exact hb
end Go.Proofs.YtcilkcnddgacgaaGreatDoor
/-
  Which types the developers permit: structs and enumerations. No conditions beyond those that each names.
-/
namespace Go.Proofs.YtcilkcnddgacgaaGreatDoor
open Go.RowKit Go.Shelf
end Go.Proofs.YtcilkcnddgacgaaGreatDoor
/-
  Which types the developers permit: lists, and all kinds. No conditions beyond those that each names.
-/
namespace Go.Proofs.YtcilkcnddgacgaaGreatDoor
open Go.RowKit Go.Sort
/-- A schema is of a modest size. -/
structure Few9 (S : Sch) : Prop where
  sl : S.structs.length ≤ 1000
  el : S.enums.length ≤ 1000
  st : ∀ t ∈ S.structs, t.fields.length ≤ 1000 ∧ ∀ f ∈ t.fields, fewT f.type = true
  en : ∀ t ∈ S.enums, t.names.length ≤ 1000 ∧ t.nums.length ≤ 1000
end Go.Proofs.YtcilkcnddgacgaaGreatDoor
/-
  The number of an enumeration's constant: the developers' search. No conditions beyond those that each names.
-/
namespace Go.Proofs.YtcilkcnddgacgaaGreatDoor
open Go.RowKit Go.Sort
end Go.Proofs.YtcilkcnddgacgaaGreatDoor
/-
  The developers' check of an enumeration's number. No conditions beyond those that each names.
-/
namespace Go.Proofs.YtcilkcnddgacgaaGreatDoor
open Go.RowKit Go.Sort
end Go.Proofs.YtcilkcnddgacgaaGreatDoor
/-
  The developers' Check of a number, for the self-test. No conditions beyond those that each names.
-/
namespace Go.Proofs.YtcilkcnddgacgaaGreatDoor
open Go.RowKit Go.Shelf
end Go.Proofs.YtcilkcnddgacgaaGreatDoor
/-
  The developers' checks of one value, by kinds. No conditions beyond those that each names.
-/
namespace Go.Proofs.YtcilkcnddgacgaaGreatDoor
open Go.RowKit Go.Shelf
end Go.Proofs.YtcilkcnddgacgaaGreatDoor
/-
  The developers' isPure; whole numbers in a short list. No conditions beyond those that each names.
-/
namespace Go.Proofs.YtcilkcnddgacgaaGreatDoor
open Go.RowKit Go.Shelf
end Go.Proofs.YtcilkcnddgacgaaGreatDoor
/-
  The developers' admit. No conditions beyond those that each names.
-/
namespace Go.Proofs.YtcilkcnddgacgaaGreatDoor
open Go.RowKit Go.Shelf
end Go.Proofs.YtcilkcnddgacgaaGreatDoor
/-
  The developers' renew of a value without lists. No conditions beyond those that each names.
-/
namespace Go.Proofs.YtcilkcnddgacgaaGreatDoor
open Go.RowKit Go.Shelf
end Go.Proofs.YtcilkcnddgacgaaGreatDoor
/-
  slices.Insert at the end of a row of the call's own. No conditions beyond those that each names.
-/
namespace Go.Proofs.YtcilkcnddgacgaaGreatDoor
open Go.RowKit Go.Shelf
end Go.Proofs.YtcilkcnddgacgaaGreatDoor
/-
  The developers' With of a struct without entries. No conditions beyond those that each names.
-/
namespace Go.Proofs.YtcilkcnddgacgaaGreatDoor
open Go.RowKit Go.Shelf
theorem below_of_gb {w w' : World} (h : w.grownBy w' none) : Below w.heap.size w w' := ⟨h.os, h.tape, h.output, h.size, fun i hi => h.block i hi (by simp)⟩
end Go.Proofs.YtcilkcnddgacgaaGreatDoor


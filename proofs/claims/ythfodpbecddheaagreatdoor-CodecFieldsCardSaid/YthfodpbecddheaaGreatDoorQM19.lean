/-
  The developers' Enum. No conditions beyond those that each names.
-/
import Derived.Test.YthfodpbecddheaaGreatDoorQM18
import Derived.Test.YthfodpbecddheaaGreatDoorQM12
import Derived.Test.YthfodpbecddheaaGreatDoorQM17
import Derived.Deep.QuietTactic
import Derived.BigQuiet
namespace Go.Proofs.YthfodpbecddheaaGreatDoor
open Go.RowKit Go.Shelf
/-- Elements of one cell in new memory. -/
def SlN {α : Type} (P : World → α → Addr → Prop) (lo : Nat) (w : World) (l : List α) (A : Option Addr) : Prop := ∀ w', Kpl lo w w' → Rw P 1 w' l A
theorem SlN.next {α : Type} {P : World → α → Addr → Prop} {lo : Nat} {w w' : World} {l : List α} {A : Option Addr} (h : SlN P lo w l A) (k : Kpl lo w w') : SlN P lo w' l A := fun w2 k2 => h w2 (k.trans k2)
theorem SlN.rw_ {α : Type} {P : World → α → Addr → Prop} {lo : Nat} {w : World} {l : List α} {A : Option Addr} (h : SlN P lo w l A) : Rw P 1 w l A := h w ⟨Nat.le_refl _, fun _ _ _ => rfl⟩
theorem SlN.low {α : Type} {P : World → α → Addr → Prop} {lo hi : Nat} {w : World} {l : List α} {A : Option Addr} (h : SlN P hi w l A) (hl : lo ≤ hi) : SlN P lo w l A := fun w2 k2 => h w2 (k2.mono hl)
theorem slN_of {α : Type} {P : World → α → Addr → Prop} {enc : α → Value} (hP : ∀ w x p, P w x p ↔ w.cell? p = some (enc x)) {w : World} {lo : Nat} {e : TypeId} {v : Value} {l : List α} (h : w.ownsRow lo e 1 v l.length (l.map enc)) : ∃ A c, v = .slice A l.length c ∧ SlN P lo w l A := by
  have h0 := h
  unfold World.ownsRow at h0
  rcases h0.2 with ⟨rfl, h1⟩ | ⟨g, cap, cur, rfl, h2, h3, h4⟩
  · exact ⟨none, 0, by rw [h1], fun _ _ => .inl (List.eq_nil_of_length_eq_zero h1)⟩
  · refine ⟨_, cap, rfl, fun w2 k => .inr ⟨_, rfl, fun i hi => (hP _ _ _).2 ?_⟩⟩
    have ho : w2.ownsRow lo e 1 (.slice (some ⟨g, 0, none⟩) l.length cap) l.length (l.map enc) := by
      unfold World.ownsRow
      refine ⟨h0.1, .inr ⟨g, cap, cur, rfl, h2, ?_, h4⟩⟩
      rw [k.blk g h2 (Array.getElem?_eq_some_iff.1 h3).1]
      exact h3
    rw [Nat.mul_one]
    exact World.ownsRow.cells ho (g := g) rfl i _ (by rw [List.getElem?_map, List.getElem?_eq_getElem hi]; rfl)
def CnP {α : Type} (P : World → α → Addr → Prop) (l : List α) (w : World) (e : Ending) (w' : World) : Prop := ∃ A c, e = .returned (.slice A l.length c) ∧ SlN P w.heap.size w' l A ∧ Below w.heap.size w w'
def FCl {α : Type} (P : World → α → Addr → Prop) (l : List α) (W0 : World) : Fact := ⟨fun v w' => ∃ A c, v = .slice A l.length c ∧ SlN P W0.heap.size w' l A ∧ Below W0.heap.size W0 w', fun _ _ _ ⟨A, c, h1, h2, h3⟩ hb => ⟨A, c, h1, h2.next (Kpl.of hb), upG h3 hb⟩⟩
theorem infoNms : (Tryz.prog.info? 9).map (fun i => (i.zero, i.size, i.bytes)) = some (some (.string ⟨#[]⟩), 1, 16) := by kernel_rfl
set_option maxRecDepth 100000 in
set_option maxHeartbeats 2000000 in
theorem cloneNms_any (l : List (List UInt8)) (A : Option Addr) (c : Nat) (w : World) (hl : l.length ≤ 1000000) (hR : Rw TyN 1 w l A) :
    Calls Tryz.prog 123 #[.slice A l.length c] w (CnP TyN l w) := by
  obtain ⟨i, hi, hz, hs5, hby⟩ := info_parts infoNms
  by_cases h0 : l = []
  · subst h0
    cases A with
    | none => exact (AnyE.slices_Clone_nil Tryz.clone123 0 c w).mono fun e w' ⟨h1, h2⟩ => ⟨none, 0, h1, fun _ _ => .inl rfl, by rw [h2]; exact Below.refl _ _⟩
    | some a =>
      have q22 : ∀ (w : World) (a : Option Addr) (n c n' c' : Nat), (binOp .eql 73 (.slice a n c) (.slice none n' c')).run Tryz.prog w = .ok (.bool a.isNone) w := fun w a n c n' c' => Lib.run_eql_slice_nil w _ _ a n c n' c' Tryz.underlying73
      go_enter Tryz.func123, Tryz.ntmps123
      go_wp2_with (at_builtin; refine wpList_append_own _ rfl _ _ 73 rfl w.heap.size 9 i _ 1 16 Tryz.underlying73 hi hz hs5 hby rfl (by decide) _ _ _ rfl (World.ownsRow_made w #[] 0 (Nat.le_refl _) (Nat.zero_le _) rfl) a 0 c [] rfl rfl (by intro j u hj; simp at hj) (by intro u hu; cases hu) (by unfold maxLen; omega) (by omega) (by simp) ?_)
      intro v' w1 hown hgrow hnil
      go_wp2
      go_ret
      have ho : w1.ownsRow w.heap.size 9 1 v' ([] : List (List UInt8)).length (([] : List (List UInt8)).map (fun x => Value.string (bs x))) := by simpa using hown
      obtain ⟨A', c', rfl, hS⟩ := slN_of (P := TyN) (fun _ _ _ => Iff.rfl) ho
      exact ⟨A', c', rfl, hS, ((Below.refl _ w).alloc (Nat.le_refl _) _).grown hgrow (by simp) (by intro k hk; simp [Value.ownBlock] at hk; omega)⟩
  · rcases hR with h | ⟨a, rfl, h⟩
    · exact absurd h h0
    · have h1 : 0 < l.length := List.length_pos_iff.2 h0
      have hs : a.spot = none := by
        have h2 : w.cell? (a.add (0 * 1)) = some ((fun x => Value.string (bs x)) (l[0]'h1)) := h 0 h1
        have := spot_none0 h2
        simpa [Addr.add] using this
      obtain ⟨b, off, s⟩ := a
      have hs : s = none := hs
      subst hs
      refine (AnyE.slices_Clone Tryz.clone123 i _ 1 16 hi hz hs5 hby rfl (by decide) Tryz.sizeOf9 b off l.length c (l.map (fun x => Value.string (bs x))) w (by simp) (by unfold maxLen; omega) (by omega) (fun j u hu => ?_) (fun u hu => ?_)).mono fun e w' ⟨v', e1, e2, _, e4⟩ => ?_
      · have hj : j < l.length := by
          have := (List.getElem?_eq_some_iff.1 hu).1
          simpa using this
        rw [List.getElem?_map, List.getElem?_eq_getElem hj] at hu
        have h2 : w.cell? ((⟨b, off, none⟩ : Addr).add (j * 1)) = some ((fun x => Value.string (bs x)) (l[j]'hj)) := h j hj
        rw [Nat.mul_one, Addr.add_lit] at h2
        rw [h2]
        exact hu
      · obtain ⟨x, -, rfl⟩ := List.mem_map.1 hu
        rfl
      · obtain ⟨A', c', rfl, hS⟩ := slN_of (P := TyN) (fun _ _ _ => Iff.rfl) e2
        exact ⟨A', c', e1, hS, e4⟩
theorem infoIns : (Tryz.prog.info? 3).map (fun i => (i.zero, i.size, i.bytes)) = some (some (.int .i64 0), 1, 8) := by kernel_rfl
set_option maxRecDepth 100000 in
set_option maxHeartbeats 2000000 in
theorem cloneIns_any (l : List Int) (A : Option Addr) (c : Nat) (w : World) (hl : l.length ≤ 1000000) (hR : Rw TyI 1 w l A) :
    Calls Tryz.prog 124 #[.slice A l.length c] w (CnP TyI l w) := by
  obtain ⟨i, hi, hz, hs5, hby⟩ := info_parts infoIns
  by_cases h0 : l = []
  · subst h0
    cases A with
    | none => exact (AnyE.slices_Clone_nil Tryz.clone124 0 c w).mono fun e w' ⟨h1, h2⟩ => ⟨none, 0, h1, fun _ _ => .inl rfl, by rw [h2]; exact Below.refl _ _⟩
    | some a =>
      have q22 : ∀ (w : World) (a : Option Addr) (n c n' c' : Nat), (binOp .eql 69 (.slice a n c) (.slice none n' c')).run Tryz.prog w = .ok (.bool a.isNone) w := fun w a n c n' c' => Lib.run_eql_slice_nil w _ _ a n c n' c' Tryz.underlying69
      go_enter Tryz.func124, Tryz.ntmps124
      go_wp2_with (at_builtin; refine wpList_append_own _ rfl _ _ 69 rfl w.heap.size 3 i _ 1 8 Tryz.underlying69 hi hz hs5 hby rfl (by decide) _ _ _ rfl (World.ownsRow_made w #[] 0 (Nat.le_refl _) (Nat.zero_le _) rfl) a 0 c [] rfl rfl (by intro j u hj; simp at hj) (by intro u hu; cases hu) (by unfold maxLen; omega) (by omega) (by simp) ?_)
      intro v' w1 hown hgrow hnil
      go_wp2
      go_ret
      have ho : w1.ownsRow w.heap.size 3 1 v' ([] : List Int).length (([] : List Int).map (fun x => Value.int .i64 x)) := by simpa using hown
      obtain ⟨A', c', rfl, hS⟩ := slN_of (P := TyI) (fun _ _ _ => Iff.rfl) ho
      exact ⟨A', c', rfl, hS, ((Below.refl _ w).alloc (Nat.le_refl _) _).grown hgrow (by simp) (by intro k hk; simp [Value.ownBlock] at hk; omega)⟩
  · rcases hR with h | ⟨a, rfl, h⟩
    · exact absurd h h0
    · have h1 : 0 < l.length := List.length_pos_iff.2 h0
      have hs : a.spot = none := by
        have h2 : w.cell? (a.add (0 * 1)) = some ((fun x => Value.int .i64 x) (l[0]'h1)) := h 0 h1
        have := spot_none0 h2
        simpa [Addr.add] using this
      obtain ⟨b, off, s⟩ := a
      have hs : s = none := hs
      subst hs
      refine (AnyE.slices_Clone Tryz.clone124 i _ 1 8 hi hz hs5 hby rfl (by decide) Tryz.sizeOf3 b off l.length c (l.map (fun x => Value.int .i64 x)) w (by simp) (by unfold maxLen; omega) (by omega) (fun j u hu => ?_) (fun u hu => ?_)).mono fun e w' ⟨v', e1, e2, _, e4⟩ => ?_
      · have hj : j < l.length := by
          have := (List.getElem?_eq_some_iff.1 hu).1
          simpa using this
        rw [List.getElem?_map, List.getElem?_eq_getElem hj] at hu
        have h2 : w.cell? ((⟨b, off, none⟩ : Addr).add (j * 1)) = some ((fun x => Value.int .i64 x) (l[j]'hj)) := h j hj
        rw [Nat.mul_one, Addr.add_lit] at h2
        rw [h2]
        exact hu
      · obtain ⟨x, -, rfl⟩ := List.mem_map.1 hu
        rfl
      · obtain ⟨A', c', rfl, hS⟩ := slN_of (P := TyI) (fun _ _ _ => Iff.rfl) e2
        exact ⟨A', c', e1, hS, e4⟩
set_option maxRecDepth 100000 in
set_option maxHeartbeats 8000000 in
theorem devEnum_any (S : Sch) (nm : List UInt8) (v : Value) (w : World) (hv : ScV w S v) (hn : S.enums.length ≤ 1000) (hfw : ∀ t ∈ S.enums, t.names.length ≤ 1000 ∧ t.nums.length ≤ 1000) :
    Calls Tryz.prog 64 #[v, .string (bs nm)] w (EnO (fst_ En.name S.enums nm) w) := by
  obtain ⟨A, c, A2, c2, rfl, hS⟩ := hv
  have hSs := hS.en
  clear hS
  obtain ⟨n, hn2⟩ : ∃ n, S.enums.length = n := ⟨_, rfl⟩
  obtain ⟨m, hm⟩ : ∃ m, S.structs.length = m := ⟨_, rfl⟩
  have HN := Lib.hid hn2
  rw [hn2] at hn
  rw [hm, hn2]
  clear hn2 hm
  have z1 : (w.alloc (Obj.cells #[.int .i64 S.ver, .slice A n c, .slice A2 m c2] 25)).heap.size = w.heap.size + 1 := by simp
  have B2 := Bx.new3 (w.alloc (Obj.cells #[.int .i64 S.ver, .slice A n c, .slice A2 m c2] 25)) 75 (.string ⟨#[]⟩) (.slice none 0 0) (.slice none 0 0)
  rw [z1] at B2
  have hab := ab2 w (Obj.cells #[.int .i64 S.ver, .slice A n c, .slice A2 m c2] 25) (Obj.cells #[.string ⟨#[]⟩, .slice none 0 0, .slice none 0 0] 75)
  have HI0 : Hid (∀ j (hj : j < S.enums.length), j < 0 → (S.enums[j]'hj).name ≠ nm) := Lib.hid fun j _ h => by omega
  clear z1
  go_enter Tryz.func64, Tryz.ntmps64
  go_wp2_with fail
  go_loopw [11] (fun i wr => ∃ k : Nat, k ≤ n ∧ i = .int .i64 (k : Int) ∧ Hid (∀ j (hj : j < S.enums.length), j < k → (S.enums[j]'hj).name ≠ nm) ∧ Bx wr (w.heap.size + 1) [.string ⟨#[]⟩, .slice none 0 0, .slice none 0 0] ∧ Below w.heap.size w wr) (fun i _ => n - (intOf i).toNat)
  case atStart => exact ⟨0, by omega, rfl, HI0, B2, hab⟩
  case round =>
    obtain ⟨k, hk, rfl, hI, C2, hb⟩ := hrel
    clear HI0 B2 hab
    have r0 := C2.c 0 rfl
    have r1 := C2.c 1 rfl
    have r2 := C2.c 2 rfl
    have s0 := C2.f 0 rfl
    have s1 := C2.f 1 rfl
    have s2 := C2.f 2 rfl
    have l2 := C2.lt
    by_cases hlt : k < n
    · have hkm : k < S.enums.length := by rw [HN.out]; exact hlt
      obtain ⟨a, rfl, hA⟩ := hSs.get (i := k) hkm
      obtain ⟨A3, c3, A4, c4, h0, h1, h2, hV⟩ := hA.val
      replace h0 := cell_next hb h0
      replace h1 := cell_next hb h1
      replace h2 := cell_next hb h2
      have hblk : (a.add (k * 3)).block < wr.heap.size := blk_lt h0
      have hx : (S.enums[k]'hkm).name = nm → fst_ En.name S.enums nm = some (S.enums[k]'hkm) := fun e => fst_at hkm hI.out e
      have hy : (S.enums[k]'hkm).name ≠ nm → ∀ j (hj : j < S.enums.length), j < k + 1 → (S.enums[j]'hj).name ≠ nm := fun e j hj hjk => by
        by_cases hjk2 : j < k
        · exact hI.out j hj hjk2
        · obtain rfl : j = k := by omega
          exact e
      obtain ⟨g1, g2⟩ := hfw _ (List.getElem_mem hkm)
      generalize S.enums[k]'hkm = t at *
      have hW1 := ab1 wr (Obj.cells #[.string (bs t.name), .slice A3 t.names.length c3, .slice A4 t.nums.length c4] 75)
      have B7 := Bx.new3 wr 75 (.string (bs t.name)) (.slice A3 t.names.length c3) (.slice A4 t.nums.length c4)
      have C3 := C2.next hW1
      by_cases e : t.name = nm
      · have E := Lib.hid (hx e)
        obtain ⟨A5, c5, A6, c6, hV0, hVn, hVi⟩ := hV
        obtain ⟨rfl, rfl, rfl, rfl⟩ : A3 = A5 ∧ c3 = c5 ∧ A4 = A6 ∧ c4 = c6 := by injection hV0 with h; simp at h; exact ⟨h.1.1, h.1.2, h.2.1, h.2.2⟩
        have hz : (wr.alloc (Obj.cells #[.string (bs t.name), .slice A3 t.names.length c3, .slice A4 t.nums.length c4] 75)).heap.size = wr.heap.size + 1 := by simp
        have hbW := Below.next hb hW1
        clear hx hy hI hA hV0
        subst e
        have q1 := sq_t t.name
        go_upto_region 5 with (fail)
        generalize wr.alloc (Obj.cells #[.string (bs t.name), .slice A3 t.names.length c3, .slice A4 t.nums.length c4] 75) = W1 at *
        have cN := fun W (h : Below W1.heap.size W1 W) => cloneNms_any t.names A3 c3 W (by omega) (hVn.next fun _ _ => TyN.next (Below.next hbW h))
        have cI := fun W (h : Below W1.heap.size W1 W) => cloneIns_any t.nums A4 c4 W (by omega) (hVi.next fun _ _ => TyI.next (Below.next hbW h))
        have p1 := B7.c 1 rfl
        have p2 := B7.c 2 rfl
        have p3 := B7.lt
        refine wp_region_seqN (by kernel_rfl) (FF [(7, Fact.at_ W1 (.pointer (some ⟨wr.heap.size, 0, none⟩))), (19, Fact.at_ W1 (.pointer (some ⟨wr.heap.size, 1, none⟩))), (20, Fact.at_ W1 (.slice A3 t.names.length c3)), (21, FCl TyN t.names W1), (22, Fact.at_ W1 (.pointer (some ⟨wr.heap.size, 2, none⟩))), (23, Fact.at_ W1 (.slice A4 t.nums.length c4)), (24, FCl TyI t.nums W1), (25, Fact.at_ W1 (.pointer (some ⟨wr.heap.size, 1, none⟩)))]) [7] [] 30 7 [19, 20, 21, 22, 23, 24, 25] rfl (by kernel_rfl) (by kernel_rfl) (by decide) (by kernel_rfl) (by kernel_rfl) ?_ ?_ ?_
        · intro t9 ht9
          simp only [List.mem_cons, List.not_mem_nil, or_false] at ht9
          rcases ht9 with rfl
          · exact ⟨rfl, Below.refl _ _⟩
        · refine fcs ⟨Ob.new_ (at1 7 19 (.pointer (some ⟨wr.heap.size, 0, none⟩)) (.pointer (some ⟨wr.heap.size, 1, none⟩)) rfl (by first | exact .inl rfl | exact .inr ⟨_, _, _, rfl, rfl, by kernel_rfl, by decide, rfl⟩) (by kernel_rfl) rfl rfl (fun a9 W9 hb9 h9 => by simp [execOp, h9] <;> go_simp)) (by kernel_rfl), ?_⟩
          refine fcs ⟨Ob.new_ (at1 19 20 (.pointer (some ⟨wr.heap.size, 1, none⟩)) (.slice A3 t.names.length c3) rfl (by first | exact .inl rfl | exact .inr ⟨_, _, _, rfl, rfl, by kernel_rfl, by decide, rfl⟩) (by kernel_rfl) rfl rfl (fun a9 W9 hb9 h9 => by have g1 := cell_next hb9 p1; simp [execOp, h9] <;> go_simp)) (by kernel_rfl), ?_⟩
          refine fcs ⟨Ob.new_ (at_enter (W0 := W1) (by first | exact .inl rfl | exact .inr ⟨_, _, _, rfl, rfl, by kernel_rfl, by decide, rfl⟩) (fun a9 W9 hf9 => by have p20 := hf9 20 (by kernel_rfl); have q20 : a9.tmps.getD 20 undef = (.slice A3 t.names.length c3) := p20.1; have hb9 := p20.2; exact ⟨123, #[(.slice A3 t.names.length c3)], by rw [← q20]; simpa [execOp, resolve, Act.eval] using run_invoke (by kernel_rfl) _ W9, (cN W9 hb9).mono fun e w' ⟨A9, c9, e1, e2, e3⟩ => ⟨_, e1, e3, fun s hs => by injection hs with hs; subst hs; exact ⟨A9, c9, rfl, e2.low hb9.size, upG hb9 e3⟩⟩⟩)) (by kernel_rfl), ?_⟩
          refine fcs ⟨Ob.new_ (at1 7 22 (.pointer (some ⟨wr.heap.size, 0, none⟩)) (.pointer (some ⟨wr.heap.size, 2, none⟩)) rfl (by first | exact .inl rfl | exact .inr ⟨_, _, _, rfl, rfl, by kernel_rfl, by decide, rfl⟩) (by kernel_rfl) rfl rfl (fun a9 W9 hb9 h9 => by simp [execOp, h9] <;> go_simp)) (by kernel_rfl), ?_⟩
          refine fcs ⟨Ob.new_ (at1 22 23 (.pointer (some ⟨wr.heap.size, 2, none⟩)) (.slice A4 t.nums.length c4) rfl (by first | exact .inl rfl | exact .inr ⟨_, _, _, rfl, rfl, by kernel_rfl, by decide, rfl⟩) (by kernel_rfl) rfl rfl (fun a9 W9 hb9 h9 => by have g2 := cell_next hb9 p2; simp [execOp, h9] <;> go_simp)) (by kernel_rfl), ?_⟩
          refine fcs ⟨Ob.new_ (at_enter (W0 := W1) (by first | exact .inl rfl | exact .inr ⟨_, _, _, rfl, rfl, by kernel_rfl, by decide, rfl⟩) (fun a9 W9 hf9 => by have p23 := hf9 23 (by kernel_rfl); have q23 : a9.tmps.getD 23 undef = (.slice A4 t.nums.length c4) := p23.1; have hb9 := p23.2; exact ⟨124, #[(.slice A4 t.nums.length c4)], by rw [← q23]; simpa [execOp, resolve, Act.eval] using run_invoke (by kernel_rfl) _ W9, (cI W9 hb9).mono fun e w' ⟨A9, c9, e1, e2, e3⟩ => ⟨_, e1, e3, fun s hs => by injection hs with hs; subst hs; exact ⟨A9, c9, rfl, e2.low hb9.size, upG hb9 e3⟩⟩⟩)) (by kernel_rfl), ?_⟩
          refine fcs ⟨Ob.new_ (at1 7 25 (.pointer (some ⟨wr.heap.size, 0, none⟩)) (.pointer (some ⟨wr.heap.size, 1, none⟩)) rfl (by first | exact .inl rfl | exact .inr ⟨_, _, _, rfl, rfl, by kernel_rfl, by decide, rfl⟩) (by kernel_rfl) rfl rfl (fun a9 W9 hb9 h9 => by simp [execOp, h9] <;> go_simp)) (by kernel_rfl), ?_⟩
          exact fnl
        intro vv wv hvv hbv _ _
        have hv25 : vv 25 = (.pointer (some ⟨wr.heap.size, 1, none⟩)) := (hvv 25 (by decide)).1
        simp only [lay, List.foldl_cons, List.foldl_nil, List.setIfInBounds_toArray, List.set_cons_succ, List.set_cons_zero, hv25, List.drop_succ_cons, List.drop_zero]
        obtain ⟨A9, c9, e21, hN9, -⟩ := hvv 21 (by decide)
        obtain ⟨A8, c8, e24, hI9, -⟩ := hvv 24 (by decide)
        simp only [e21, e24]
        have hb3 := Below.next hbW hbv
        have D7 := B7.next hbv
        have D3 := C3.next hbv
        have u0 := D7.c 0 rfl
        have u1 := D7.c 1 rfl
        have u2 := D7.c 2 rfl
        have u3 := D7.f 1 rfl
        have u4 := D7.f 2 rfl
        have u5 := D7.lt
        have t0 := D3.c 0 rfl
        have t1 := D3.c 1 rfl
        have t2 := D3.c 2 rfl
        have t3 := D3.f 0 rfl
        have t4 := D3.f 1 rfl
        have t5 := D3.f 2 rfl
        have t6 := D3.lt
        obtain ⟨q1_, HQ1⟩ : ∃ q, Hid (t.names.length = q) := ⟨_, Lib.hid rfl⟩
        obtain ⟨q2_, HQ2⟩ : ∃ q, Hid (t.nums.length = q) := ⟨_, Lib.hid rfl⟩
        rw [HQ1.out] at u1
        rw [HQ2.out] at u2
        rw [HQ1.out, HQ2.out]
        clear hvv D7 hbv cN cI B7 C3 C2 r0 r1 r2 s0 s1 s2 h0 h1 h2 hblk hW1 p1 p2 p3 e21 e24 hVn hVi
        go_wp2_with fail
        refine bodyPost_ret (v := .tuple #[.agg #[.string (bs t.name), .slice A9 q1_ c9, .slice A8 q2_ c8], .bool true]) (by simp [results, Tryz.results64, go_sem, t0, t1, t2]) rfl ?_
        refine .some_ E.out ⟨A9, c9, A8, c8, by rw [HQ1.out, HQ2.out], (hN9.next ?_).rw_, (hI9.next ?_).rw_⟩ ?_
        · iterate 5 refine Kpl.set ?_ (by first | (show wr.heap.size < _; omega) | (show w.heap.size + 1 < _; omega)) _
          exact Kpl.of (Below.refl _ _)
        · iterate 5 refine Kpl.set ?_ (by first | (show wr.heap.size < _; omega) | (show w.heap.size + 1 < _; omega)) _
          exact Kpl.of (Below.refl _ _)
        · have hws := hb.size
          iterate 5 refine Below.setCell ?_ (by first | (show w.heap.size ≤ wr.heap.size; omega) | (show w.heap.size ≤ w.heap.size + 1; omega)) _
          exact hb3
      · have E := Lib.hid (hy e)
        have q1 := sq_f e
        have hb3 := Below.next hb hW1
        clear hx hy hI hA hV hfw
        go_wp2_with fail
        go_roundw
        case rel => exact ⟨k + 1, by omega, by go_num, E, C3, hb3⟩
        case measure => simp [intOf]; omega
    · obtain rfl : k = n := by omega
      have E := Lib.hid (show fst_ En.name S.enums nm = none from fst_end fun j hj => hI.out j hj (by rw [← HN.out]; exact hj))
      clear hI hfw
      go_wp2_with fail
      refine bodyPost_ret (v := .tuple #[.agg #[.string ⟨#[]⟩, .slice none 0 0, .slice none 0 0], .bool false]) (by simp [results, Tryz.results64, go_sem, r0, r1, r2]) rfl (.none_ E.out ?_)
      iterate 3 refine Below.setCell ?_ (by simp) _
      exact hb
end Go.Proofs.YthfodpbecddheaaGreatDoor
/-
  Which types the developers permit: structs and enumerations. No conditions beyond those that each names.
-/
namespace Go.Proofs.YthfodpbecddheaaGreatDoor
open Go.RowKit Go.Shelf
set_option maxRecDepth 100000 in
set_option maxHeartbeats 8000000 in
theorem permits6_any (S : Sch) (s : Int) (n : List UInt8) (e : List Ty) (v u : Value) (w : World) (hb : S.structs.length ≤ 1000) (hfw : ∀ t ∈ S.structs, t.fields.length ≤ 1000 ∧ ∀ f ∈ t.fields, fewT f.type = true) (hS : ScV w S v) (hT : TyV w (.mk 6 s n e) u) (hl : e.length ≤ 9223372036854775807) :
    Calls Tryz.prog 32 #[v, u] w (Ib (.bool (right S (.mk 6 s n e))) w) := by
  have cF := fun W h => devStruct_any S n v W (ScV.next h hS) hb hfw
  obtain ⟨A, c, A2, c2, rfl, -⟩ := hS
  obtain ⟨A3, c3, rfl, -⟩ := TyV.mk_.1 hT
  have hr2 : right S (.mk 6 s n e) = (decide (s = 0) && ((fst_ St.name S.structs n).isSome && decide (e.length = 0))) := by
    rw [right_eq, mem_sns]
    rfl
  rw [hr2]
  generalize fst_ St.name S.structs n = o at *
  clear hT hr2
  generalize e.length = m at *
  generalize S.structs.length = sl at *
  generalize S.enums.length = el at *
  by_cases hn : n = []
  · subst hn
    have q0 : (bs ([] : List UInt8)).toList = [] := toList_bs []
    have q1 : ((bs ([] : List UInt8)).toList == []) = true := by rw [toList_bs]; rfl
    by_cases he : m = 0
    · subst he
      by_cases hs : s = 0
      · subst hs
        rw [show (decide ((0 : Int) = 0) && (o.isSome && decide ((0 : Nat) = 0))) = o.isSome by simp]
        go_enter Tryz.func32, Tryz.ntmps32
        go_wp2_with fail
        refine (cF _ (ab2 _ _ _)).mono ?_
        rintro e1 w1 ⟨v1, rfl, hV, hb1⟩
        obtain ⟨A4, c4, rfl, -⟩ := hV
        clear cF
        generalize o.isSome = b at *
        go_wp2_with fail
        go_ret
        exact ⟨rfl, Below.next (Below.next (ab2 _ _ _) hb1) (ab1 _ _)⟩
      · have qs : (s == 0) = false := by simpa using hs
        rw [show (decide ((s : Int) = 0) && (o.isSome && decide ((0 : Nat) = 0))) = false by simp [hs]]
        go_enter Tryz.func32, Tryz.ntmps32
        go_wp2_with fail
        refine (cF _ (ab2 _ _ _)).mono ?_
        rintro e1 w1 ⟨v1, rfl, hV, hb1⟩
        obtain ⟨A4, c4, rfl, -⟩ := hV
        clear cF
        generalize o.isSome = b at *
        go_wp2_with fail
        go_ret
        exact ⟨rfl, Below.next (Below.next (ab2 _ _ _) hb1) (ab1 _ _)⟩
    · have qe : ((m : Int) == 0) = false := by simp; omega
      by_cases hs : s = 0
      · subst hs
        rw [show (decide ((0 : Int) = 0) && (o.isSome && decide ((m : Nat) = 0))) = false by simp [he]]
        go_enter Tryz.func32, Tryz.ntmps32
        go_wp2_with fail
        refine (cF _ (ab2 _ _ _)).mono ?_
        rintro e1 w1 ⟨v1, rfl, hV, hb1⟩
        obtain ⟨A4, c4, rfl, -⟩ := hV
        clear cF
        generalize o.isSome = b at *
        go_wp2_with fail
        go_ret
        exact ⟨rfl, Below.next (Below.next (ab2 _ _ _) hb1) (ab1 _ _)⟩
      · have qs : (s == 0) = false := by simpa using hs
        rw [show (decide ((s : Int) = 0) && (o.isSome && decide ((m : Nat) = 0))) = false by simp [he, hs]]
        go_enter Tryz.func32, Tryz.ntmps32
        go_wp2_with fail
        refine (cF _ (ab2 _ _ _)).mono ?_
        rintro e1 w1 ⟨v1, rfl, hV, hb1⟩
        obtain ⟨A4, c4, rfl, -⟩ := hV
        clear cF
        generalize o.isSome = b at *
        go_wp2_with fail
        go_ret
        exact ⟨rfl, Below.next (Below.next (ab2 _ _ _) hb1) (ab1 _ _)⟩
  · have q1 : ((bs n).toList == []) = false := by rw [toList_bs, beq_eq_false_iff_ne]; exact hn
    by_cases he : m = 0
    · subst he
      by_cases hs : s = 0
      · subst hs
        rw [show (decide ((0 : Int) = 0) && (o.isSome && decide ((0 : Nat) = 0))) = o.isSome by simp]
        go_enter Tryz.func32, Tryz.ntmps32
        go_wp2_with fail
        refine (cF _ (ab2 _ _ _)).mono ?_
        rintro e1 w1 ⟨v1, rfl, hV, hb1⟩
        obtain ⟨A4, c4, rfl, -⟩ := hV
        clear cF
        generalize o.isSome = b at *
        go_wp2_with fail
        go_ret
        exact ⟨rfl, Below.next (Below.next (ab2 _ _ _) hb1) (ab1 _ _)⟩
      · have qs : (s == 0) = false := by simpa using hs
        rw [show (decide ((s : Int) = 0) && (o.isSome && decide ((0 : Nat) = 0))) = false by simp [hs]]
        go_enter Tryz.func32, Tryz.ntmps32
        go_wp2_with fail
        refine (cF _ (ab2 _ _ _)).mono ?_
        rintro e1 w1 ⟨v1, rfl, hV, hb1⟩
        obtain ⟨A4, c4, rfl, -⟩ := hV
        clear cF
        generalize o.isSome = b at *
        go_wp2_with fail
        go_ret
        exact ⟨rfl, Below.next (Below.next (ab2 _ _ _) hb1) (ab1 _ _)⟩
    · have qe : ((m : Int) == 0) = false := by simp; omega
      by_cases hs : s = 0
      · subst hs
        rw [show (decide ((0 : Int) = 0) && (o.isSome && decide ((m : Nat) = 0))) = false by simp [he]]
        go_enter Tryz.func32, Tryz.ntmps32
        go_wp2_with fail
        refine (cF _ (ab2 _ _ _)).mono ?_
        rintro e1 w1 ⟨v1, rfl, hV, hb1⟩
        obtain ⟨A4, c4, rfl, -⟩ := hV
        clear cF
        generalize o.isSome = b at *
        go_wp2_with fail
        go_ret
        exact ⟨rfl, Below.next (Below.next (ab2 _ _ _) hb1) (ab1 _ _)⟩
      · have qs : (s == 0) = false := by simpa using hs
        rw [show (decide ((s : Int) = 0) && (o.isSome && decide ((m : Nat) = 0))) = false by simp [he, hs]]
        go_enter Tryz.func32, Tryz.ntmps32
        go_wp2_with fail
        refine (cF _ (ab2 _ _ _)).mono ?_
        rintro e1 w1 ⟨v1, rfl, hV, hb1⟩
        obtain ⟨A4, c4, rfl, -⟩ := hV
        clear cF
        generalize o.isSome = b at *
        go_wp2_with fail
        go_ret
        exact ⟨rfl, Below.next (Below.next (ab2 _ _ _) hb1) (ab1 _ _)⟩
set_option maxRecDepth 100000 in
set_option maxHeartbeats 8000000 in
theorem permits7_any (S : Sch) (s : Int) (n : List UInt8) (e : List Ty) (v u : Value) (w : World) (hb : S.enums.length ≤ 1000) (hfw : ∀ t ∈ S.enums, t.names.length ≤ 1000 ∧ t.nums.length ≤ 1000) (hS : ScV w S v) (hT : TyV w (.mk 7 s n e) u) (hl : e.length ≤ 9223372036854775807) :
    Calls Tryz.prog 32 #[v, u] w (Ib (.bool (right S (.mk 7 s n e))) w) := by
  have cF := fun W h => devEnum_any S n v W (ScV.next h hS) hb hfw
  obtain ⟨A, c, A2, c2, rfl, -⟩ := hS
  obtain ⟨A3, c3, rfl, -⟩ := TyV.mk_.1 hT
  have hr2 : right S (.mk 7 s n e) = (decide (s = 0) && ((fst_ En.name S.enums n).isSome && decide (e.length = 0))) := by
    rw [right_eq, mem_ens]
    rfl
  rw [hr2]
  generalize fst_ En.name S.enums n = o at *
  clear hT hr2
  generalize e.length = m at *
  generalize S.structs.length = sl at *
  generalize S.enums.length = el at *
  by_cases hn : n = []
  · subst hn
    have q0 : (bs ([] : List UInt8)).toList = [] := toList_bs []
    have q1 : ((bs ([] : List UInt8)).toList == []) = true := by rw [toList_bs]; rfl
    by_cases he : m = 0
    · subst he
      by_cases hs : s = 0
      · subst hs
        rw [show (decide ((0 : Int) = 0) && (o.isSome && decide ((0 : Nat) = 0))) = o.isSome by simp]
        go_enter Tryz.func32, Tryz.ntmps32
        go_wp2_with fail
        refine (cF _ (ab2 _ _ _)).mono ?_
        rintro e1 w1 ⟨v1, rfl, hV, hb1⟩
        obtain ⟨A4, c4, A5, c5, rfl, -⟩ := hV
        clear cF
        generalize o.isSome = b at *
        go_wp2_with fail
        go_ret
        exact ⟨rfl, Below.next (Below.next (ab2 _ _ _) hb1) (ab1 _ _)⟩
      · have qs : (s == 0) = false := by simpa using hs
        rw [show (decide ((s : Int) = 0) && (o.isSome && decide ((0 : Nat) = 0))) = false by simp [hs]]
        go_enter Tryz.func32, Tryz.ntmps32
        go_wp2_with fail
        refine (cF _ (ab2 _ _ _)).mono ?_
        rintro e1 w1 ⟨v1, rfl, hV, hb1⟩
        obtain ⟨A4, c4, A5, c5, rfl, -⟩ := hV
        clear cF
        generalize o.isSome = b at *
        go_wp2_with fail
        go_ret
        exact ⟨rfl, Below.next (Below.next (ab2 _ _ _) hb1) (ab1 _ _)⟩
    · have qe : ((m : Int) == 0) = false := by simp; omega
      by_cases hs : s = 0
      · subst hs
        rw [show (decide ((0 : Int) = 0) && (o.isSome && decide ((m : Nat) = 0))) = false by simp [he]]
        go_enter Tryz.func32, Tryz.ntmps32
        go_wp2_with fail
        refine (cF _ (ab2 _ _ _)).mono ?_
        rintro e1 w1 ⟨v1, rfl, hV, hb1⟩
        obtain ⟨A4, c4, A5, c5, rfl, -⟩ := hV
        clear cF
        generalize o.isSome = b at *
        go_wp2_with fail
        go_ret
        exact ⟨rfl, Below.next (Below.next (ab2 _ _ _) hb1) (ab1 _ _)⟩
      · have qs : (s == 0) = false := by simpa using hs
        rw [show (decide ((s : Int) = 0) && (o.isSome && decide ((m : Nat) = 0))) = false by simp [he, hs]]
        go_enter Tryz.func32, Tryz.ntmps32
        go_wp2_with fail
        refine (cF _ (ab2 _ _ _)).mono ?_
        rintro e1 w1 ⟨v1, rfl, hV, hb1⟩
        obtain ⟨A4, c4, A5, c5, rfl, -⟩ := hV
        clear cF
        generalize o.isSome = b at *
        go_wp2_with fail
        go_ret
        exact ⟨rfl, Below.next (Below.next (ab2 _ _ _) hb1) (ab1 _ _)⟩
  · have q1 : ((bs n).toList == []) = false := by rw [toList_bs, beq_eq_false_iff_ne]; exact hn
    by_cases he : m = 0
    · subst he
      by_cases hs : s = 0
      · subst hs
        rw [show (decide ((0 : Int) = 0) && (o.isSome && decide ((0 : Nat) = 0))) = o.isSome by simp]
        go_enter Tryz.func32, Tryz.ntmps32
        go_wp2_with fail
        refine (cF _ (ab2 _ _ _)).mono ?_
        rintro e1 w1 ⟨v1, rfl, hV, hb1⟩
        obtain ⟨A4, c4, A5, c5, rfl, -⟩ := hV
        clear cF
        generalize o.isSome = b at *
        go_wp2_with fail
        go_ret
        exact ⟨rfl, Below.next (Below.next (ab2 _ _ _) hb1) (ab1 _ _)⟩
      · have qs : (s == 0) = false := by simpa using hs
        rw [show (decide ((s : Int) = 0) && (o.isSome && decide ((0 : Nat) = 0))) = false by simp [hs]]
        go_enter Tryz.func32, Tryz.ntmps32
        go_wp2_with fail
        refine (cF _ (ab2 _ _ _)).mono ?_
        rintro e1 w1 ⟨v1, rfl, hV, hb1⟩
        obtain ⟨A4, c4, A5, c5, rfl, -⟩ := hV
        clear cF
        generalize o.isSome = b at *
        go_wp2_with fail
        go_ret
        exact ⟨rfl, Below.next (Below.next (ab2 _ _ _) hb1) (ab1 _ _)⟩
    · have qe : ((m : Int) == 0) = false := by simp; omega
      by_cases hs : s = 0
      · subst hs
        rw [show (decide ((0 : Int) = 0) && (o.isSome && decide ((m : Nat) = 0))) = false by simp [he]]
        go_enter Tryz.func32, Tryz.ntmps32
        go_wp2_with fail
        refine (cF _ (ab2 _ _ _)).mono ?_
        rintro e1 w1 ⟨v1, rfl, hV, hb1⟩
        obtain ⟨A4, c4, A5, c5, rfl, -⟩ := hV
        clear cF
        generalize o.isSome = b at *
        go_wp2_with fail
        go_ret
        exact ⟨rfl, Below.next (Below.next (ab2 _ _ _) hb1) (ab1 _ _)⟩
      · have qs : (s == 0) = false := by simpa using hs
        rw [show (decide ((s : Int) = 0) && (o.isSome && decide ((m : Nat) = 0))) = false by simp [he, hs]]
        go_enter Tryz.func32, Tryz.ntmps32
        go_wp2_with fail
        refine (cF _ (ab2 _ _ _)).mono ?_
        rintro e1 w1 ⟨v1, rfl, hV, hb1⟩
        obtain ⟨A4, c4, A5, c5, rfl, -⟩ := hV
        clear cF
        generalize o.isSome = b at *
        go_wp2_with fail
        go_ret
        exact ⟨rfl, Below.next (Below.next (ab2 _ _ _) hb1) (ab1 _ _)⟩
end Go.Proofs.YthfodpbecddheaaGreatDoor
/-
  Which types the developers permit: lists, and all kinds. No conditions beyond those that each names.
-/
namespace Go.Proofs.YthfodpbecddheaaGreatDoor
open Go.RowKit Go.Sort
theorem right5_false {S : Sch} {s : Int} {n : List UInt8} {e : List Ty} (h : ¬ (1 ≤ s ∧ s ≤ 32 ∧ n = [] ∧ e.length = 1)) : right S (.mk 5 s n e) = false := by
  rw [right_eq, if_pos rfl]
  rw [Bool.eq_false_iff]
  intro hh
  simp only [Bool.and_eq_true, decide_eq_true_eq, szOk] at hh
  simp at hh
  refine h ⟨hh.1.1, hh.1.2, hh.2.1, ?_⟩
  by_cases hl : e.length = 1
  · exact hl
  · rw [rights_lenJ S e hl] at hh
    exact absurd hh.2.2 (by decide)
set_option maxRecDepth 100000 in
set_option maxHeartbeats 8000000 in
theorem permits5f_any (S : Sch) (s : Int) (n : List UInt8) (e : List Ty) (v u : Value) (w : World) (hS : ScV w S v) (hT : TyV w (.mk 5 s n e) u) (h : ¬ (1 ≤ s ∧ s ≤ 32 ∧ n = [] ∧ e.length = 1)) :
    Calls Tryz.prog 32 #[v, u] w (Ib (.bool (right S (.mk 5 s n e))) w) := by
  obtain ⟨A, c, A2, c2, rfl, -⟩ := hS
  obtain ⟨A3, c3, rfl, -⟩ := TyV.mk_.1 hT
  rw [right5_false h]
  clear hT
  generalize e.length = m at *
  generalize S.structs.length = sl at *
  generalize S.enums.length = el at *
  by_cases h3 : n = []
  · subst h3
    have q0 : (bs ([] : List UInt8)).toList = [] := toList_bs []
    have q1 : ((bs ([] : List UInt8)).toList == []) = true := by rw [toList_bs]; rfl
    by_cases m0 : m = 0
    · subst m0
      by_cases h1 : 1 ≤ s
      · have d1 : decide (1 ≤ s) = true := decide_eq_true h1
        have qs : (s == 0) = false := by simp; omega
        by_cases h2 : s ≤ 32
        · have d2 : decide (s ≤ 32) = true := decide_eq_true h2
          clear h1 h2 h
          go_enter Tryz.func32, Tryz.ntmps32
          go_wp2_with fail
          go_quiet (fail)
          go_wp2_with fail
          go_ret
          exact ⟨rfl, below_drewN (ab2 _ _ _) _⟩
        · have d2 : decide (s ≤ 32) = false := decide_eq_false h2
          clear h1 h2 h
          go_enter Tryz.func32, Tryz.ntmps32
          go_wp2_with fail
          go_quiet (fail)
          go_wp2_with fail
          go_ret
          exact ⟨rfl, below_drewN (ab2 _ _ _) _⟩
      · by_cases h0 : s = 0
        · subst h0
          clear h1 h
          go_enter Tryz.func32, Tryz.ntmps32
          go_wp2_with fail
          go_quiet (fail)
          go_wp2_with fail
          go_ret
          exact ⟨rfl, below_drewN (ab2 _ _ _) _⟩
        · have d1 : decide (1 ≤ s) = false := decide_eq_false h1
          have qs : (s == 0) = false := by simpa using h0
          clear h1 h0 h
          go_enter Tryz.func32, Tryz.ntmps32
          go_wp2_with fail
          go_quiet (fail)
          go_wp2_with fail
          go_ret
          exact ⟨rfl, below_drewN (ab2 _ _ _) _⟩
    · have qe : ((m : Int) == 0) = false := by simp; omega
      by_cases m1 : m = 1
      · subst m1
        by_cases h1 : 1 ≤ s
        · have d1 : decide (1 ≤ s) = true := decide_eq_true h1
          have qs : (s == 0) = false := by simp; omega
          by_cases h2 : s ≤ 32
          · exact absurd ⟨h1, h2, rfl, rfl⟩ h
          · have d2 : decide (s ≤ 32) = false := decide_eq_false h2
            clear h1 h2 h
            go_enter Tryz.func32, Tryz.ntmps32
            go_wp2_with fail
            go_quiet (fail)
            go_wp2_with fail
            go_ret
            exact ⟨rfl, below_drewN (ab2 _ _ _) _⟩
        · by_cases h0 : s = 0
          · subst h0
            clear h1 h
            go_enter Tryz.func32, Tryz.ntmps32
            go_wp2_with fail
            go_quiet (fail)
            go_wp2_with fail
            go_ret
            exact ⟨rfl, below_drewN (ab2 _ _ _) _⟩
          · have d1 : decide (1 ≤ s) = false := decide_eq_false h1
            have qs : (s == 0) = false := by simpa using h0
            clear h1 h0 h
            go_enter Tryz.func32, Tryz.ntmps32
            go_wp2_with fail
            go_quiet (fail)
            go_wp2_with fail
            go_ret
            exact ⟨rfl, below_drewN (ab2 _ _ _) _⟩
      · have qf : ((m : Int) == 1) = false := by rw [beq_eq_false_iff_ne]; intro hm; omega
        clear m0 m1
        by_cases h1 : 1 ≤ s
        · have d1 : decide (1 ≤ s) = true := decide_eq_true h1
          have qs : (s == 0) = false := by simp; omega
          by_cases h2 : s ≤ 32
          · have d2 : decide (s ≤ 32) = true := decide_eq_true h2
            clear h1 h2 h
            go_enter Tryz.func32, Tryz.ntmps32
            go_wp2_with fail
            go_quiet (fail)
            go_wp2_with fail
            go_ret
            exact ⟨rfl, below_drewN (ab2 _ _ _) _⟩
          · have d2 : decide (s ≤ 32) = false := decide_eq_false h2
            clear h1 h2 h
            go_enter Tryz.func32, Tryz.ntmps32
            go_wp2_with fail
            go_quiet (fail)
            go_wp2_with fail
            go_ret
            exact ⟨rfl, below_drewN (ab2 _ _ _) _⟩
        · by_cases h0 : s = 0
          · subst h0
            clear h1 h
            go_enter Tryz.func32, Tryz.ntmps32
            go_wp2_with fail
            go_quiet (fail)
            go_wp2_with fail
            go_ret
            exact ⟨rfl, below_drewN (ab2 _ _ _) _⟩
          · have d1 : decide (1 ≤ s) = false := decide_eq_false h1
            have qs : (s == 0) = false := by simpa using h0
            clear h1 h0 h
            go_enter Tryz.func32, Tryz.ntmps32
            go_wp2_with fail
            go_quiet (fail)
            go_wp2_with fail
            go_ret
            exact ⟨rfl, below_drewN (ab2 _ _ _) _⟩
  · have q0 : ¬ (bs n).toList = [] := by rw [toList_bs]; exact h3
    have q1 : ((bs n).toList == []) = false := by rw [toList_bs]; simpa using h3
    by_cases m0 : m = 0
    · subst m0
      by_cases h1 : 1 ≤ s
      · have d1 : decide (1 ≤ s) = true := decide_eq_true h1
        have qs : (s == 0) = false := by simp; omega
        by_cases h2 : s ≤ 32
        · have d2 : decide (s ≤ 32) = true := decide_eq_true h2
          clear h1 h2 h
          go_enter Tryz.func32, Tryz.ntmps32
          go_wp2_with fail
          go_quiet (fail)
          go_wp2_with fail
          go_ret
          exact ⟨rfl, below_drewN (ab2 _ _ _) _⟩
        · have d2 : decide (s ≤ 32) = false := decide_eq_false h2
          clear h1 h2 h
          go_enter Tryz.func32, Tryz.ntmps32
          go_wp2_with fail
          go_quiet (fail)
          go_wp2_with fail
          go_ret
          exact ⟨rfl, below_drewN (ab2 _ _ _) _⟩
      · by_cases h0 : s = 0
        · subst h0
          clear h1 h
          go_enter Tryz.func32, Tryz.ntmps32
          go_wp2_with fail
          go_quiet (fail)
          go_wp2_with fail
          go_ret
          exact ⟨rfl, below_drewN (ab2 _ _ _) _⟩
        · have d1 : decide (1 ≤ s) = false := decide_eq_false h1
          have qs : (s == 0) = false := by simpa using h0
          clear h1 h0 h
          go_enter Tryz.func32, Tryz.ntmps32
          go_wp2_with fail
          go_quiet (fail)
          go_wp2_with fail
          go_ret
          exact ⟨rfl, below_drewN (ab2 _ _ _) _⟩
    · have qe : ((m : Int) == 0) = false := by simp; omega
      by_cases m1 : m = 1
      · subst m1
        by_cases h1 : 1 ≤ s
        · have d1 : decide (1 ≤ s) = true := decide_eq_true h1
          have qs : (s == 0) = false := by simp; omega
          by_cases h2 : s ≤ 32
          · have d2 : decide (s ≤ 32) = true := decide_eq_true h2
            clear h1 h2 h
            go_enter Tryz.func32, Tryz.ntmps32
            go_wp2_with fail
            go_quiet (fail)
            go_wp2_with fail
            go_ret
            exact ⟨rfl, below_drewN (ab2 _ _ _) _⟩
          · have d2 : decide (s ≤ 32) = false := decide_eq_false h2
            clear h1 h2 h
            go_enter Tryz.func32, Tryz.ntmps32
            go_wp2_with fail
            go_quiet (fail)
            go_wp2_with fail
            go_ret
            exact ⟨rfl, below_drewN (ab2 _ _ _) _⟩
        · by_cases h0 : s = 0
          · subst h0
            clear h1 h
            go_enter Tryz.func32, Tryz.ntmps32
            go_wp2_with fail
            go_quiet (fail)
            go_wp2_with fail
            go_ret
            exact ⟨rfl, below_drewN (ab2 _ _ _) _⟩
          · have d1 : decide (1 ≤ s) = false := decide_eq_false h1
            have qs : (s == 0) = false := by simpa using h0
            clear h1 h0 h
            go_enter Tryz.func32, Tryz.ntmps32
            go_wp2_with fail
            go_quiet (fail)
            go_wp2_with fail
            go_ret
            exact ⟨rfl, below_drewN (ab2 _ _ _) _⟩
      · have qf : ((m : Int) == 1) = false := by rw [beq_eq_false_iff_ne]; intro hm; omega
        clear m0 m1
        by_cases h1 : 1 ≤ s
        · have d1 : decide (1 ≤ s) = true := decide_eq_true h1
          have qs : (s == 0) = false := by simp; omega
          by_cases h2 : s ≤ 32
          · have d2 : decide (s ≤ 32) = true := decide_eq_true h2
            clear h1 h2 h
            go_enter Tryz.func32, Tryz.ntmps32
            go_wp2_with fail
            go_quiet (fail)
            go_wp2_with fail
            go_ret
            exact ⟨rfl, below_drewN (ab2 _ _ _) _⟩
          · have d2 : decide (s ≤ 32) = false := decide_eq_false h2
            clear h1 h2 h
            go_enter Tryz.func32, Tryz.ntmps32
            go_wp2_with fail
            go_quiet (fail)
            go_wp2_with fail
            go_ret
            exact ⟨rfl, below_drewN (ab2 _ _ _) _⟩
        · by_cases h0 : s = 0
          · subst h0
            clear h1 h
            go_enter Tryz.func32, Tryz.ntmps32
            go_wp2_with fail
            go_quiet (fail)
            go_wp2_with fail
            go_ret
            exact ⟨rfl, below_drewN (ab2 _ _ _) _⟩
          · have d1 : decide (1 ≤ s) = false := decide_eq_false h1
            have qs : (s == 0) = false := by simpa using h0
            clear h1 h0 h
            go_enter Tryz.func32, Tryz.ntmps32
            go_wp2_with fail
            go_quiet (fail)
            go_wp2_with fail
            go_ret
            exact ⟨rfl, below_drewN (ab2 _ _ _) _⟩
/-- A schema is of a modest size. -/
structure Few9 (S : Sch) : Prop where
  sl : S.structs.length ≤ 1000
  el : S.enums.length ≤ 1000
  st : ∀ t ∈ S.structs, t.fields.length ≤ 1000 ∧ ∀ f ∈ t.fields, fewT f.type = true
  en : ∀ t ∈ S.enums, t.names.length ≤ 1000 ∧ t.nums.length ≤ 1000
set_option maxRecDepth 100000 in
set_option maxHeartbeats 8000000 in
theorem permits9_any (N : Nat) : ∀ (S : Sch) (t : Ty) (v u : Value) (w : World), SizeOf.sizeOf t < N → Few9 S → lok t → ScV w S v → TyV w t u →
    Calls Tryz.prog 32 #[v, u] w (Ib (.bool (right S t)) w) := by
  induction N with
  | zero => intro S t v u w h; omega
  | succ N ih =>
    intro S t v u w hN hf hlk hS hT
    have hlen := lok_len hlk
    obtain ⟨k, s, n, e⟩ := t
    have hlen : e.length ≤ 9223372036854775807 := hlen
    by_cases g1 : k = 1
    · subst g1; exact permits1_any S s n e v u w hS hT hlen
    by_cases g2 : k = 2
    · subst g2; exact permits2_any S s n e v u w hS hT hlen
    by_cases g3 : k = 3
    · subst g3; exact permits3_any S s n e v u w hS hT hlen
    by_cases g4 : k = 4
    · subst g4; exact permits4_any S s n e v u w hS hT hlen
    by_cases g6 : k = 6
    · subst g6; exact permits6_any S s n e v u w hf.sl hf.st hS hT hlen
    by_cases g7 : k = 7
    · subst g7; exact permits7_any S s n e v u w hf.el hf.en hS hT hlen
    by_cases g5 : k = 5
    · subst g5
      by_cases h : 1 ≤ s ∧ s ≤ 32 ∧ n = [] ∧ e.length = 1
      · obtain ⟨h1, h2, rfl, h4⟩ := h
        obtain ⟨t, rfl⟩ : ∃ t, e = [t] := by
          match e, h4 with
          | [t], _ => exact ⟨t, rfl⟩
        have hr : right S (.mk 5 s [] [t]) = right S t := by
          rw [right_eq, if_pos rfl, rights]
          simp [szOk, h1, h2]
        rw [hr]
        have hSv := hS
        obtain ⟨A, c, A2, c2, rfl, -⟩ := hS
        obtain ⟨A3, c3, rfl, hR⟩ := TyV.mk_.1 hT
        obtain ⟨a, rfl, hA⟩ := hR.get (i := 0) (by show 0 < 1; omega)
        rw [Nat.zero_mul] at hA
        have hA : TyA w t a := hA
        obtain ⟨A4, c4, e0, e1, e2, e3, hV⟩ := hA.val
        have hblk : a.block < w.heap.size := blk_lt e0
        have cR := fun W h => ih S t _ _ W (by have h8 := Ty.mk.sizeOf_spec 5 s [] [t]; have h9 := List.cons.sizeOf_spec t []; omega) hf (lok_get (t := .mk 5 s [] [t]) hlk (i := 0) (by show 0 < 1; omega)) (ScV.next h hSv) (TyV.next h hV)
        have hB1 := (Bx.new3 w 25 (.int .i64 S.ver) (.slice A S.enums.length c) (.slice A2 S.structs.length c2)).next (ab1 _ (Obj.cells #[.int .i64 5, .int .i64 s, .string (bs []), .slice (some a) 1 c3] 29))
        have hB2 := Bx.new4 (w.alloc (Obj.cells #[.int .i64 S.ver, .slice A S.enums.length c, .slice A2 S.structs.length c2] 25)) 29 (.int .i64 5) (.int .i64 s) (.string (bs [])) (.slice (some a) 1 c3)
        have hz1 : (w.alloc (Obj.cells #[.int .i64 S.ver, .slice A S.enums.length c, .slice A2 S.structs.length c2] 25)).heap.size = w.heap.size + 1 := by simp
        rw [hz1] at hB2
        have hab := ab2 w (Obj.cells #[.int .i64 S.ver, .slice A S.enums.length c, .slice A2 S.structs.length c2] 25) (Obj.cells #[.int .i64 5, .int .i64 s, .string (bs []), .slice (some a) 1 c3] 29)
        have j0 := fun d os => cell_regrown (hB1.c 0 rfl) d os
        have j1 := fun d os => cell_regrown (hB1.c 1 rfl) d os
        have j2 := fun d os => cell_regrown (hB1.c 2 rfl) d os
        have k1 := fun d os => cell_regrown (hB2.c 1 rfl) d os
        have k2 := fun d os => cell_regrown (hB2.c 2 rfl) d os
        have k3 := fun d os => cell_regrown (hB2.c 3 rfl) d os
        have i0 := fun d os => cell_regrown (cell_next hab e0) d os
        have i1 := fun d os => cell_regrown (cell_next hab e1) d os
        have i2 := fun d os => cell_regrown (cell_next hab e2) d os
        have i3 := fun d os => cell_regrown (cell_next hab e3) d os
        have qs : (s == 0) = false := by simp; omega
        have d1 : decide (1 ≤ s) = true := decide_eq_true h1
        have d2 : decide (s ≤ 32) = true := decide_eq_true h2
        have q0 : (bs ([] : List UInt8)).toList = [] := toList_bs []
        have q1 : ((bs ([] : List UInt8)).toList == []) = true := by rw [toList_bs]; rfl
        have cN := fun d os => Calls.regrown_of (cR (grow (redrawn ((w.alloc (Obj.cells #[.int .i64 S.ver, .slice A S.enums.length c, .slice A2 S.structs.length c2] 25)).alloc (Obj.cells #[.int .i64 5, .int .i64 s, .string (bs []), .slice (some a) 1 c3] 29)) d) os) (Below.next hab (below_regrown _ d os)))
        clear hB1 hB2 hz1 hT hr hR hV hA cR hSv hlk hab e0 e1 e2 e3 h1 h2
        generalize right S t = r at *
        go_enter Tryz.func32, Tryz.ntmps32
        go_wp2_with fail
        refine wp_region_quiet_below (by kernel_rfl) (by kernel_rfl) ?_
        repeat (go_big_quiet_step (exact cN _ _))
        refine wpQuiet_nil ?_
        intro _ hw'
        obtain ⟨⟨dq, osq⟩, hw''⟩ := hw'
        subst hw''
        go_wp2_with fail
        go_ret
        exact ⟨rfl, Below.next (ab2 _ _ _) (below_regrown _ _ _)⟩
      · exact permits5f_any S s n e v u w hS hT h
    exact permitso_any S k g1 g2 g3 g4 g5 g6 g7 s n e v u w hS hT hlen
end Go.Proofs.YthfodpbecddheaaGreatDoor
/-
  The number of an enumeration's constant: the developers' search. No conditions beyond those that each names.
-/
namespace Go.Proofs.YthfodpbecddheaaGreatDoor
open Go.RowKit Go.Sort
set_option maxRecDepth 100000 in
set_option maxHeartbeats 4000000 in
theorem enum1_any (y n : Int) (g : Nat) (w : World) (hg : w.cell? ⟨g, 1, none⟩ = some (.int .i64 n)) :
    Calls Tryz.prog 130 #[.int .i64 y, .pointer (some ⟨g, 0, none⟩)] w (Is (.bool (decide (y = n))) w) := by
  have hl := blk_lt hg
  by_cases h : y = n
  · have d : (y == n) = true := by simpa using h
    rw [decide_eq_true h]
    clear h
    go_enter Tryz.func130, Tryz.ntmps130
    go_wp2_with fail
    go_ret
    exact ⟨rfl, rfl⟩
  · have d : (y == n) = false := by simpa using h
    rw [decide_eq_false h]
    clear h
    go_enter Tryz.func130, Tryz.ntmps130
    go_wp2_with fail
    go_ret
    exact ⟨rfl, rfl⟩
set_option maxRecDepth 100000 in
set_option maxHeartbeats 4000000 in
theorem indexEnum_any (l : List Int) (z : Int) (A : Option Addr) (c : Nat) (g : Nat) (w : World) (hl : l.length ≤ 9223372036854775807) (hR : Rw TyI 1 w l A) (hg : w.cell? ⟨g, 1, none⟩ = some (.int .i64 z)) :
    Calls Tryz.prog 176 #[.slice A l.length c, .func (.func 130) #[] #[.pointer (some ⟨g, 0, none⟩)]] w (Is (.int .i64 (ixI (l.findIdx? fun y => decide (y = z)))) w) := by
  have cE := fun y => enum1_any y z g w hg
  obtain ⟨n, hn⟩ : ∃ n, l.length = n := ⟨_, rfl⟩
  obtain ⟨r, hr⟩ : ∃ r, ixI (l.findIdx? fun y => decide (y = z)) = r := ⟨_, rfl⟩
  have HN := Lib.hid hn
  have HR := Lib.hid hr
  rw [hn] at hl
  rw [hn, hr]
  clear hn hr
  have H0 : Hid (∀ j (hj : j < l.length), j < 0 → decide (l[j]'hj = z) = false) := Lib.hid fun j _ h => by omega
  go_enter Tryz.func176, Tryz.ntmps176
  go_wp2_with fail
  go_loopw [8] (fun i wr => ∃ k : Nat, k ≤ n ∧ i = .int .i64 (k : Int) ∧ Hid (∀ j (hj : j < l.length), j < k → decide (l[j]'hj = z) = false) ∧ w = wr) (fun i _ => n - (intOf i).toNat)
  case atStart => exact ⟨0, by omega, rfl, H0, rfl⟩
  case round =>
    obtain ⟨k, hk, rfl, HK, rfl⟩ := hrel
    clear H0
    by_cases hlt : k < n
    · have h1 : k < l.length := by rw [HN.out]; exact hlt
      have hk1 := Lib.hid hlt
      obtain ⟨a, rfl, hA⟩ := hR.get h1
      rw [Nat.mul_one] at hA
      have hA : w.cell? (a.add k) = some (.int .i64 (l[k]'h1)) := hA
      have HF := Lib.hid (fun (h : decide (l[k]'h1 = z) = false) => show ∀ j (hj : j < l.length), j < k + 1 → decide (l[j]'hj = z) = false from fun j hj h2 => by
        by_cases e : j = k
        · subst e; exact h
        · exact HK.out j hj (by omega))
      have HT := Lib.hid (fun (h : decide (l[k]'h1 = z) = true) => show r = (k : Int) by rw [← HR.out, findIdx_at h1 h HK.out]; rfl)
      have cC := cE (l[k]'h1)
      obtain ⟨b, hbb⟩ : ∃ b, decide (l[k]'h1 = z) = b := ⟨_, rfl⟩
      rw [hbb] at cC HF HT
      generalize l[k]'h1 = u at *
      clear hR HK hbb hg cE
      cases b
      · have HF2 := Lib.hid (HF.out rfl)
        clear HF HT
        go_wp2_with fail
        refine cC.mono ?_
        rintro e w2 ⟨rfl, rfl⟩
        go_wp2_with fail
        go_roundw
        case rel => exact ⟨k + 1, hk1.out, by go_num, HF2, by first | trivial | rfl⟩
        case measure => have := hk1.out; simp [intOf]; omega
      · have HT2 := HT.out rfl
        clear HF HT
        subst HT2
        go_wp2_with fail
        refine cC.mono ?_
        rintro e w2 ⟨rfl, rfl⟩
        go_wp2_with fail
        go_ret
        exact ⟨rfl, rfl⟩
    · obtain rfl : k = n := by omega
      have HE : r = -1 := by rw [← HR.out, findIdx_none fun j hj => HK.out j hj (by rw [← HN.out]; exact hj)]; rfl
      subst HE
      clear HK hR cE
      go_wp2_with fail
      go_ret
      exact ⟨rfl, rfl⟩
set_option maxRecDepth 100000 in
set_option maxHeartbeats 4000000 in
theorem containsEnum_any (l : List Int) (z : Int) (A : Option Addr) (c : Nat) (g : Nat) (w : World) (hl : l.length ≤ 9223372036854775807) (hR : Rw TyI 1 w l A) (hg : w.cell? ⟨g, 1, none⟩ = some (.int .i64 z)) :
    Calls Tryz.prog 129 #[.slice A l.length c, .func (.func 130) #[] #[.pointer (some ⟨g, 0, none⟩)]] w (Is (.bool (l.contains z)) w) := by
  have cI := indexEnum_any l z A c g w hl hR hg
  have e := any_ix (fun y => decide (y = z)) l
  have e2 : l.contains z = l.any fun y => decide (y = z) := by
    rw [Bool.eq_iff_iff, List.contains_iff_mem, List.any_eq_true]
    exact ⟨fun h => ⟨z, h, by simp⟩, fun ⟨y, h, h2⟩ => by rw [decide_eq_true_eq] at h2; exact h2 ▸ h⟩
  rw [e2, ← e]
  generalize ixI (l.findIdx? fun y => decide (y = z)) = r at cI ⊢
  clear e e2
  generalize l.length = n at *
  go_enter Tryz.func129, Tryz.ntmps129
  go_wp2_with fail
  refine cI.mono ?_
  rintro e w2 ⟨rfl, rfl⟩
  go_wp2_with fail
  go_ret
  exact ⟨rfl, rfl⟩
end Go.Proofs.YthfodpbecddheaaGreatDoor
/-
  The developers' check of an enumeration's number. No conditions beyond those that each names.
-/
namespace Go.Proofs.YthfodpbecddheaaGreatDoor
open Go.RowKit Go.Sort
set_option maxRecDepth 100000 in
set_option maxHeartbeats 8000000 in
theorem enum_any (S : Sch) (A A2 : Option Addr) (c c2 : Nat) (k s : Int) (nm : List UInt8) (G : Option Addr) (g1 g2 : Nat) (q n : Int) (st : ByteArray) (A3 : Option Addr) (a1 a2 : Nat) (B : Option Addr) (b1 b2 : Nat) (w : World) (hf : Few9 S) (hS : Sc w S A A2) :
    Calls Tryz.prog 81 #[.agg #[.int .i64 S.ver, .slice A S.enums.length c, .slice A2 S.structs.length c2, .int .i64 k, .int .i64 s, .string (bs nm), .slice G g1 g2], .agg #[.int .i64 q, .int .i64 n, .string st, .slice A3 a1 a2, .slice B b1 b2]] w (Ib (.int .i64 (if ((fst_ En.name S.enums nm).getD en0).nums.contains n = true then 0 else 4)) w) := by
  have cF := fun W h => devEnum_any S nm (.agg #[.int .i64 S.ver, .slice A S.enums.length c, .slice A2 S.structs.length c2]) W ⟨A, c, A2, c2, rfl, hS.next h⟩ hf.el hf.en
  have hlN : ((fst_ En.name S.enums nm).getD en0).nums.length ≤ 9223372036854775807 := by
    cases h : fst_ En.name S.enums nm with
    | none => simp [en0]
    | some t =>
      have := (hf.en t (List.mem_of_find?_eq_some h)).2
      simp
      omega
  have D1 := (Bx.new7 w 81 (.int .i64 S.ver) (.slice A S.enums.length c) (.slice A2 S.structs.length c2) (.int .i64 k) (.int .i64 s) (.string (bs nm)) (.slice G g1 g2)).next (ab1 _ (Obj.cells #[.int .i64 q, .int .i64 n, .string st, .slice A3 a1 a2, .slice B b1 b2] 34))
  have D2 := Bx.new5 (w.alloc (Obj.cells #[.int .i64 S.ver, .slice A S.enums.length c, .slice A2 S.structs.length c2, .int .i64 k, .int .i64 s, .string (bs nm), .slice G g1 g2] 81)) 34 (.int .i64 q) (.int .i64 n) (.string st) (.slice A3 a1 a2) (.slice B b1 b2)
  have hab := ab2 w (Obj.cells #[.int .i64 S.ver, .slice A S.enums.length c, .slice A2 S.structs.length c2, .int .i64 k, .int .i64 s, .string (bs nm), .slice G g1 g2] 81) (Obj.cells #[.int .i64 q, .int .i64 n, .string st, .slice A3 a1 a2, .slice B b1 b2] 34)
  rw [show (w.alloc (Obj.cells #[.int .i64 S.ver, .slice A S.enums.length c, .slice A2 S.structs.length c2, .int .i64 k, .int .i64 s, .string (bs nm), .slice G g1 g2] 81)).heap.size = w.heap.size + 1 by simp] at D2
  generalize fst_ En.name S.enums nm = o at *
  clear hS
  obtain ⟨b, hb⟩ : ∃ b, (o.getD en0).nums.contains n = b := ⟨_, rfl⟩
  rw [hb]
  have HB := Lib.hid hb
  clear hb
  generalize S.structs.length = sl at *
  generalize S.enums.length = el at *
  cases b with
  | false =>
    rw [if_neg (by decide)]
    go_enter Tryz.func81, Tryz.ntmps81
    go_wp2_with fail
    refine (cF _ hab).mono ?_
    rintro e1 w1 ⟨v1, rfl, hV, hb1⟩
    obtain ⟨A4, c4, A5, c5, rfl, -, hR⟩ := hV
    clear cF
    replace D2 := D2.next hb1
    have cC := fun W (h : Below w1.heap.size w1 W) => containsEnum_any _ n A5 c5 (w.heap.size + 1) W hlN (hR.next fun x p => TyI.next h) (cell_next h (D2.c 1 rfl))
    rw [HB.out] at cC
    generalize (o.getD en0).nums.length = nl at *
    generalize (o.getD en0).names.length = ml at *
    generalize (o.getD en0).name = en at *
    clear hR HB hlN
    go_wp2_with fail
    refine (cC _ (ab1 _ _)).mono ?_
    rintro e2 w2 ⟨rfl, rfl⟩
    go_wp2_with fail
    go_ret
    exact ⟨rfl, Below.next (Below.next hab hb1) (ab1 _ _)⟩
  | true =>
    rw [if_pos rfl]
    go_enter Tryz.func81, Tryz.ntmps81
    go_wp2_with fail
    refine (cF _ hab).mono ?_
    rintro e1 w1 ⟨v1, rfl, hV, hb1⟩
    obtain ⟨A4, c4, A5, c5, rfl, -, hR⟩ := hV
    clear cF
    replace D2 := D2.next hb1
    have cC := fun W (h : Below w1.heap.size w1 W) => containsEnum_any _ n A5 c5 (w.heap.size + 1) W hlN (hR.next fun x p => TyI.next h) (cell_next h (D2.c 1 rfl))
    rw [HB.out] at cC
    generalize (o.getD en0).nums.length = nl at *
    generalize (o.getD en0).names.length = ml at *
    generalize (o.getD en0).name = en at *
    clear hR HB hlN
    go_wp2_with fail
    refine (cC _ (ab1 _ _)).mono ?_
    rintro e2 w2 ⟨rfl, rfl⟩
    go_wp2_with fail
    go_ret
    exact ⟨rfl, Below.next (Below.next hab hb1) (ab1 _ _)⟩
end Go.Proofs.YthfodpbecddheaaGreatDoor
/-
  The developers' admit. No conditions beyond those that each names.
-/
namespace Go.Proofs.YthfodpbecddheaaGreatDoor
open Go.RowKit Go.Shelf
set_option maxRecDepth 100000 in
set_option maxHeartbeats 8000000 in
theorem admit_boolean (ver : Int) (E : Option Addr) (e1 e2 : Nat) (F : Option Addr) (f1 f2 : Nat) (k s : Int) (nm : ByteArray) (G : Option Addr) (g1 g2 : Nat) (q n : Int) (st : List UInt8) (A : Option Addr) (a1 a2 : Nat) (B : Option Addr) (b1 b2 : Nat) (p : Bool) (r : Int) (w : World)
    (cP : ∀ W, Below w.heap.size w W → Calls Tryz.prog 32 #[.agg #[.int .i64 ver, .slice E e1 e2, .slice F f1 f2], .agg #[.int .i64 k, .int .i64 s, .string nm, .slice G g1 g2]] W (Ib (.bool p) W))
    (cS : p = true → q = k → pur q n st a1 b1 = true → ∀ W, Below w.heap.size w W → Calls Tryz.prog 75 #[.agg #[.int .i64 ver, .slice E e1 e2, .slice F f1 f2, .int .i64 k, .int .i64 s, .string nm, .slice G g1 g2], .agg #[.int .i64 q, .int .i64 n, .string (bs st), .slice A a1 a2, .slice B b1 b2]] W (Ib (.int .i64 r) W)) :
    Calls Tryz.prog 74 #[.agg #[.int .i64 ver, .slice E e1 e2, .slice F f1 f2, .int .i64 k, .int .i64 s, .string nm, .slice G g1 g2], .agg #[.int .i64 q, .int .i64 n, .string (bs st), .slice A a1 a2, .slice B b1 b2], .func (.func 75) #[.agg #[.int .i64 ver, .slice E e1 e2, .slice F f1 f2, .int .i64 k, .int .i64 s, .string nm, .slice G g1 g2]] #[]] w (Ib (.int .i64 (if p = true ∧ q = k ∧ pur q n st a1 b1 = true then r else 13)) w) := by
  have cI := fun W => isPure_any q n st A a1 a2 B b1 b2 W
  have D1 := (Bx.new7 w 81 (.int .i64 ver) (.slice E e1 e2) (.slice F f1 f2) (.int .i64 k) (.int .i64 s) (.string nm) (.slice G g1 g2)).next (ab1 _ (Obj.cells #[.int .i64 q, .int .i64 n, .string (bs st), .slice A a1 a2, .slice B b1 b2] 34))
  have D2 := Bx.new5 (w.alloc (Obj.cells #[.int .i64 ver, .slice E e1 e2, .slice F f1 f2, .int .i64 k, .int .i64 s, .string nm, .slice G g1 g2] 81)) 34 (.int .i64 q) (.int .i64 n) (.string (bs st)) (.slice A a1 a2) (.slice B b1 b2)
  have hab := ab2 w (Obj.cells #[.int .i64 ver, .slice E e1 e2, .slice F f1 f2, .int .i64 k, .int .i64 s, .string nm, .slice G g1 g2] 81) (Obj.cells #[.int .i64 q, .int .i64 n, .string (bs st), .slice A a1 a2, .slice B b1 b2] 34)
  rw [show (w.alloc (Obj.cells #[.int .i64 ver, .slice E e1 e2, .slice F f1 f2, .int .i64 k, .int .i64 s, .string nm, .slice G g1 g2] 81)).heap.size = w.heap.size + 1 by simp] at D2
  generalize pur q n st a1 b1 = u at *
  cases p with
  | false =>
    rw [if_neg (fun h => by cases h.1)]
    clear cS cI
    go_enter Tryz.func74, Tryz.ntmps74
    go_wp2_with fail
    refine (cP _ hab).mono ?_
    rintro e w2 ⟨rfl, hb2⟩
    replace D1 := D1.next hb2
    replace D2 := D2.next hb2
    replace hab := Below.next hab hb2
    have c0 := D1.c 0 rfl
    have c1 := D1.c 1 rfl
    have c2 := D1.c 2 rfl
    have c3 := D1.c 3 rfl
    have c4 := D1.c 4 rfl
    have c5 := D1.c 5 rfl
    have c6 := D1.c 6 rfl
    have x0 := D2.c 0 rfl
    have x1 := D2.c 1 rfl
    have x2 := D2.c 2 rfl
    have x3 := D2.c 3 rfl
    have x4 := D2.c 4 rfl
    go_wp2_with fail
    go_ret
    exact ⟨rfl, hab⟩
  | true =>
    by_cases hq : q = k
    · subst hq
      have dq : (q != q) = false := by simp
      cases u with
      | false =>
        rw [if_neg (fun h => by cases h.2.2)]
        clear cS
        go_enter Tryz.func74, Tryz.ntmps74
        go_wp2_with fail
        refine (cP _ hab).mono ?_
        rintro e w2 ⟨rfl, hb2⟩
        replace D1 := D1.next hb2
        replace D2 := D2.next hb2
        replace hab := Below.next hab hb2
        have c0 := D1.c 0 rfl
        have c1 := D1.c 1 rfl
        have c2 := D1.c 2 rfl
        have c3 := D1.c 3 rfl
        have c4 := D1.c 4 rfl
        have c5 := D1.c 5 rfl
        have c6 := D1.c 6 rfl
        have x0 := D2.c 0 rfl
        have x1 := D2.c 1 rfl
        have x2 := D2.c 2 rfl
        have x3 := D2.c 3 rfl
        have x4 := D2.c 4 rfl
        go_wp2_with fail
        refine (cI _).mono ?_
        rintro e w3 ⟨rfl, hb3⟩
        replace D1 := D1.next hb3
        replace D2 := D2.next hb3
        replace hab := Below.next hab hb3
        clear c0 c1 c2 c3 c4 c5 c6 x0 x1 x2 x3 x4
        have c0 := D1.c 0 rfl
        have c1 := D1.c 1 rfl
        have c2 := D1.c 2 rfl
        have c3 := D1.c 3 rfl
        have c4 := D1.c 4 rfl
        have c5 := D1.c 5 rfl
        have c6 := D1.c 6 rfl
        have x0 := D2.c 0 rfl
        have x1 := D2.c 1 rfl
        have x2 := D2.c 2 rfl
        have x3 := D2.c 3 rfl
        have x4 := D2.c 4 rfl
        go_wp2_with fail
        go_ret
        exact ⟨rfl, hab⟩
      | true =>
        rw [if_pos ⟨rfl, rfl, rfl⟩]
        replace cS := cS rfl rfl rfl
        go_enter Tryz.func74, Tryz.ntmps74
        go_wp2_with fail
        refine (cP _ hab).mono ?_
        rintro e w2 ⟨rfl, hb2⟩
        replace D1 := D1.next hb2
        replace D2 := D2.next hb2
        replace hab := Below.next hab hb2
        have c0 := D1.c 0 rfl
        have c1 := D1.c 1 rfl
        have c2 := D1.c 2 rfl
        have c3 := D1.c 3 rfl
        have c4 := D1.c 4 rfl
        have c5 := D1.c 5 rfl
        have c6 := D1.c 6 rfl
        have x0 := D2.c 0 rfl
        have x1 := D2.c 1 rfl
        have x2 := D2.c 2 rfl
        have x3 := D2.c 3 rfl
        have x4 := D2.c 4 rfl
        go_wp2_with fail
        refine (cI _).mono ?_
        rintro e w3 ⟨rfl, hb3⟩
        replace D1 := D1.next hb3
        replace D2 := D2.next hb3
        replace hab := Below.next hab hb3
        clear c0 c1 c2 c3 c4 c5 c6 x0 x1 x2 x3 x4
        have c0 := D1.c 0 rfl
        have c1 := D1.c 1 rfl
        have c2 := D1.c 2 rfl
        have c3 := D1.c 3 rfl
        have c4 := D1.c 4 rfl
        have c5 := D1.c 5 rfl
        have c6 := D1.c 6 rfl
        have x0 := D2.c 0 rfl
        have x1 := D2.c 1 rfl
        have x2 := D2.c 2 rfl
        have x3 := D2.c 3 rfl
        have x4 := D2.c 4 rfl
        go_wp2_with fail
        refine (cS _ hab).mono ?_
        rintro e w4 ⟨rfl, hb4⟩
        go_wp2_with fail
        go_ret
        exact ⟨rfl, Below.next hab hb4⟩
    · have dq : (q != k) = true := by simpa using hq
      rw [if_neg (fun h => hq h.2.1)]
      clear cS cI hq
      go_enter Tryz.func74, Tryz.ntmps74
      go_wp2_with fail
      refine (cP _ hab).mono ?_
      rintro e w2 ⟨rfl, hb2⟩
      replace D1 := D1.next hb2
      replace D2 := D2.next hb2
      replace hab := Below.next hab hb2
      have c0 := D1.c 0 rfl
      have c1 := D1.c 1 rfl
      have c2 := D1.c 2 rfl
      have c3 := D1.c 3 rfl
      have c4 := D1.c 4 rfl
      have c5 := D1.c 5 rfl
      have c6 := D1.c 6 rfl
      have x0 := D2.c 0 rfl
      have x1 := D2.c 1 rfl
      have x2 := D2.c 2 rfl
      have x3 := D2.c 3 rfl
      have x4 := D2.c 4 rfl
      go_wp2_with fail
      go_ret
      exact ⟨rfl, hab⟩
set_option maxRecDepth 100000 in
set_option maxHeartbeats 8000000 in
theorem admit_signed (ver : Int) (E : Option Addr) (e1 e2 : Nat) (F : Option Addr) (f1 f2 : Nat) (k s : Int) (nm : ByteArray) (G : Option Addr) (g1 g2 : Nat) (q n : Int) (st : List UInt8) (A : Option Addr) (a1 a2 : Nat) (B : Option Addr) (b1 b2 : Nat) (p : Bool) (r : Int) (w : World)
    (cP : ∀ W, Below w.heap.size w W → Calls Tryz.prog 32 #[.agg #[.int .i64 ver, .slice E e1 e2, .slice F f1 f2], .agg #[.int .i64 k, .int .i64 s, .string nm, .slice G g1 g2]] W (Ib (.bool p) W))
    (cS : p = true → q = k → pur q n st a1 b1 = true → ∀ W, Below w.heap.size w W → Calls Tryz.prog 76 #[.agg #[.int .i64 ver, .slice E e1 e2, .slice F f1 f2, .int .i64 k, .int .i64 s, .string nm, .slice G g1 g2], .agg #[.int .i64 q, .int .i64 n, .string (bs st), .slice A a1 a2, .slice B b1 b2]] W (Ib (.int .i64 r) W)) :
    Calls Tryz.prog 74 #[.agg #[.int .i64 ver, .slice E e1 e2, .slice F f1 f2, .int .i64 k, .int .i64 s, .string nm, .slice G g1 g2], .agg #[.int .i64 q, .int .i64 n, .string (bs st), .slice A a1 a2, .slice B b1 b2], .func (.func 76) #[.agg #[.int .i64 ver, .slice E e1 e2, .slice F f1 f2, .int .i64 k, .int .i64 s, .string nm, .slice G g1 g2]] #[]] w (Ib (.int .i64 (if p = true ∧ q = k ∧ pur q n st a1 b1 = true then r else 13)) w) := by
  have cI := fun W => isPure_any q n st A a1 a2 B b1 b2 W
  have D1 := (Bx.new7 w 81 (.int .i64 ver) (.slice E e1 e2) (.slice F f1 f2) (.int .i64 k) (.int .i64 s) (.string nm) (.slice G g1 g2)).next (ab1 _ (Obj.cells #[.int .i64 q, .int .i64 n, .string (bs st), .slice A a1 a2, .slice B b1 b2] 34))
  have D2 := Bx.new5 (w.alloc (Obj.cells #[.int .i64 ver, .slice E e1 e2, .slice F f1 f2, .int .i64 k, .int .i64 s, .string nm, .slice G g1 g2] 81)) 34 (.int .i64 q) (.int .i64 n) (.string (bs st)) (.slice A a1 a2) (.slice B b1 b2)
  have hab := ab2 w (Obj.cells #[.int .i64 ver, .slice E e1 e2, .slice F f1 f2, .int .i64 k, .int .i64 s, .string nm, .slice G g1 g2] 81) (Obj.cells #[.int .i64 q, .int .i64 n, .string (bs st), .slice A a1 a2, .slice B b1 b2] 34)
  rw [show (w.alloc (Obj.cells #[.int .i64 ver, .slice E e1 e2, .slice F f1 f2, .int .i64 k, .int .i64 s, .string nm, .slice G g1 g2] 81)).heap.size = w.heap.size + 1 by simp] at D2
  generalize pur q n st a1 b1 = u at *
  cases p with
  | false =>
    rw [if_neg (fun h => by cases h.1)]
    clear cS cI
    go_enter Tryz.func74, Tryz.ntmps74
    go_wp2_with fail
    refine (cP _ hab).mono ?_
    rintro e w2 ⟨rfl, hb2⟩
    replace D1 := D1.next hb2
    replace D2 := D2.next hb2
    replace hab := Below.next hab hb2
    have c0 := D1.c 0 rfl
    have c1 := D1.c 1 rfl
    have c2 := D1.c 2 rfl
    have c3 := D1.c 3 rfl
    have c4 := D1.c 4 rfl
    have c5 := D1.c 5 rfl
    have c6 := D1.c 6 rfl
    have x0 := D2.c 0 rfl
    have x1 := D2.c 1 rfl
    have x2 := D2.c 2 rfl
    have x3 := D2.c 3 rfl
    have x4 := D2.c 4 rfl
    go_wp2_with fail
    go_ret
    exact ⟨rfl, hab⟩
  | true =>
    by_cases hq : q = k
    · subst hq
      have dq : (q != q) = false := by simp
      cases u with
      | false =>
        rw [if_neg (fun h => by cases h.2.2)]
        clear cS
        go_enter Tryz.func74, Tryz.ntmps74
        go_wp2_with fail
        refine (cP _ hab).mono ?_
        rintro e w2 ⟨rfl, hb2⟩
        replace D1 := D1.next hb2
        replace D2 := D2.next hb2
        replace hab := Below.next hab hb2
        have c0 := D1.c 0 rfl
        have c1 := D1.c 1 rfl
        have c2 := D1.c 2 rfl
        have c3 := D1.c 3 rfl
        have c4 := D1.c 4 rfl
        have c5 := D1.c 5 rfl
        have c6 := D1.c 6 rfl
        have x0 := D2.c 0 rfl
        have x1 := D2.c 1 rfl
        have x2 := D2.c 2 rfl
        have x3 := D2.c 3 rfl
        have x4 := D2.c 4 rfl
        go_wp2_with fail
        refine (cI _).mono ?_
        rintro e w3 ⟨rfl, hb3⟩
        replace D1 := D1.next hb3
        replace D2 := D2.next hb3
        replace hab := Below.next hab hb3
        clear c0 c1 c2 c3 c4 c5 c6 x0 x1 x2 x3 x4
        have c0 := D1.c 0 rfl
        have c1 := D1.c 1 rfl
        have c2 := D1.c 2 rfl
        have c3 := D1.c 3 rfl
        have c4 := D1.c 4 rfl
        have c5 := D1.c 5 rfl
        have c6 := D1.c 6 rfl
        have x0 := D2.c 0 rfl
        have x1 := D2.c 1 rfl
        have x2 := D2.c 2 rfl
        have x3 := D2.c 3 rfl
        have x4 := D2.c 4 rfl
        go_wp2_with fail
        go_ret
        exact ⟨rfl, hab⟩
      | true =>
        rw [if_pos ⟨rfl, rfl, rfl⟩]
        replace cS := cS rfl rfl rfl
        go_enter Tryz.func74, Tryz.ntmps74
        go_wp2_with fail
        refine (cP _ hab).mono ?_
        rintro e w2 ⟨rfl, hb2⟩
        replace D1 := D1.next hb2
        replace D2 := D2.next hb2
        replace hab := Below.next hab hb2
        have c0 := D1.c 0 rfl
        have c1 := D1.c 1 rfl
        have c2 := D1.c 2 rfl
        have c3 := D1.c 3 rfl
        have c4 := D1.c 4 rfl
        have c5 := D1.c 5 rfl
        have c6 := D1.c 6 rfl
        have x0 := D2.c 0 rfl
        have x1 := D2.c 1 rfl
        have x2 := D2.c 2 rfl
        have x3 := D2.c 3 rfl
        have x4 := D2.c 4 rfl
        go_wp2_with fail
        refine (cI _).mono ?_
        rintro e w3 ⟨rfl, hb3⟩
        replace D1 := D1.next hb3
        replace D2 := D2.next hb3
        replace hab := Below.next hab hb3
        clear c0 c1 c2 c3 c4 c5 c6 x0 x1 x2 x3 x4
        have c0 := D1.c 0 rfl
        have c1 := D1.c 1 rfl
        have c2 := D1.c 2 rfl
        have c3 := D1.c 3 rfl
        have c4 := D1.c 4 rfl
        have c5 := D1.c 5 rfl
        have c6 := D1.c 6 rfl
        have x0 := D2.c 0 rfl
        have x1 := D2.c 1 rfl
        have x2 := D2.c 2 rfl
        have x3 := D2.c 3 rfl
        have x4 := D2.c 4 rfl
        go_wp2_with fail
        refine (cS _ hab).mono ?_
        rintro e w4 ⟨rfl, hb4⟩
        go_wp2_with fail
        go_ret
        exact ⟨rfl, Below.next hab hb4⟩
    · have dq : (q != k) = true := by simpa using hq
      rw [if_neg (fun h => hq h.2.1)]
      clear cS cI hq
      go_enter Tryz.func74, Tryz.ntmps74
      go_wp2_with fail
      refine (cP _ hab).mono ?_
      rintro e w2 ⟨rfl, hb2⟩
      replace D1 := D1.next hb2
      replace D2 := D2.next hb2
      replace hab := Below.next hab hb2
      have c0 := D1.c 0 rfl
      have c1 := D1.c 1 rfl
      have c2 := D1.c 2 rfl
      have c3 := D1.c 3 rfl
      have c4 := D1.c 4 rfl
      have c5 := D1.c 5 rfl
      have c6 := D1.c 6 rfl
      have x0 := D2.c 0 rfl
      have x1 := D2.c 1 rfl
      have x2 := D2.c 2 rfl
      have x3 := D2.c 3 rfl
      have x4 := D2.c 4 rfl
      go_wp2_with fail
      go_ret
      exact ⟨rfl, hab⟩
set_option maxRecDepth 100000 in
set_option maxHeartbeats 8000000 in
theorem admit_unsigned (ver : Int) (E : Option Addr) (e1 e2 : Nat) (F : Option Addr) (f1 f2 : Nat) (k s : Int) (nm : ByteArray) (G : Option Addr) (g1 g2 : Nat) (q n : Int) (st : List UInt8) (A : Option Addr) (a1 a2 : Nat) (B : Option Addr) (b1 b2 : Nat) (p : Bool) (r : Int) (w : World)
    (cP : ∀ W, Below w.heap.size w W → Calls Tryz.prog 32 #[.agg #[.int .i64 ver, .slice E e1 e2, .slice F f1 f2], .agg #[.int .i64 k, .int .i64 s, .string nm, .slice G g1 g2]] W (Ib (.bool p) W))
    (cS : p = true → q = k → pur q n st a1 b1 = true → ∀ W, Below w.heap.size w W → Calls Tryz.prog 77 #[.agg #[.int .i64 ver, .slice E e1 e2, .slice F f1 f2, .int .i64 k, .int .i64 s, .string nm, .slice G g1 g2], .agg #[.int .i64 q, .int .i64 n, .string (bs st), .slice A a1 a2, .slice B b1 b2]] W (Ib (.int .i64 r) W)) :
    Calls Tryz.prog 74 #[.agg #[.int .i64 ver, .slice E e1 e2, .slice F f1 f2, .int .i64 k, .int .i64 s, .string nm, .slice G g1 g2], .agg #[.int .i64 q, .int .i64 n, .string (bs st), .slice A a1 a2, .slice B b1 b2], .func (.func 77) #[.agg #[.int .i64 ver, .slice E e1 e2, .slice F f1 f2, .int .i64 k, .int .i64 s, .string nm, .slice G g1 g2]] #[]] w (Ib (.int .i64 (if p = true ∧ q = k ∧ pur q n st a1 b1 = true then r else 13)) w) := by
  have cI := fun W => isPure_any q n st A a1 a2 B b1 b2 W
  have D1 := (Bx.new7 w 81 (.int .i64 ver) (.slice E e1 e2) (.slice F f1 f2) (.int .i64 k) (.int .i64 s) (.string nm) (.slice G g1 g2)).next (ab1 _ (Obj.cells #[.int .i64 q, .int .i64 n, .string (bs st), .slice A a1 a2, .slice B b1 b2] 34))
  have D2 := Bx.new5 (w.alloc (Obj.cells #[.int .i64 ver, .slice E e1 e2, .slice F f1 f2, .int .i64 k, .int .i64 s, .string nm, .slice G g1 g2] 81)) 34 (.int .i64 q) (.int .i64 n) (.string (bs st)) (.slice A a1 a2) (.slice B b1 b2)
  have hab := ab2 w (Obj.cells #[.int .i64 ver, .slice E e1 e2, .slice F f1 f2, .int .i64 k, .int .i64 s, .string nm, .slice G g1 g2] 81) (Obj.cells #[.int .i64 q, .int .i64 n, .string (bs st), .slice A a1 a2, .slice B b1 b2] 34)
  rw [show (w.alloc (Obj.cells #[.int .i64 ver, .slice E e1 e2, .slice F f1 f2, .int .i64 k, .int .i64 s, .string nm, .slice G g1 g2] 81)).heap.size = w.heap.size + 1 by simp] at D2
  generalize pur q n st a1 b1 = u at *
  cases p with
  | false =>
    rw [if_neg (fun h => by cases h.1)]
    clear cS cI
    go_enter Tryz.func74, Tryz.ntmps74
    go_wp2_with fail
    refine (cP _ hab).mono ?_
    rintro e w2 ⟨rfl, hb2⟩
    replace D1 := D1.next hb2
    replace D2 := D2.next hb2
    replace hab := Below.next hab hb2
    have c0 := D1.c 0 rfl
    have c1 := D1.c 1 rfl
    have c2 := D1.c 2 rfl
    have c3 := D1.c 3 rfl
    have c4 := D1.c 4 rfl
    have c5 := D1.c 5 rfl
    have c6 := D1.c 6 rfl
    have x0 := D2.c 0 rfl
    have x1 := D2.c 1 rfl
    have x2 := D2.c 2 rfl
    have x3 := D2.c 3 rfl
    have x4 := D2.c 4 rfl
    go_wp2_with fail
    go_ret
    exact ⟨rfl, hab⟩
  | true =>
    by_cases hq : q = k
    · subst hq
      have dq : (q != q) = false := by simp
      cases u with
      | false =>
        rw [if_neg (fun h => by cases h.2.2)]
        clear cS
        go_enter Tryz.func74, Tryz.ntmps74
        go_wp2_with fail
        refine (cP _ hab).mono ?_
        rintro e w2 ⟨rfl, hb2⟩
        replace D1 := D1.next hb2
        replace D2 := D2.next hb2
        replace hab := Below.next hab hb2
        have c0 := D1.c 0 rfl
        have c1 := D1.c 1 rfl
        have c2 := D1.c 2 rfl
        have c3 := D1.c 3 rfl
        have c4 := D1.c 4 rfl
        have c5 := D1.c 5 rfl
        have c6 := D1.c 6 rfl
        have x0 := D2.c 0 rfl
        have x1 := D2.c 1 rfl
        have x2 := D2.c 2 rfl
        have x3 := D2.c 3 rfl
        have x4 := D2.c 4 rfl
        go_wp2_with fail
        refine (cI _).mono ?_
        rintro e w3 ⟨rfl, hb3⟩
        replace D1 := D1.next hb3
        replace D2 := D2.next hb3
        replace hab := Below.next hab hb3
        clear c0 c1 c2 c3 c4 c5 c6 x0 x1 x2 x3 x4
        have c0 := D1.c 0 rfl
        have c1 := D1.c 1 rfl
        have c2 := D1.c 2 rfl
        have c3 := D1.c 3 rfl
        have c4 := D1.c 4 rfl
        have c5 := D1.c 5 rfl
        have c6 := D1.c 6 rfl
        have x0 := D2.c 0 rfl
        have x1 := D2.c 1 rfl
        have x2 := D2.c 2 rfl
        have x3 := D2.c 3 rfl
        have x4 := D2.c 4 rfl
        go_wp2_with fail
        go_ret
        exact ⟨rfl, hab⟩
      | true =>
        rw [if_pos ⟨rfl, rfl, rfl⟩]
        replace cS := cS rfl rfl rfl
        go_enter Tryz.func74, Tryz.ntmps74
        go_wp2_with fail
        refine (cP _ hab).mono ?_
        rintro e w2 ⟨rfl, hb2⟩
        replace D1 := D1.next hb2
        replace D2 := D2.next hb2
        replace hab := Below.next hab hb2
        have c0 := D1.c 0 rfl
        have c1 := D1.c 1 rfl
        have c2 := D1.c 2 rfl
        have c3 := D1.c 3 rfl
        have c4 := D1.c 4 rfl
        have c5 := D1.c 5 rfl
        have c6 := D1.c 6 rfl
        have x0 := D2.c 0 rfl
        have x1 := D2.c 1 rfl
        have x2 := D2.c 2 rfl
        have x3 := D2.c 3 rfl
        have x4 := D2.c 4 rfl
        go_wp2_with fail
        refine (cI _).mono ?_
        rintro e w3 ⟨rfl, hb3⟩
        replace D1 := D1.next hb3
        replace D2 := D2.next hb3
        replace hab := Below.next hab hb3
        clear c0 c1 c2 c3 c4 c5 c6 x0 x1 x2 x3 x4
        have c0 := D1.c 0 rfl
        have c1 := D1.c 1 rfl
        have c2 := D1.c 2 rfl
        have c3 := D1.c 3 rfl
        have c4 := D1.c 4 rfl
        have c5 := D1.c 5 rfl
        have c6 := D1.c 6 rfl
        have x0 := D2.c 0 rfl
        have x1 := D2.c 1 rfl
        have x2 := D2.c 2 rfl
        have x3 := D2.c 3 rfl
        have x4 := D2.c 4 rfl
        go_wp2_with fail
        refine (cS _ hab).mono ?_
        rintro e w4 ⟨rfl, hb4⟩
        go_wp2_with fail
        go_ret
        exact ⟨rfl, Below.next hab hb4⟩
    · have dq : (q != k) = true := by simpa using hq
      rw [if_neg (fun h => hq h.2.1)]
      clear cS cI hq
      go_enter Tryz.func74, Tryz.ntmps74
      go_wp2_with fail
      refine (cP _ hab).mono ?_
      rintro e w2 ⟨rfl, hb2⟩
      replace D1 := D1.next hb2
      replace D2 := D2.next hb2
      replace hab := Below.next hab hb2
      have c0 := D1.c 0 rfl
      have c1 := D1.c 1 rfl
      have c2 := D1.c 2 rfl
      have c3 := D1.c 3 rfl
      have c4 := D1.c 4 rfl
      have c5 := D1.c 5 rfl
      have c6 := D1.c 6 rfl
      have x0 := D2.c 0 rfl
      have x1 := D2.c 1 rfl
      have x2 := D2.c 2 rfl
      have x3 := D2.c 3 rfl
      have x4 := D2.c 4 rfl
      go_wp2_with fail
      go_ret
      exact ⟨rfl, hab⟩
set_option maxRecDepth 100000 in
set_option maxHeartbeats 8000000 in
theorem admit_text (ver : Int) (E : Option Addr) (e1 e2 : Nat) (F : Option Addr) (f1 f2 : Nat) (k s : Int) (nm : ByteArray) (G : Option Addr) (g1 g2 : Nat) (q n : Int) (st : List UInt8) (A : Option Addr) (a1 a2 : Nat) (B : Option Addr) (b1 b2 : Nat) (p : Bool) (r : Int) (w : World)
    (cP : ∀ W, Below w.heap.size w W → Calls Tryz.prog 32 #[.agg #[.int .i64 ver, .slice E e1 e2, .slice F f1 f2], .agg #[.int .i64 k, .int .i64 s, .string nm, .slice G g1 g2]] W (Ib (.bool p) W))
    (cS : p = true → q = k → pur q n st a1 b1 = true → ∀ W, Below w.heap.size w W → Calls Tryz.prog 78 #[.agg #[.int .i64 ver, .slice E e1 e2, .slice F f1 f2, .int .i64 k, .int .i64 s, .string nm, .slice G g1 g2], .agg #[.int .i64 q, .int .i64 n, .string (bs st), .slice A a1 a2, .slice B b1 b2]] W (Ib (.int .i64 r) W)) :
    Calls Tryz.prog 74 #[.agg #[.int .i64 ver, .slice E e1 e2, .slice F f1 f2, .int .i64 k, .int .i64 s, .string nm, .slice G g1 g2], .agg #[.int .i64 q, .int .i64 n, .string (bs st), .slice A a1 a2, .slice B b1 b2], .func (.func 78) #[.agg #[.int .i64 ver, .slice E e1 e2, .slice F f1 f2, .int .i64 k, .int .i64 s, .string nm, .slice G g1 g2]] #[]] w (Ib (.int .i64 (if p = true ∧ q = k ∧ pur q n st a1 b1 = true then r else 13)) w) := by
  have cI := fun W => isPure_any q n st A a1 a2 B b1 b2 W
  have D1 := (Bx.new7 w 81 (.int .i64 ver) (.slice E e1 e2) (.slice F f1 f2) (.int .i64 k) (.int .i64 s) (.string nm) (.slice G g1 g2)).next (ab1 _ (Obj.cells #[.int .i64 q, .int .i64 n, .string (bs st), .slice A a1 a2, .slice B b1 b2] 34))
  have D2 := Bx.new5 (w.alloc (Obj.cells #[.int .i64 ver, .slice E e1 e2, .slice F f1 f2, .int .i64 k, .int .i64 s, .string nm, .slice G g1 g2] 81)) 34 (.int .i64 q) (.int .i64 n) (.string (bs st)) (.slice A a1 a2) (.slice B b1 b2)
  have hab := ab2 w (Obj.cells #[.int .i64 ver, .slice E e1 e2, .slice F f1 f2, .int .i64 k, .int .i64 s, .string nm, .slice G g1 g2] 81) (Obj.cells #[.int .i64 q, .int .i64 n, .string (bs st), .slice A a1 a2, .slice B b1 b2] 34)
  rw [show (w.alloc (Obj.cells #[.int .i64 ver, .slice E e1 e2, .slice F f1 f2, .int .i64 k, .int .i64 s, .string nm, .slice G g1 g2] 81)).heap.size = w.heap.size + 1 by simp] at D2
  generalize pur q n st a1 b1 = u at *
  cases p with
  | false =>
    rw [if_neg (fun h => by cases h.1)]
    clear cS cI
    go_enter Tryz.func74, Tryz.ntmps74
    go_wp2_with fail
    refine (cP _ hab).mono ?_
    rintro e w2 ⟨rfl, hb2⟩
    replace D1 := D1.next hb2
    replace D2 := D2.next hb2
    replace hab := Below.next hab hb2
    have c0 := D1.c 0 rfl
    have c1 := D1.c 1 rfl
    have c2 := D1.c 2 rfl
    have c3 := D1.c 3 rfl
    have c4 := D1.c 4 rfl
    have c5 := D1.c 5 rfl
    have c6 := D1.c 6 rfl
    have x0 := D2.c 0 rfl
    have x1 := D2.c 1 rfl
    have x2 := D2.c 2 rfl
    have x3 := D2.c 3 rfl
    have x4 := D2.c 4 rfl
    go_wp2_with fail
    go_ret
    exact ⟨rfl, hab⟩
  | true =>
    by_cases hq : q = k
    · subst hq
      have dq : (q != q) = false := by simp
      cases u with
      | false =>
        rw [if_neg (fun h => by cases h.2.2)]
        clear cS
        go_enter Tryz.func74, Tryz.ntmps74
        go_wp2_with fail
        refine (cP _ hab).mono ?_
        rintro e w2 ⟨rfl, hb2⟩
        replace D1 := D1.next hb2
        replace D2 := D2.next hb2
        replace hab := Below.next hab hb2
        have c0 := D1.c 0 rfl
        have c1 := D1.c 1 rfl
        have c2 := D1.c 2 rfl
        have c3 := D1.c 3 rfl
        have c4 := D1.c 4 rfl
        have c5 := D1.c 5 rfl
        have c6 := D1.c 6 rfl
        have x0 := D2.c 0 rfl
        have x1 := D2.c 1 rfl
        have x2 := D2.c 2 rfl
        have x3 := D2.c 3 rfl
        have x4 := D2.c 4 rfl
        go_wp2_with fail
        refine (cI _).mono ?_
        rintro e w3 ⟨rfl, hb3⟩
        replace D1 := D1.next hb3
        replace D2 := D2.next hb3
        replace hab := Below.next hab hb3
        clear c0 c1 c2 c3 c4 c5 c6 x0 x1 x2 x3 x4
        have c0 := D1.c 0 rfl
        have c1 := D1.c 1 rfl
        have c2 := D1.c 2 rfl
        have c3 := D1.c 3 rfl
        have c4 := D1.c 4 rfl
        have c5 := D1.c 5 rfl
        have c6 := D1.c 6 rfl
        have x0 := D2.c 0 rfl
        have x1 := D2.c 1 rfl
        have x2 := D2.c 2 rfl
        have x3 := D2.c 3 rfl
        have x4 := D2.c 4 rfl
        go_wp2_with fail
        go_ret
        exact ⟨rfl, hab⟩
      | true =>
        rw [if_pos ⟨rfl, rfl, rfl⟩]
        replace cS := cS rfl rfl rfl
        go_enter Tryz.func74, Tryz.ntmps74
        go_wp2_with fail
        refine (cP _ hab).mono ?_
        rintro e w2 ⟨rfl, hb2⟩
        replace D1 := D1.next hb2
        replace D2 := D2.next hb2
        replace hab := Below.next hab hb2
        have c0 := D1.c 0 rfl
        have c1 := D1.c 1 rfl
        have c2 := D1.c 2 rfl
        have c3 := D1.c 3 rfl
        have c4 := D1.c 4 rfl
        have c5 := D1.c 5 rfl
        have c6 := D1.c 6 rfl
        have x0 := D2.c 0 rfl
        have x1 := D2.c 1 rfl
        have x2 := D2.c 2 rfl
        have x3 := D2.c 3 rfl
        have x4 := D2.c 4 rfl
        go_wp2_with fail
        refine (cI _).mono ?_
        rintro e w3 ⟨rfl, hb3⟩
        replace D1 := D1.next hb3
        replace D2 := D2.next hb3
        replace hab := Below.next hab hb3
        clear c0 c1 c2 c3 c4 c5 c6 x0 x1 x2 x3 x4
        have c0 := D1.c 0 rfl
        have c1 := D1.c 1 rfl
        have c2 := D1.c 2 rfl
        have c3 := D1.c 3 rfl
        have c4 := D1.c 4 rfl
        have c5 := D1.c 5 rfl
        have c6 := D1.c 6 rfl
        have x0 := D2.c 0 rfl
        have x1 := D2.c 1 rfl
        have x2 := D2.c 2 rfl
        have x3 := D2.c 3 rfl
        have x4 := D2.c 4 rfl
        go_wp2_with fail
        refine (cS _ hab).mono ?_
        rintro e w4 ⟨rfl, hb4⟩
        go_wp2_with fail
        go_ret
        exact ⟨rfl, Below.next hab hb4⟩
    · have dq : (q != k) = true := by simpa using hq
      rw [if_neg (fun h => hq h.2.1)]
      clear cS cI hq
      go_enter Tryz.func74, Tryz.ntmps74
      go_wp2_with fail
      refine (cP _ hab).mono ?_
      rintro e w2 ⟨rfl, hb2⟩
      replace D1 := D1.next hb2
      replace D2 := D2.next hb2
      replace hab := Below.next hab hb2
      have c0 := D1.c 0 rfl
      have c1 := D1.c 1 rfl
      have c2 := D1.c 2 rfl
      have c3 := D1.c 3 rfl
      have c4 := D1.c 4 rfl
      have c5 := D1.c 5 rfl
      have c6 := D1.c 6 rfl
      have x0 := D2.c 0 rfl
      have x1 := D2.c 1 rfl
      have x2 := D2.c 2 rfl
      have x3 := D2.c 3 rfl
      have x4 := D2.c 4 rfl
      go_wp2_with fail
      go_ret
      exact ⟨rfl, hab⟩
set_option maxRecDepth 100000 in
set_option maxHeartbeats 8000000 in
theorem admit_list (ver : Int) (E : Option Addr) (e1 e2 : Nat) (F : Option Addr) (f1 f2 : Nat) (k s : Int) (nm : ByteArray) (G : Option Addr) (g1 g2 : Nat) (q n : Int) (st : List UInt8) (A : Option Addr) (a1 a2 : Nat) (B : Option Addr) (b1 b2 : Nat) (p : Bool) (r : Int) (w : World)
    (cP : ∀ W, Below w.heap.size w W → Calls Tryz.prog 32 #[.agg #[.int .i64 ver, .slice E e1 e2, .slice F f1 f2], .agg #[.int .i64 k, .int .i64 s, .string nm, .slice G g1 g2]] W (Ib (.bool p) W))
    (cS : p = true → q = k → pur q n st a1 b1 = true → ∀ W, Below w.heap.size w W → Calls Tryz.prog 79 #[.agg #[.int .i64 ver, .slice E e1 e2, .slice F f1 f2, .int .i64 k, .int .i64 s, .string nm, .slice G g1 g2], .agg #[.int .i64 q, .int .i64 n, .string (bs st), .slice A a1 a2, .slice B b1 b2]] W (Ib (.int .i64 r) W)) :
    Calls Tryz.prog 74 #[.agg #[.int .i64 ver, .slice E e1 e2, .slice F f1 f2, .int .i64 k, .int .i64 s, .string nm, .slice G g1 g2], .agg #[.int .i64 q, .int .i64 n, .string (bs st), .slice A a1 a2, .slice B b1 b2], .func (.func 79) #[.agg #[.int .i64 ver, .slice E e1 e2, .slice F f1 f2, .int .i64 k, .int .i64 s, .string nm, .slice G g1 g2]] #[]] w (Ib (.int .i64 (if p = true ∧ q = k ∧ pur q n st a1 b1 = true then r else 13)) w) := by
  have cI := fun W => isPure_any q n st A a1 a2 B b1 b2 W
  have D1 := (Bx.new7 w 81 (.int .i64 ver) (.slice E e1 e2) (.slice F f1 f2) (.int .i64 k) (.int .i64 s) (.string nm) (.slice G g1 g2)).next (ab1 _ (Obj.cells #[.int .i64 q, .int .i64 n, .string (bs st), .slice A a1 a2, .slice B b1 b2] 34))
  have D2 := Bx.new5 (w.alloc (Obj.cells #[.int .i64 ver, .slice E e1 e2, .slice F f1 f2, .int .i64 k, .int .i64 s, .string nm, .slice G g1 g2] 81)) 34 (.int .i64 q) (.int .i64 n) (.string (bs st)) (.slice A a1 a2) (.slice B b1 b2)
  have hab := ab2 w (Obj.cells #[.int .i64 ver, .slice E e1 e2, .slice F f1 f2, .int .i64 k, .int .i64 s, .string nm, .slice G g1 g2] 81) (Obj.cells #[.int .i64 q, .int .i64 n, .string (bs st), .slice A a1 a2, .slice B b1 b2] 34)
  rw [show (w.alloc (Obj.cells #[.int .i64 ver, .slice E e1 e2, .slice F f1 f2, .int .i64 k, .int .i64 s, .string nm, .slice G g1 g2] 81)).heap.size = w.heap.size + 1 by simp] at D2
  generalize pur q n st a1 b1 = u at *
  cases p with
  | false =>
    rw [if_neg (fun h => by cases h.1)]
    clear cS cI
    go_enter Tryz.func74, Tryz.ntmps74
    go_wp2_with fail
    refine (cP _ hab).mono ?_
    rintro e w2 ⟨rfl, hb2⟩
    replace D1 := D1.next hb2
    replace D2 := D2.next hb2
    replace hab := Below.next hab hb2
    have c0 := D1.c 0 rfl
    have c1 := D1.c 1 rfl
    have c2 := D1.c 2 rfl
    have c3 := D1.c 3 rfl
    have c4 := D1.c 4 rfl
    have c5 := D1.c 5 rfl
    have c6 := D1.c 6 rfl
    have x0 := D2.c 0 rfl
    have x1 := D2.c 1 rfl
    have x2 := D2.c 2 rfl
    have x3 := D2.c 3 rfl
    have x4 := D2.c 4 rfl
    go_wp2_with fail
    go_ret
    exact ⟨rfl, hab⟩
  | true =>
    by_cases hq : q = k
    · subst hq
      have dq : (q != q) = false := by simp
      cases u with
      | false =>
        rw [if_neg (fun h => by cases h.2.2)]
        clear cS
        go_enter Tryz.func74, Tryz.ntmps74
        go_wp2_with fail
        refine (cP _ hab).mono ?_
        rintro e w2 ⟨rfl, hb2⟩
        replace D1 := D1.next hb2
        replace D2 := D2.next hb2
        replace hab := Below.next hab hb2
        have c0 := D1.c 0 rfl
        have c1 := D1.c 1 rfl
        have c2 := D1.c 2 rfl
        have c3 := D1.c 3 rfl
        have c4 := D1.c 4 rfl
        have c5 := D1.c 5 rfl
        have c6 := D1.c 6 rfl
        have x0 := D2.c 0 rfl
        have x1 := D2.c 1 rfl
        have x2 := D2.c 2 rfl
        have x3 := D2.c 3 rfl
        have x4 := D2.c 4 rfl
        go_wp2_with fail
        refine (cI _).mono ?_
        rintro e w3 ⟨rfl, hb3⟩
        replace D1 := D1.next hb3
        replace D2 := D2.next hb3
        replace hab := Below.next hab hb3
        clear c0 c1 c2 c3 c4 c5 c6 x0 x1 x2 x3 x4
        have c0 := D1.c 0 rfl
        have c1 := D1.c 1 rfl
        have c2 := D1.c 2 rfl
        have c3 := D1.c 3 rfl
        have c4 := D1.c 4 rfl
        have c5 := D1.c 5 rfl
        have c6 := D1.c 6 rfl
        have x0 := D2.c 0 rfl
        have x1 := D2.c 1 rfl
        have x2 := D2.c 2 rfl
        have x3 := D2.c 3 rfl
        have x4 := D2.c 4 rfl
        go_wp2_with fail
        go_ret
        exact ⟨rfl, hab⟩
      | true =>
        rw [if_pos ⟨rfl, rfl, rfl⟩]
        replace cS := cS rfl rfl rfl
        go_enter Tryz.func74, Tryz.ntmps74
        go_wp2_with fail
        refine (cP _ hab).mono ?_
        rintro e w2 ⟨rfl, hb2⟩
        replace D1 := D1.next hb2
        replace D2 := D2.next hb2
        replace hab := Below.next hab hb2
        have c0 := D1.c 0 rfl
        have c1 := D1.c 1 rfl
        have c2 := D1.c 2 rfl
        have c3 := D1.c 3 rfl
        have c4 := D1.c 4 rfl
        have c5 := D1.c 5 rfl
        have c6 := D1.c 6 rfl
        have x0 := D2.c 0 rfl
        have x1 := D2.c 1 rfl
        have x2 := D2.c 2 rfl
        have x3 := D2.c 3 rfl
        have x4 := D2.c 4 rfl
        go_wp2_with fail
        refine (cI _).mono ?_
        rintro e w3 ⟨rfl, hb3⟩
        replace D1 := D1.next hb3
        replace D2 := D2.next hb3
        replace hab := Below.next hab hb3
        clear c0 c1 c2 c3 c4 c5 c6 x0 x1 x2 x3 x4
        have c0 := D1.c 0 rfl
        have c1 := D1.c 1 rfl
        have c2 := D1.c 2 rfl
        have c3 := D1.c 3 rfl
        have c4 := D1.c 4 rfl
        have c5 := D1.c 5 rfl
        have c6 := D1.c 6 rfl
        have x0 := D2.c 0 rfl
        have x1 := D2.c 1 rfl
        have x2 := D2.c 2 rfl
        have x3 := D2.c 3 rfl
        have x4 := D2.c 4 rfl
        go_wp2_with fail
        refine (cS _ hab).mono ?_
        rintro e w4 ⟨rfl, hb4⟩
        go_wp2_with fail
        go_ret
        exact ⟨rfl, Below.next hab hb4⟩
    · have dq : (q != k) = true := by simpa using hq
      rw [if_neg (fun h => hq h.2.1)]
      clear cS cI hq
      go_enter Tryz.func74, Tryz.ntmps74
      go_wp2_with fail
      refine (cP _ hab).mono ?_
      rintro e w2 ⟨rfl, hb2⟩
      replace D1 := D1.next hb2
      replace D2 := D2.next hb2
      replace hab := Below.next hab hb2
      have c0 := D1.c 0 rfl
      have c1 := D1.c 1 rfl
      have c2 := D1.c 2 rfl
      have c3 := D1.c 3 rfl
      have c4 := D1.c 4 rfl
      have c5 := D1.c 5 rfl
      have c6 := D1.c 6 rfl
      have x0 := D2.c 0 rfl
      have x1 := D2.c 1 rfl
      have x2 := D2.c 2 rfl
      have x3 := D2.c 3 rfl
      have x4 := D2.c 4 rfl
      go_wp2_with fail
      go_ret
      exact ⟨rfl, hab⟩
set_option maxRecDepth 100000 in
set_option maxHeartbeats 8000000 in
theorem admit_structure (ver : Int) (E : Option Addr) (e1 e2 : Nat) (F : Option Addr) (f1 f2 : Nat) (k s : Int) (nm : ByteArray) (G : Option Addr) (g1 g2 : Nat) (q n : Int) (st : List UInt8) (A : Option Addr) (a1 a2 : Nat) (B : Option Addr) (b1 b2 : Nat) (p : Bool) (r : Int) (w : World)
    (cP : ∀ W, Below w.heap.size w W → Calls Tryz.prog 32 #[.agg #[.int .i64 ver, .slice E e1 e2, .slice F f1 f2], .agg #[.int .i64 k, .int .i64 s, .string nm, .slice G g1 g2]] W (Ib (.bool p) W))
    (cS : p = true → q = k → pur q n st a1 b1 = true → ∀ W, Below w.heap.size w W → Calls Tryz.prog 80 #[.agg #[.int .i64 ver, .slice E e1 e2, .slice F f1 f2, .int .i64 k, .int .i64 s, .string nm, .slice G g1 g2], .agg #[.int .i64 q, .int .i64 n, .string (bs st), .slice A a1 a2, .slice B b1 b2]] W (Ib (.int .i64 r) W)) :
    Calls Tryz.prog 74 #[.agg #[.int .i64 ver, .slice E e1 e2, .slice F f1 f2, .int .i64 k, .int .i64 s, .string nm, .slice G g1 g2], .agg #[.int .i64 q, .int .i64 n, .string (bs st), .slice A a1 a2, .slice B b1 b2], .func (.func 80) #[.agg #[.int .i64 ver, .slice E e1 e2, .slice F f1 f2, .int .i64 k, .int .i64 s, .string nm, .slice G g1 g2]] #[]] w (Ib (.int .i64 (if p = true ∧ q = k ∧ pur q n st a1 b1 = true then r else 13)) w) := by
  have cI := fun W => isPure_any q n st A a1 a2 B b1 b2 W
  have D1 := (Bx.new7 w 81 (.int .i64 ver) (.slice E e1 e2) (.slice F f1 f2) (.int .i64 k) (.int .i64 s) (.string nm) (.slice G g1 g2)).next (ab1 _ (Obj.cells #[.int .i64 q, .int .i64 n, .string (bs st), .slice A a1 a2, .slice B b1 b2] 34))
  have D2 := Bx.new5 (w.alloc (Obj.cells #[.int .i64 ver, .slice E e1 e2, .slice F f1 f2, .int .i64 k, .int .i64 s, .string nm, .slice G g1 g2] 81)) 34 (.int .i64 q) (.int .i64 n) (.string (bs st)) (.slice A a1 a2) (.slice B b1 b2)
  have hab := ab2 w (Obj.cells #[.int .i64 ver, .slice E e1 e2, .slice F f1 f2, .int .i64 k, .int .i64 s, .string nm, .slice G g1 g2] 81) (Obj.cells #[.int .i64 q, .int .i64 n, .string (bs st), .slice A a1 a2, .slice B b1 b2] 34)
  rw [show (w.alloc (Obj.cells #[.int .i64 ver, .slice E e1 e2, .slice F f1 f2, .int .i64 k, .int .i64 s, .string nm, .slice G g1 g2] 81)).heap.size = w.heap.size + 1 by simp] at D2
  generalize pur q n st a1 b1 = u at *
  cases p with
  | false =>
    rw [if_neg (fun h => by cases h.1)]
    clear cS cI
    go_enter Tryz.func74, Tryz.ntmps74
    go_wp2_with fail
    refine (cP _ hab).mono ?_
    rintro e w2 ⟨rfl, hb2⟩
    replace D1 := D1.next hb2
    replace D2 := D2.next hb2
    replace hab := Below.next hab hb2
    have c0 := D1.c 0 rfl
    have c1 := D1.c 1 rfl
    have c2 := D1.c 2 rfl
    have c3 := D1.c 3 rfl
    have c4 := D1.c 4 rfl
    have c5 := D1.c 5 rfl
    have c6 := D1.c 6 rfl
    have x0 := D2.c 0 rfl
    have x1 := D2.c 1 rfl
    have x2 := D2.c 2 rfl
    have x3 := D2.c 3 rfl
    have x4 := D2.c 4 rfl
    go_wp2_with fail
    go_ret
    exact ⟨rfl, hab⟩
  | true =>
    by_cases hq : q = k
    · subst hq
      have dq : (q != q) = false := by simp
      cases u with
      | false =>
        rw [if_neg (fun h => by cases h.2.2)]
        clear cS
        go_enter Tryz.func74, Tryz.ntmps74
        go_wp2_with fail
        refine (cP _ hab).mono ?_
        rintro e w2 ⟨rfl, hb2⟩
        replace D1 := D1.next hb2
        replace D2 := D2.next hb2
        replace hab := Below.next hab hb2
        have c0 := D1.c 0 rfl
        have c1 := D1.c 1 rfl
        have c2 := D1.c 2 rfl
        have c3 := D1.c 3 rfl
        have c4 := D1.c 4 rfl
        have c5 := D1.c 5 rfl
        have c6 := D1.c 6 rfl
        have x0 := D2.c 0 rfl
        have x1 := D2.c 1 rfl
        have x2 := D2.c 2 rfl
        have x3 := D2.c 3 rfl
        have x4 := D2.c 4 rfl
        go_wp2_with fail
        refine (cI _).mono ?_
        rintro e w3 ⟨rfl, hb3⟩
        replace D1 := D1.next hb3
        replace D2 := D2.next hb3
        replace hab := Below.next hab hb3
        clear c0 c1 c2 c3 c4 c5 c6 x0 x1 x2 x3 x4
        have c0 := D1.c 0 rfl
        have c1 := D1.c 1 rfl
        have c2 := D1.c 2 rfl
        have c3 := D1.c 3 rfl
        have c4 := D1.c 4 rfl
        have c5 := D1.c 5 rfl
        have c6 := D1.c 6 rfl
        have x0 := D2.c 0 rfl
        have x1 := D2.c 1 rfl
        have x2 := D2.c 2 rfl
        have x3 := D2.c 3 rfl
        have x4 := D2.c 4 rfl
        go_wp2_with fail
        go_ret
        exact ⟨rfl, hab⟩
      | true =>
        rw [if_pos ⟨rfl, rfl, rfl⟩]
        replace cS := cS rfl rfl rfl
        go_enter Tryz.func74, Tryz.ntmps74
        go_wp2_with fail
        refine (cP _ hab).mono ?_
        rintro e w2 ⟨rfl, hb2⟩
        replace D1 := D1.next hb2
        replace D2 := D2.next hb2
        replace hab := Below.next hab hb2
        have c0 := D1.c 0 rfl
        have c1 := D1.c 1 rfl
        have c2 := D1.c 2 rfl
        have c3 := D1.c 3 rfl
        have c4 := D1.c 4 rfl
        have c5 := D1.c 5 rfl
        have c6 := D1.c 6 rfl
        have x0 := D2.c 0 rfl
        have x1 := D2.c 1 rfl
        have x2 := D2.c 2 rfl
        have x3 := D2.c 3 rfl
        have x4 := D2.c 4 rfl
        go_wp2_with fail
        refine (cI _).mono ?_
        rintro e w3 ⟨rfl, hb3⟩
        replace D1 := D1.next hb3
        replace D2 := D2.next hb3
        replace hab := Below.next hab hb3
        clear c0 c1 c2 c3 c4 c5 c6 x0 x1 x2 x3 x4
        have c0 := D1.c 0 rfl
        have c1 := D1.c 1 rfl
        have c2 := D1.c 2 rfl
        have c3 := D1.c 3 rfl
        have c4 := D1.c 4 rfl
        have c5 := D1.c 5 rfl
        have c6 := D1.c 6 rfl
        have x0 := D2.c 0 rfl
        have x1 := D2.c 1 rfl
        have x2 := D2.c 2 rfl
        have x3 := D2.c 3 rfl
        have x4 := D2.c 4 rfl
        go_wp2_with fail
        refine (cS _ hab).mono ?_
        rintro e w4 ⟨rfl, hb4⟩
        go_wp2_with fail
        go_ret
        exact ⟨rfl, Below.next hab hb4⟩
    · have dq : (q != k) = true := by simpa using hq
      rw [if_neg (fun h => hq h.2.1)]
      clear cS cI hq
      go_enter Tryz.func74, Tryz.ntmps74
      go_wp2_with fail
      refine (cP _ hab).mono ?_
      rintro e w2 ⟨rfl, hb2⟩
      replace D1 := D1.next hb2
      replace D2 := D2.next hb2
      replace hab := Below.next hab hb2
      have c0 := D1.c 0 rfl
      have c1 := D1.c 1 rfl
      have c2 := D1.c 2 rfl
      have c3 := D1.c 3 rfl
      have c4 := D1.c 4 rfl
      have c5 := D1.c 5 rfl
      have c6 := D1.c 6 rfl
      have x0 := D2.c 0 rfl
      have x1 := D2.c 1 rfl
      have x2 := D2.c 2 rfl
      have x3 := D2.c 3 rfl
      have x4 := D2.c 4 rfl
      go_wp2_with fail
      go_ret
      exact ⟨rfl, hab⟩
set_option maxRecDepth 100000 in
set_option maxHeartbeats 8000000 in
theorem admit_enum (ver : Int) (E : Option Addr) (e1 e2 : Nat) (F : Option Addr) (f1 f2 : Nat) (k s : Int) (nm : ByteArray) (G : Option Addr) (g1 g2 : Nat) (q n : Int) (st : List UInt8) (A : Option Addr) (a1 a2 : Nat) (B : Option Addr) (b1 b2 : Nat) (p : Bool) (r : Int) (w : World)
    (cP : ∀ W, Below w.heap.size w W → Calls Tryz.prog 32 #[.agg #[.int .i64 ver, .slice E e1 e2, .slice F f1 f2], .agg #[.int .i64 k, .int .i64 s, .string nm, .slice G g1 g2]] W (Ib (.bool p) W))
    (cS : p = true → q = k → pur q n st a1 b1 = true → ∀ W, Below w.heap.size w W → Calls Tryz.prog 81 #[.agg #[.int .i64 ver, .slice E e1 e2, .slice F f1 f2, .int .i64 k, .int .i64 s, .string nm, .slice G g1 g2], .agg #[.int .i64 q, .int .i64 n, .string (bs st), .slice A a1 a2, .slice B b1 b2]] W (Ib (.int .i64 r) W)) :
    Calls Tryz.prog 74 #[.agg #[.int .i64 ver, .slice E e1 e2, .slice F f1 f2, .int .i64 k, .int .i64 s, .string nm, .slice G g1 g2], .agg #[.int .i64 q, .int .i64 n, .string (bs st), .slice A a1 a2, .slice B b1 b2], .func (.func 81) #[.agg #[.int .i64 ver, .slice E e1 e2, .slice F f1 f2, .int .i64 k, .int .i64 s, .string nm, .slice G g1 g2]] #[]] w (Ib (.int .i64 (if p = true ∧ q = k ∧ pur q n st a1 b1 = true then r else 13)) w) := by
  have cI := fun W => isPure_any q n st A a1 a2 B b1 b2 W
  have D1 := (Bx.new7 w 81 (.int .i64 ver) (.slice E e1 e2) (.slice F f1 f2) (.int .i64 k) (.int .i64 s) (.string nm) (.slice G g1 g2)).next (ab1 _ (Obj.cells #[.int .i64 q, .int .i64 n, .string (bs st), .slice A a1 a2, .slice B b1 b2] 34))
  have D2 := Bx.new5 (w.alloc (Obj.cells #[.int .i64 ver, .slice E e1 e2, .slice F f1 f2, .int .i64 k, .int .i64 s, .string nm, .slice G g1 g2] 81)) 34 (.int .i64 q) (.int .i64 n) (.string (bs st)) (.slice A a1 a2) (.slice B b1 b2)
  have hab := ab2 w (Obj.cells #[.int .i64 ver, .slice E e1 e2, .slice F f1 f2, .int .i64 k, .int .i64 s, .string nm, .slice G g1 g2] 81) (Obj.cells #[.int .i64 q, .int .i64 n, .string (bs st), .slice A a1 a2, .slice B b1 b2] 34)
  rw [show (w.alloc (Obj.cells #[.int .i64 ver, .slice E e1 e2, .slice F f1 f2, .int .i64 k, .int .i64 s, .string nm, .slice G g1 g2] 81)).heap.size = w.heap.size + 1 by simp] at D2
  generalize pur q n st a1 b1 = u at *
  cases p with
  | false =>
    rw [if_neg (fun h => by cases h.1)]
    clear cS cI
    go_enter Tryz.func74, Tryz.ntmps74
    go_wp2_with fail
    refine (cP _ hab).mono ?_
    rintro e w2 ⟨rfl, hb2⟩
    replace D1 := D1.next hb2
    replace D2 := D2.next hb2
    replace hab := Below.next hab hb2
    have c0 := D1.c 0 rfl
    have c1 := D1.c 1 rfl
    have c2 := D1.c 2 rfl
    have c3 := D1.c 3 rfl
    have c4 := D1.c 4 rfl
    have c5 := D1.c 5 rfl
    have c6 := D1.c 6 rfl
    have x0 := D2.c 0 rfl
    have x1 := D2.c 1 rfl
    have x2 := D2.c 2 rfl
    have x3 := D2.c 3 rfl
    have x4 := D2.c 4 rfl
    go_wp2_with fail
    go_ret
    exact ⟨rfl, hab⟩
  | true =>
    by_cases hq : q = k
    · subst hq
      have dq : (q != q) = false := by simp
      cases u with
      | false =>
        rw [if_neg (fun h => by cases h.2.2)]
        clear cS
        go_enter Tryz.func74, Tryz.ntmps74
        go_wp2_with fail
        refine (cP _ hab).mono ?_
        rintro e w2 ⟨rfl, hb2⟩
        replace D1 := D1.next hb2
        replace D2 := D2.next hb2
        replace hab := Below.next hab hb2
        have c0 := D1.c 0 rfl
        have c1 := D1.c 1 rfl
        have c2 := D1.c 2 rfl
        have c3 := D1.c 3 rfl
        have c4 := D1.c 4 rfl
        have c5 := D1.c 5 rfl
        have c6 := D1.c 6 rfl
        have x0 := D2.c 0 rfl
        have x1 := D2.c 1 rfl
        have x2 := D2.c 2 rfl
        have x3 := D2.c 3 rfl
        have x4 := D2.c 4 rfl
        go_wp2_with fail
        refine (cI _).mono ?_
        rintro e w3 ⟨rfl, hb3⟩
        replace D1 := D1.next hb3
        replace D2 := D2.next hb3
        replace hab := Below.next hab hb3
        clear c0 c1 c2 c3 c4 c5 c6 x0 x1 x2 x3 x4
        have c0 := D1.c 0 rfl
        have c1 := D1.c 1 rfl
        have c2 := D1.c 2 rfl
        have c3 := D1.c 3 rfl
        have c4 := D1.c 4 rfl
        have c5 := D1.c 5 rfl
        have c6 := D1.c 6 rfl
        have x0 := D2.c 0 rfl
        have x1 := D2.c 1 rfl
        have x2 := D2.c 2 rfl
        have x3 := D2.c 3 rfl
        have x4 := D2.c 4 rfl
        go_wp2_with fail
        go_ret
        exact ⟨rfl, hab⟩
      | true =>
        rw [if_pos ⟨rfl, rfl, rfl⟩]
        replace cS := cS rfl rfl rfl
        go_enter Tryz.func74, Tryz.ntmps74
        go_wp2_with fail
        refine (cP _ hab).mono ?_
        rintro e w2 ⟨rfl, hb2⟩
        replace D1 := D1.next hb2
        replace D2 := D2.next hb2
        replace hab := Below.next hab hb2
        have c0 := D1.c 0 rfl
        have c1 := D1.c 1 rfl
        have c2 := D1.c 2 rfl
        have c3 := D1.c 3 rfl
        have c4 := D1.c 4 rfl
        have c5 := D1.c 5 rfl
        have c6 := D1.c 6 rfl
        have x0 := D2.c 0 rfl
        have x1 := D2.c 1 rfl
        have x2 := D2.c 2 rfl
        have x3 := D2.c 3 rfl
        have x4 := D2.c 4 rfl
        go_wp2_with fail
        refine (cI _).mono ?_
        rintro e w3 ⟨rfl, hb3⟩
        replace D1 := D1.next hb3
        replace D2 := D2.next hb3
        replace hab := Below.next hab hb3
        clear c0 c1 c2 c3 c4 c5 c6 x0 x1 x2 x3 x4
        have c0 := D1.c 0 rfl
        have c1 := D1.c 1 rfl
        have c2 := D1.c 2 rfl
        have c3 := D1.c 3 rfl
        have c4 := D1.c 4 rfl
        have c5 := D1.c 5 rfl
        have c6 := D1.c 6 rfl
        have x0 := D2.c 0 rfl
        have x1 := D2.c 1 rfl
        have x2 := D2.c 2 rfl
        have x3 := D2.c 3 rfl
        have x4 := D2.c 4 rfl
        go_wp2_with fail
        refine (cS _ hab).mono ?_
        rintro e w4 ⟨rfl, hb4⟩
        go_wp2_with fail
        go_ret
        exact ⟨rfl, Below.next hab hb4⟩
    · have dq : (q != k) = true := by simpa using hq
      rw [if_neg (fun h => hq h.2.1)]
      clear cS cI hq
      go_enter Tryz.func74, Tryz.ntmps74
      go_wp2_with fail
      refine (cP _ hab).mono ?_
      rintro e w2 ⟨rfl, hb2⟩
      replace D1 := D1.next hb2
      replace D2 := D2.next hb2
      replace hab := Below.next hab hb2
      have c0 := D1.c 0 rfl
      have c1 := D1.c 1 rfl
      have c2 := D1.c 2 rfl
      have c3 := D1.c 3 rfl
      have c4 := D1.c 4 rfl
      have c5 := D1.c 5 rfl
      have c6 := D1.c 6 rfl
      have x0 := D2.c 0 rfl
      have x1 := D2.c 1 rfl
      have x2 := D2.c 2 rfl
      have x3 := D2.c 3 rfl
      have x4 := D2.c 4 rfl
      go_wp2_with fail
      go_ret
      exact ⟨rfl, hab⟩
end Go.Proofs.YthfodpbecddheaaGreatDoor


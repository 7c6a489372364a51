/-
  The developers' Enum. No conditions beyond those that each names.
-/
import Derived.Test.YthbhbpcjcnkkkaaGreatDoorM16
import Derived.Test.YthbhbpcjcnkkkaaGreatDoorM17
import Derived.Test.YthbhbpcjcnkkkaaGreatDoorM19
import Derived.Test.YthbhbpcjcnkkkaaGreatDoorM22
import Derived.Test.YthbhbpcjcnkkkaaGreatDoorM18
namespace Go.Proofs.YthbhbpcjcnkkkaaGreatDoor
open Go.RowKit Go.Shelf
theorem few_T {S : Sch} (h : few S = true) : ∀ t ∈ S.structs, t.fields.length ≤ 1000 ∧ ∀ f ∈ t.fields, fewT f.type = true := by
  unfold few at h
  simp only [Bool.and_eq_true, decide_eq_true_eq, List.all_eq_true] at h
  intro t ht
  have h := h.2.2.2 t ht
  unfold fewS at h
  simp only [Bool.and_eq_true, decide_eq_true_eq, List.all_eq_true] at h
  refine ⟨Nat.le_trans h.2.1 (by decide), fun f hf => ?_⟩
  have h := h.2.2 f hf
  unfold fewF at h
  simp only [Bool.and_eq_true] at h
  exact h.2
/-- Elements of one cell in new memory. -/
def SlN {α : Type} (P : World → α → Addr → Prop) (lo : Nat) (w : World) (l : List α) (A : Option Addr) : Prop := ∀ w', Kpl lo w w' → Rw P 1 w' l A
theorem SlN.next {α : Type} {P : World → α → Addr → Prop} {lo : Nat} {w w' : World} {l : List α} {A : Option Addr} (h : SlN P lo w l A) (k : Kpl lo w w') : SlN P lo w' l A := fun w2 k2 => h w2 (k.trans k2)
theorem SlN.rw_ {α : Type} {P : World → α → Addr → Prop} {lo : Nat} {w : World} {l : List α} {A : Option Addr} (h : SlN P lo w l A) : Rw P 1 w l A := h w ⟨Nat.le_refl _, fun _ _ _ => rfl⟩
theorem SlN.low {α : Type} {P : World → α → Addr → Prop} {lo hi : Nat} {w : World} {l : List α} {A : Option Addr} (h : SlN P hi w l A) (hl : lo ≤ hi) : SlN P lo w l A := fun w2 k2 => h w2 (k2.mono hl)
theorem slN_of {α : Type} {P : World → α → Addr → Prop} {enc : α → Value} (hP : ∀ w x p, P w x p ↔ w.cell? p = some (enc x)) {w : World} {lo : Nat} {e : TypeId} {v : Value} {l : List α} (h : w.ownsRow lo e 1 v l.length (l.map enc)) : ∃ A c, v = .slice A l.length c ∧ SlN P lo w l A := by
  have h0 := h
  unfold World.ownsRow at h0
  rcases h0.2 with ⟨rfl, h1⟩ | ⟨g, cap, cur, rfl, h2, h3, h4⟩
  · exact ⟨none, 0, by rw [h1], fun _ _ => .inl (List.eq_nil_of_length_eq_zero h1)⟩
  · refine ⟨_, cap, rfl, fun w2 k => .inr ⟨_, rfl, fun i hi => (hP _ _ _).2 ?_⟩⟩
    have ho : w2.ownsRow lo e 1 (.slice (some ⟨g, 0, none⟩) l.length cap) l.length (l.map enc) := by
      unfold World.ownsRow
      refine ⟨h0.1, .inr ⟨g, cap, cur, rfl, h2, ?_, h4⟩⟩
      rw [k.blk g h2 (Array.getElem?_eq_some_iff.1 h3).1]
      exact h3
    rw [Nat.mul_one]
    exact World.ownsRow.cells ho (g := g) rfl i _ (by rw [List.getElem?_map, List.getElem?_eq_getElem hi]; rfl)
def CnP {α : Type} (P : World → α → Addr → Prop) (l : List α) (w : World) (e : Ending) (w' : World) : Prop := ∃ A c, e = .returned (.slice A l.length c) ∧ SlN P w.heap.size w' l A ∧ Below w.heap.size w w'
def FCl {α : Type} (P : World → α → Addr → Prop) (l : List α) (W0 : World) : Fact := ⟨fun v w' => ∃ A c, v = .slice A l.length c ∧ SlN P W0.heap.size w' l A ∧ Below W0.heap.size W0 w', fun _ _ _ ⟨A, c, h1, h2, h3⟩ hb => ⟨A, c, h1, h2.next (Kpl.of hb), upG h3 hb⟩⟩
theorem infoNms : (Tryz.prog.info? 9).map (fun i => (i.zero, i.size, i.bytes)) = some (some (.string ⟨#[]⟩), 1, 16) := by kernel_rfl
set_option maxRecDepth 100000 in
set_option maxHeartbeats 2000000 in
theorem cloneNms_any (l : List (List UInt8)) (A : Option Addr) (c : Nat) (w : World) (hl : l.length ≤ 1000000) (hR : Rw TyN 1 w l A) :
    Calls Tryz.prog 47 #[.slice A l.length c] w (CnP TyN l w) := by
  obtain ⟨i, hi, hz, hs5, hby⟩ := info_parts infoNms
  by_cases h0 : l = []
  · subst h0
    cases A with
    | none => exact (AnyE.slices_Clone_nil Tryz.clone47 0 c w).mono fun e w' ⟨h1, h2⟩ => ⟨none, 0, h1, fun _ _ => .inl rfl, by rw [h2]; exact Below.refl _ _⟩
    | some a =>
      have q22 : ∀ (w : World) (a : Option Addr) (n c n' c' : Nat), (binOp .eql 35 (.slice a n c) (.slice none n' c')).run Tryz.prog w = .ok (.bool a.isNone) w := fun w a n c n' c' => Lib.run_eql_slice_nil w _ _ a n c n' c' Tryz.underlying35
      go_enter Tryz.func47, Tryz.ntmps47
      go_wp2_with (at_builtin; refine wpList_append_own _ rfl _ _ 35 rfl w.heap.size 9 i _ 1 16 Tryz.underlying35 hi hz hs5 hby rfl (by decide) _ _ _ rfl (World.ownsRow_made w #[] 0 (Nat.le_refl _) (Nat.zero_le _) rfl) a 0 c [] rfl rfl (by intro j u hj; simp at hj) (by intro u hu; cases hu) (by unfold maxLen; omega) (by omega) (by simp) ?_)
      intro v' w1 hown hgrow hnil
      go_wp2
      go_ret
      have ho : w1.ownsRow w.heap.size 9 1 v' ([] : List (List UInt8)).length (([] : List (List UInt8)).map (fun x => Value.string (bs x))) := by simpa using hown
      obtain ⟨A', c', rfl, hS⟩ := slN_of (P := TyN) (fun _ _ _ => Iff.rfl) ho
      exact ⟨A', c', rfl, hS, ((Below.refl _ w).alloc (Nat.le_refl _) _).grown hgrow (by simp) (by intro k hk; simp [Value.ownBlock] at hk; omega)⟩
  · rcases hR with h | ⟨a, rfl, h⟩
    · exact absurd h h0
    · have h1 : 0 < l.length := List.length_pos_iff.2 h0
      have hs : a.spot = none := by
        have h2 : w.cell? (a.add (0 * 1)) = some ((fun x => Value.string (bs x)) (l[0]'h1)) := h 0 h1
        have := spot_none0 h2
        simpa [Addr.add] using this
      obtain ⟨b, off, s⟩ := a
      have hs : s = none := hs
      subst hs
      refine (AnyE.slices_Clone Tryz.clone47 i _ 1 16 hi hz hs5 hby rfl (by decide) Tryz.sizeOf9 b off l.length c (l.map (fun x => Value.string (bs x))) w (by simp) (by unfold maxLen; omega) (by omega) (fun j u hu => ?_) (fun u hu => ?_)).mono fun e w' ⟨v', e1, e2, _, e4⟩ => ?_
      · have hj : j < l.length := by
          have := (List.getElem?_eq_some_iff.1 hu).1
          simpa using this
        rw [List.getElem?_map, List.getElem?_eq_getElem hj] at hu
        have h2 : w.cell? ((⟨b, off, none⟩ : Addr).add (j * 1)) = some ((fun x => Value.string (bs x)) (l[j]'hj)) := h j hj
        rw [Nat.mul_one, Addr.add_lit] at h2
        rw [h2]
        exact hu
      · obtain ⟨x, -, rfl⟩ := List.mem_map.1 hu
        rfl
      · obtain ⟨A', c', rfl, hS⟩ := slN_of (P := TyN) (fun _ _ _ => Iff.rfl) e2
        exact ⟨A', c', e1, hS, e4⟩
theorem infoIns : (Tryz.prog.info? 3).map (fun i => (i.zero, i.size, i.bytes)) = some (some (.int .i64 0), 1, 8) := by kernel_rfl
set_option maxRecDepth 100000 in
set_option maxHeartbeats 2000000 in
theorem cloneIns_any (l : List Int) (A : Option Addr) (c : Nat) (w : World) (hl : l.length ≤ 1000000) (hR : Rw TyI 1 w l A) :
    Calls Tryz.prog 48 #[.slice A l.length c] w (CnP TyI l w) := by
  obtain ⟨i, hi, hz, hs5, hby⟩ := info_parts infoIns
  by_cases h0 : l = []
  · subst h0
    cases A with
    | none => exact (AnyE.slices_Clone_nil Tryz.clone48 0 c w).mono fun e w' ⟨h1, h2⟩ => ⟨none, 0, h1, fun _ _ => .inl rfl, by rw [h2]; exact Below.refl _ _⟩
    | some a =>
      have q22 : ∀ (w : World) (a : Option Addr) (n c n' c' : Nat), (binOp .eql 36 (.slice a n c) (.slice none n' c')).run Tryz.prog w = .ok (.bool a.isNone) w := fun w a n c n' c' => Lib.run_eql_slice_nil w _ _ a n c n' c' Tryz.underlying36
      go_enter Tryz.func48, Tryz.ntmps48
      go_wp2_with (at_builtin; refine wpList_append_own _ rfl _ _ 36 rfl w.heap.size 3 i _ 1 8 Tryz.underlying36 hi hz hs5 hby rfl (by decide) _ _ _ rfl (World.ownsRow_made w #[] 0 (Nat.le_refl _) (Nat.zero_le _) rfl) a 0 c [] rfl rfl (by intro j u hj; simp at hj) (by intro u hu; cases hu) (by unfold maxLen; omega) (by omega) (by simp) ?_)
      intro v' w1 hown hgrow hnil
      go_wp2
      go_ret
      have ho : w1.ownsRow w.heap.size 3 1 v' ([] : List Int).length (([] : List Int).map (fun x => Value.int .i64 x)) := by simpa using hown
      obtain ⟨A', c', rfl, hS⟩ := slN_of (P := TyI) (fun _ _ _ => Iff.rfl) ho
      exact ⟨A', c', rfl, hS, ((Below.refl _ w).alloc (Nat.le_refl _) _).grown hgrow (by simp) (by intro k hk; simp [Value.ownBlock] at hk; omega)⟩
  · rcases hR with h | ⟨a, rfl, h⟩
    · exact absurd h h0
    · have h1 : 0 < l.length := List.length_pos_iff.2 h0
      have hs : a.spot = none := by
        have h2 : w.cell? (a.add (0 * 1)) = some ((fun x => Value.int .i64 x) (l[0]'h1)) := h 0 h1
        have := spot_none0 h2
        simpa [Addr.add] using this
      obtain ⟨b, off, s⟩ := a
      have hs : s = none := hs
      subst hs
      refine (AnyE.slices_Clone Tryz.clone48 i _ 1 8 hi hz hs5 hby rfl (by decide) Tryz.sizeOf3 b off l.length c (l.map (fun x => Value.int .i64 x)) w (by simp) (by unfold maxLen; omega) (by omega) (fun j u hu => ?_) (fun u hu => ?_)).mono fun e w' ⟨v', e1, e2, _, e4⟩ => ?_
      · have hj : j < l.length := by
          have := (List.getElem?_eq_some_iff.1 hu).1
          simpa using this
        rw [List.getElem?_map, List.getElem?_eq_getElem hj] at hu
        have h2 : w.cell? ((⟨b, off, none⟩ : Addr).add (j * 1)) = some ((fun x => Value.int .i64 x) (l[j]'hj)) := h j hj
        rw [Nat.mul_one, Addr.add_lit] at h2
        rw [h2]
        exact hu
      · obtain ⟨x, -, rfl⟩ := List.mem_map.1 hu
        rfl
      · obtain ⟨A', c', rfl, hS⟩ := slN_of (P := TyI) (fun _ _ _ => Iff.rfl) e2
        exact ⟨A', c', e1, hS, e4⟩
set_option maxRecDepth 100000 in
set_option maxHeartbeats 8000000 in
theorem devEnum_any (S : Sch) (nm : List UInt8) (v : Value) (w : World) (hv : ScV w S v) (hn : S.enums.length ≤ 1000) (hfw : ∀ t ∈ S.enums, t.names.length ≤ 1000 ∧ t.nums.length ≤ 1000) :
    Calls Tryz.prog 15 #[v, .string (bs nm)] w (EnO (fst_ En.name S.enums nm) w) := by
  obtain ⟨A, c, A2, c2, rfl, hS⟩ := hv
  have hSs := hS.en
  clear hS
  obtain ⟨n, hn2⟩ : ∃ n, S.enums.length = n := ⟨_, rfl⟩
  obtain ⟨m, hm⟩ : ∃ m, S.structs.length = m := ⟨_, rfl⟩
  have HN := Lib.hid hn2
  rw [hn2] at hn
  rw [hm, hn2]
  clear hn2 hm
  have z1 : (w.alloc (Obj.cells #[.int .i64 S.ver, .slice A n c, .slice A2 m c2] 25)).heap.size = w.heap.size + 1 := by simp
  have B2 := Bx.new3 (w.alloc (Obj.cells #[.int .i64 S.ver, .slice A n c, .slice A2 m c2] 25)) 38 (.string ⟨#[]⟩) (.slice none 0 0) (.slice none 0 0)
  rw [z1] at B2
  have hab := ab2 w (Obj.cells #[.int .i64 S.ver, .slice A n c, .slice A2 m c2] 25) (Obj.cells #[.string ⟨#[]⟩, .slice none 0 0, .slice none 0 0] 38)
  have HI0 : Hid (∀ j (hj : j < S.enums.length), j < 0 → (S.enums[j]'hj).name ≠ nm) := Lib.hid fun j _ h => by omega
  clear z1
  go_enter Tryz.func15, Tryz.ntmps15
  go_wp2_with fail
  go_loopw [11] (fun i wr => ∃ k : Nat, k ≤ n ∧ i = .int .i64 (k : Int) ∧ Hid (∀ j (hj : j < S.enums.length), j < k → (S.enums[j]'hj).name ≠ nm) ∧ Bx wr (w.heap.size + 1) [.string ⟨#[]⟩, .slice none 0 0, .slice none 0 0] ∧ Below w.heap.size w wr) (fun i _ => n - (intOf i).toNat)
  case atStart => exact ⟨0, by omega, rfl, HI0, B2, hab⟩
  case round =>
    obtain ⟨k, hk, rfl, hI, C2, hb⟩ := hrel
    clear HI0 B2 hab
    have r0 := C2.c 0 rfl
    have r1 := C2.c 1 rfl
    have r2 := C2.c 2 rfl
    have s0 := C2.f 0 rfl
    have s1 := C2.f 1 rfl
    have s2 := C2.f 2 rfl
    have l2 := C2.lt
    by_cases hlt : k < n
    · have hkm : k < S.enums.length := by rw [HN.out]; exact hlt
      obtain ⟨a, rfl, hA⟩ := hSs.get (i := k) hkm
      obtain ⟨A3, c3, A4, c4, h0, h1, h2, hV⟩ := hA.val
      replace h0 := cell_next hb h0
      replace h1 := cell_next hb h1
      replace h2 := cell_next hb h2
      have hblk : (a.add (k * 3)).block < wr.heap.size := blk_lt h0
      have hx : (S.enums[k]'hkm).name = nm → fst_ En.name S.enums nm = some (S.enums[k]'hkm) := fun e => fst_at hkm hI.out e
      have hy : (S.enums[k]'hkm).name ≠ nm → ∀ j (hj : j < S.enums.length), j < k + 1 → (S.enums[j]'hj).name ≠ nm := fun e j hj hjk => by
        by_cases hjk2 : j < k
        · exact hI.out j hj hjk2
        · obtain rfl : j = k := by omega
          exact e
      obtain ⟨g1, g2⟩ := hfw _ (List.getElem_mem hkm)
      generalize S.enums[k]'hkm = t at *
      have hW1 := ab1 wr (Obj.cells #[.string (bs t.name), .slice A3 t.names.length c3, .slice A4 t.nums.length c4] 38)
      have B7 := Bx.new3 wr 38 (.string (bs t.name)) (.slice A3 t.names.length c3) (.slice A4 t.nums.length c4)
      have C3 := C2.next hW1
      by_cases e : t.name = nm
      · have E := Lib.hid (hx e)
        obtain ⟨A5, c5, A6, c6, hV0, hVn, hVi⟩ := hV
        obtain ⟨rfl, rfl, rfl, rfl⟩ : A3 = A5 ∧ c3 = c5 ∧ A4 = A6 ∧ c4 = c6 := by injection hV0 with h; simp at h; exact ⟨h.1.1, h.1.2, h.2.1, h.2.2⟩
        have hz : (wr.alloc (Obj.cells #[.string (bs t.name), .slice A3 t.names.length c3, .slice A4 t.nums.length c4] 38)).heap.size = wr.heap.size + 1 := by simp
        have hbW := Below.next hb hW1
        clear hx hy hI hA hV0
        subst e
        have q1 := sq_t t.name
        go_upto_region 5 with (fail)
        generalize wr.alloc (Obj.cells #[.string (bs t.name), .slice A3 t.names.length c3, .slice A4 t.nums.length c4] 38) = W1 at *
        have cN := fun W (h : Below W1.heap.size W1 W) => cloneNms_any t.names A3 c3 W (by omega) (hVn.next fun _ _ => TyN.next (Below.next hbW h))
        have cI := fun W (h : Below W1.heap.size W1 W) => cloneIns_any t.nums A4 c4 W (by omega) (hVi.next fun _ _ => TyI.next (Below.next hbW h))
        have p1 := B7.c 1 rfl
        have p2 := B7.c 2 rfl
        have p3 := B7.lt
        refine wp_region_seqN (by kernel_rfl) (FF [(7, Fact.at_ W1 (.pointer (some ⟨wr.heap.size, 0, none⟩))), (19, Fact.at_ W1 (.pointer (some ⟨wr.heap.size, 1, none⟩))), (20, Fact.at_ W1 (.slice A3 t.names.length c3)), (21, FCl TyN t.names W1), (22, Fact.at_ W1 (.pointer (some ⟨wr.heap.size, 2, none⟩))), (23, Fact.at_ W1 (.slice A4 t.nums.length c4)), (24, FCl TyI t.nums W1), (25, Fact.at_ W1 (.pointer (some ⟨wr.heap.size, 1, none⟩)))]) [7] [] 30 7 [19, 20, 21, 22, 23, 24, 25] rfl (by kernel_rfl) (by kernel_rfl) (by decide) (by kernel_rfl) (by kernel_rfl) ?_ ?_ ?_
        · intro t9 ht9
          simp only [List.mem_cons, List.not_mem_nil, or_false] at ht9
          rcases ht9 with rfl
          · exact ⟨rfl, Below.refl _ _⟩
        · refine fcs ⟨Ob.new_ (at1 7 19 (.pointer (some ⟨wr.heap.size, 0, none⟩)) (.pointer (some ⟨wr.heap.size, 1, none⟩)) rfl (by first | exact .inl rfl | exact .inr ⟨_, _, _, rfl, rfl, by kernel_rfl, by decide, rfl⟩) (by kernel_rfl) rfl rfl (fun a9 W9 hb9 h9 => by simp [execOp, h9] <;> go_simp)) (by kernel_rfl), ?_⟩
          refine fcs ⟨Ob.new_ (at1 19 20 (.pointer (some ⟨wr.heap.size, 1, none⟩)) (.slice A3 t.names.length c3) rfl (by first | exact .inl rfl | exact .inr ⟨_, _, _, rfl, rfl, by kernel_rfl, by decide, rfl⟩) (by kernel_rfl) rfl rfl (fun a9 W9 hb9 h9 => by have g1 := cell_next hb9 p1; simp [execOp, h9] <;> go_simp)) (by kernel_rfl), ?_⟩
          refine fcs ⟨Ob.new_ (at_enter (W0 := W1) (by first | exact .inl rfl | exact .inr ⟨_, _, _, rfl, rfl, by kernel_rfl, by decide, rfl⟩) (fun a9 W9 hf9 => by have p20 := hf9 20 (by kernel_rfl); have q20 : a9.tmps.getD 20 undef = (.slice A3 t.names.length c3) := p20.1; have hb9 := p20.2; exact ⟨47, #[(.slice A3 t.names.length c3)], by rw [← q20]; simpa [execOp, resolve, Act.eval] using run_invoke (by kernel_rfl) _ W9, (cN W9 hb9).mono fun e w' ⟨A9, c9, e1, e2, e3⟩ => ⟨_, e1, e3, fun s hs => by injection hs with hs; subst hs; exact ⟨A9, c9, rfl, e2.low hb9.size, upG hb9 e3⟩⟩⟩)) (by kernel_rfl), ?_⟩
          refine fcs ⟨Ob.new_ (at1 7 22 (.pointer (some ⟨wr.heap.size, 0, none⟩)) (.pointer (some ⟨wr.heap.size, 2, none⟩)) rfl (by first | exact .inl rfl | exact .inr ⟨_, _, _, rfl, rfl, by kernel_rfl, by decide, rfl⟩) (by kernel_rfl) rfl rfl (fun a9 W9 hb9 h9 => by simp [execOp, h9] <;> go_simp)) (by kernel_rfl), ?_⟩
          refine fcs ⟨Ob.new_ (at1 22 23 (.pointer (some ⟨wr.heap.size, 2, none⟩)) (.slice A4 t.nums.length c4) rfl (by first | exact .inl rfl | exact .inr ⟨_, _, _, rfl, rfl, by kernel_rfl, by decide, rfl⟩) (by kernel_rfl) rfl rfl (fun a9 W9 hb9 h9 => by have g2 := cell_next hb9 p2; simp [execOp, h9] <;> go_simp)) (by kernel_rfl), ?_⟩
          refine fcs ⟨Ob.new_ (at_enter (W0 := W1) (by first | exact .inl rfl | exact .inr ⟨_, _, _, rfl, rfl, by kernel_rfl, by decide, rfl⟩) (fun a9 W9 hf9 => by have p23 := hf9 23 (by kernel_rfl); have q23 : a9.tmps.getD 23 undef = (.slice A4 t.nums.length c4) := p23.1; have hb9 := p23.2; exact ⟨48, #[(.slice A4 t.nums.length c4)], by rw [← q23]; simpa [execOp, resolve, Act.eval] using run_invoke (by kernel_rfl) _ W9, (cI W9 hb9).mono fun e w' ⟨A9, c9, e1, e2, e3⟩ => ⟨_, e1, e3, fun s hs => by injection hs with hs; subst hs; exact ⟨A9, c9, rfl, e2.low hb9.size, upG hb9 e3⟩⟩⟩)) (by kernel_rfl), ?_⟩
          refine fcs ⟨Ob.new_ (at1 7 25 (.pointer (some ⟨wr.heap.size, 0, none⟩)) (.pointer (some ⟨wr.heap.size, 1, none⟩)) rfl (by first | exact .inl rfl | exact .inr ⟨_, _, _, rfl, rfl, by kernel_rfl, by decide, rfl⟩) (by kernel_rfl) rfl rfl (fun a9 W9 hb9 h9 => by simp [execOp, h9] <;> go_simp)) (by kernel_rfl), ?_⟩
          exact fnl
        intro vv wv hvv hbv _ _
        have hv25 : vv 25 = (.pointer (some ⟨wr.heap.size, 1, none⟩)) := (hvv 25 (by decide)).1
        simp only [lay, List.foldl_cons, List.foldl_nil, List.setIfInBounds_toArray, List.set_cons_succ, List.set_cons_zero, hv25, List.drop_succ_cons, List.drop_zero]
        obtain ⟨A9, c9, e21, hN9, -⟩ := hvv 21 (by decide)
        obtain ⟨A8, c8, e24, hI9, -⟩ := hvv 24 (by decide)
        simp only [e21, e24]
        have hb3 := Below.next hbW hbv
        have D7 := B7.next hbv
        have D3 := C3.next hbv
        have u0 := D7.c 0 rfl
        have u1 := D7.c 1 rfl
        have u2 := D7.c 2 rfl
        have u3 := D7.f 1 rfl
        have u4 := D7.f 2 rfl
        have u5 := D7.lt
        have t0 := D3.c 0 rfl
        have t1 := D3.c 1 rfl
        have t2 := D3.c 2 rfl
        have t3 := D3.f 0 rfl
        have t4 := D3.f 1 rfl
        have t5 := D3.f 2 rfl
        have t6 := D3.lt
        obtain ⟨q1_, HQ1⟩ : ∃ q, Hid (t.names.length = q) := ⟨_, Lib.hid rfl⟩
        obtain ⟨q2_, HQ2⟩ : ∃ q, Hid (t.nums.length = q) := ⟨_, Lib.hid rfl⟩
        rw [HQ1.out] at u1
        rw [HQ2.out] at u2
        rw [HQ1.out, HQ2.out]
        clear hvv D7 hbv cN cI B7 C3 C2 r0 r1 r2 s0 s1 s2 h0 h1 h2 hblk hW1 p1 p2 p3 e21 e24 hVn hVi
        go_wp2_with fail
        refine bodyPost_ret (v := .tuple #[.agg #[.string (bs t.name), .slice A9 q1_ c9, .slice A8 q2_ c8], .bool true]) (by simp [results, Tryz.results15, go_sem, t0, t1, t2]) rfl ?_
        refine .some_ E.out ⟨A9, c9, A8, c8, by rw [HQ1.out, HQ2.out], (hN9.next ?_).rw_, (hI9.next ?_).rw_⟩ ?_
        · iterate 5 refine Kpl.set ?_ (by first | (show wr.heap.size < _; omega) | (show w.heap.size + 1 < _; omega)) _
          exact Kpl.of (Below.refl _ _)
        · iterate 5 refine Kpl.set ?_ (by first | (show wr.heap.size < _; omega) | (show w.heap.size + 1 < _; omega)) _
          exact Kpl.of (Below.refl _ _)
        · have hws := hb.size
          iterate 5 refine Below.setCell ?_ (by first | (show w.heap.size ≤ wr.heap.size; omega) | (show w.heap.size ≤ w.heap.size + 1; omega)) _
          exact hb3
      · have E := Lib.hid (hy e)
        have q1 := sq_f e
        have hb3 := Below.next hb hW1
        clear hx hy hI hA hV hfw
        go_wp2_with fail
        go_roundw
        case rel => exact ⟨k + 1, by omega, by go_num, E, C3, hb3⟩
        case measure => simp [intOf]; omega
    · obtain rfl : k = n := by omega
      have E := Lib.hid (show fst_ En.name S.enums nm = none from fst_end fun j hj => hI.out j hj (by rw [← HN.out]; exact hj))
      clear hI hfw
      go_wp2_with fail
      refine bodyPost_ret (v := .tuple #[.agg #[.string ⟨#[]⟩, .slice none 0 0, .slice none 0 0], .bool false]) (by simp [results, Tryz.results15, go_sem, r0, r1, r2]) rfl (.none_ E.out ?_)
      iterate 3 refine Below.setCell ?_ (by simp) _
      exact hb
end Go.Proofs.YthbhbpcjcnkkkaaGreatDoor
/-
  The law of Struct, Enum and FieldOf. Go's own bounds of lengths, and what the library's variables hold, are its conditions.
-/
namespace Go.Proofs.YthbhbpcjcnkkkaaGreatDoor
open Go.RowKit Go.Shelf
theorem fst_en0 {S : Sch} (x : List UInt8) : ((fst_ En.name S.enums x).getD en0) = en0 ∨ ((fst_ En.name S.enums x).getD en0) ∈ S.enums := by
  cases e : fst_ En.name S.enums x with
  | none => exact .inl rfl
  | some t => exact .inr (fst_mem e).1
theorem fst_fd0 {t : St} (x : Int) : ((fst_ Fd.num t.fields x).getD fd0) = fd0 ∨ ((fst_ Fd.num t.fields x).getD fd0) ∈ t.fields := by
  cases e : fst_ Fd.num t.fields x with
  | none => exact .inl rfl
  | some t => exact .inr (fst_mem e).1
theorem eqS_refl (t : St) : eqS t t = true := eqS_iff.2 rfl
theorem eqE_refl (t : En) : eqE t t = true := eqE_iff.2 rfl
theorem eqF_refl (t : Fd) : eqF t t = true := eqF_iff.2 rfl
theorem bne_self (b : Bool) : (b != b) = false := by cases b <;> rfl
theorem beq_self (b : Bool) : (b == b) = true := by cases b <;> rfl
set_option maxRecDepth 100000 in
set_option maxHeartbeats 8000000 in
theorem schemaFinds_any (S : Sch) (v : Value) (nm : List UInt8) (nb : Int) (w : World) (hlk : lokS S) (hv : ScV w S v) (hE : Env w) :
    Calls Tryz.prog 4 #[v, .string (bs nm), .int .i64 nb] w (Ib (.bool true) w) := by
  have hv0 := hv
  obtain ⟨A, c, A2, c2, rfl, hS⟩ := hv
  obtain ⟨n, hn⟩ : ∃ n, S.enums.length = n := ⟨_, rfl⟩
  obtain ⟨m, hm⟩ : ∃ m, S.structs.length = m := ⟨_, rfl⟩
  have HN := Lib.hid hn
  have HM := Lib.hid hm
  rw [hn, hm] at hv0 ⊢
  have hab := ab1 w (Obj.cells #[.int .i64 S.ver, .slice A n c, .slice A2 m c2] 25)
  have hv1 := hv0.next hab
  have B1 := Bx.new3 w 25 (.int .i64 S.ver) (.slice A n c) (.slice A2 m c2)
  have cF := few_any S _ _ hlk hv1
  obtain ⟨f, hf⟩ : ∃ f, few S = f := ⟨_, rfl⟩
  rw [hf] at cF
  have hE1 := hE.next hab
  have hSs := hS.st
  have hn18 := HN.out
  have hm18 := HM.out
  clear hS hn hm
  go_enter Tryz.func4, Tryz.ntmps4
  go_wp2_with fail
  refine cF.mono ?_
  rintro e w2 ⟨rfl, hb2⟩
  have hbw := Below.next hab hb2
  have hE2 := hE1.next hb2
  cases f
  · go_wp2_with fail
    refine (awake_any _ hE2).mono ?_
    rintro e w3 ⟨rfl, hb3⟩
    go_wp2_with fail
    go_ret
    exact ⟨rfl, Below.next hbw hb3⟩
  have hB := few_B hf
  have B2 := B1.next hb2
  have s0 := B2.c 0 rfl
  have s1 := B2.c 1 rfl
  have s2 := B2.c 2 rfl
  have l1 := B2.lt
  have hfT := few_T hf
  have hN := hB.ne
  have hM := hB.ns
  have cS := fun W (h : Below w2.heap.size w2 W) => devStruct_any S nm _ W (hv1.next (Below.next hb2 h)) (by omega) hfT
  have cS2 := fun W (h : Below w2.heap.size w2 W) => refStruct_any S nm _ W (hv1.next (Below.next hb2 h)) (by omega)
  have cE := fun W (h : Below w2.heap.size w2 W) => devEnum_any S nm _ W (hv1.next (Below.next hb2 h)) (by omega) (fun x hx => by have := hB.en x hx; omega)
  have cE2 := fun W (h : Below w2.heap.size w2 W) => refEnum_any S nm _ W (hv1.next (Below.next hb2 h)) (by omega)
  have hot := fst_st0 (S := S) nm
  have hxt := fst_en0 (S := S) nm
  unfold StO at cS cS2
  unfold EnO at cE cE2
  generalize fst_ St.name S.structs nm = o at *
  generalize fst_ En.name S.enums nm = p at *
  generalize o.getD st0 = t at *
  generalize p.getD en0 = x at *
  generalize o.isSome = bo at *
  generalize p.isSome = bp at *
  have t1 : t.fields.length ≤ 1000000 := by rcases hot with rfl | h; exact Nat.zero_le _; have := (hfT t h).1; omega
  have t2 : ∀ f ∈ t.fields, lok f.type := by rcases hot with rfl | h; (intro f hf; cases hf); exact hlk t h
  have x1 : x.names.length ≤ 1000000 := by rcases hxt with rfl | h; exact Nat.zero_le _; have := (hB.en x h).2.1; omega
  have x2 : x.nums.length ≤ 1000000 := by rcases hxt with rfl | h; exact Nat.zero_le _; have := (hB.en x h).2.2.1; omega
  have nbo := bne_self bo
  have nbp := bne_self bp
  have ebo := beq_self bo
  have ebp := beq_self bp
  clear cF hot hxt hE1
  go_wp2_with fail
  refine (cS w2 (Below.refl _ _)).mono ?_
  rintro e w3 ⟨u, rfl, ⟨A3, c3, rfl, hF3⟩, hb3⟩
  have R0 := B2.next hb3
  have s0 := R0.c 0 rfl
  have s1 := R0.c 1 rfl
  have s2 := R0.c 2 rfl
  have l1 := R0.lt
  have D3 := Bx.new2 w3 32 (.string (bs t.name)) (.slice A3 t.fields.length c3)
  have k3 := ab1 w3 (Obj.cells #[.string (bs t.name), .slice A3 t.fields.length c3] 32)
  have hV3 : StV w3 t (.agg #[.string (bs t.name), .slice A3 t.fields.length c3]) := ⟨A3, c3, rfl, hF3⟩
  have hc3 := Below.next hb3 k3
  clear cS
  go_wp2_with fail
  refine (cS2 _ hc3).mono ?_
  rintro e w4 ⟨u, rfl, ⟨A4, c4, rfl, hF4⟩, hb4⟩
  have hk4 := Below.next k3 hb4
  clear s0 s1 s2 l1
  have R4 := (R0.next k3).next hb4
  have s0 := R4.c 0 rfl
  have s1 := R4.c 1 rfl
  have s2 := R4.c 2 rfl
  have l1 := R4.lt
  have E3 := D3.next hb4
  have D4 := Bx.new2 w4 32 (.string (bs t.name)) (.slice A4 t.fields.length c4)
  have k4 := ab1 w4 (Obj.cells #[.string (bs t.name), .slice A4 t.fields.length c4] 32)
  have hV4 : StV w4 t (.agg #[.string (bs t.name), .slice A4 t.fields.length c4]) := ⟨A4, c4, rfl, hF4⟩
  have hc4 := Below.next (Below.next hc3 hb4) k4
  clear cS2 D3
  go_wp2_with fail
  refine (cE _ hc4).mono ?_
  rintro e w5 ⟨u, rfl, ⟨A5, c5, A51, c51, rfl, hF5, hG5⟩, hb5⟩
  clear s0 s1 s2 l1
  have R5 := (R4.next k4).next hb5
  have s0 := R5.c 0 rfl
  have s1 := R5.c 1 rfl
  have s2 := R5.c 2 rfl
  have l1 := R5.lt
  have F3 := (E3.next k4).next hb5
  have F4 := D4.next hb5
  have D5 := Bx.new3 w5 38 (.string (bs x.name)) (.slice A5 x.names.length c5) (.slice A51 x.nums.length c51)
  have k5 := ab1 w5 (Obj.cells #[.string (bs x.name), .slice A5 x.names.length c5, .slice A51 x.nums.length c51] 38)
  have hV5 : EnV w5 x (.agg #[.string (bs x.name), .slice A5 x.names.length c5, .slice A51 x.nums.length c51]) := ⟨A5, c5, A51, c51, rfl, hF5, hG5⟩
  have hc5 := Below.next (Below.next hc4 hb5) k5
  clear cE E3 D4
  go_wp2_with fail
  refine (cE2 _ hc5).mono ?_
  rintro e w6 ⟨u, rfl, ⟨A6, c6, A61, c61, rfl, hF6, hG6⟩, hb6⟩
  clear s0 s1 s2 l1
  have R6 := (R5.next k5).next hb6
  have s0 := R6.c 0 rfl
  have s1 := R6.c 1 rfl
  have s2 := R6.c 2 rfl
  have l1 := R6.lt
  have G3 := (F3.next k5).next hb6
  have G4 := (F4.next k5).next hb6
  have G5 := D5.next hb6
  have G6 := Bx.new3 w6 38 (.string (bs x.name)) (.slice A6 x.names.length c6) (.slice A61 x.nums.length c61)
  have k6 := ab1 w6 (Obj.cells #[.string (bs x.name), .slice A6 x.names.length c6, .slice A61 x.nums.length c61] 38)
  have hV6 : EnV w6 x (.agg #[.string (bs x.name), .slice A6 x.names.length c6, .slice A61 x.nums.length c61]) := ⟨A6, c6, A61, c61, rfl, hF6, hG6⟩
  have hc6 := Below.next (Below.next hc5 hb6) k6
  have y0 := G3.c 0 rfl
  have y1 := G3.c 1 rfl
  have y2 := G3.lt
  have z0 := G4.c 0 rfl
  have z1 := G4.c 1 rfl
  have z2 := G4.lt
  have hW3 := Below.next (Below.next (Below.next (Below.next (Below.next k3 hb4) k4) hb5) k5) hb6
  have hW4 := Below.next (Below.next (Below.next k4 hb5) k5) hb6
  have hW5 := Below.next k5 hb6
  have cT := fun W (h : Below w6.heap.size w6 W) => refSameStruct_any t t _ _ W t1 t2 t2 (hV3.next (Below.next hW3 h)) (hV4.next (Below.next hW4 h))
  have cX := fun W (h : Below w6.heap.size w6 W) => refSameEnum_any x x _ _ W x1 x2 (hV5.next (Below.next hW5 h)) (hV6.next h)
  rw [eqS_refl] at cT
  rw [eqE_refl] at cX
  clear cE2 F3 F4 D5 hF3 hF4 hF5 hF6 hG5 hG6 hV3 hV4 hV5 hV6 t1 t2 x1 x2
  go_wp2_with fail
  refine (cT _ k6).mono ?_
  rintro e w7 ⟨rfl, hb7⟩
  clear s0 s1 s2 l1 y0 y1 y2 z0 z1 z2
  have y0 := ((G5.next k6).next hb7).c 0 rfl
  have y1 := ((G5.next k6).next hb7).c 1 rfl
  have y2 := ((G5.next k6).next hb7).c 2 rfl
  have y3 := ((G5.next k6).next hb7).lt
  have z0 := (G6.next hb7).c 0 rfl
  have z1 := (G6.next hb7).c 1 rfl
  have z2 := (G6.next hb7).c 2 rfl
  have z3 := (G6.next hb7).lt
  clear cT
  go_wp2_with fail
  refine (cX _ (Below.next k6 hb7)).mono ?_
  rintro e w8 ⟨rfl, hb8⟩
  have hc8 := Below.next (Below.next hc6 hb7) hb8
  have R8 := ((R6.next k6).next hb7).next hb8
  have hw8 := Below.next hbw hc8
  clear y0 y1 y2 y3 z0 z1 z2 z3 cX G3 G4 G5 G6 hb3 hb4 hb5 hb6 hb7 hb8 k3 k4 k5 k6 hc3 hc4 hc5 hc6 hc8 hk4 R0 R4 R5 R6 hW3 hW4 hW5 B2 nbo nbp ebo ebp hE2
  go_wp2_with fail
  go_loopw [15] (fun i_ wr => ∃ k : Nat, k ≤ m ∧ i_ = .int .i64 (k : Int) ∧ Bx wr w.heap.size [.int .i64 S.ver, .slice A n c, .slice A2 m c2] ∧ Below w.heap.size w wr) (fun i_ _ => m - (intOf i_).toNat)
  case atStart => exact ⟨0, by omega, rfl, R8, hw8⟩
  case round =>
    clear R8 hw8
    obtain ⟨k, hk, rfl, R1, hb⟩ := hrel
    have s0 := R1.c 0 rfl
    have s1 := R1.c 1 rfl
    have s2 := R1.c 2 rfl
    have l1 := R1.lt
    by_cases hlt : k < m
    · have hkm : k < S.structs.length := by rw [HM.out]; exact hlt
      obtain ⟨a2, rfl, hA⟩ := hSs.get hkm
      obtain ⟨A3, c3, x0, x1, hV⟩ := hA.val
      replace x0 := cell_next hb x0
      replace x1 := cell_next hb x1
      have hblk : (a2.add (k * 2)).block < wr.heap.size := blk_lt x0
      have hts := List.getElem_mem hkm
      obtain ⟨h1000, hfw⟩ := hfT _ hts
      have hlf := hlk _ hts
      generalize S.structs[k]'hkm = t at *
      have hff := fst_fd0 (t := t) nb
      have cF := fun W (h : Below wr.heap.size wr W) => devFieldOf_any t nb _ W (hV.next (Below.next hb h)) h1000 hfw
      have cG := fun W (h : Below wr.heap.size wr W) => refFieldOf_any t nb _ W (hV.next (Below.next hb h)) h1000
      unfold FdO at cF cG
      generalize fst_ Fd.num t.fields nb = o at *
      generalize o.getD fd0 = g at *
      generalize o.isSome = bo at *
      have hg : lok g.type := by rcases hff with rfl | h; exact lok0; exact hlf g h
      have nbo := bne_self bo
      have ebo := beq_self bo
      generalize t.fields.length = q at *
      clear hA hts hfw hlf hff h1000 hV
      go_wp2_with fail
      refine (cF wr (Below.refl _ _)).mono ?_
      rintro e w3 ⟨u, rfl, ⟨A5, c5, rfl, hF3⟩, hb3⟩
      have R3 := R1.next hb3
      clear s0 s1 s2 l1
      have s0 := R3.c 0 rfl
      have s1 := R3.c 1 rfl
      have s2 := R3.c 2 rfl
      have l1 := R3.lt
      replace x0 := cell_next hb3 x0
      replace x1 := cell_next hb3 x1
      have hblk2 : (a2.add (k * 2)).block < w3.heap.size := blk_lt x0
      have D3 := Bx.new7 w3 47 (.int .i64 g.num) (.string (bs g.name)) (.int .i64 g.type.kind) (.int .i64 g.type.size) (.string (bs g.type.name)) (.slice A5 g.type.elem.length c5) (.bool g.opt)
      have k3 := ab1 w3 (Obj.cells #[.int .i64 g.num, .string (bs g.name), .int .i64 g.type.kind, .int .i64 g.type.size, .string (bs g.type.name), .slice A5 g.type.elem.length c5, .bool g.opt] 47)
      have hc3 := Below.next hb3 k3
      have hV3 : FdV w3 g (.agg #[.int .i64 g.num, .string (bs g.name), .int .i64 g.type.kind, .int .i64 g.type.size, .string (bs g.type.name), .slice A5 g.type.elem.length c5, .bool g.opt]) := ⟨A5, c5, rfl, hF3⟩
      clear cF hblk
      go_wp2_with fail
      refine (cG _ hc3).mono ?_
      rintro e w4 ⟨u, rfl, ⟨A6, c6, rfl, hF4⟩, hb4⟩
      have R4 := (R3.next k3).next hb4
      have E3 := D3.next hb4
      have k4 := ab1 w4 (Obj.cells #[.int .i64 g.num, .string (bs g.name), .int .i64 g.type.kind, .int .i64 g.type.size, .string (bs g.type.name), .slice A6 g.type.elem.length c6, .bool g.opt] 47)
      have hc4 := Below.next (Below.next hc3 hb4) k4
      have hV4 : FdV w4 g (.agg #[.int .i64 g.num, .string (bs g.name), .int .i64 g.type.kind, .int .i64 g.type.size, .string (bs g.type.name), .slice A6 g.type.elem.length c6, .bool g.opt]) := ⟨A6, c6, rfl, hF4⟩
      have cT := fun W (h : Below w4.heap.size w4 W) => refSameField_any g g _ _ W hg hg (hV3.next (Below.next (Below.next k3 hb4) h)) (hV4.next h)
      rw [eqF_refl] at cT
      have y0 := E3.c 0 rfl
      have y1 := E3.c 1 rfl
      have y2 := E3.c 2 rfl
      have y3 := E3.c 3 rfl
      have y4 := E3.c 4 rfl
      have y5 := E3.c 5 rfl
      have y6 := E3.c 6 rfl
      have y7 := E3.lt
      clear cG D3 s0 s1 s2 l1 x0 x1 hblk2 hF3 hF4 hV3 hV4 hg
      go_wp2_with fail
      refine (cT _ k4).mono ?_
      rintro e w5 ⟨rfl, hb5⟩
      have R5 := (R4.next k4).next hb5
      have hb6 := Below.next hb (Below.next hc4 hb5)
      clear cT y0 y1 y2 y3 y4 y5 y6 y7 E3 R1 R3 R4
      go_wp2_with fail
      go_roundw
      case rel => exact ⟨k + 1, by omega, by go_num, R5, hb6⟩
      case measure => simp [intOf]; omega
    · obtain rfl : k = m := by omega
      have hEr := hE.next hb
      go_wp2_with fail
      refine (awake_any _ hEr).mono ?_
      rintro e w3 ⟨rfl, hb3⟩
      go_wp2_with fail
      go_ret
      exact ⟨rfl, Below.next hb hb3⟩
theorem finds_row (S : Sch) (v : Value) (s : ByteArray) (nb : Int) (w : World) (hl : lokS S) (hv : ScV w S v) (_h : s.size ≤ 9223372036854775807) (_h1 : -9223372036854775808 ≤ nb) (_h2 : nb ≤ 9223372036854775807) (hL : laidMetH Tryz.prog Rows.schemaFindsRow.laid w) :
    Calls Tryz.prog 4 #[v, .string s, .int .i64 nb] w (Ib (.bool true) w) := by
  rw [bs_of s]
  exact schemaFinds_any S v s.data.toList nb w hl hv (env_laid hL)
end Go.Proofs.YthbhbpcjcnkkkaaGreatDoor
/-
  A region whose order Go leaves open, with one new variable into which one value is stored of which only a predicate is known. No conditions beyond those that it names.
-/
namespace Go.Proofs.YthbhbpcjcnkkkaaGreatDoor
open Go.RowKit
section
variable (ops : Array Oper) (F : Nat → Fact) (base : List Nat) (N : Nat) (g : Nat) (p k : Nat) (zs : List Value) (V : List Value → Prop)
structure YInv (a0 : Act) (w0 : World) (listed : Array Bool) (a : Act) (w : World) : Prop where
  tsize : a.tmps.size = N
  defers : a.defers = a0.defers
  base : ∀ t ∈ base, (F t).holds (a.tmps.getD t undef) w
  done : ∀ (i t : Nat), listed.getD i false = true → (ops[i]?).bind Oper.dst = some t → (F t).holds (a.tmps.getD t undef) w
  other : ∀ (t : Nat), (∀ (i : Nat), (ops[i]?).bind Oper.dst ≠ some t) → a.tmps.getD t undef = a0.tmps.getD t undef
  below : Below g w0 w
  gle : g ≤ w.heap.size
  made : ∀ i, listed.getD i false = true → (ops[i]?).bind Oper.dst = some p → ∃ b, a.tmps.getD p undef = ptr0 b ∧ g ≤ b ∧ (listed.getD k false = false → Bx w b zs) ∧ (listed.getD k false = true → ∃ vs, V vs ∧ Bx w b vs)
  closed : ∀ i o, ops[i]? = some o → listed.getD i false = true → ∀ e ∈ o.after, Region.binds .any e = true → listed.getD e.on false = true
/-- What an operation of such a region must show. -/
inductive YOb (f : Nat) (Q : Exit → Act → World → Prop) (i : Nat) (o : Oper) : Prop
  | plain (h : Ob ops Q F base N o) (hp : o.dst ≠ some p) (hk : i ≠ k) : YOb f Q i o
  | alloc (hd : o.dst = some p) (hg : o.guard = none) (hF : F p = Fact.any) (hk : i ≠ k) (hrun : ∀ (a : Act) (w : World), ∃ w', (execOp a.eval o).run Tryz.prog w = .ok (.value (ptr0 w.heap.size)) w' ∧ Below w.heap.size w w' ∧ Bx w' w.heap.size zs) : YOb f Q i o
  | store (hi : i = k) (hd : o.dst = none) (hg : o.guard = none) (hkn : known ops [] o p = true) (hk2 : known ops base o f = true)
      (hrun : ∀ (a : Act) (w : World) (b : Nat), a.tmps.getD p undef = ptr0 b → Bx w b zs → (F f).holds (a.tmps.getD f undef) w → ∃ w', (execOp a.eval o).run Tryz.prog w = .ok .skip w' ∧ w.grownBy w' (some b) ∧ ∃ vs, V vs ∧ Bx w' b vs) : YOb f Q i o
end
section
variable {ops : Array Oper} {Q : Exit → Act → World → Prop} {F : Nat → Fact} {base : List Nat} {N g : Nat} {p k f : Nat} {zs : List Value} {V : List Value → Prop}
theorem YInv.closed' {a0 : Act} {w0 : World} {listed : Array Bool} {a : Act} {w : World} (h : YInv ops F base N g p k zs V a0 w0 listed a w) (hs : listed.size = ops.size) {i : Nat} {o : Oper} (ho : ops[i]? = some o)
    (he : ∀ e ∈ o.after, Region.binds .any e = true → listed.getD e.on false = true) : ∀ j o', ops[j]? = some o' → (listed.setIfInBounds i true).getD j false = true → ∀ e ∈ o'.after, Region.binds .any e = true → (listed.setIfInBounds i true).getD e.on false = true := by
  have hlt : i < listed.size := by rw [hs]; exact (Array.getElem?_eq_some_iff.1 ho).1
  intro j o' ho' hl e hm hb
  rw [listed_set hlt] at hl ⊢
  rcases hl with rfl | hl
  · rw [ho] at ho'
    injection ho' with ho'
    subst ho'
    exact .inr (he e hm hb)
  · exact .inr (h.closed j o' ho' hl e hm hb)
theorem YInv.step (hok : formOk ops base N = true) (hsoft : ∀ t, (F t).SoftG g) (hobs : ∀ j o', ops[j]? = some o' → YOb ops F base N p k zs V f Q j o') {a0 : Act} {w0 : World} {listed : Array Bool} {a : Act} {w : World} (h : YInv ops F base N g p k zs V a0 w0 listed a w) (hs : listed.size = ops.size) {i : Nat} {o : Oper} (ho : ops[i]? = some o)
    (hl0 : listed.getD i false = false) (he : ∀ e ∈ o.after, Region.binds .any e = true → listed.getD e.on false = true) (K : Act → World → Prop) (hK : ∀ a' w', YInv ops F base N g p k zs V a0 w0 (listed.setIfInBounds i true) a' w' → K a' w') :
    (if Region.wanted o (yielded ops a.tmps) = true then Oper.wp Tryz.prog o a w K Q else K (a.put o.dst undef) w) := by
  have hdone : ∀ e ∈ o.after, Region.binds .any e = true → ∀ t, (ops[e.on]?).bind Oper.dst = some t → (F t).holds (a.tmps.getD t undef) w := fun e hm hb t ht => h.done e.on t (he e hm hb) ht
  have hlt : i < listed.size := by rw [hs]; exact (Array.getElem?_eq_some_iff.1 ho).1
  obtain ⟨_, hd⟩ := formOk_at hok ho
  cases hobs i o ho with
  | plain hob hp hk =>
    refine hob a w K h.tsize h.base hdone fun v w' hb hF => hK _ _ ?_
    refine ⟨?_, ?_, fun t ht => ?_, fun j t hj hjt => ?_, fun t ht => ?_, h.below.trans (hb.mono h.gle), Nat.le_trans h.gle hb.size, fun j hj hjd => ?_, h.closed' hs ho he⟩
    · cases o.dst <;> simpa [Act.put] using h.tsize
    · cases o.dst <;> simpa [Act.put] using h.defers
    · rw [getD_put_other (fun e => (hd t e).2.1 ht)]
      exact (F t).stable _ _ _ (h.base t ht) hb
    · by_cases hji : j = i
      · subst hji
        rw [ho] at hjt
        have hjt' : o.dst = some t := hjt
        rw [hjt', getD_put_same (by rw [h.tsize]; exact (hd t hjt').1)]
        exact hF t hjt'
      · have hl : listed.getD j false = true := ((listed_set hlt).1 hj).resolve_left hji
        rw [getD_put_other (fun e => (hd t e).2.2 j hji hjt)]
        exact (F t).stable _ _ _ (h.done j t hl hjt) hb
    · rw [getD_put_other (fun e => ht i (by rw [ho]; exact e))]
      exact h.other t ht
    · have hj' : listed.getD j false = true := ((listed_set hlt).1 hj).resolve_left (by
        rintro rfl
        rw [ho] at hjd
        exact hp hjd)
      obtain ⟨b, h1, h2, h3, h4⟩ := h.made j hj' hjd
      have hkk : (listed.setIfInBounds i true).getD k false = listed.getD k false := by
        have := listed_set (j := k) hlt
        cases hx : listed.getD k false
        · rw [Bool.eq_false_iff]
          intro hc
          rcases this.1 hc with e | e
          · exact hk e.symm
          · rw [hx] at e; cases e
        · exact this.2 (.inr hx)
      rw [hkk]
      exact ⟨b, by rw [getD_put_other hp]; exact h1, h2, fun hl => (h3 hl).next hb, fun hl => by obtain ⟨vs, hv, hx⟩ := h4 hl; exact ⟨vs, hv, hx.next hb⟩⟩
  | alloc hds hg hF hk hrun =>
    obtain ⟨w', hr, hb, hx⟩ := hrun a w
    rw [if_pos (by simp [Region.wanted, hg])]
    unfold Oper.wp
    rw [hr]
    have hps := (hd p hds)
    have hput : (a.put o.dst (ptr0 w.heap.size)).tmps.getD p undef = ptr0 w.heap.size := by
      rw [hds, getD_put_same (by rw [h.tsize]; exact hps.1)]
    have hold : ∀ t, t ≠ p → (a.put o.dst (ptr0 w.heap.size)).tmps.getD t undef = a.tmps.getD t undef := fun t ht => getD_put_other (by rw [hds]; intro e; injection e with e; exact ht e.symm)
    have hnk : listed.getD k false = false := by
      cases hc : listed.getD k false with
      | false => rfl
      | true =>
        exfalso
        have hlt2 : k < ops.size := by
          rcases Nat.lt_or_ge k listed.size with h1 | h1
          · rw [← hs]; exact h1
          · rw [Array.getD_eq_getD_getElem?, Array.getElem?_eq_none h1] at hc; cases hc
        have ho' : ops[k]? = some ops[k] := Array.getElem?_eq_getElem hlt2
        cases hobs k _ ho' with
        | plain _ _ h2 => exact h2 rfl
        | alloc _ _ _ h2 => exact h2 rfl
        | store _ _ _ hkn _ _ =>
          obtain ⟨e, hem, hb', hdst⟩ := known_opX hkn
          have h4 := h.closed _ _ ho' hc e hem hb'
          have h5 : e.on = i := by
            by_cases h6 : e.on = i
            · exact h6
            · exact absurd hdst (hps.2.2 e.on h6)
          rw [h5, hl0] at h4
          cases h4
    have hnk2 : (listed.setIfInBounds i true).getD k false = false := by
      rw [Bool.eq_false_iff]
      intro hc
      rcases (listed_set hlt).1 hc with e | e
      · exact hk e.symm
      · rw [hnk] at e; cases e
    refine hK _ _ ⟨?_, ?_, fun t ht => ?_, fun j t hj hjt => ?_, fun t ht => ?_, h.below.trans (hb.mono h.gle), Nat.le_trans h.gle hb.size, fun j hj hjd => ?_, h.closed' hs ho he⟩
    · cases o.dst <;> simpa [Act.put] using h.tsize
    · cases o.dst <;> simpa [Act.put] using h.defers
    · rw [hold t (fun e => hps.2.1 (e ▸ ht))]
      exact (F t).stable _ _ _ (h.base t ht) hb
    · by_cases hts : t = p
      · subst hts
        rw [hF]
        trivial
      · rw [hold t hts]
        refine (F t).stable _ _ _ (h.done j t (((listed_set hlt).1 hj).resolve_left ?_) hjt) hb
        rintro rfl
        rw [ho] at hjt
        exact hts (by have h5 : o.dst = some t := hjt; rw [hds] at h5; injection h5 with h5; exact h5.symm)
    · rw [hold t (by rintro rfl; exact ht i (by rw [ho]; exact hds))]
      exact h.other t ht
    · exact ⟨w.heap.size, hput, h.gle, fun _ => hx, fun hl => by rw [hnk2] at hl; cases hl⟩
  | store hi hd0 hg hkn hk2 hrun =>
    have hlk : listed.getD k false = false := by rw [← hi]; exact hl0
    rw [if_pos (by simp [Region.wanted, hg])]
    obtain ⟨e, hem, heb, hed⟩ := known_opX hkn
    obtain ⟨b, h1, h2, h3, _⟩ := h.made e.on (he e hem heb) hed
    have hf := known_fact h.base hdone hk2
    obtain ⟨w', hr, hgw, hx⟩ := hrun a w b h1 (h3 hlk) hf
    unfold Oper.wp
    rw [hr]
    have hput : a.put o.dst undef = a := by rw [hd0]; rfl
    show K (a.put o.dst undef) _
    rw [hput]
    have hold : ∀ m d, (listed.setIfInBounds i true).getD m false = true → (ops[m]?).bind Oper.dst = some d → listed.getD m false = true := fun m d hm hmd => ((listed_set hlt).1 hm).resolve_left (by
      rintro rfl
      rw [ho] at hmd
      have h5 : o.dst = some d := hmd
      rw [hd0] at h5; cases h5)
    have hii : (listed.setIfInBounds i true).getD k false = true := (listed_set hlt).2 (.inl hi.symm)
    exact hK _ _ ⟨h.tsize, h.defers, fun t ht => hsoft t _ _ _ _ (h.base t ht) h.gle h2 hgw, fun m t hm hmt => hsoft t _ _ _ _ (h.done m t (hold m t hm hmt) hmt) h.gle h2 hgw, h.other, h.below.grown hgw h.gle (fun j hj => by cases hj; exact h2), Nat.le_trans h.gle hgw.size, fun m hm hmd => ⟨b, h1, h2, fun hl => (by rw [hii] at hl; cases hl), fun _ => hx⟩, h.closed' hs ho he⟩
end
/-- **A region that makes one new variable and stores into it once**, whatever its order, and what comes behind it. -/
theorem wp_region_boxd {Q : Exit → Act → World → Prop} {id : Nat} {l : List Oper} {a : Act} {w : World} (hm : Tryz.prog.follows .mixedOrders = true) (F : Nat → Fact) (base : List Nat) (N : Nat) (p k f : Nat) (zs : List Value) (V : List Value → Prop) (ds : List Nat) (hN : a.tmps.size = N) (hok : formOk l.toArray base N = true) (hback : backOk l.toArray = true) (hds : dstsOk l ds = true) (hpk : (ds.contains p && decide (k < l.length)) = true)
    (hsoft : ∀ t, (F t).SoftG w.heap.size) (hbase : ∀ t ∈ base, (F t).holds (a.tmps.getD t undef) w) (hstep : ∀ q ∈ l.zipIdx, YOb l.toArray F base N p k zs V f Q q.2 q.1)
    (hend : ∀ (v : Nat → Value) w', (∀ t ∈ ds, (F t).holds (v t) w') → (∃ b, v p = ptr0 b ∧ w.heap.size ≤ b ∧ ∃ vs, V vs ∧ Bx w' b vs) → Below w.heap.size w w' → Q .normal { tmps := lay a.tmps ds v, defers := a.defers } w') : (Code.region id l.toArray true).wp Tryz.prog Q a w := by
  have hobs : ∀ j o', l.toArray[j]? = some o' → YOb l.toArray F base N p k zs V f Q j o' := fun j o' h => by
    rw [List.getElem?_toArray] at h
    exact hstep (o', j) (List.mem_of_getElem? (i := j) (by rw [List.getElem?_zipIdx, h]; simp))
  have hnone : ∀ i, (Array.replicate l.length false).getD i false = true → False := fun i hi => by
    rw [Array.getD_eq_getD_getElem?, Array.getElem?_replicate] at hi
    split at hi <;> simp at hi
  simp only [Bool.and_eq_true, decide_eq_true_eq] at hpk
  refine wp_region_inv hm hback (YInv l.toArray F base N w.heap.size p k zs V a w) ?_ (fun i o listed a' w' ho hs hl0 he h K hK => h.step hok hsoft hobs hs ho hl0 he K hK) fun listed a' w' hs hl h => ?_
  · exact ⟨hN, rfl, fun t ht => (F t).stable _ _ _ (hbase t ht) (Below.refl _ _).drew, fun i _ hi _ => (hnone i hi).elim, fun _ _ => rfl, (Below.refl _ _).drew, Nat.le_refl _, fun i hi _ => (hnone i hi).elim, fun i _ _ hi => (hnone i hi).elim⟩
  · have hw : ∀ t ∈ ds, ∃ i, listed.getD i false = true ∧ (l.toArray[i]?).bind Oper.dst = some t := fun t ht => by
      have h1 := hds
      simp only [dstsOk, Bool.and_eq_true] at h1
      have h2 := List.any_eq_true.1 (List.all_eq_true.1 h1.2 t ht)
      obtain ⟨o, ho, hd⟩ := h2
      obtain ⟨i, hi⟩ := List.getElem?_of_mem ho
      have hlt : i < l.toArray.size := by simpa using (List.getElem?_eq_some_iff.1 hi).1
      exact ⟨i, hl i hlt, by rw [List.getElem?_toArray, hi]; exact (by simpa using hd)⟩
    have hq := hend (fun t => a'.tmps.getD t undef) w' (fun t ht => by
      obtain ⟨i, hi, hd⟩ := hw t ht
      exact h.done i t hi hd) (by
      obtain ⟨i, hi, hd⟩ := hw p (by simpa using hpk.1)
      obtain ⟨b, h1, h2, _, h4⟩ := h.made i hi hd
      exact ⟨b, h1, h2, h4 (hl k (by simpa using hpk.2))⟩) h.below
    have heq : a' = { tmps := lay a.tmps ds fun t => a'.tmps.getD t undef, defers := a.defers } := by
      have hoth := h.other
      have hsz := h.tsize
      have hdef := h.defers
      clear hq hw h hs hl hobs hstep hend hbase
      obtain ⟨ts, df⟩ := a'
      have hdef' : df = a.defers := hdef
      subst hdef'
      congr 1
      have hsz' : ts.size = N := hsz
      refine Array.ext_getElem? fun t => ?_
      rcases Nat.lt_or_ge t N with hlt | hge
      · by_cases htd : t ∈ ds
        · rw [lay_at ds _ _ t htd (by omega), Array.getD_eq_getD_getElem?, Array.getElem?_eq_getElem (by omega)]; rfl
        · rw [lay_other ds _ _ t htd]
          have := hoth t fun i hi => by
            have h1 := hds
            simp only [dstsOk, Bool.and_eq_true] at h1
            rw [List.getElem?_toArray] at hi
            cases hl : l[i]? with
            | none => rw [hl] at hi; cases hi
            | some o =>
              rw [hl] at hi
              have h2 := List.all_eq_true.1 h1.1 o (List.mem_of_getElem? hl)
              have h3 : o.dst = some t := hi
              rw [h3] at h2
              exact htd (by simpa using h2)
          have h2 : ts.getD t undef = a.tmps.getD t undef := this
          rw [Array.getD_eq_getD_getElem?, Array.getD_eq_getD_getElem?, Array.getElem?_eq_getElem (by omega), Array.getElem?_eq_getElem (by omega)] at h2
          rw [Array.getElem?_eq_getElem (by omega), Array.getElem?_eq_getElem (by omega)]
          exact congrArg some h2
      · rw [Array.getElem?_eq_none (by omega), Array.getElem?_eq_none (by rw [lay_size]; omega)]
    rw [heq]
    exact hq
/-- A slot of whose value a predicate is known. -/
def FP (p : Value → Prop) (W0 : World) : Fact := ⟨fun v w => p v ∧ Below W0.heap.size W0 w, fun _ _ _ ⟨h, hb⟩ hb' => ⟨h, upG hb hb'⟩⟩
theorem fp_soft (p : Value → Prop) (W0 : World) : (FP p W0).SoftG W0.heap.size := fun _ w _ _ ⟨h1, h2⟩ hg hb hgr => ⟨h1, h2.grown hgr hg (fun j hj => by cases hj; exact hb)⟩
section
variable {ops : Array Oper} {Q : Exit → Act → World → Prop} {F : Nat → Fact} {base : List Nat} {N : Nat} {o : Oper} {W0 : World}
theorem atP (t d : Nat) (p q : Value → Prop) (hd : o.dst = some d) (hg : Gd W0 ops F base N o) (hk : known ops base o t = true) (hv : F t = FP p W0) (hF : F d = FP q W0)
    (h : ∀ (a : Act) (w : World) (u : Value), p u → a.eval (.tmp t) = u → ∃ r, (execOp a.eval o).run Tryz.prog w = .ok (.value r) w ∧ q r) : Ob ops Q F base N o :=
  at_val hg fun a w hf => by
    have h1 := hf t hk
    rw [hv] at h1
    obtain ⟨r, e1, e2⟩ := h a w _ h1.1 rfl
    exact ⟨r, w, e1, Below.refl _ _, fun s hs => by rw [hd] at hs; injection hs with hs; subst hs; rw [hF]; exact ⟨e2, h1.2⟩⟩
end
/-- A struct of two cells and of three, and a pair of one with a flag. -/
def A2 (u : Value) : Prop := ∃ s A n c, u = .agg #[.string s, .slice A n c]
def A3 (u : Value) : Prop := ∃ s A n c B m d, u = .agg #[.string s, .slice A n c, .slice B m d]
def T2 (P : Value → Prop) (b : Bool) (u : Value) : Prop := ∃ x, P x ∧ u = .tuple #[x, .bool b]
end Go.Proofs.YthbhbpcjcnkkkaaGreatDoor

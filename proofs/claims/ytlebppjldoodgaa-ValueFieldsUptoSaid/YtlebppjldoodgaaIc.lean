import Derived.Test.YtlebppjldoodgaaIb
import Derived.Test.YtlebppjldoodgaaYh
/-
  'clear' of elements of several cells; slices.DeleteFunc of the entries with a number. No conditions beyond those that each names.
-/
namespace Go.Proofs.Ytlebppjldoodgaa
open Go.RowKit Go.Shelf Go.Sort
theorem run_clear_rowN {P : Program} (w : World) (t ty e : TypeId) (i : TypeInfo) (z : Value) (b o k c : Nat) (cur : Array Value) (e' : TypeId) (hu : P.underlying t = some (.slice e)) (hi : P.info? e = some i) (hz : i.zero = some z) (hg : w.heap[b]? = some (.cells cur e' (0, 0))) (hk : 0 < k)
    (hfit : o + k * z.cells.size ≤ cur.size) (h1 : ∀ u ∈ (Builtin.zeroCells z.cells k).toList, u.oneCell' = true) :
    (Builtin.clear_ #[t] ty #[.slice (some ⟨b, o, none⟩) k c]).run P w = .ok (.tuple #[]) (w.setRow b (cur.toList.take o ++ (Builtin.zeroCells z.cells k).toList ++ cur.toList.drop (o + (Builtin.zeroCells z.cells k).toList.length)).toArray) := by
  have hst := run_storeCells_at P b o e' (Builtin.zeroCells z.cells k).toList 0 cur w hg (by rw [Nat.add_zero, Array.length_toList, zc_size]; exact hfit) h1
  obtain ⟨k', rfl⟩ : ∃ k', k = k' + 1 := ⟨k - 1, by omega⟩
  rw [Nat.add_zero] at hst
  simp [Builtin.clear_, run_underlying hu, zeroValue, typeInfo, hi, hz, hst]
/-- How the row stands when the places before k have been gone through and i of them stay. -/
def DelM (p : Int × Vl → Bool) (l M : List (Int × Vl)) (i k : Nat) : Prop := M.length = l.length ∧ M.take i = (l.take k).filter p ∧ M.drop k = l.drop k
theorem DelM.get {p : Int × Vl → Bool} {l M : List (Int × Vl)} {i k : Nat} (h : DelM p l M i k) (hk : k < l.length) : M[k]'(by rw [h.1]; exact hk) = l[k]'hk := by
  have h1 := congrArg (fun x => x[0]?) h.2.2
  simp only [List.getElem?_drop, Nat.add_zero] at h1
  rw [List.getElem?_eq_getElem (by rw [h.1]; exact hk), List.getElem?_eq_getElem hk] at h1
  exact Option.some.inj h1
theorem drop_succ_of {α : Type} {l m : List α} {k : Nat} (h : m.drop k = l.drop k) : m.drop (k + 1) = l.drop (k + 1) := by
  rw [← List.drop_drop, ← List.drop_drop, h]
theorem DelM.skip {p : Int × Vl → Bool} {l M : List (Int × Vl)} {i k : Nat} (h : DelM p l M i k) (hk : k < l.length) (hp : p (l[k]'hk) = false) : DelM p l M i (k + 1) := by
  refine ⟨h.1, ?_, drop_succ_of h.2.2⟩
  rw [h.2.1, List.take_succ_eq_append_getElem hk, List.filter_append, List.filter_cons_of_neg (by rw [hp]; decide), List.filter_nil, List.append_nil]
theorem DelM.keep {p : Int × Vl → Bool} {l M : List (Int × Vl)} {i k : Nat} (h : DelM p l M i k) (hk : k < l.length) (hik : i < k) (hp : p (l[k]'hk) = true) : DelM p l (M.set i (l[k]'hk)) (i + 1) (k + 1) := by
  have hM : i < M.length := by rw [h.1]; omega
  refine ⟨by rw [List.length_set]; exact h.1, ?_, ?_⟩
  · rw [List.take_succ_eq_append_getElem (by rw [List.length_set]; exact hM), List.getElem_set_self, List.take_set_of_le (Nat.le_refl _), h.2.1, List.take_succ_eq_append_getElem hk, List.filter_append, List.filter_cons_of_pos hp, List.filter_nil]
  · rw [List.drop_set_of_lt (by omega)]
    exact drop_succ_of h.2.2
theorem DelM.first {p : Int × Vl → Bool} {l : List (Int × Vl)} {i : Nat} (hi : i < l.length) (h1 : p (l[i]'hi) = false) (h2 : ∀ j (hj : j < l.length), j < i → p (l[j]'hj) = true) : DelM p l l i (i + 1) := by
  refine ⟨rfl, ?_, rfl⟩
  rw [List.take_succ_eq_append_getElem hi, List.filter_append, List.filter_cons_of_neg (by rw [h1]; decide), List.filter_nil, List.append_nil]
  refine (List.filter_eq_self.2 fun x hx => ?_).symm
  obtain ⟨j, hj, rfl⟩ := List.getElem_of_mem hx
  rw [List.getElem_take]
  rw [List.length_take] at hj
  exact h2 j (by omega) (by omega)
theorem IL.take {α β : Type} {z : Nat} {enc : α → β → List Value} {P : α → β → Prop} {l : List α} {xs : List Value} (h : IL z enc (fun _ x s => P x s) l xs) (i : Nat) (hi : i ≤ l.length) : IL z enc (fun _ x s => P x s) (l.take i) (xs.take (i * z)) := by
  have hm : i * z ≤ l.length * z := Nat.mul_le_mul_right z hi
  refine ⟨by rw [List.length_take, List.length_take, h.1, Nat.min_eq_left hi, Nat.min_eq_left hm], fun j hj => ?_⟩
  rw [List.length_take] at hj
  obtain ⟨b, h1, h2⟩ := h.2 j (by omega)
  rw [List.getElem_take]
  refine ⟨b, fun q hq => ?_, h2⟩
  rw [List.getElem?_take, if_pos (mulz (k := i) (by omega) hq)]
  exact h1 q hq
/-- A row that a call owns, in place of another. -/
def DlP (B0 hi : Nat) (l : List (Int × Vl)) (q : Option Nat) (w : World) (e : Ending) (w' : World) : Prop := ∃ v' xs', e = .returned v' ∧ w'.ownsRow B0 72 6 v' l.length xs' ∧ IL 6 encE (fun _ x s => NwV hi w x.2 s) l xs' ∧ w.grownBy w' q
theorem zeroE_one (k : Nat) : ∀ u ∈ (Builtin.zeroCells (Value.agg #[.int .i64 0, .int .i64 0, .int .i64 0, .string ⟨#[]⟩, .slice none 0 0, .slice none 0 0]).cells k).toList, u.oneCell' = true := fun u hu => by
  simp only [Builtin.zeroCells, Array.toList_map, List.mem_map] at hu
  obtain ⟨j, -, rfl⟩ := hu
  have h6 : j % ((Value.agg #[.int .i64 0, .int .i64 0, .int .i64 0, .string ⟨#[]⟩, .slice none 0 0, .slice none 0 0]).cells).size < 6 := Nat.mod_lt _ (by decide)
  generalize j % ((Value.agg #[.int .i64 0, .int .i64 0, .int .i64 0, .string ⟨#[]⟩, .slice none 0 0, .slice none 0 0]).cells).size = q at *
  match q, h6 with
  | 0, _ => rfl
  | 1, _ => rfl
  | 2, _ => rfl
  | 3, _ => rfl
  | 4, _ => rfl
  | 5, _ => rfl
set_option maxRecDepth 100000 in
set_option maxHeartbeats 8000000 in
theorem delete_any (B0 hi : Nat) (A : Option Addr) (n d : Nat) (l : List (Int × Vl)) (xs : List Value) (z : Int) (gz : Nat) (w : World) (hn : n ≤ 1100000) (hln : l.length = n) (ho : w.ownsRow B0 72 6 (.slice A n d) n xs) (hIL : IL 6 encE (fun _ x s => NwV hi w x.2 s) l xs)
    (hA : ∀ g, (Value.slice A n d).ownBlock = some g → g < hi ∧ g ≠ gz) (hz : w.cell? ⟨gz, 0, none⟩ = some (.int .i64 z)) :
    Calls Try.prog 45 #[.slice A n d, .func (.func 46) #[] #[.pointer (some ⟨gz, 0, none⟩)]] w (DlP B0 hi (l.filter fun x => !(x.1 == z)) (Value.slice A n d).ownBlock w) := by
  have hRw : Rw EtA 6 w l A := by
    by_cases h0 : n = 0
    · exact .inl (List.eq_nil_of_length_eq_zero (by omega))
    · obtain ⟨b, rfl⟩ := own_some ho h0
      exact rowE_of ho rfl hln (hIL.mono fun j hj s hs => hs.rd)
  have cI := neIx_any l A d z gz w (by omega) hRw hz
  rw [hln] at cI
  have hgl := blk_lt hz
  cases hf : l.findIdx? fun x => (x.1 == z) with
  | none =>
    rw [hf] at cI
    have hall : l.filter (fun x => !(x.1 == z)) = l := List.filter_eq_self.2 fun x hx => by
      have := (List.findIdx?_eq_none_iff.1 hf) x hx
      simp [this]
    rw [hall]
    have cI : Calls Try.prog 42 #[.slice A n d, .func (.func 46) #[] #[.pointer (some ⟨gz, 0, none⟩)]] w (Ib (.int .i64 (-1)) w) := cI
    have HO := Lib.hid ho
    have HI := Lib.hid hIL
    clear hRw hf hall hA ho hIL
    go_enter Try.func45, Try.ntmps45
    go_wp2_with fail
    refine cI.mono ?_
    rintro e w2 ⟨rfl, hb2⟩
    go_wp2_with fail
    go_ret
    exact ⟨_, xs, rfl, by rw [hln]; exact own_next HO.out hb2, HI.out, gbq_of hb2 _⟩
  | some i0 =>
    rw [hf] at cI
    rw [List.findIdx?_eq_some_iff_getElem] at hf
    obtain ⟨hi0, hp0, hpb⟩ := hf
    obtain ⟨b, rfl⟩ := own_some ho (by omega)
    obtain ⟨hbh, hbz⟩ := hA b rfl
    have cI : Calls Try.prog 42 #[.slice (some ⟨b, 0, none⟩) n d, .func (.func 46) #[] #[.pointer (some ⟨gz, 0, none⟩)]] w (Ib (.int .i64 (i0 : Int)) w) := cI
    have H0 := Lib.hid (DelM.first (p := fun x => !(x.1 == z)) hi0 (by rw [hp0]; rfl) (fun j hj hji => by have := hpb j hji; simpa using this))
    have HLN := Lib.hid hln
    have HIL := Lib.hid hIL
    have HO := Lib.hid ho
    have hi0n : i0 < n := by omega
    have hnd : n ≤ d := by
      rcases ho.2 with ⟨h, -⟩ | ⟨b', cap, cur, h, -, -, hc, -⟩
      · cases h
      · injection h with _ _ h2; omega
    have hd9 : d ≤ 9223372036854775807 := by
      rcases ho.2 with ⟨h, -⟩ | ⟨b', cap, cur, h, -, -, -, hc, -⟩
      · cases h
      · injection h with _ _ h2
        subst h2
        unfold maxLen at hc
        omega
    have hneg : ((i0 : Int) == -1) = false := by rw [beq_eq_false_iff_ne]; omega
    clear hRw hp0 hpb hi0 hA ho hIL hln
    go_enter Try.func45, Try.ntmps45
    go_wp2_with fail
    refine cI.mono ?_
    rintro e w9 ⟨rfl, hb9⟩
    have hw10 : IntKind.i64.wrap ((i0 : Int) + 1) = (i0 : Int) + 1 := by rw [IntKind.wrap_i64]; omega
    go_wp2_with fail
    go_loopw [5, 6] (fun u v wr => ∃ (i k : Nat) (M : List (Int × Vl)) (ys : List Value), u = .int .i64 (i : Int) ∧ v = .int .i64 (k : Int) ∧ Hid (i < n) ∧ Hid (k ≤ n) ∧ Hid (i < k) ∧ Hid (DelM (fun x => !(x.1 == z)) l M i k) ∧ Hid (IL 6 encE (fun _ x s => NwV hi w x.2 s) M ys) ∧ Hid (wr.ownsRow B0 72 6 (.slice (some ⟨b, 0, none⟩) n d) n ys) ∧ Hid (w.grownBy wr (some b))) (fun _ v _ => n - (intOf v).toNat)
    case atStart => exact ⟨i0, i0 + 1, l, xs, rfl, by go_num, Lib.hid hi0n, Lib.hid hi0n, Lib.hid (Nat.lt_succ_self _), H0, HIL, Lib.hid (own_next HO.out hb9), Lib.hid (gbq_of hb9 _)⟩
    case round =>
      obtain ⟨i, k, M, ys, rfl, rfl, hin, hk, HIK, HM, HIy, HOw, HG⟩ := hrel
      have hin := hin.out
      have hk := hk.out
      clear hb9 H0 HIL HO cI
      have hEt := HIy.out.1
      by_cases hlt : k < n
      · have hk1 := Lib.hid hlt
        have hkl : k < l.length := by rw [HLN.out]; exact hlt
        have hkM : k < M.length := by rw [HM.out.1]; exact hkl
        have hget := HM.out.get hkl
        obtain ⟨s, hc, hp⟩ := HIy.out.2 k hkM
        have hgbw := HG.out
        have hbl : b < wr.heap.size := by
          rcases HOw.out.2 with ⟨h, -⟩ | ⟨b', cap, cur, h, -, h2, -⟩
          · cases h
          · injection h with h; injection h with h; injection h with h; subst h
            exact (Array.getElem?_eq_some_iff.1 h2).1
        have hz1 : wr.cell? ⟨gz, 0, none⟩ = some (.int .i64 z) := by
          rw [World.cell?_of_block (w := w) (hgbw.block gz hgl (by intro h; injection h with h; exact hbz (by first | exact h | exact h.symm)))]
          exact hz
        have hgl1 : gz < wr.heap.size := blk_lt hz1
        rw [hget] at hc hp
        have HS := Lib.hid (fun hpp => HM.out.skip hkl hpp)
        have HKp := Lib.hid (fun (hpp : (!((l[k]'hkl).1 == z)) = true) => HM.out.keep hkl HIK.out hpp)
        generalize l[k]'hkl = x at *
        have e0 : wr.cell? ⟨b, k * 6, none⟩ = some (.int .i64 x.1) := (HOw.out.cellAt (k * 6) (by omega)).trans (hc 0 (by omega))
        have e1 : wr.cell? ⟨b, k * 6 + 1, none⟩ = some (.int .i64 x.2.kind) := (HOw.out.cellAt (k * 6 + 1) (by omega)).trans (hc 1 (by omega))
        have e2 : wr.cell? ⟨b, k * 6 + 2, none⟩ = some (.int .i64 x.2.n) := (HOw.out.cellAt (k * 6 + 2) (by omega)).trans (hc 2 (by omega))
        have e3 : wr.cell? ⟨b, k * 6 + 3, none⟩ = some (.string (bs x.2.s)) := (HOw.out.cellAt (k * 6 + 3) (by omega)).trans (hc 3 (by omega))
        have e4 : wr.cell? ⟨b, k * 6 + 4, none⟩ = some (.slice s.A x.2.l.length s.c) := (HOw.out.cellAt (k * 6 + 4) (by omega)).trans (hc 4 (by omega))
        have e5 : wr.cell? ⟨b, k * 6 + 5, none⟩ = some (.slice s.B x.2.f.length s.d) := (HOw.out.cellAt (k * 6 + 5) (by omega)).trans (hc 5 (by omega))
        have hbx := ab1 wr (Obj.cells #[.int .i64 x.1, .int .i64 x.2.kind, .int .i64 x.2.n, .string (bs x.2.s), .slice s.A x.2.l.length s.c, .slice s.B x.2.f.length s.d] 72)
        have Q := Bx.new6 wr 72 (.int .i64 x.1) (.int .i64 x.2.kind) (.int .i64 x.2.n) (.string (bs x.2.s)) (.slice s.A x.2.l.length s.c) (.slice s.B x.2.f.length s.d)
        have hrd := hp (wr.alloc (Obj.cells #[.int .i64 x.1, .int .i64 x.2.kind, .int .i64 x.2.n, .string (bs x.2.s), .slice s.A x.2.l.length s.c, .slice s.B x.2.f.length s.d] 72)) ((Kpl.gb hgbw hbh).trans (Kpl.of hbx))
        have cC := neFn_any x z gz (.agg #[.int .i64 x.1, .int .i64 x.2.kind, .int .i64 x.2.n, .string (bs x.2.s), .slice s.A x.2.l.length s.c, .slice s.B x.2.f.length s.d]) (wr.alloc (Obj.cells #[.int .i64 x.1, .int .i64 x.2.kind, .int .i64 x.2.n, .string (bs x.2.s), .slice s.A x.2.l.length s.c, .slice s.B x.2.f.length s.d] 72)) ⟨s.A, s.c, s.B, s.d, rfl, hrd.1, hrd.2⟩ (cell_next hbx hz1)
        have HP := Lib.hid hp
        clear hc hget hrd hp
        by_cases hx : x.1 = z
        · have hx2 : (x.1 == z) = true := by simpa using hx
          rw [hx2] at cC
          have HS2 := Lib.hid (HS.out (by rw [hx2]; rfl))
          clear HS HKp hx hx2
          go_wp2_with fail
          refine cC.mono ?_
          rintro e w2 ⟨rfl, hb2⟩
          go_wp2_with fail
          go_roundw
          case rel => exact ⟨i, k + 1, M, ys, rfl, by go_num, Lib.hid hin, Lib.hid hk1.out, Lib.hid (by have := HIK.out; omega), HS2, HIy, Lib.hid (own_next (own_next HOw.out hbx) hb2), Lib.hid (HG.out.trans (gbq_of (Below.next hbx hb2) _))⟩
          case measure => have := hk1.out; simp [intOf]; omega
        · have hx2 : (x.1 == z) = false := by simpa using hx
          rw [hx2] at cC
          have HK2 := Lib.hid (HKp.out (by rw [hx2]; rfl))
          clear HS HKp hx hx2
          go_wp2_with fail
          refine cC.mono ?_
          rintro e w2 ⟨rfl, hb2⟩
          have q0 := (Q.next hb2).c 0 rfl
          have q1 := (Q.next hb2).c 1 rfl
          have q2 := (Q.next hb2).c 2 rfl
          have q3 := (Q.next hb2).c 3 rfl
          have q4 := (Q.next hb2).c 4 rfl
          have q5 := (Q.next hb2).c 5 rfl
          have ho3 := own_next (own_next HOw.out hbx) hb2
          have hb3 := Below.next hbx hb2
          have hbl2 : b < w2.heap.size := Nat.lt_of_lt_of_le hbl hb3.size
          have f0 := ho3.frozenAt (i * 6)
          have f1 := ho3.frozenAt (i * 6 + 1)
          have f2 := ho3.frozenAt (i * 6 + 2)
          have f3 := ho3.frozenAt (i * 6 + 3)
          have f4 := ho3.frozenAt (i * 6 + 4)
          have f5 := ho3.frozenAt (i * 6 + 5)
          have hin6 : i * 6 + 6 ≤ n * 6 := by omega
          have gsome : ∀ j, j < n * 6 → ∃ v, w2.cell? ⟨b, j, none⟩ = some v := fun j hj => by
            rw [ho3.cellAt j hj]
            exact ⟨_, List.getElem?_eq_getElem (by rw [ho3.1]; exact hj)⟩
          obtain ⟨u0, g0⟩ := gsome (i * 6) (by omega)
          obtain ⟨u1, g1⟩ := gsome (i * 6 + 1) (by omega)
          obtain ⟨u2, g2⟩ := gsome (i * 6 + 2) (by omega)
          obtain ⟨u3, g3⟩ := gsome (i * 6 + 3) (by omega)
          obtain ⟨u4, g4⟩ := gsome (i * 6 + 4) (by omega)
          obtain ⟨u5, g5⟩ := gsome (i * 6 + 5) (by omega)
          have hst := storedN (encE x s) ho3 (i * 6)
          have hst1 : (((((((w2.setCell ⟨b, i * 6, none⟩ (.int .i64 x.1)).setCell ⟨b, i * 6 + 1, none⟩ (.int .i64 x.2.kind)).setCell ⟨b, i * 6 + 2, none⟩ (.int .i64 x.2.n)).setCell ⟨b, i * 6 + 3, none⟩ (.string (bs x.2.s))).setCell ⟨b, i * 6 + 4, none⟩ (.slice s.A x.2.l.length s.c)).setCell ⟨b, i * 6 + 5, none⟩ (.slice s.B x.2.f.length s.d))).ownsRow B0 72 6 (.slice (some ⟨b, 0, none⟩) n d) n (putAt ys (i * 6) (encE x s)) := hst.1
          have hgr : w2.grownBy (((((((w2.setCell ⟨b, i * 6, none⟩ (.int .i64 x.1)).setCell ⟨b, i * 6 + 1, none⟩ (.int .i64 x.2.kind)).setCell ⟨b, i * 6 + 2, none⟩ (.int .i64 x.2.n)).setCell ⟨b, i * 6 + 3, none⟩ (.string (bs x.2.s))).setCell ⟨b, i * 6 + 4, none⟩ (.slice s.A x.2.l.length s.c)).setCell ⟨b, i * 6 + 5, none⟩ (.slice s.B x.2.f.length s.d))) (some b) := hst.2
          have HIy2 := Lib.hid (HIy.out.put (Q := fun _ x s => NwV hi w x.2 s) (k := i) (by rw [HM.out.1, HLN.out]; exact hin) x s rfl (fun j hj b hne hp => hp) HP.out)
          have HG2 := Lib.hid ((HG.out.trans (gbq_of hb3 (some b))).trans hgr)
          have HO2 := Lib.hid hst1
          have hin2 : i + 1 < n := by have := HIK.out; omega
          clear hst hst1 hgr cC gsome ho3
          go_wp2_with fail
          go_roundw
          case rel => exact ⟨i + 1, k + 1, M.set i x, putAt ys (i * 6) (encE x s), by go_num, by go_num, Lib.hid hin2, Lib.hid hk1.out, Lib.hid (by have := HIK.out; omega), HK2, HIy2, HO2, HG2⟩
          case measure => have := hk1.out; simp [intOf]; omega
      · obtain rfl : n = k := by omega
        obtain ⟨hyl, ⟨h, -⟩ | ⟨b', cap, cur, h, hB, hcur, hnc, hcm, hcs, htk⟩⟩ := HOw.out
        · cases h
        injection h with h e1 e2
        injection h with h
        injection h with h
        subst h
        subst e2
        have hfl : M.take i = l.filter (fun x => !(x.1 == z)) := by rw [HM.out.2.1, ← HLN.out, List.take_length]
        have hMl : M.length = n := by rw [HM.out.1, HLN.out]
        have hml : (l.filter (fun x => !(x.1 == z))).length = i := by rw [← hfl, List.length_take, hMl]; omega
        have hIL2 : IL 6 encE (fun _ x s => NwV hi w x.2 s) (l.filter (fun x => !(x.1 == z))) (ys.take (i * 6)) := by rw [← hfl]; exact IL.take HIy.out i (by rw [hMl]; omega)
        obtain ⟨i1, hi1, hzi, hs6, hby⟩ := info_parts infoE
        have hz6 : (Value.agg #[.int .i64 0, .int .i64 0, .int .i64 0, .string ⟨#[]⟩, .slice none 0 0, .slice none 0 0]).cells.size = 6 := rfl
        have hzl : (Builtin.zeroCells (Value.agg #[.int .i64 0, .int .i64 0, .int .i64 0, .string ⟨#[]⟩, .slice none 0 0, .slice none 0 0]).cells (n - i)).toList.length = (n - i) * 6 := by rw [Array.length_toList, zc_size, hz6]
        have hcl : ∀ ty, (Builtin.clear_ #[23] ty #[.slice (some ⟨b, i * 6, none⟩) (n - i) (d - i)]).run Try.prog wr = .ok (.tuple #[]) (wr.setRow b (cur.toList.take (i * 6) ++ (Builtin.zeroCells (Value.agg #[.int .i64 0, .int .i64 0, .int .i64 0, .string ⟨#[]⟩, .slice none 0 0, .slice none 0 0]).cells (n - i)).toList ++ cur.toList.drop (i * 6 + (Builtin.zeroCells (Value.agg #[.int .i64 0, .int .i64 0, .int .i64 0, .string ⟨#[]⟩, .slice none 0 0, .slice none 0 0]).cells (n - i)).toList.length)).toArray) := fun ty =>
          run_clear_rowN wr 23 ty 72 i1 (Value.agg #[.int .i64 0, .int .i64 0, .int .i64 0, .string ⟨#[]⟩, .slice none 0 0, .slice none 0 0]) b (i * 6) (n - i) (d - i) cur 72 Try.underlying23 hi1 hzi hcur (by omega) (by rw [hz6, hcs]; omega) (zeroE_one _)
        obtain ⟨NEW, hNEW⟩ : ∃ NEW, cur.toList.take (i * 6) ++ (Builtin.zeroCells (Value.agg #[.int .i64 0, .int .i64 0, .int .i64 0, .string ⟨#[]⟩, .slice none 0 0, .slice none 0 0]).cells (n - i)).toList ++ cur.toList.drop (i * 6 + (Builtin.zeroCells (Value.agg #[.int .i64 0, .int .i64 0, .int .i64 0, .string ⟨#[]⟩, .slice none 0 0, .slice none 0 0]).cells (n - i)).toList.length) = NEW := ⟨_, rfl⟩
        rw [hNEW] at hcl
        have hNl : NEW.length = d * 6 := by rw [← hNEW, List.length_append, List.length_append, List.length_take, hzl, List.length_drop, Array.length_toList, hcs]; omega
        have hNt : NEW.take (i * 6) = ys.take (i * 6) := by
          rw [← hNEW, List.append_assoc, List.take_append_of_le_length (by rw [List.length_take, Array.length_toList, hcs]; omega), List.take_take, Nat.min_self, ← htk, List.take_take, Nat.min_eq_left (by omega)]
        have hdi : ¬ (d = i) := by omega
        have hdi2 : ¬ (i = d) := by omega
        have HF := Lib.hid (show DlP B0 hi (l.filter fun x => !(x.1 == z)) (Value.slice (some ⟨b, 0, none⟩) n d).ownBlock w (.returned (.slice (some ⟨b, 0, none⟩) i d)) (wr.setRow b NEW.toArray) from
          ⟨_, ys.take (i * 6), rfl, by rw [hml]; exact ⟨by rw [List.length_take, hyl]; omega, .inr ⟨b, d, _, rfl, hB, setRow_heap wr b cur NEW.toArray 72 (0, 0) hcur, by omega, hcm, by rw [List.size_toArray, hNl], by rw [List.toList_toArray, hNt]⟩⟩, hIL2, HG.out.trans (gb_setRow wr b _)⟩)
        clear hNEW hNl hNt hzl hz6 hi1 hzi hs6 hby hIL2 hml hMl hfl htk hcs hcm hnc hcur hB hyl HM HIy HOw HG hEt
        go_wp2_with fail
        go_ret
        exact HF.out
end Go.Proofs.Ytlebppjldoodgaa

/-
  The developers' check that no struct uses itself, or is too deep. No conditions beyond those that each names.
-/
import Derived.Test.YthfodpbecddheaaGreatDoorQM21
import Derived.Test.YthfodpbecddheaaGreatDoorQM19
import Derived.Test.YthfodpbecddheaaGreatDoorQM14
namespace Go.Proofs.YthfodpbecddheaaGreatDoor
open Go.RowKit Go.Maps Go.Sort Go.Shelf
theorem spot_none {w : World} {a : Addr} {v : Value} (h : w.cell? a = some v) : a.spot = none := by
  unfold World.cell? at h
  split at h
  · split at h
    · cases h
    · rename_i h1; simpa using h1
  · cases h
theorem hasName_any (l : List (List UInt8)) (x : List UInt8) (v : Value) (w : World) (hl : l.length ≤ 1000000) (h : Nms w l v) :
    Calls Tryz.prog 118 #[v, .string (bs x)] w (Is (.bool (l.contains x)) w) := by
  obtain ⟨A, c, rfl, h⟩ := h
  have key : l = [] → Calls Tryz.prog 118 #[.slice A l.length c, .string (bs x)] w (Is (.bool (l.contains x)) w) := fun e => by
    subst e
    exact (Tryz.slices_Contains_string_empty A c (bs x) w).mono fun e w' ⟨h1, h2⟩ => ⟨h1, h2.symm⟩
  rcases h with h | ⟨a, rfl, h⟩
  · exact key h
  · by_cases h0 : l = []
    · exact key h0
    · have h1 : 0 < l.length := List.length_pos_iff.2 h0
      have hs : a.spot = none := spot_none (h 0 h1)
      obtain ⟨b, off, s⟩ := a
      have hs : s = none := hs
      subst hs
      refine (Tryz.slices_Contains_string b off l.length c (l.map bs) (bs x) w (by simp) (by omega) fun j hj => ?_).mono fun e w' ⟨h1, h2⟩ => ⟨?_, h2.symm⟩
      · have hj2 : j < l.length := by simpa using hj
        have := h j hj2
        rw [Nat.mul_one] at this
        have e : (l.map bs).getD j ByteArray.empty = bs (l[j]'hj2) := by simp [List.getD_eq_getElem?_getD, hj2]
        rw [e]
        unfold TyN Addr.add at this
        by_cases hj0 : j = 0
        · subst hj0; simpa using this
        · simpa [hj0] using this
      · rw [h1]
        congr 2
        rw [Bool.eq_iff_iff, Lib.containsS_iff, List.contains_iff_mem, List.take_of_length_le (by simp), List.mem_map]
        exact ⟨fun ⟨y, hy, e⟩ => by rw [← bs_inj e]; exact hy, fun h => ⟨x, h, rfl⟩⟩
theorem Us.short {S : Sch} (hO : Okk S) {x : List UInt8} {l : List (List UInt8)} (h : Us S x l) : l.length ≤ 1000000 := by
  have := nodup_le l (univ S) (asc_nodup h.1) fun y hy => by
    have := (h.2 y).1 hy
    cases this with
    | one h => exact nx_sub hO h
    | more _ h => exact nx_sub hO h
  have := univ_len hO
  omega
def FUs (S : Sch) (x : List UInt8) (W1 : World) : Fact := ⟨fun v w' => ∃ l, Us S x l ∧ Nms w' l v ∧ Below W1.heap.size W1 w', fun _ _ _ ⟨l, h1, h2, h3⟩ hb => ⟨l, h1, h2.next hb, upG h3 hb⟩⟩
open Classical in
/-- The error of structs that use themselves or are too deep. -/
noncomputable def nsR (S : Sch) : Nat := if cyc S then 19 else if deep S then 9 else 0
theorem nsR_no {S : Sch} (h : ¬ cyc S) : (deep S → nsR S = 9) ∧ (¬ deep S → nsR S = 0) := by unfold nsR; rw [if_neg h]; exact ⟨fun h => if_pos h, fun h => if_neg h⟩
theorem exB (p : Prop) : ∃ r : Bool, r = true ↔ p := by
  by_cases h : p
  · exact ⟨true, by simp [h]⟩
  · exact ⟨false, by simp [h]⟩
theorem take_all {α : Type} {l : List α} {P : α → Prop} {k : Nat} (hk : k < l.length) (h : ∀ t ∈ l.take k, P t) (h1 : P (l[k]'hk)) : ∀ t ∈ l.take (k + 1), P t := fun t ht => by
  rw [List.take_succ_eq_append_getElem hk, List.mem_append, List.mem_singleton] at ht
  rcases ht with ht | rfl
  · exact h t ht
  · exact h1
set_option maxRecDepth 100000 in
set_option maxHeartbeats 8000000 in
theorem checkNesting_any (S : Sch) (hO : Okk S) (hP : ¬ cyc S → ∃ rk, Dpt S rk) (b1 b2 : Nat) (v : Value) (w : World) (hv : ScV w S v) (hD : Dm w S b1 b2) :
    Calls Tryz.prog 62 #[v, .agg #[.map (some b1), .map (some b2)]] w (Ib (.int .i64 (nsR S : Int)) w) := by
  have hmm := @run_makeMap Tryz.prog
  obtain ⟨A, c, A2, c2, rfl, hS⟩ := hv
  have hSs := hS.st
  clear hS
  obtain ⟨n, hn⟩ : ∃ n, S.enums.length = n := ⟨_, rfl⟩
  obtain ⟨m, hm⟩ : ∃ m, S.structs.length = m := ⟨_, rfl⟩
  have HM := Lib.hid hm
  have hmn : n + m ≤ 36 := by have := hO.nn; omega
  rw [hn, hm]
  have z1 : (w.alloc (Obj.cells #[.int .i64 S.ver, .slice A n c, .slice A2 m c2] 25)).heap.size = w.heap.size + 1 := by simp
  have B1 := (Bx.new3 w 25 (.int .i64 S.ver) (.slice A n c) (.slice A2 m c2)).next (ab1 _ (Obj.cells #[.map (some b1), .map (some b2)] 111))
  have B2 := Bx.new2 (w.alloc (Obj.cells #[.int .i64 S.ver, .slice A n c, .slice A2 m c2] 25)) 111 (.map (some b1)) (.map (some b2))
  rw [z1] at B2
  have hab := ab2 w (Obj.cells #[.int .i64 S.ver, .slice A n c, .slice A2 m c2] 25) (Obj.cells #[.map (some b1), .map (some b2)] 111)
  have HC0 : Hid (∀ t ∈ S.structs.take 0, ¬ Reach (nx S) t.name t.name) := Lib.hid (fun _ h => by simp at h)
  clear hn hm z1
  go_enter Tryz.func62, Tryz.ntmps62
  go_wp2_with fail
  go_loopw [13] (fun i wr => ∃ k : Nat, k ≤ m ∧ i = .int .i64 (k : Int) ∧ Hid (∀ t ∈ S.structs.take k, ¬ Reach (nx S) t.name t.name) ∧ Bx wr w.heap.size [.int .i64 S.ver, .slice A n c, .slice A2 m c2] ∧ Bx wr (w.heap.size + 1) [.map (some b1), .map (some b2)] ∧ Below w.heap.size w wr) (fun i _ => m - (intOf i).toNat)
  case atStart => exact ⟨0, by omega, rfl, HC0, B1, B2, hab⟩
  case round =>
    obtain ⟨k, hk, rfl, HC, C1, C2, hb⟩ := hrel
    clear HC0 B1 B2 hab
    have s2 := C1.c 2 rfl
    have l1 := C1.lt
    have l2 := C2.lt
    by_cases hlt : k < m
    · obtain ⟨a, rfl, hA⟩ := hSs.get (i := k) (by rw [HM.out]; exact hlt)
      have hkm : k < S.structs.length := by rw [HM.out]; exact hlt
      have hTM := fun h => take_all (P := fun t : St => ¬ Reach (nx S) t.name t.name) hkm HC.out h
      have hts : S.structs[k]'hkm ∈ S.structs := List.getElem_mem hkm
      obtain ⟨A3, c3, e0, e1, -⟩ := hA.val
      replace e0 := cell_next hb e0
      replace e1 := cell_next hb e1
      have hblk : (a.add (k * 2)).block < wr.heap.size := blk_lt e0
      generalize S.structs[k]'hkm = t at *
      have hx40 := (hO.ne t.name (.inl (List.mem_map.2 ⟨t, hts, rfl⟩))).2
      obtain ⟨r, hr⟩ := exB (Reach (nx S) t.name t.name)
      have HCY : r = true → cyc S := fun h => ⟨t, hts, hr.1 h⟩
      have HNX : Hid (r = false → ∀ t ∈ S.structs.take (k + 1), ¬ Reach (nx S) t.name t.name) := Lib.hid fun h => hTM fun h1 => by rw [hr.2 h1] at h; cases h
      obtain ⟨x, hxx⟩ : ∃ x, t.name = x := ⟨_, rfl⟩
      rw [hxx] at hr e0 hx40
      have hx : x.length ≤ 9223372036854775807 := by omega
      clear hA hTM HC hxx
      go_upto_region 4 with (fail)
      have hE := Bx.new2 wr 53 (.string (bs x)) (.slice A3 t.fields.length c3)
      have hR := C2.next (ab1 wr (Obj.cells #[.string (bs x), .slice A3 t.fields.length c3] 53))
      have hS1 := C1.next (ab1 wr (Obj.cells #[.string (bs x), .slice A3 t.fields.length c3] 53))
      have hb1 := Below.next hb (ab1 wr (Obj.cells #[.string (bs x), .slice A3 t.fields.length c3] 53))
      have hD1 := hD.next hb1
      generalize wr.alloc (Obj.cells #[.string (bs x), .slice A3 t.fields.length c3] 53) = W1 at *
      generalize hp6 : wr.heap.size = p6 at *
      clear e0 e1 hblk s2 l1 l2 C1 C2 hb hts
      refine wp_region_on (by kernel_rfl) (FF [(3, Fact.at_ W1 (.pointer (some ⟨(w.heap.size + 1), 0, none⟩))), (6, Fact.at_ W1 (.pointer (some ⟨p6, 0, none⟩))), (17, Fact.at_ W1 (.agg #[.map (some b1), .map (some b2)])), (18, Fact.at_ W1 (.pointer (some ⟨p6, 0, none⟩))), (19, Fact.at_ W1 (.string (bs x))), (20, FUs S x W1), (21, Fact.at_ W1 (.pointer (some ⟨p6, 0, none⟩))), (22, Fact.at_ W1 (.string (bs x))), (23, Fact.at_ W1 (.bool r))]) [3, 6] 40 [17, 18, 19, 20, 21, 22, 23] rfl (by kernel_rfl) (by kernel_rfl) ?_ ?_ ?_
      · intro t ht
        simp only [List.mem_cons, List.not_mem_nil, or_false] at ht
        rcases ht with rfl | rfl
        · exact ⟨rfl, Below.refl _ _⟩
        · exact ⟨rfl, Below.refl _ _⟩
      · refine fcs ⟨at1 3 17 (.pointer (some ⟨(w.heap.size + 1), 0, none⟩)) (.agg #[.map (some b1), .map (some b2)]) rfl (by first | exact .inl rfl | exact .inr ⟨_, _, _, rfl, rfl, by kernel_rfl, by decide, rfl⟩) (by kernel_rfl) rfl rfl (fun a W' hb h1 => by have h3 := (hb.cell (p := ⟨(w.heap.size + 1), 0, none⟩) hR.lt).trans (hR.c 0 rfl); have h4 := (hb.cell (p := ⟨(w.heap.size + 1), 1, none⟩) hR.lt).trans (hR.c 1 rfl); simp [execOp, h1] <;> go_simp), ?_⟩
        refine fcs ⟨at1 6 18 (.pointer (some ⟨p6, 0, none⟩)) (.pointer (some ⟨p6, 0, none⟩)) rfl (by first | exact .inl rfl | exact .inr ⟨_, _, _, rfl, rfl, by kernel_rfl, by decide, rfl⟩) (by kernel_rfl) rfl rfl (fun a W' hb h1 => by simp [execOp, h1] <;> go_simp), ?_⟩
        refine fcs ⟨at1 18 19 (.pointer (some ⟨p6, 0, none⟩)) (.string (bs x)) rfl (by first | exact .inl rfl | exact .inr ⟨_, _, _, rfl, rfl, by kernel_rfl, by decide, rfl⟩) (by kernel_rfl) rfl rfl (fun a W' hb h1 => by have h3 := (hb.cell (p := ⟨p6, 0, none⟩) hE.lt).trans (hE.c 0 rfl); simp [execOp, h1] <;> go_simp), ?_⟩
        refine fcs ⟨at_enter (W0 := W1) (by first | exact .inl rfl | exact .inr ⟨_, _, _, rfl, rfl, by kernel_rfl, by decide, rfl⟩) (fun a W' hf => ?_), ?_⟩
        · have h1 := hf 17 (by kernel_rfl)
          have h2 := hf 19 (by kernel_rfl)
          have h1' : a.tmps.getD 17 undef = (.agg #[.map (some b1), .map (some b2)]) := h1.1
          have h2' : a.tmps.getD 19 undef = (.string (bs x)) := h2.1
          refine ⟨119, #[(.agg #[.map (some b1), .map (some b2)]), (.string (bs x))], by rw [← h1', ← h2']; simpa [execOp, resolve, Act.eval] using run_invoke (by kernel_rfl) _ W', (used_any S hO b1 b2 x hx W' (hD1.next h1.2)).mono fun e w' ⟨v, l, e1, e2, e3, e4⟩ => ⟨v, e1, e4, fun s hs => ?_⟩⟩
          injection hs with hs
          subst hs
          exact ⟨l, e2, e3, upG h1.2 e4⟩
        refine fcs ⟨at1 6 21 (.pointer (some ⟨p6, 0, none⟩)) (.pointer (some ⟨p6, 0, none⟩)) rfl (by first | exact .inl rfl | exact .inr ⟨_, _, _, rfl, rfl, by kernel_rfl, by decide, rfl⟩) (by kernel_rfl) rfl rfl (fun a W' hb h1 => by simp [execOp, h1] <;> go_simp), ?_⟩
        refine fcs ⟨at1 21 22 (.pointer (some ⟨p6, 0, none⟩)) (.string (bs x)) rfl (by first | exact .inl rfl | exact .inr ⟨_, _, _, rfl, rfl, by kernel_rfl, by decide, rfl⟩) (by kernel_rfl) rfl rfl (fun a W' hb h1 => by have h3 := (hb.cell (p := ⟨p6, 0, none⟩) hE.lt).trans (hE.c 0 rfl); simp [execOp, h1] <;> go_simp), ?_⟩
        refine fcs ⟨at_enter (W0 := W1) (by first | exact .inl rfl | exact .inr ⟨_, _, _, rfl, rfl, by kernel_rfl, by decide, rfl⟩) (fun a W' hf => ?_), ?_⟩
        · obtain ⟨l, hu, hN, hbl⟩ := hf 20 (by kernel_rfl)
          have h2 := hf 22 (by kernel_rfl)
          have h2' : a.tmps.getD 22 undef = (.string (bs x)) := h2.1
          have hc : l.contains x = r := by rw [Bool.eq_iff_iff, List.contains_iff_mem, hr]; exact hu.2 x
          have hl : l.length ≤ 1000000 := Us.short hO hu
          refine ⟨118, #[a.tmps.getD 20 undef, (.string (bs x))], by rw [← h2']; simpa [execOp, resolve, Act.eval] using run_invoke (by kernel_rfl) _ W', (hasName_any l x _ W' hl hN).mono fun e w' ⟨e1, e2⟩ => ⟨.bool r, by rw [e1, hc], by rw [← e2]; exact Below.refl _ _, fun s hs => ?_⟩⟩
          injection hs with hs
          subst hs
          rw [← e2]
          exact ⟨rfl, hbl⟩
        exact fnl
      intro vv wv hvv hbv
      have hv23 : vv 23 = .bool r := (hvv 23 (by decide)).1
      simp only [lay, List.foldl_cons, List.foldl_nil, List.setIfInBounds_toArray, List.set_cons_succ, List.set_cons_zero, hv23]
      have hS2 := hS1.next hbv
      have hR2 := hR.next hbv
      have hb2 := Below.next hb1 hbv
      clear hvv hE hR hS1 hb1 hD1 hr hbv
      cases r
      · have HN2 := Lib.hid (HNX.out rfl)
        clear HNX HCY
        go_wp2_with fail
        go_roundw
        case rel => exact ⟨k + 1, by omega, by go_num, HN2, hS2, hR2, hb2⟩
        case measure => simp [intOf]; omega
      · have hE9 : (19 : Int) = (nsR S : Int) := by unfold nsR; rw [if_pos (HCY rfl)]; rfl
        clear HNX HCY
        go_wp2_with fail
        go_ret
        exact ⟨by rw [← hE9]; rfl, hb2⟩
    · obtain rfl : k = m := by omega
      have hnc : ¬ cyc S := by
        rintro ⟨t, ht, h⟩
        exact HC.out t (by rw [List.take_of_length_le (by rw [HM.out]; exact Nat.le_refl _)]; exact ht) h
      obtain ⟨rk, hDp⟩ := hP hnc
      have hK := Kp.made S wr
      have hnr := nsR_no hnc
      have HNR := Lib.hid hnr
      have hS1 := C1.next (ab1 wr (Obj.map #[] 0))
      have hR1 := C2.next (ab1 wr (Obj.map #[] 0))
      have hb1 := Below.next hb (ab1 wr (Obj.map #[] 0))
      have hsz := hb.size
      have HD0 : Hid (∀ t ∈ S.structs.take 0, dep S t.name ≤ 6) := Lib.hid (fun _ h => by simp at h)
      clear HC hnc hP hnr
      go_wp2_with fail
      have hlw := l2
      clear s2 l1 l2 C1 C2 hb
      rename World => wo
      go_loopw [29] (fun i wr => ∃ y : Nat, y ≤ k ∧ i = .int .i64 (y : Int) ∧ Hid (∀ t ∈ S.structs.take y, dep S t.name ≤ 6) ∧ Kp S wr wo.heap.size ∧ Bx wr w.heap.size [.int .i64 S.ver, .slice A n c, .slice A2 k c2] ∧ Bx wr (w.heap.size + 1) [.map (some b1), .map (some b2)] ∧ Below w.heap.size w wr) (fun i _ => k - (intOf i).toNat)
      case atStart => exact ⟨0, by omega, rfl, HD0, hK, hS1, hR1, hb1⟩
      case round =>
        clear hK hS1 hR1 hb1 HD0
        obtain ⟨y, hy, rfl, HD, hK, C1, C2, hb⟩ := hrel
        have s2 := C1.c 2 rfl
        have d0 := C2.c 0 rfl
        have d1 := C2.c 1 rfl
        have l1 := C1.lt
        have l2 := C2.lt
        have l3 := hK.lt
        by_cases hlt : y < k
        · obtain ⟨a, rfl, hA⟩ := hSs.get (i := y) (by rw [HM.out]; exact hlt)
          have hkm : y < S.structs.length := by rw [HM.out]; exact hlt
          have hTM := fun h => take_all (P := fun t : St => dep S t.name ≤ 6) hkm HD.out h
          have hts : S.structs[y]'hkm ∈ S.structs := List.getElem_mem hkm
          obtain ⟨A3, c3, e0, e1, -⟩ := hA.val
          replace e0 := cell_next hb e0
          replace e1 := cell_next hb e1
          have hblk : (a.add (y * 2)).block < wr.heap.size := blk_lt e0
          generalize S.structs[y]'hkm = t at *
          have hb2 := Below.next hb (ab1 wr (Obj.cells #[.string (bs t.name), .slice A3 t.fields.length c3] 53))
          have hK2 := hK.next (ab1 wr (Obj.cells #[.string (bs t.name), .slice A3 t.fields.length c3] 53))
          have cD := depth_any S hO rk hDp w wo.heap.size b1 b2 hD hsz (rk t.name + 1) t.name _ (Nat.lt_succ_self _) (List.mem_map.2 ⟨t, hts, rfl⟩) hb2 hK2
          have hS2 := C1.next (ab1 wr (Obj.cells #[.string (bs t.name), .slice A3 t.fields.length c3] 53))
          have hR2 := C2.next (ab1 wr (Obj.cells #[.string (bs t.name), .slice A3 t.fields.length c3] 53))
          have hbd := hDp.bd t.name
          obtain ⟨d, hd⟩ : ∃ d, dep S t.name = d := ⟨_, rfl⟩
          have HDE : 6 < d → deep S := fun h => ⟨t, hts, by rw [hd]; exact h⟩
          have HT := Lib.hid hTM
          have HDD := Lib.hid hd
          unfold DpP at cD
          rw [hd] at cD hbd
          clear hA hTM hd hts HD
          go_wp2_with fail
          refine cD.mono ?_
          rintro e w2 ⟨rfl, hg2, hK3⟩
          have hS3 := hS2.kept hg2 (by omega)
          have hR3 := hR2.kept hg2 (by omega)
          have hb3 := hb2.grown hg2 hb2.size (fun j hj => by cases hj; exact hsz)
          clear cD hS2 hR2 hK2 hb2 hK C1 C2 hb s2 d0 d1 l1 l2 e0 e1 hblk
          by_cases h6 : 6 < d
          · have hE9 : (9 : Int) = (nsR S : Int) := by rw [HNR.out.1 (HDE h6)]; rfl
            clear HDE HT
            go_wp2_with fail
            go_ret
            exact ⟨by rw [← hE9]; rfl, hb3⟩
          · have HN2 := Lib.hid (HT.out (by rw [HDD.out]; omega))
            clear HDE HT HDD
            go_wp2_with fail
            go_roundw
            case rel => exact ⟨y + 1, by omega, by go_num, HN2, hK3, hS3, hR3, hb3⟩
            case measure => simp [intOf]; omega
        · obtain rfl : y = k := by omega
          have hE9 : (0 : Int) = (nsR S : Int) := by
            rw [HNR.out.2]
            · rfl
            · rintro ⟨t, ht, h⟩
              have := HD.out t (by rw [List.take_of_length_le (by rw [HM.out]; exact Nat.le_refl _)]; exact ht)
              omega
          clear HD
          go_wp2_with fail
          go_ret
          exact ⟨by rw [← hE9]; rfl, hb⟩
end Go.Proofs.YthfodpbecddheaaGreatDoor
/-
  What valid schemas of few parts keep: mathematics. No conditions beyond those that each names.
-/
namespace Go.Proofs.YthfodpbecddheaaGreatDoor
theorem fewT_nok : ∀ (t : Ty), fewT t = true → nok t
  | .mk k s n e, h => by
    rw [fewT] at h
    simp only [Bool.and_eq_true, decide_eq_true_eq] at h
    rw [nok]
    exact ⟨by omega, go e h.2.2.2⟩
where go : ∀ (e : List Ty), fewT.fews e = true → nok.noks e
  | [], _ => by rw [nok.noks]; trivial
  | t :: ts, h => by
    rw [fewT.fews, Bool.and_eq_true] at h
    rw [nok.noks]
    exact ⟨fewT_nok t h.1, go ts h.2⟩
theorem fewT_lok : ∀ (t : Ty), fewT t = true → lok t
  | .mk k s n e, h => by
    rw [fewT] at h
    simp only [Bool.and_eq_true, decide_eq_true_eq] at h
    rw [lok]
    exact ⟨by omega, go e h.2.2.2⟩
where go : ∀ (e : List Ty), fewT.fews e = true → lok.loks e
  | [], _ => by rw [lok.loks]; trivial
  | t :: ts, h => by
    rw [fewT.fews, Bool.and_eq_true] at h
    rw [lok.loks]
    exact ⟨fewT_lok t h.1, go ts h.2⟩
theorem lst_le : ∀ (t : Ty), lst t ≤ dpt t
  | .mk k s n e => by
    rw [dpt]
    by_cases h5 : k = 5
    · subst h5
      match e with
      | [] => rw [lst]; simp
      | t :: ts =>
        rw [lst_list, dpt.dpts]
        have := lst_le t
        omega
    · rw [lst_not _ _ _ h5]
      omega
theorem fewT_lst {t : Ty} (h : fewT t = true) : lst t ≤ 8 := by
  rw [fewT_eq] at h
  simp only [Bool.and_eq_true, decide_eq_true_eq] at h
  have := lst_le t
  omega
/-- The bounds of a schema of few parts. -/
structure FewB (S : Sch) : Prop where
  ne : S.enums.length ≤ 18
  ns : S.structs.length ≤ 18
  en : ∀ x ∈ S.enums, x.name.length ≤ 40 ∧ x.names.length ≤ 18 ∧ x.nums.length ≤ 18 ∧ ∀ y ∈ x.names, y.length ≤ 40
  st : ∀ t ∈ S.structs, t.name.length ≤ 40 ∧ t.fields.length ≤ 18 ∧ ∀ f ∈ t.fields, f.name.length ≤ 40 ∧ nok f.type ∧ lok f.type ∧ lst f.type ≤ 8
theorem few_B {S : Sch} (h : few S = true) : FewB S := by
  unfold few at h
  simp only [Bool.and_eq_true, decide_eq_true_eq, List.all_eq_true] at h
  obtain ⟨h1, h2, h3, h4⟩ := h
  refine ⟨h1, h2, fun x hx => ?_, fun t ht => ?_⟩
  · have := h3 x hx
    unfold fewE shortN at this
    simp only [Bool.and_eq_true, decide_eq_true_eq, List.all_eq_true] at this
    exact this
  · have := h4 t ht
    unfold fewS shortN at this
    simp only [Bool.and_eq_true, decide_eq_true_eq, List.all_eq_true] at this
    refine ⟨this.1, this.2.1, fun f hf => ?_⟩
    have hf := this.2.2 f hf
    unfold fewF shortN at hf
    simp only [Bool.and_eq_true, decide_eq_true_eq] at hf
    exact ⟨hf.1, fewT_nok _ hf.2, fewT_lok _ hf.2, fewT_lst hf.2⟩
theorem nodup_take {α : Type} {l : List α} (h : ∀ i (hi : i < l.length), l[i]'hi ∉ l.take i) : l.Nodup := by
  rw [List.nodup_iff_pairwise_ne, List.pairwise_iff_getElem]
  intro i j hi hj hij e
  refine h j hj ?_
  rw [← e, List.mem_take_iff_getElem]
  exact ⟨i, by omega, rfl⟩
theorem stE_at {S : Sch} {i : Nat} (hi : i < S.structs.length) : stE S i = stErr S (ens S ++ (sns S).take i) (S.structs[i]'hi) := by unfold stE; rw [getD_of hi]
theorem enE_at {S : Sch} {i : Nat} (hi : i < S.enums.length) : enE S i = enErr ((ens S).take i) (S.enums[i]'hi) := by unfold enE; rw [getD_of hi]
theorem stErr_ok {S : Sch} {pre : List (List UInt8)} {t : St} (h : stErr S pre t = 0) : isTn t.name = true ∧ t.name ∉ pre ∧ ∀ k, k < t.fields.length → fdErr S t k = 0 := by
  unfold stErr at h
  by_cases h1 : isTn t.name = false
  · rw [if_pos h1] at h; cases h
  · rw [if_neg h1] at h
    by_cases h2 : pre.contains t.name = true
    · rw [if_pos h2] at h; cases h
    · rw [if_neg h2] at h
      exact ⟨by simpa using h1, fun hm => h2 (List.contains_iff_mem.2 hm), fe_iff.1 h⟩
theorem enErr_ok {pre : List (List UInt8)} {x : En} (h : enErr pre x = 0) : isTn x.name = true ∧ x.name ∉ pre ∧ x.names.length ≠ 0 ∧ x.nums.length = x.names.length ∧ ∀ k, k < x.names.length → nmErr x k = 0 := by
  unfold enErr at h
  by_cases h1 : isTn x.name = false
  · rw [if_pos h1] at h; cases h
  · rw [if_neg h1] at h
    by_cases h2 : pre.contains x.name = true
    · rw [if_pos h2] at h; cases h
    · rw [if_neg h2] at h
      by_cases h3 : x.names.length = 0 ∨ x.nums.length ≠ x.names.length
      · rw [if_pos h3] at h; cases h
      · rw [if_neg h3] at h
        exact ⟨by simpa using h1, fun hm => h2 (List.contains_iff_mem.2 hm), by omega, by omega, fe_iff.1 h⟩
theorem fdErr_ok {S : Sch} {t : St} {k : Nat} (hk : k < t.fields.length) (h : fdErr S t k = 0) : 1 ≤ (t.fields[k]'hk).num ∧ (t.fields[k]'hk).num ≤ 127 ∧ isN (t.fields[k]'hk).name = true ∧ right S (t.fields[k]'hk).type = true := by
  rcases fdErr_cases S t k with ⟨-, e⟩ | ⟨-, -, -, e⟩ | ⟨-, -, -, -, e⟩ | ⟨-, -, -, -, -, e⟩ | ⟨-, -, -, -, -, -, e⟩ | ⟨a, b, -, d, -, f, -⟩
  · rw [h] at e; cases e
  · rw [h] at e; cases e
  · rw [h] at e; cases e
  · rw [h] at e; cases e
  · rw [h] at e; cases e
  · rw [getD_of hk] at a b d f
    exact ⟨a, b, d, f⟩
theorem Parts.nd {S : Sch} (hP : Parts S) : (sns S).Nodup := nodup_take fun i hi hm => by
  have hi2 : i < S.structs.length := by simpa [sns] using hi
  have h := hP.st i hi2
  rw [stE_at hi2] at h
  exact (stErr_ok h).2.1 (List.mem_append_right _ (by simpa [sns] using hm))
theorem Parts.st_ {S : Sch} (hP : Parts S) {t : St} (ht : t ∈ S.structs) : isTn t.name = true ∧ t.name ∉ ens S ∧ ∀ f ∈ t.fields, right S f.type = true := by
  obtain ⟨i, hi, rfl⟩ := List.mem_iff_getElem.1 ht
  have h := hP.st i hi
  rw [stE_at hi] at h
  obtain ⟨h1, h2, h3⟩ := stErr_ok h
  refine ⟨h1, fun hm => h2 (List.mem_append_left _ hm), fun f hf => ?_⟩
  obtain ⟨k, hk, rfl⟩ := List.mem_iff_getElem.1 hf
  exact (fdErr_ok hk (h3 k hk)).2.2.2
theorem Parts.en_ {S : Sch} (hP : Parts S) {x : En} (hx : x ∈ S.enums) : isTn x.name = true := by
  obtain ⟨i, hi, rfl⟩ := List.mem_iff_getElem.1 hx
  have h := hP.en i hi
  rw [enE_at hi] at h
  exact (enErr_ok h).1
theorem Parts.okk {S : Sch} (hP : Parts S) (hB : FewB S) : Okk S where
  rt := fun t ht f hf => (hP.st_ ht).2.2 f hf
  nd := hP.nd
  ne := fun x hx => by
    have h : isTn x = true := by
      rcases hx with h | h
      · obtain ⟨t, ht, rfl⟩ := List.mem_map.1 h; exact (hP.st_ ht).1
      · obtain ⟨t, ht, rfl⟩ := List.mem_map.1 h; exact hP.en_ ht
    exact ⟨isN_ne (isTn_isN h), by have := isN_lenS (isTn_isN h); omega⟩
  dj := fun x hs he => by
    obtain ⟨t, ht, rfl⟩ := List.mem_map.1 hs
    exact (hP.st_ ht).2.1 he
  ls := fun t ht f hf => by have := ((hB.st t ht).2.2 f hf).2.2.2; omega
  fw := fun t ht => (hB.st t ht).2.1
  nn := by have := hB.ne; have := hB.ns; omega
theorem td_near (S : Sch) {d d' : List UInt8 → Nat} : ∀ (t : Ty), (∀ y ∈ dir t, y ∈ sns S → d y = d' y) → td S d t = td S d' t
  | .mk k s n e, h => by
    by_cases h5 : k = 5
    · subst h5
      match e with
      | [] => simp [td]
      | t :: ts =>
        rw [td, if_pos rfl, td, if_pos rfl, td_near S t fun y hy => h y (by rw [dir_neg _ _ _ (by decide), dir.dirs]; exact List.mem_append_left _ hy)]
    · by_cases h6 : k = 6
      · have hh : n ∈ sns S → d n = d' n := h n (by rw [dir_pos _ _ _ (.inl h6)]; simp)
        cases e <;> simp only [td, if_neg h5, if_pos h6] <;> split <;> first | exact hh (by assumption) | rfl
      · cases e <;> simp only [td, if_neg h5, if_neg h6]
theorem td_le (S : Sch) {d : List UInt8 → Nat} {B : Nat} (hd : ∀ y, d y ≤ B) : ∀ (t : Ty), td S d t ≤ lst t + B
  | .mk k s n e => by
    by_cases h5 : k = 5
    · subst h5
      match e with
      | [] => rw [td, if_pos rfl]; exact Nat.zero_le _
      | t :: ts =>
        rw [td, if_pos rfl, lst_list]
        have := td_le S hd t
        show 1 + td S d t ≤ _
        omega
    · rw [lst_not _ _ _ h5]
      by_cases h6 : k = 6
      · cases e <;> simp only [td, if_neg h5, if_pos h6] <;> split <;> first | (have := hd n; omega) | omega
      · cases e <;> simp only [td, if_neg h5, if_neg h6] <;> omega
theorem fst_st {S : Sch} (x : List UInt8) : ((fst_ St.name S.structs x).getD st0) = st0 ∨ ((fst_ St.name S.structs x).getD st0) ∈ S.structs ∧ ((fst_ St.name S.structs x).getD st0).name = x := by
  cases h : fst_ St.name S.structs x with
  | none => exact .inl rfl
  | some t => exact .inr (fst_mem h)
theorem dF_le {S : Sch} (hB : FewB S) {d : List UInt8 → Nat} {B : Nat} (hd : ∀ y, d y ≤ B) (x : List UInt8) : dF S d x ≤ 9 + B := by
  unfold dF
  rcases fst_st (S := S) x with h | ⟨h, -⟩
  · rw [h]; show 1 + 0 ≤ _; omega
  · generalize (fst_ St.name S.structs x).getD st0 = t at *
    unfold fdep
    have : ((t.fields.map fun f => td S d f.type).foldl max 0) ≤ 8 + B := (foldl_max_le _ _ _).2 ⟨by omega, fun z hz => by
      obtain ⟨f, hf, rfl⟩ := List.mem_map.1 hz
      have := td_le S hd f.type
      have := ((hB.st t h).2.2 f hf).2.2.2
      omega⟩
    omega
theorem gd_le {S : Sch} (hB : FewB S) : ∀ (n : Nat) (x : List UInt8), gd (dF S) n x ≤ 9 * n
  | 0, _ => Nat.le_refl _
  | n + 1, x => by
    have := dF_le hB (gd_le hB n) x
    show dF S (gd (dF S) n) x ≤ _
    omega
/-- The structs that a struct refers to. -/
def nxS (S : Sch) (x : List UInt8) : List (List UInt8) := (nx S x).filter fun y => (sns S).contains y
theorem mem_nxS {S : Sch} {x y : List UInt8} : y ∈ nxS S x ↔ y ∈ nx S x ∧ y ∈ sns S := by unfold nxS; rw [List.mem_filter, List.contains_iff_mem]
theorem dF_near (S : Sch) : Near (nxS S) (dF S) := fun d d' x h => by
  unfold dF fdep
  congr 2
  refine List.map_congr_left fun f hf => td_near S f.type fun y hy hs => h y (mem_nxS.2 ⟨?_, hs⟩)
  unfold nx nxs
  exact List.mem_flatMap.2 ⟨f, hf, hy⟩
open Classical in
/-- How many structs a name leads to. -/
noncomputable def rkS (S : Sch) (x : List UInt8) : Nat := ((sns S).filter fun y => decide (Reach (nx S) x y)).length
theorem no_loop {S : Sch} (hc : ¬ cyc S) (x : List UInt8) : ¬ Reach (nx S) x x := fun h => by
  rcases fst_st (S := S) x with e | ⟨h1, h2⟩
  · have : nx S x = [] := by unfold nx; rw [e]; rfl
    rcases Reach.first h with h | ⟨z, hz, -⟩
    · rw [this] at h; cases h
    · rw [this] at hz; cases hz
  · exact hc ⟨_, h1, by rw [h2]; exact h⟩
theorem rkS_down {S : Sch} (hn : (sns S).Nodup) (hc : ¬ cyc S) : Down (nxS S) (rkS S) := fun x y hy => by
  obtain ⟨h1, h2⟩ := mem_nxS.1 hy
  have := nodup_le (y :: (sns S).filter fun z => @decide (Reach (nx S) y z) (Classical.propDecidable _)) ((sns S).filter fun z => @decide (Reach (nx S) x z) (Classical.propDecidable _))
    (List.nodup_cons.2 ⟨fun h => no_loop hc y (by simpa using (List.mem_filter.1 h).2), hn.filter _⟩) fun z hz => by
      rw [List.mem_filter]
      rcases List.mem_cons.1 hz with rfl | hz
      · exact ⟨h2, by simpa using Reach.one h1⟩
      · obtain ⟨h3, h4⟩ := List.mem_filter.1 hz
        exact ⟨h3, by simpa using (Reach.one h1).trans (by simpa using h4)⟩
  simp only [List.length_cons] at this
  exact this
theorem rkS_lt (S : Sch) (x : List UInt8) : rkS S x < S.structs.length + 1 := by
  have := List.length_filter_le (fun y => @decide (Reach (nx S) x y) (Classical.propDecidable _)) (sns S)
  unfold rkS
  unfold sns at this ⊢
  simp only [List.length_map] at this
  omega
theorem dpt_of {S : Sch} (hn : (sns S).Nodup) (hB : FewB S) (hc : ¬ cyc S) : Dpt S (rkS S) where
  dn := fun x y hy hs => rkS_down hn hc x y (mem_nxS.2 ⟨hy, hs⟩)
  fx := fun x => gd_fix (rkS_down hn hc) (dF_near S) (rkS_lt S) x
  bd := fun x => by
    have := gd_le hB (S.structs.length + 1) x
    have := hB.ns
    unfold dep
    omega
end Go.Proofs.YthfodpbecddheaaGreatDoor
/-
  The developers' Check. No conditions beyond those that each names, and what the library's variables hold.
-/
namespace Go.Proofs.YthfodpbecddheaaGreatDoor
open Go.RowKit Go.Maps Go.Sort Go.Shelf
theorem chk_ver {S : Sch} (h : S.ver < 1 ∨ 999 < S.ver) : chk S = 4 := by unfold chk; rw [if_pos h]
theorem chk_long {S : Sch} (h : ¬ (S.ver < 1 ∨ 999 < S.ver)) (h2 : longS S) : chk S = 3 := by unfold chk; rw [if_neg h, if_pos h2]
theorem chk_en {S : Sch} (h : ¬ (S.ver < 1 ∨ 999 < S.ver)) (h2 : ¬ longS S) {k e : Nat} (hk : k < S.enums.length) (h3 : ∀ j, j < k → enE S j = 0) (he : enE S k = e) (h0 : e ≠ 0) : chk S = e := by
  have := fe_at hk h3 he h0
  unfold chk
  rw [if_neg h, if_neg h2, this, if_pos h0]
theorem chk_st {S : Sch} (h : ¬ (S.ver < 1 ∨ 999 < S.ver)) (h2 : ¬ longS S) (h4 : ∀ j, j < S.enums.length → enE S j = 0) {k e : Nat} (hk : k < S.structs.length) (h3 : ∀ j, j < k → stE S j = 0) (he : stE S k = e) (h0 : e ≠ 0) : chk S = e := by
  have := fe_at hk h3 he h0
  have h5 := fe_zero h4
  unfold chk
  rw [if_neg h, if_neg h2, h5, if_neg (fun h => h rfl), this, if_pos h0]
theorem chk_ns {S : Sch} (h : ¬ (S.ver < 1 ∨ 999 < S.ver)) (h2 : ¬ longS S) (hP : Parts S) : chk S = nsR S := by
  have h4 := fe_zero hP.en
  have h5 := fe_zero hP.st
  unfold chk nsR
  rw [if_neg h, if_neg h2, h4, if_neg (fun h => h rfl), h5, if_neg (fun h => h rfl)]
theorem take_map {α β : Type} {l : List α} (f : α → β) {k : Nat} (hk : k < l.length) : (l.map f).take (k + 1) = (l.map f).take k ++ [f (l[k]'hk)] := by
  rw [List.take_succ_eq_append_getElem (by simpa using hk)]
  simp
set_option maxRecDepth 100000 in
set_option maxHeartbeats 8000000 in
theorem check_any (S : Sch) (hB : FewB S) (v : Value) (w : World) (hv : ScV w S v) (hE : Env w) :
    Calls Tryz.prog 31 #[v] w (Ib (.int .i64 (chk S : Int)) w) := by
  have hmm := @run_makeMap Tryz.prog
  obtain ⟨A, c, A2, c2, rfl, hS⟩ := hv
  obtain ⟨n, hn⟩ : ∃ n, S.enums.length = n := ⟨_, rfl⟩
  obtain ⟨m, hm⟩ : ∃ m, S.structs.length = m := ⟨_, rfl⟩
  have HN := Lib.hid hn
  have HM := Lib.hid hm
  have hn18 := hB.ne
  have hm18 := hB.ns
  rw [hn] at hn18
  rw [hm] at hm18
  obtain ⟨r, hr⟩ := exB (longS S)
  have hv1 : ScV (w.alloc (Obj.cells #[.int .i64 S.ver, .slice A n c, .slice A2 m c2] 25)) S (.agg #[.int .i64 S.ver, .slice A n c, .slice A2 m c2]) := ⟨A, c, A2, c2, by rw [hn, hm], hS.next (ab1 _ _)⟩
  have cL := isLong_any S (.agg #[.int .i64 S.ver, .slice A n c, .slice A2 m c2]) _ r hr (by omega) (by omega) hv1
  rw [hn, hm]
  have B1 := Bx.new3 w 25 (.int .i64 S.ver) (.slice A n c) (.slice A2 m c2)
  have hab := ab1 w (Obj.cells #[.int .i64 S.ver, .slice A n c, .slice A2 m c2] 25)
  by_cases h1 : S.ver < 1
  · have hc := chk_ver (.inl h1)
    have hc2 : (4 : Int) = (chk S : Int) := by rw [hc]; rfl
    clear cL hr hc hS
    go_enter Tryz.func31, Tryz.ntmps31
    go_wp2_with fail
    go_ret
    exact ⟨by rw [← hc2]; rfl, hab⟩
  by_cases h2 : 999 < S.ver
  · have hc := chk_ver (.inr h2)
    have hc2 : (4 : Int) = (chk S : Int) := by rw [hc]; rfl
    clear cL hr hc hS
    go_enter Tryz.func31, Tryz.ntmps31
    go_wp2_with fail
    go_ret
    exact ⟨by rw [← hc2]; rfl, hab⟩
  have h12 : ¬ (S.ver < 1 ∨ 999 < S.ver) := by omega
  go_enter Tryz.func31, Tryz.ntmps31
  go_wp2_with fail
  refine cL.mono ?_
  rintro e w1 ⟨rfl, hb1⟩
  have hab1 := Below.next hab hb1
  have B1 := B1.next hb1
  have l0 := B1.lt
  cases r
  case true =>
    have hc := chk_long h12 (hr.1 rfl)
    have hc2 : (3 : Int) = (chk S : Int) := by rw [hc]; rfl
    clear cL hr hc hS
    go_wp2_with fail
    go_ret
    exact ⟨by rw [← hc2]; rfl, hab1⟩
  have hnl : ¬ longS S := fun h => by have := hr.2 h; cases this
  have hS1 := hS.next hab1
  have hv2 : ScV w1 S (.agg #[.int .i64 S.ver, .slice A n c, .slice A2 m c2]) := ⟨A, c, A2, c2, by rw [hn, hm], hS1⟩
  have cDf := define_any S (.agg #[.int .i64 S.ver, .slice A n c, .slice A2 m c2]) w1 hv2 (by omega) (by omega) (fun t ht => (hB.st t ht).1) (fun t ht => (hB.en t ht).1)
  have c0 := B1.c 0 rfl
  have c1 := B1.c 1 rfl
  have c2_ := B1.c 2 rfl
  clear cL hv1 hv2 hS hab hr hn hm
  go_wp2_with fail
  refine cDf.mono ?_
  rintro e w2 ⟨b1, b2, rfl, hD, hb2⟩
  have hab2 := Below.next hab1 hb2
  have hS2 := hS1.next hb2
  have hE2 := hE.next hab2
  have B2 := B1.next hb2
  have l2 := B2.lt
  have g1 := B2.c 1 rfl
  have hSe := hS2.en
  have hSs := hS2.st
  have z1 : (w2.alloc (Obj.map #[] 0)).heap.size = w2.heap.size + 1 := by simp
  have M0 := (Ms.made w2).next (ab1 (w2.alloc (Obj.map #[] 0)) (Obj.cells #[.map (some b1), .map (some b2)] 111))
  have C0 := Bx.new2 (w2.alloc (Obj.map #[] 0)) 111 (.map (some b1)) (.map (some b2))
  have B3 := B2.next (ab2 w2 (Obj.map #[] 0) (Obj.cells #[.map (some b1), .map (some b2)] 111))
  have hb3 := ab2 w2 (Obj.map #[] 0) (Obj.cells #[.map (some b1), .map (some b2)] 111)
  rw [z1] at C0
  have HZ : Hid (∀ j, j < 0 → enE S j = 0) := Lib.hid fun _ h => by omega
  clear cDf z1 c0 c1 c2_ l0 B1 hS1 hab1 hb2
  go_wp2_with fail
  clear B2 g1
  go_loopw [27] (fun i wr => ∃ k : Nat, k ≤ n ∧ i = .int .i64 (k : Int) ∧ Hid (∀ j, j < k → enE S j = 0) ∧ Ms wr w2.heap.size k ((ens S).take k) ∧ Bx wr w.heap.size [.int .i64 S.ver, .slice A n c, .slice A2 m c2] ∧ Bx wr (w2.heap.size + 1) [.map (some b1), .map (some b2)] ∧ Below w2.heap.size w2 wr) (fun i _ => n - (intOf i).toNat)
  case atStart => exact ⟨0, by omega, rfl, HZ, M0, B3, C0, hb3⟩
  case round =>
    clear M0 C0 B3 hb3 HZ
    obtain ⟨k, hk, rfl, HZ, hM, R1, R2, hb⟩ := hrel
    have s1 := R1.c 1 rfl
    have l1 := R1.lt
    have l3 := R2.lt
    have hlM := hM.lt
    by_cases hlt : k < n
    · obtain ⟨a, rfl, hA⟩ := hSe.get (i := k) (by rw [HN.out]; exact hlt)
      have hkm : k < S.enums.length := by rw [HN.out]; exact hlt
      obtain ⟨A3, c3, A4, c4, e0, e1, e2, hV⟩ := hA.val
      replace e0 := cell_next hb e0
      replace e1 := cell_next hb e1
      replace e2 := cell_next hb e2
      have hblk : (a.add (k * 3)).block < wr.heap.size := blk_lt e0
      have hT : (ens S).take (k + 1) = (ens S).take k ++ [(S.enums[k]'hkm).name] := take_map En.name hkm
      obtain ⟨q1, q2, q3, q4⟩ := hB.en _ (List.getElem_mem hkm)
      have hee := enE_at hkm
      generalize S.enums[k]'hkm = x at *
      have hbx := Below.next hb (ab1 wr (Obj.cells #[.string (bs x.name), .slice A3 x.names.length c3, .slice A4 x.nums.length c4] 75))
      have hMx := hM.next (ab1 wr (Obj.cells #[.string (bs x.name), .slice A3 x.names.length c3, .slice A4 x.nums.length c4] 75))
      have Rx1 := R1.next (ab1 wr (Obj.cells #[.string (bs x.name), .slice A3 x.names.length c3, .slice A4 x.nums.length c4] 75))
      have Rx2 := R2.next (ab1 wr (Obj.cells #[.string (bs x.name), .slice A3 x.names.length c3, .slice A4 x.nums.length c4] 75))
      have cC := checkEnum_any w2 x _ w2.heap.size k ((ens S).take k) _ hV hbx (Nat.le_refl _) hMx hE2 (by omega) q1 q2 q4
      rw [← hee] at cC
      obtain ⟨r, hr⟩ : ∃ r, enE S k = r := ⟨_, rfl⟩
      rw [hr] at cC
      have HT := Lib.hid hT
      have HR := Lib.hid hr
      clear hr hT hee hA q1 q2 q3 q4
      go_wp2_with fail
      refine cC.mono ?_
      rintro e w4 ⟨rfl, hg4, hM4⟩
      have R14 := Rx1.kept hg4 (by omega)
      have R24 := Rx2.kept hg4 (by omega)
      have hb4 := hbx.grown hg4 hbx.size (fun j hj => by cases hj; exact Nat.le_refl _)
      clear cC Rx1 Rx2 hMx hbx R1 R2 hM hb s1 l1 l3 hlM e0 e1 e2 hblk
      by_cases h0 : r = 0
      · subst h0
        have hM5 := hM4 rfl
        rw [← HT.out] at hM5
        have HZ2 := Lib.hid (before_succ HZ.out HR.out)
        clear hM4 HZ
        go_wp2_with fail
        go_roundw
        case rel => exact ⟨k + 1, by omega, by go_num, HZ2, hM5, R14, R24, hb4⟩
        case measure => simp [intOf]; omega
      · have hc := chk_en h12 hnl (by rw [HN.out]; exact hlt) HZ.out HR.out h0
        have d1 : ((r : Int) != 0) = true := by simp; omega
        have d2 : ((r : Int) == 0) = false := by simp; omega
        have HC := Lib.hid hc
        have hab5 := Below.next hab2 hb4
        clear hM4 HZ hc
        go_wp2_with fail
        go_ret
        exact ⟨by rw [HC.out]; rfl, hab5⟩
    · obtain rfl : k = n := by omega
      have HEN := Lib.hid (show ∀ j, j < S.enums.length → enE S j = 0 by rw [HN.out]; exact HZ.out)
      have hM2 : Ms wr w2.heap.size (k + 0) (ens S ++ (sns S).take 0) := by
        have : (ens S).take k = ens S := List.take_of_length_le (by unfold ens; rw [List.length_map, HN.out]; exact Nat.le_refl _)
        rw [this] at hM
        simpa using hM
      have HZ3 : Hid (∀ j, j < 0 → stE S j = 0) := Lib.hid fun _ h => by omega
      have s2 := R1.c 2 rfl
      clear HZ hM
      go_wp2_with fail
      clear s1 s2 l1 l3 hlM hSe
      rename World => wo
      go_loopw [41] (fun i wr => ∃ y : Nat, y ≤ m ∧ i = .int .i64 (y : Int) ∧ Hid (∀ j, j < y → stE S j = 0) ∧ Ms wr w2.heap.size (k + y) (ens S ++ (sns S).take y) ∧ Bx wr w.heap.size [.int .i64 S.ver, .slice A k c, .slice A2 m c2] ∧ Bx wr (w2.heap.size + 1) [.map (some b1), .map (some b2)] ∧ Below w2.heap.size w2 wr) (fun i _ => m - (intOf i).toNat)
      case atStart => exact ⟨0, by omega, rfl, HZ3, hM2, R1, R2, hb⟩
      case round =>
        clear HZ3 hM2 R1 R2 hb
        obtain ⟨y, hy, rfl, HZ, hM, R1, R2, hb⟩ := hrel
        have s0 := R1.c 0 rfl
        have s1 := R1.c 1 rfl
        have s2 := R1.c 2 rfl
        have l1 := R1.lt
        have l3 := R2.lt
        have hlM := hM.lt
        have p0 := R2.c 0 rfl
        have p1 := R2.c 1 rfl
        by_cases hlt : y < m
        · obtain ⟨a, rfl, hA⟩ := hSs.get (i := y) (by rw [HM.out]; exact hlt)
          have hkm : y < S.structs.length := by rw [HM.out]; exact hlt
          obtain ⟨A3, c3, e0, e1, hV⟩ := hA.val
          replace e0 := cell_next hb e0
          replace e1 := cell_next hb e1
          have hblk : (a.add (y * 2)).block < wr.heap.size := blk_lt e0
          have hT : ens S ++ (sns S).take (y + 1) = (ens S ++ (sns S).take y) ++ [(S.structs[y]'hkm).name] := by unfold sns; rw [take_map St.name hkm, List.append_assoc]
          obtain ⟨q1, q2, q3⟩ := hB.st _ (List.getElem_mem hkm)
          have hee := stE_at hkm
          generalize S.structs[y]'hkm = t at *
          have hbx := Below.next hb (ab1 wr (Obj.cells #[.string (bs t.name), .slice A3 t.fields.length c3] 53))
          have hMx := hM.next (ab1 wr (Obj.cells #[.string (bs t.name), .slice A3 t.fields.length c3] 53))
          have Rx1 := R1.next (ab1 wr (Obj.cells #[.string (bs t.name), .slice A3 t.fields.length c3] 53))
          have Rx2 := R2.next (ab1 wr (Obj.cells #[.string (bs t.name), .slice A3 t.fields.length c3] 53))
          have cC := checkStruct_any w2 S t _ w2.heap.size (k + y) b1 b2 (ens S ++ (sns S).take y) _ hV hD hbx (Nat.le_refl _) hMx hE2 (by omega) q1 q2 (fun f hf => ⟨(q3 f hf).1, (q3 f hf).2.1, (q3 f hf).2.2.1⟩)
          rw [← hee] at cC
          obtain ⟨r, hr⟩ : ∃ r, stE S y = r := ⟨_, rfl⟩
          rw [hr] at cC
          have HT := Lib.hid hT
          have HR := Lib.hid hr
          clear hr hT hee hA q1 q2 q3
          go_wp2_with fail
          refine cC.mono ?_
          rintro e w4 ⟨rfl, hg4, hM4⟩
          have R14 := Rx1.kept hg4 (by omega)
          have R24 := Rx2.kept hg4 (by omega)
          have hb4 := hbx.grown hg4 hbx.size (fun j hj => by cases hj; exact Nat.le_refl _)
          clear cC Rx1 Rx2 hMx hbx R1 R2 hM hb s0 s1 s2 l1 l3 hlM e0 e1 hblk p0 p1
          by_cases h0 : r = 0
          · subst h0
            have hM5 := hM4 rfl
            rw [← HT.out] at hM5
            have HZ2 := Lib.hid (before_succ HZ.out HR.out)
            clear hM4 HZ
            go_wp2_with fail
            go_roundw
            case rel => exact ⟨y + 1, by omega, by go_num, HZ2, hM5, R14, R24, hb4⟩
            case measure => simp [intOf]; omega
          · have hc := chk_st h12 hnl HEN.out (by rw [HM.out]; exact hlt) HZ.out HR.out h0
            have d1 : ((r : Int) != 0) = true := by simp; omega
            have d2 : ((r : Int) == 0) = false := by simp; omega
            have HC := Lib.hid hc
            have hab5 := Below.next hab2 hb4
            clear hM4 HZ hc
            go_wp2_with fail
            go_ret
            exact ⟨by rw [HC.out]; rfl, hab5⟩
        · obtain rfl : y = m := by omega
          have hP : Parts S := ⟨HEN.out, by rw [HM.out]; exact HZ.out⟩
          have HC := Lib.hid (chk_ns h12 hnl hP)
          have cN := checkNesting_any S (hP.okk hB) (fun h => ⟨_, dpt_of hP.nd hB h⟩) b1 b2 (.agg #[.int .i64 S.ver, .slice A k c, .slice A2 y c2]) wr ⟨A, c, A2, c2, by rw [HN.out, HM.out], hS2.next hb⟩ (hD.next hb)
          have hab5 := Below.next hab2 hb
          clear HZ hM
          go_wp2_with fail
          refine cN.mono ?_
          rintro e w5 ⟨rfl, hb5⟩
          go_wp2_with fail
          go_ret
          exact ⟨by rw [HC.out]; rfl, Below.next hab5 hb5⟩
end Go.Proofs.YthfodpbecddheaaGreatDoor
/-
  What both sides' Zero answers, where no struct must hold a struct. No conditions beyond those that each names.
-/
namespace Go.Proofs.YthfodpbecddheaaGreatDoor
open Go.RowKit Go.Sort
theorem devZero_right (S : Sch) (t : Ty) (v u : Value) (w : World) (hf : Few9 S) (hr : right S t = true) (hp : pls S t = true) (hS : ScV w S v) (hT : TyV w t u) :
    Calls Tryz.prog 33 #[v, u] w (ReW (zr S t) w) := by
  by_cases h6 : t.kind = 6
  · rw [zr_st hr h6]
    obtain ⟨k, s, nm, e⟩ := t
    obtain rfl : k = 6 := h6
    exact devZero_struct S s nm e v u w hf hp hS hT
  · rw [zr_pl hr h6]
    refine (devZero_plain S t v u w h6 hS hT).mono ?_
    rintro e w2 ⟨rfl, hb⟩
    exact reW_plain _ hb
theorem refZero_right (S : Sch) (t : Ty) (v u : Value) (w : World) (hf : Few9 S) (hlk : lok9 S) (hlo : lok t) (hr : right S t = true) (hp : pls S t = true) (hS : ScV w S v) (hT : TyV w t u) :
    Calls Tryz.prog 35 #[v, u, .int .i64 12] w (ReW (zr S t) w) := by
  by_cases h6 : t.kind = 6
  · rw [zr_st hr h6]
    obtain ⟨k, s, nm, e⟩ := t
    obtain rfl : k = 6 := h6
    exact refZero_struct S s nm e 12 v u w hf hlk hlo (by decide) (by decide) hr hp hS hT
  · rw [zr_pl hr h6]
    refine (refZero_plain S t 12 v u w hf hlo (by decide) (by decide) hr h6 hS hT).mono ?_
    rintro e w2 ⟨rfl, hb⟩
    exact reW_plain _ hb
set_option maxRecDepth 100000 in
set_option maxHeartbeats 4000000 in
theorem refZero_none (S : Sch) (t : Ty) (m : Int) (v u : Value) (w : World) (hf : Few9 S) (hlo : lok t) (hr : right S t = false) (hS : ScV w S v) (hT : TyV w t u) :
    Calls Tryz.prog 35 #[v, u, .int .i64 m] w (ReW (zr S t) w) := by
  have cP := fun W a b (h1 : ScV W S a) (h2 : TyV W t b) => permitted_any S t a b W hf.sl hf.el hlo h1 h2
  rw [zr_no hr]
  rw [hr] at cP
  clear hf hlo hr
  obtain ⟨A, c, A2, c2, rfl, hS⟩ := hS
  obtain ⟨G, g, rfl, hG⟩ := hT
  have D1 := (Bx.new3 w 25 (.int .i64 S.ver) (.slice A S.enums.length c) (.slice A2 S.structs.length c2)).next (ab2 _ (Obj.cells #[.int .i64 t.kind, .int .i64 t.size, .string (bs t.name), .slice G t.elem.length g] 29) (Obj.cells #[.int .i64 0, .int .i64 0, .string ⟨#[]⟩, .slice none 0 0, .slice none 0 0] 34))
  have D2 := (Bx.new4 (w.alloc (Obj.cells #[.int .i64 S.ver, .slice A S.enums.length c, .slice A2 S.structs.length c2] 25)) 29 (.int .i64 t.kind) (.int .i64 t.size) (.string (bs t.name)) (.slice G t.elem.length g)).next (ab1 _ (Obj.cells #[.int .i64 0, .int .i64 0, .string ⟨#[]⟩, .slice none 0 0, .slice none 0 0] 34))
  have D3 := Bx.new5 ((w.alloc (Obj.cells #[.int .i64 S.ver, .slice A S.enums.length c, .slice A2 S.structs.length c2] 25)).alloc (Obj.cells #[.int .i64 t.kind, .int .i64 t.size, .string (bs t.name), .slice G t.elem.length g] 29)) 34 (.int .i64 0) (.int .i64 0) (.string ⟨#[]⟩) (.slice none 0 0) (.slice none 0 0)
  have z1 : (w.alloc (Obj.cells #[.int .i64 S.ver, .slice A S.enums.length c, .slice A2 S.structs.length c2] 25)).heap.size = w.heap.size + 1 := by simp
  have z2 : ((w.alloc (Obj.cells #[.int .i64 S.ver, .slice A S.enums.length c, .slice A2 S.structs.length c2] 25)).alloc (Obj.cells #[.int .i64 t.kind, .int .i64 t.size, .string (bs t.name), .slice G t.elem.length g] 29)).heap.size = w.heap.size + 1 + 1 := by simp
  have z3 : (((w.alloc (Obj.cells #[.int .i64 S.ver, .slice A S.enums.length c, .slice A2 S.structs.length c2] 25)).alloc (Obj.cells #[.int .i64 t.kind, .int .i64 t.size, .string (bs t.name), .slice G t.elem.length g] 29)).alloc (Obj.cells #[.int .i64 0, .int .i64 0, .string ⟨#[]⟩, .slice none 0 0, .slice none 0 0] 34)).heap.size = w.heap.size + 1 + 1 + 1 := by simp
  rw [z1] at D2
  rw [z2] at D3
  have hab := ab3 w (Obj.cells #[.int .i64 S.ver, .slice A S.enums.length c, .slice A2 S.structs.length c2] 25) (Obj.cells #[.int .i64 t.kind, .int .i64 t.size, .string (bs t.name), .slice G t.elem.length g] 29) (Obj.cells #[.int .i64 0, .int .i64 0, .string ⟨#[]⟩, .slice none 0 0, .slice none 0 0] 34)
  go_enter Tryz.func35, Tryz.ntmps35
  go_upto_region 1 with (fail)
  generalize (((w.alloc (Obj.cells #[.int .i64 S.ver, .slice A S.enums.length c, .slice A2 S.structs.length c2] 25)).alloc (Obj.cells #[.int .i64 t.kind, .int .i64 t.size, .string (bs t.name), .slice G t.elem.length g] 29)).alloc (Obj.cells #[.int .i64 0, .int .i64 0, .string ⟨#[]⟩, .slice none 0 0, .slice none 0 0] 34)) = w0 at *
  have hz3 : w.heap.size + 1 + 1 < w0.heap.size := by omega
  clear z1 z2 z3
  have k0 := D1.c 0 rfl
  have k1 := D1.c 1 rfl
  have k2 := D1.c 2 rfl
  have l1 := D1.lt
  have j0 := D2.c 0 rfl
  have j1 := D2.c 1 rfl
  have j2 := D2.c 2 rfl
  have j3 := D2.c 3 rfl
  have l2 := D2.lt
  have c1 := cP w0 _ _ ⟨A, c, A2, c2, rfl, Sc.next hab hS⟩ ⟨G, g, rfl, hG.next fun x p => TyA.next hab x p⟩
  clear cP hS hG
  go_wp2_with fail
  refine c1.mono ?_
  rintro e w2 ⟨rfl, hb2⟩
  replace hz3 := Nat.lt_of_lt_of_le hz3 hb2.size
  replace D1 := D1.next hb2
  replace D2 := D2.next hb2
  replace D3 := D3.next hb2
  replace hab := Below.next hab hb2
  clear hb2
  clear k0 k1 k2 l1 j0 j1 j2 j3 l2
  have q0 := D3.f 0 rfl
  have q1 := D3.f 1 rfl
  have q2 := D3.f 2 rfl
  have q3 := D3.f 3 rfl
  have q4 := D3.f 4 rfl
  have r0 := D3.c 0 rfl
  have r1 := D3.c 1 rfl
  have r2 := D3.c 2 rfl
  have r3 := D3.c 3 rfl
  have r4 := D3.c 4 rfl
  have l3 := D3.lt
  have hfin := gb5 hab (b := w.heap.size + 1 + 1) (by omega) (.int .i64 0) (.int .i64 0) (.string ⟨#[]⟩) (.slice none 0 0) (.slice none 0 0)
  clear D1 D2 D3
  go_wp2_with fail
  refine bodyPost_ret (v := .agg #[.int .i64 0, .int .i64 0, .string ⟨#[]⟩, .slice none 0 0, .slice none 0 0]) (by simp [results, Tryz.results35, go_sem, r0, r1, r2, r3, r4]) rfl ?_
  exact reW_plain 0 hfin
theorem refZero_any (S : Sch) (t : Ty) (v u : Value) (w : World) (hf : Few9 S) (hlk : lok9 S) (hlo : lok t) (hp : right S t = true → pls S t = true) (hS : ScV w S v) (hT : TyV w t u) :
    Calls Tryz.prog 35 #[v, u, .int .i64 12] w (ReW (zr S t) w) := by
  by_cases hr : right S t = true
  · exact refZero_right S t v u w hf hlk hlo hr (hp hr) hS hT
  · exact refZero_none S t 12 v u w hf hlo (by simpa using hr) hS hT
set_option maxRecDepth 100000 in
set_option maxHeartbeats 4000000 in
theorem refZeroV_any (S : Sch) (t : Ty) (v u : Value) (w : World) (hf : Few9 S) (hlk : lok9 S) (hlo : lok t) (hp : right S t = true → pls S t = true) (hS : ScV w S v) (hT : TyV w t u) :
    Calls Tryz.prog 14 #[v, u] w (WtP (zr S t) w) := by
  have cZ := fun W a b h1 h2 => refZero_any S t a b W hf hlk hlo hp h1 h2
  generalize zr S t = V at *
  unfold ReW at cZ
  clear hf hlo hlk hp
  obtain ⟨A, c, A2, c2, rfl, hS⟩ := hS
  obtain ⟨G, g, rfl, hG⟩ := hT
  have D1 := (Bx.new3 w 25 (.int .i64 S.ver) (.slice A S.enums.length c) (.slice A2 S.structs.length c2)).next (ab2 _ (Obj.cells #[.int .i64 t.kind, .int .i64 t.size, .string (bs t.name), .slice G t.elem.length g] 29) (Obj.cells #[.int .i64 0, .int .i64 0, .string ⟨#[]⟩, .slice none 0 0, .slice none 0 0] 34))
  have D2 := (Bx.new4 (w.alloc (Obj.cells #[.int .i64 S.ver, .slice A S.enums.length c, .slice A2 S.structs.length c2] 25)) 29 (.int .i64 t.kind) (.int .i64 t.size) (.string (bs t.name)) (.slice G t.elem.length g)).next (ab1 _ (Obj.cells #[.int .i64 0, .int .i64 0, .string ⟨#[]⟩, .slice none 0 0, .slice none 0 0] 34))
  have D3 := Bx.new5 ((w.alloc (Obj.cells #[.int .i64 S.ver, .slice A S.enums.length c, .slice A2 S.structs.length c2] 25)).alloc (Obj.cells #[.int .i64 t.kind, .int .i64 t.size, .string (bs t.name), .slice G t.elem.length g] 29)) 34 (.int .i64 0) (.int .i64 0) (.string ⟨#[]⟩) (.slice none 0 0) (.slice none 0 0)
  have z1 : (w.alloc (Obj.cells #[.int .i64 S.ver, .slice A S.enums.length c, .slice A2 S.structs.length c2] 25)).heap.size = w.heap.size + 1 := by simp
  have z2 : ((w.alloc (Obj.cells #[.int .i64 S.ver, .slice A S.enums.length c, .slice A2 S.structs.length c2] 25)).alloc (Obj.cells #[.int .i64 t.kind, .int .i64 t.size, .string (bs t.name), .slice G t.elem.length g] 29)).heap.size = w.heap.size + 1 + 1 := by simp
  have z3 : (((w.alloc (Obj.cells #[.int .i64 S.ver, .slice A S.enums.length c, .slice A2 S.structs.length c2] 25)).alloc (Obj.cells #[.int .i64 t.kind, .int .i64 t.size, .string (bs t.name), .slice G t.elem.length g] 29)).alloc (Obj.cells #[.int .i64 0, .int .i64 0, .string ⟨#[]⟩, .slice none 0 0, .slice none 0 0] 34)).heap.size = w.heap.size + 1 + 1 + 1 := by simp
  rw [z1] at D2
  rw [z2] at D3
  have hab := ab3 w (Obj.cells #[.int .i64 S.ver, .slice A S.enums.length c, .slice A2 S.structs.length c2] 25) (Obj.cells #[.int .i64 t.kind, .int .i64 t.size, .string (bs t.name), .slice G t.elem.length g] 29) (Obj.cells #[.int .i64 0, .int .i64 0, .string ⟨#[]⟩, .slice none 0 0, .slice none 0 0] 34)
  go_enter Tryz.func14, Tryz.ntmps14
  go_upto_region 1 with (fail)
  generalize (((w.alloc (Obj.cells #[.int .i64 S.ver, .slice A S.enums.length c, .slice A2 S.structs.length c2] 25)).alloc (Obj.cells #[.int .i64 t.kind, .int .i64 t.size, .string (bs t.name), .slice G t.elem.length g] 29)).alloc (Obj.cells #[.int .i64 0, .int .i64 0, .string ⟨#[]⟩, .slice none 0 0, .slice none 0 0] 34)) = w0 at *
  have hz3 : w.heap.size + 1 + 1 < w0.heap.size := by omega
  clear z1 z2 z3
  have k0 := D1.c 0 rfl
  have k1 := D1.c 1 rfl
  have k2 := D1.c 2 rfl
  have l1 := D1.lt
  have j0 := D2.c 0 rfl
  have j1 := D2.c 1 rfl
  have j2 := D2.c 2 rfl
  have j3 := D2.c 3 rfl
  have l2 := D2.lt
  have c1 := cZ w0 _ _ ⟨A, c, A2, c2, rfl, Sc.next hab hS⟩ ⟨G, g, rfl, hG.next fun x p => TyA.next hab x p⟩
  clear cZ hS hG
  go_wp2_with fail
  refine c1.mono ?_
  rintro e w9 ⟨s, rfl, hN, hb3⟩
  replace D3 := D3.next hb3
  clear k0 k1 k2 l1 j0 j1 j2 j3 l2
  have q0 := D3.f 0 rfl
  have q1 := D3.f 1 rfl
  have q2 := D3.f 2 rfl
  have q3 := D3.f 3 rfl
  have q4 := D3.f 4 rfl
  have r0 := D3.c 0 rfl
  have r1 := D3.c 1 rfl
  have r2 := D3.c 2 rfl
  have r3 := D3.c 3 rfl
  have r4 := D3.c 4 rfl
  have l3 := D3.lt
  have hfin := gb5 (Below.next hab hb3) (b := w.heap.size + 1 + 1) (by omega) (.int .i64 V.kind) (.int .i64 V.n) (.string (bs V.s)) (.slice s.A V.l.length s.c) (.slice s.B V.f.length s.d)
  have hkf : Kpl w0.heap.size w9 (((((w9.setCell ⟨w.heap.size + 1 + 1, 0, none⟩ (.int .i64 V.kind)).setCell ⟨w.heap.size + 1 + 1, 1, none⟩ (.int .i64 V.n)).setCell ⟨w.heap.size + 1 + 1, 2, none⟩ (.string (bs V.s))).setCell ⟨w.heap.size + 1 + 1, 3, none⟩ (.slice s.A V.l.length s.c)).setCell ⟨w.heap.size + 1 + 1, 4, none⟩ (.slice s.B V.f.length s.d)) := Kpl.gb (gb_set5 _ _ _ _ _ _ _) (by omega)
  clear D1 D2 D3
  go_wp2_with fail
  refine bodyPost_ret (v := .agg #[.int .i64 V.kind, .int .i64 V.n, .string (bs V.s), .slice s.A V.l.length s.c, .slice s.B V.f.length s.d]) (by simp [results, Tryz.results14, go_sem, r0, r1, r2, r3, r4]) rfl ?_
  exact ⟨s, rfl, (hN.next hkf).rd, hfin⟩
set_option maxRecDepth 100000 in
set_option maxHeartbeats 4000000 in
theorem devZeroV_any (S : Sch) (t : Ty) (v u : Value) (w : World) (hf : Few9 S) (hB : FewB S) (hc : chk S = 0) (hlo : lok t) (hp : right S t = true → pls S t = true) (hE : Env w) (hS : ScV w S v) (hT : TyV w t u) :
    Calls Tryz.prog 12 #[v, u] w (WtP (zr S t) w) := by
  have cC := fun W a (h1 : ScV W S a) (h2 : Env W) => check_any S hB a W h1 h2
  rw [hc] at cC
  have cP := fun W a b (h1 : ScV W S a) (h2 : TyV W t b) => permits9_any _ S t a b W (Nat.lt_succ_self _) hf hlo h1 h2
  have cZ := fun (hr : right S t = true) W a b h1 h2 => devZero_right S t a b W hf hr (hp hr) h1 h2
  have hZ := fun (hr : right S t = false) => zr_no hr
  clear hf hlo hp hB hc
  generalize zr S t = V at *
  generalize right S t = r at *
  unfold ReW at cZ
  obtain ⟨A, c, A2, c2, rfl, hS⟩ := hS
  obtain ⟨G, g, rfl, hG⟩ := hT
  have D1 := (Bx.new3 w 25 (.int .i64 S.ver) (.slice A S.enums.length c) (.slice A2 S.structs.length c2)).next (ab2 _ (Obj.cells #[.int .i64 t.kind, .int .i64 t.size, .string (bs t.name), .slice G t.elem.length g] 29) (Obj.cells #[.int .i64 0, .int .i64 0, .string ⟨#[]⟩, .slice none 0 0, .slice none 0 0] 34))
  have D2 := (Bx.new4 (w.alloc (Obj.cells #[.int .i64 S.ver, .slice A S.enums.length c, .slice A2 S.structs.length c2] 25)) 29 (.int .i64 t.kind) (.int .i64 t.size) (.string (bs t.name)) (.slice G t.elem.length g)).next (ab1 _ (Obj.cells #[.int .i64 0, .int .i64 0, .string ⟨#[]⟩, .slice none 0 0, .slice none 0 0] 34))
  have D3 := Bx.new5 ((w.alloc (Obj.cells #[.int .i64 S.ver, .slice A S.enums.length c, .slice A2 S.structs.length c2] 25)).alloc (Obj.cells #[.int .i64 t.kind, .int .i64 t.size, .string (bs t.name), .slice G t.elem.length g] 29)) 34 (.int .i64 0) (.int .i64 0) (.string ⟨#[]⟩) (.slice none 0 0) (.slice none 0 0)
  have z1 : (w.alloc (Obj.cells #[.int .i64 S.ver, .slice A S.enums.length c, .slice A2 S.structs.length c2] 25)).heap.size = w.heap.size + 1 := by simp
  have z2 : ((w.alloc (Obj.cells #[.int .i64 S.ver, .slice A S.enums.length c, .slice A2 S.structs.length c2] 25)).alloc (Obj.cells #[.int .i64 t.kind, .int .i64 t.size, .string (bs t.name), .slice G t.elem.length g] 29)).heap.size = w.heap.size + 1 + 1 := by simp
  have z3 : (((w.alloc (Obj.cells #[.int .i64 S.ver, .slice A S.enums.length c, .slice A2 S.structs.length c2] 25)).alloc (Obj.cells #[.int .i64 t.kind, .int .i64 t.size, .string (bs t.name), .slice G t.elem.length g] 29)).alloc (Obj.cells #[.int .i64 0, .int .i64 0, .string ⟨#[]⟩, .slice none 0 0, .slice none 0 0] 34)).heap.size = w.heap.size + 1 + 1 + 1 := by simp
  rw [z1] at D2
  rw [z2] at D3
  have hab := ab3 w (Obj.cells #[.int .i64 S.ver, .slice A S.enums.length c, .slice A2 S.structs.length c2] 25) (Obj.cells #[.int .i64 t.kind, .int .i64 t.size, .string (bs t.name), .slice G t.elem.length g] 29) (Obj.cells #[.int .i64 0, .int .i64 0, .string ⟨#[]⟩, .slice none 0 0, .slice none 0 0] 34)
  go_enter Tryz.func12, Tryz.ntmps12
  go_upto_region 1 with (fail)
  generalize (((w.alloc (Obj.cells #[.int .i64 S.ver, .slice A S.enums.length c, .slice A2 S.structs.length c2] 25)).alloc (Obj.cells #[.int .i64 t.kind, .int .i64 t.size, .string (bs t.name), .slice G t.elem.length g] 29)).alloc (Obj.cells #[.int .i64 0, .int .i64 0, .string ⟨#[]⟩, .slice none 0 0, .slice none 0 0] 34)) = w0 at *
  have hz3 : w.heap.size + 1 + 1 < w0.heap.size := by omega
  clear z1 z2 z3
  have k0 := D1.c 0 rfl
  have k1 := D1.c 1 rfl
  have k2 := D1.c 2 rfl
  have l1 := D1.lt
  have j0 := D2.c 0 rfl
  have j1 := D2.c 1 rfl
  have j2 := D2.c 2 rfl
  have j3 := D2.c 3 rfl
  have l2 := D2.lt
  have c1 := cC w0 _ ⟨A, c, A2, c2, rfl, Sc.next hab hS⟩ (hE.next hab)
  have x1 : ((0 : Int) != 0) = false := rfl
  clear cC hE
  go_wp2_with fail
  refine c1.mono ?_
  rintro e w2 ⟨rfl, hb2⟩
  replace hz3 := Nat.lt_of_lt_of_le hz3 hb2.size
  replace D1 := D1.next hb2
  replace D2 := D2.next hb2
  replace D3 := D3.next hb2
  replace hab := Below.next hab hb2
  clear hb2
  clear k0 k1 k2 l1 j0 j1 j2 j3 l2
  have k0 := D1.c 0 rfl
  have k1 := D1.c 1 rfl
  have k2 := D1.c 2 rfl
  have l1 := D1.lt
  have j0 := D2.c 0 rfl
  have j1 := D2.c 1 rfl
  have j2 := D2.c 2 rfl
  have j3 := D2.c 3 rfl
  have l2 := D2.lt
  have c2' := cP w2 _ _ ⟨A, c, A2, c2, rfl, Sc.next hab hS⟩ ⟨G, g, rfl, hG.next fun x p => TyA.next hab x p⟩
  clear cP c1
  go_wp2_with fail
  refine c2'.mono ?_
  rintro e w3 ⟨rfl, hb2⟩
  replace hz3 := Nat.lt_of_lt_of_le hz3 hb2.size
  replace D1 := D1.next hb2
  replace D2 := D2.next hb2
  replace D3 := D3.next hb2
  replace hab := Below.next hab hb2
  clear hb2
  clear k0 k1 k2 l1 j0 j1 j2 j3 l2
  cases r
  case false =>
    obtain rfl := hZ rfl
    have q0 := D3.f 0 rfl
    have q1 := D3.f 1 rfl
    have q2 := D3.f 2 rfl
    have q3 := D3.f 3 rfl
    have q4 := D3.f 4 rfl
    have r0 := D3.c 0 rfl
    have r1 := D3.c 1 rfl
    have r2 := D3.c 2 rfl
    have r3 := D3.c 3 rfl
    have r4 := D3.c 4 rfl
    have l3 := D3.lt
    have hfin := gb5 hab (b := w.heap.size + 1 + 1) (by omega) (.int .i64 0) (.int .i64 0) (.string ⟨#[]⟩) (.slice none 0 0) (.slice none 0 0)
    clear D1 D2 D3 cZ
    go_wp2_with fail
    refine bodyPost_ret (v := .agg #[.int .i64 0, .int .i64 0, .string ⟨#[]⟩, .slice none 0 0, .slice none 0 0]) (by simp [results, Tryz.results12, go_sem, r0, r1, r2, r3, r4]) rfl ?_
    exact ⟨⟨none, 0, none, 0⟩, rfl, ⟨.inl rfl, .inl rfl⟩, hfin⟩
  case true =>
  have k0 := D1.c 0 rfl
  have k1 := D1.c 1 rfl
  have k2 := D1.c 2 rfl
  have l1 := D1.lt
  have j0 := D2.c 0 rfl
  have j1 := D2.c 1 rfl
  have j2 := D2.c 2 rfl
  have j3 := D2.c 3 rfl
  have l2 := D2.lt
  have c3 := cZ rfl w3 _ _ ⟨A, c, A2, c2, rfl, Sc.next hab hS⟩ ⟨G, g, rfl, hG.next fun x p => TyA.next hab x p⟩
  clear cZ hS hG c2'
  go_wp2_with fail
  refine c3.mono ?_
  rintro e w9 ⟨s, rfl, hN, hb3⟩
  replace D3 := D3.next hb3
  clear k0 k1 k2 l1 j0 j1 j2 j3 l2
  have q0 := D3.f 0 rfl
  have q1 := D3.f 1 rfl
  have q2 := D3.f 2 rfl
  have q3 := D3.f 3 rfl
  have q4 := D3.f 4 rfl
  have r0 := D3.c 0 rfl
  have r1 := D3.c 1 rfl
  have r2 := D3.c 2 rfl
  have r3 := D3.c 3 rfl
  have r4 := D3.c 4 rfl
  have l3 := D3.lt
  have hfin := gb5 (Below.next hab hb3) (b := w.heap.size + 1 + 1) (by omega) (.int .i64 V.kind) (.int .i64 V.n) (.string (bs V.s)) (.slice s.A V.l.length s.c) (.slice s.B V.f.length s.d)
  have hkf : Kpl w3.heap.size w9 (((((w9.setCell ⟨w.heap.size + 1 + 1, 0, none⟩ (.int .i64 V.kind)).setCell ⟨w.heap.size + 1 + 1, 1, none⟩ (.int .i64 V.n)).setCell ⟨w.heap.size + 1 + 1, 2, none⟩ (.string (bs V.s))).setCell ⟨w.heap.size + 1 + 1, 3, none⟩ (.slice s.A V.l.length s.c)).setCell ⟨w.heap.size + 1 + 1, 4, none⟩ (.slice s.B V.f.length s.d)) := Kpl.gb (gb_set5 _ _ _ _ _ _ _) (by omega)
  clear D1 D2 D3
  go_wp2_with fail
  refine bodyPost_ret (v := .agg #[.int .i64 V.kind, .int .i64 V.n, .string (bs V.s), .slice s.A V.l.length s.c, .slice s.B V.f.length s.d]) (by simp [results, Tryz.results12, go_sem, r0, r1, r2, r3, r4]) rfl ?_
  exact ⟨s, rfl, (hN.next hkf).rd, hfin⟩
end Go.Proofs.YthfodpbecddheaaGreatDoor


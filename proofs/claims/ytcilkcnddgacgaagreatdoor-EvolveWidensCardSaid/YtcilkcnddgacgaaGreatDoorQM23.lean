/-
  The developers' list of what a struct uses. No conditions beyond those that each names.
-/
import Derived.Test.YtcilkcnddgacgaaGreatDoorQM22
import Derived.Test.YtcilkcnddgacgaaGreatDoorShelfB
import Derived.Sort.OwnSorted
import Derived.Laws.EntriesVeiled
import Derived.Test.YtcilkcnddgacgaaGreatDoorQM10
import Derived.Test.YtcilkcnddgacgaaGreatDoorQM20
namespace Go.Proofs.YtcilkcnddgacgaaGreatDoor
open Go.RowKit Go.Maps Go.Sort Go.Shelf
/-- What a struct uses, in ascending order. -/
def Us (S : Sch) (x : List UInt8) (l : List (List UInt8)) : Prop := Asc leB l ∧ ∀ y, y ∈ l ↔ Reach (nx S) x y
theorem Us.one {S : Sch} {x : List UInt8} {l m : List (List UInt8)} (h : Us S x l) (k : Us S x m) : l = m := asc_unique tot_leB l m h.1 k.1 fun z => (h.2 z).trans (k.2 z).symm
def UsP (S : Sch) (x : List UInt8) (w : World) (e : Ending) (w' : World) : Prop := ∃ v l, e = .returned v ∧ Us S x l ∧ Nms w' l v ∧ Below w.heap.size w w'
theorem nms_of {B : Nat} {w : World} {v : Value} {e : TypeId} {l : List (List UInt8)} (h : w.ownsRow B e 1 v l.length (l.map encStr)) : Nms w l v := by
  have h1 := h
  obtain ⟨-, ⟨h2, h3⟩ | ⟨g, cap, cur, rfl, hB, hg, -⟩⟩ := h
  · subst h2
    obtain rfl := List.eq_nil_of_length_eq_zero h3
    exact ⟨none, 0, rfl, .inl rfl⟩
  · refine ⟨_, _, rfl, .inr ⟨_, rfl, fun i hi => ?_⟩⟩
    rw [Nat.mul_one]
    exact World.ownsRow.cells h1 (g := g) rfl i _ (by simp [List.getElem?_eq_getElem hi, encStr, bs])
theorem sortsIn (m : Nat) : AnyZ.SortsIn Tryz.prog Tryz.sorted154_ren Fence.wide m :=
  ⟨fun blk off cap ss W hH hblk hsz => callsIn_wide.2 (AnyM.slices_Sort_string Tryz.sort169 blk off cap ss W hH hblk hsz),
   fun p cap W => callsIn_wide.2 (AnyM.slices_Sort_string_none Tryz.sort169 p cap W)⟩
theorem keys_any (mb : Option Nat) (W : World) : Calls Tryz.prog 155 #[.map mb] W fun e w' => e = .returned (.func (.func 170) #[] #[.pointer (some ⟨W.heap.size, 0, none⟩)]) ∧ W.alloc (.cells #[.map mb] 106) = w' :=
  (callsIn_wide (n := 5)).1 ((AnyZ.keys_in Tryz.keys155 Fence.wide 5 trivial rfl mb W).mono fun _ _ h => ⟨h.1, h.2.symm⟩)
/-- The names of a set, sorted. -/
def SoP (l : List (List UInt8)) (w : World) (e : Ending) (w' : World) : Prop := ∃ v m, e = .returned v ∧ Asc leB m ∧ (∀ y, y ∈ m ↔ y ∈ l) ∧ Nms w' m v ∧ Below w.heap.size w w'
set_option maxHeartbeats 1000000 in
theorem sorted_any (b n : Nat) (l : List (List UInt8)) (w : World) (hnd : l.Nodup) (hn : n ≤ 1000) (hM : Ms w b n l) :
    Calls Tryz.prog 154 #[.func (.func 170) #[] #[.pointer (some ⟨w.heap.size, 0, none⟩)]] (w.alloc (.cells #[.map (some b)] 106)) (SoP l (w.alloc (.cells #[.map (some b)] 106))) := by
  obtain ⟨D0, hMp⟩ := hM
  have hown := hMp.own
  have hbl := hown.lt
  have hsz : Maps.size D0 ≤ n := hown.size_le
  have hseq : SeqGives Fence.wide 2 Tryz.prog 170 #[.pointer (some ⟨w.heap.size, 0, none⟩)] encStr (fun ss => ss.Perm (strKeys D0)) (Maps.size D0) (w.alloc (.cells #[.map (some b)] 106)) :=
    AnyZ.keys_gives (ρ := Tryz.keys155_ren) { Tryz.keys155 with } Fence.wide _ trivial rfl (by omega) w.heap.size b n D0 _ (by simp) (by simp) (by
      obtain ⟨es, clock, hb, Ft, hs, hD⟩ := hown
      exact ⟨es, clock, (Below.heap_alloc _ _ b hbl).trans hb, Ft, hs, hD⟩)
  have key := AnyZ.sorted_in Tryz.sorted154 Fence.wide 5 trivial trivial trivial trivial rfl (by omega) (sortsIn _) (enters_of Tryz.func169 (by kernel_rfl) rfl) 170 #[.pointer (some ⟨w.heap.size, 0, none⟩)] trivial (enters_of Tryz.func170 (by kernel_rfl) rfl) _ _ (by simp only [maxLen]; omega) (by omega) _ hseq
  refine ((callsIn_wide (n := 5)).1 key).mono ?_
  rintro e w' ⟨v, ss, rfl, hS, hrow, -, hb⟩
  obtain ⟨es, hD, hes⟩ := hown.keysOf
  obtain ⟨es2, hD2, hap⟩ := hown.tidy strK
  have hperm : l.Perm (strKeys D0) := by
    rw [hD]
    have e2 : es = es2 := by rw [hD] at hD2; injection hD2
    refine perm_strKeys (by rw [e2]; exact hap) (fun p hp => ?_) hnd fun y => ?_
    · obtain ⟨u, hu⟩ := hes p hp
      obtain ⟨z, -, hz, -⟩ := Maps.keyOf_str Tryz.underlying9 hu
      exact ⟨z, hz⟩
    · rw [← hD, hMp.has_]
      unfold setF
      by_cases hy : l.contains y = true
      · rw [if_pos hy]; exact ⟨fun _ => rfl, fun _ => List.contains_iff_mem.1 hy⟩
      · rw [if_neg hy]; exact ⟨fun h => absurd (List.contains_iff_mem.2 h) hy, fun h => by cases h⟩
  have hsl : ss.Perm l := hS.trans hperm.symm
  refine ⟨v, ss.mergeSort leB, rfl, asc_sorted tot_leB ss (hsl.nodup_iff.2 hnd), fun y => ?_, ?_, hb⟩
  · rw [(List.mergeSort_perm ss leB).mem_iff, hsl.mem_iff]
  · refine nms_of (B := (w.alloc (.cells #[.map (some b)] 106)).heap.size) (e := Tryz.sorted154_ren.t 26) ?_
    rw [List.length_mergeSort]
    exact hrow
set_option maxRecDepth 100000 in
set_option maxHeartbeats 8000000 in
theorem used_any (S : Sch) (hO : Okk S) (b1 b2 : Nat) (x : List UInt8) (hx : x.length ≤ 9223372036854775807) (w : World) (hD : Dm w S b1 b2) :
    Calls Tryz.prog 111 #[.agg #[.map (some b1), .map (some b2)], .string (bs x)] w (UsP S x w) := by
  have hmm := @run_makeMap Tryz.prog
  go_enter Tryz.func111, Tryz.ntmps111
  obtain ⟨fq, D_, nq, vq, hnq, hMq, hvq, hStq⟩ := hD.look hO x
  obtain ⟨A7, c7, rfl, hRw7⟩ := hStq
  have hStq : StV w ((fst_ St.name S.structs x).getD st0) (.agg #[.string (bs ((fst_ St.name S.structs x).getD st0).name), .slice A7 ((fst_ St.name S.structs x).getD st0).fields.length c7]) := ⟨A7, c7, rfl, hRw7⟩
  have z1 : (w.alloc (Obj.cells #[.map (some b1), .map (some b2)] 104)).heap.size = w.heap.size + 1 := by simp
  have z2 : ((w.alloc (Obj.cells #[.map (some b1), .map (some b2)] 104)).alloc (Obj.map #[] 0)).heap.size = w.heap.size + 1 + 1 := by simp
  have z3 : (((w.alloc (Obj.cells #[.map (some b1), .map (some b2)] 104)).alloc (Obj.map #[] 0)).alloc (Obj.cells #[.map (some (w.heap.size + 1))] 106)).heap.size = w.heap.size + 1 + 1 + 1 := by simp
  have B3 := (Bx.new2 w 104 (.map (some b1)) (.map (some b2))).next (ab3 _ (Obj.map #[] 0) (Obj.cells #[.map (some (w.heap.size + 1))] 106) (Obj.cells #[(.func (.func 152) #[] #[.pointer (some ⟨w.heap.size + 1 + 1, 0, none⟩), .pointer (some ⟨w.heap.size + 1 + 1 + 1, 0, none⟩), .pointer (some ⟨w.heap.size, 0, none⟩)])] 182))
  have M1 := (Ms.made (w.alloc (Obj.cells #[.map (some b1), .map (some b2)] 104))).next (ab2 _ (Obj.cells #[.map (some (w.heap.size + 1))] 106) (Obj.cells #[(.func (.func 152) #[] #[.pointer (some ⟨w.heap.size + 1 + 1, 0, none⟩), .pointer (some ⟨w.heap.size + 1 + 1 + 1, 0, none⟩), .pointer (some ⟨w.heap.size, 0, none⟩)])] 182))
  have B1 := (Bx.new1 ((w.alloc (Obj.cells #[.map (some b1), .map (some b2)] 104)).alloc (Obj.map #[] 0)) 106 (.map (some (w.heap.size + 1)))).next (ab1 _ (Obj.cells #[(.func (.func 152) #[] #[.pointer (some ⟨w.heap.size + 1 + 1, 0, none⟩), .pointer (some ⟨w.heap.size + 1 + 1 + 1, 0, none⟩), .pointer (some ⟨w.heap.size, 0, none⟩)])] 182))
  have B2 := Bx.new1 (((w.alloc (Obj.cells #[.map (some b1), .map (some b2)] 104)).alloc (Obj.map #[] 0)).alloc (Obj.cells #[.map (some (w.heap.size + 1))] 106)) 182 (.func (.func 152) #[] #[.pointer (some ⟨w.heap.size + 1 + 1, 0, none⟩), .pointer (some ⟨w.heap.size + 1 + 1 + 1, 0, none⟩), .pointer (some ⟨w.heap.size, 0, none⟩)])
  rw [z1] at M1
  rw [z2] at B1
  rw [z3] at B2
  have hab := ab4 w (Obj.cells #[.map (some b1), .map (some b2)] 104) (Obj.map #[] 0) (Obj.cells #[.map (some (w.heap.size + 1))] 106) (Obj.cells #[(.func (.func 152) #[] #[.pointer (some ⟨w.heap.size + 1 + 1, 0, none⟩), .pointer (some ⟨w.heap.size + 1 + 1 + 1, 0, none⟩), .pointer (some ⟨w.heap.size, 0, none⟩)])] 182)
  have hlk := (hMq.next hab).run_look Tryz.underlying101 (zeroSt _) hx hvq
  have cV := visit_any S hO w (w.heap.size + 1) b1 b2 (w.heap.size + 1 + 1) (w.heap.size + 1 + 1 + 1) w.heap.size hD (by omega) (by omega) (by omega) (by omega) ((univ S).length + 1) x _ [] _ (by show (univ S).length - 0 < (univ S).length + 1; omega) List.nodup_nil (fun _ h => by cases h) hStq hab M1 B1 B2 B3
  clear z1 z2 z3 B2 B3
  go_wp2_with fail
  refine cV.mono ?_
  rintro e w5 ⟨now, uu, rfl, hg5, hV5, hM5⟩
  have hb5 : Below w.heap.size w w5 := hab.grown hg5 hab.size (fun j hj => by cases hj; omega)
  have c1 := (B1.kept hg5 (by omega)).c 0 rfl
  obtain ⟨hnd, hre⟩ := hV5.root
  have hnl := nodup_le now (univ S) hnd fun y hy => by
    have := (hre y).1 hy
    cases this with
    | one h => exact nx_sub hO h
    | more _ h => exact nx_sub hO h
  have hul := univ_len hO
  have cK := keys_any (some (w.heap.size + 1)) w5
  have cS := sorted_any (w.heap.size + 1) now.length now w5 hnd (by omega) hM5
  clear cV hlk B1 M1 hg5
  go_wp2_with fail
  refine cK.mono ?_
  rintro e w6 ⟨rfl, rfl⟩
  go_wp2_with fail
  refine cS.mono ?_
  rintro e w7 ⟨v7, m7, rfl, hasc, hmem, hN7, hb7⟩
  go_wp2_with fail
  go_ret
  exact ⟨_, m7, rfl, ⟨hasc, fun y => (hmem y).trans (hre y)⟩, hN7, Below.next (Below.next hb5 (ab1 _ _)) hb7⟩
end Go.Proofs.YtcilkcnddgacgaaGreatDoor
/-
  The developers' depth of a struct, with the depths that are kept. No conditions beyond those that each names.
-/
namespace Go.Proofs.YtcilkcnddgacgaaGreatDoor
open Go.RowKit Go.Maps
theorem Mp.norm {w : World} {b n : Nat} {f : List UInt8 → Option Value} {D : DataW Value} (h : Mp w b n f D) (U : List (List UInt8)) (hU : ∀ x, (f x).isSome = true → x ∈ U) : Mp w b U.length f D := by
  refine ⟨?_, h.has_, h.at_⟩
  obtain ⟨es2, hD2, hap⟩ := h.own.tidy strK
  obtain ⟨es3, hD3, hk⟩ := h.own.keysOf
  obtain ⟨es, clock, hb, F, hs0, hD⟩ := h.own
  refine ⟨es, clock, hb, F, ?_, hD⟩
  have e23 : es3 = es2 := by rw [hD2] at hD3; injection hD3 with h; exact h.symm
  have e2 : es2.length = es.size := by
    rw [hD] at hD2
    injection hD2 with h
    rw [← h, length_sorted]
    simp
  rw [← e2]
  have hstr : ∀ p ∈ es2, ∃ x, p.1 = .string x := fun p hp => by
    obtain ⟨u, hu⟩ := hk p (by rw [e23]; exact hp)
    obtain ⟨z, -, hz, -⟩ := Maps.keyOf_str Tryz.underlying9 hu
    exact ⟨z, hz⟩
  have hnd : (es2.map fun p => strOf p.1).Nodup := by
    refine List.pairwise_map.2 (hap.imp_of_mem fun {p q} hp hq hne e => hne ?_)
    obtain ⟨a, ha⟩ := hstr p hp
    obtain ⟨c, hc⟩ := hstr q hq
    rw [ha, hc] at e ⊢
    exact congrArg _ e
  have := nodup_le _ U hnd fun y hy => by
    obtain ⟨p, hp, rfl⟩ := List.mem_map.1 hy
    obtain ⟨a, ha⟩ := hstr p hp
    refine hU _ ?_
    rw [← h.has_, hD2, has_eq, List.any_eq_true]
    refine ⟨p, hp, ?_⟩
    rw [ha]
    simp [strOf, Lit.sameKey]
  simpa using this
theorem zeroInt (w : World) : (zeroValue 3).run Tryz.prog w = .ok (.int .i64 0) w := by kernel_rfl
theorem run_fields (s A : Value) (w : World) : (Instr.field 37 (.agg #[s, A]) 1).run Tryz.prog w = .ok A w := by
  unfold Instr.field
  simp [run_underlying Tryz.underlying37, part, Tryz.isAgg35, asAgg, go_sem]
/-- The depths that are kept are right. -/
def Kp (S : Sch) (w : World) (b : Nat) : Prop := ∃ f D, Mp w b 1000 f D ∧ ∀ x v, f x = some v → x ∈ sns S ∧ v = .int .i64 (dep S x : Int)
theorem Kp.made (S : Sch) (w : World) : Kp S (w.alloc (.map #[] 0)) w.heap.size := ⟨_, _, ⟨(Mp.made w).own.mono (by omega), (Mp.made w).has_, (Mp.made w).at_⟩, fun _ _ h => by cases h⟩
theorem Kp.next {S : Sch} {w w' : World} {b : Nat} (h : Kp S w b) (hb : Below w.heap.size w w') : Kp S w' b := by obtain ⟨f, D, h1, h2⟩ := h; exact ⟨f, D, h1.next hb, h2⟩
theorem Kp.lt {S : Sch} {w : World} {b : Nat} (h : Kp S w b) : b < w.heap.size := by obtain ⟨f, D, h1, h2⟩ := h; exact h1.lt
theorem td_eq {S : Sch} (d : List UInt8 → Nat) : ∀ (t : Ty), right S t = true → td S d t = lst t + (if (inn t).kind = 6 then d (inn t).name else 0)
  | .mk k s n e, h => by
    by_cases h5 : k = 5
    · subst h5
      obtain ⟨rfl, t, rfl, ht⟩ := right_list h
      have := td_eq d t ht
      rw [inn_list, lst_list, td, if_pos rfl, this]
      omega
    · rw [inn_not _ _ _ h5, lst_not _ _ _ h5]
      have hm : td S d (.mk k s n e) = if k = 6 then (if n ∈ sns S then d n else 0) else 0 := by cases e <;> simp [td, h5]
      rw [hm]
      by_cases h6 : k = 6
      · have hr := right_dir (.mk k s n e) h
        rw [inn_not _ _ _ h5] at hr
        have hn : n ∈ sns S := by
          rcases hr with ⟨-, h | h⟩ | ⟨-, -, h, -⟩
          · exact h.2
          · have : k = 7 := h.1; omega
          · exact absurd h6 h
        rw [if_pos h6, if_pos hn, if_pos (show (Ty.mk k s n e).kind = 6 from h6)]
        show d n = 0 + d n
        omega
      · rw [if_neg h6, if_neg (show ¬ (Ty.mk k s n e).kind = 6 from h6)]
/-- The greatest depth of so many fields. -/
def gk (S : Sch) (l : List Fd) (k : Nat) : Nat := ((l.take k).map fun f => td S (dep S) f.type).foldl max 0
theorem gk_succ (S : Sch) {l : List Fd} {k : Nat} (h : k < l.length) : gk S l (k + 1) = max (gk S l k) (td S (dep S) (l[k]'h).type) := by
  unfold gk
  rw [List.take_succ_eq_append_getElem h, List.map_append, List.map_singleton, foldl_max_snoc]
/-- What is known of depths where no struct uses itself. -/
structure Dpt (S : Sch) (rk : List UInt8 → Nat) : Prop where
  dn : ∀ x y, y ∈ nx S x → y ∈ sns S → rk y < rk x
  fx : ∀ x, dep S x = dF S (dep S) x
  bd : ∀ x, dep S x ≤ 4000
def DpP (S : Sch) (x : List UInt8) (b : Nat) (w : World) (e : Ending) (w' : World) : Prop := e = .returned (.int .i64 (dep S x : Int)) ∧ w.grownBy w' (some b) ∧ Kp S w' b
set_option maxRecDepth 100000 in
set_option maxHeartbeats 8000000 in
theorem depth_any (S : Sch) (hO : Okk S) (rk : List UInt8 → Nat) (hP : Dpt S rk) (W0 : World) (b b1 b2 : Nat) (hD : Dm W0 S b1 b2) (hlow : W0.heap.size ≤ b) (N : Nat) : ∀ (x : List UInt8) (w : World), rk x < N → x ∈ sns S → Below W0.heap.size W0 w → Kp S w b →
    Calls Tryz.prog 112 #[.agg #[.map (some b1), .map (some b2)], .string (bs x), .map (some b)] w (DpP S x b w) := by
  induction N with
  | zero => intro x w h; omega
  | succ N ih =>
    intro x w hN hxs hb0 hK
    obtain ⟨-, hx40⟩ := hO.ne x (.inl hxs)
    have hx9 : x.length ≤ 9223372036854775807 := by omega
    have hbw := hK.lt
    obtain ⟨f, D, hMp, hval⟩ := hK
    have B0 := Bx.new2 w 104 (.map (some b1)) (.map (some b2))
    have hMp1 := hMp.next (ab1 w (Obj.cells #[.map (some b1), .map (some b2)] 104))
    cases hfx : f x with
    | some v =>
      obtain ⟨-, rfl⟩ := hval x _ hfx
      have hv : (f x).getD (.int .i64 0) = .int .i64 (dep S x : Int) := by rw [hfx]; rfl
      have hs : (f x).isSome = true := by rw [hfx]; rfl
      have HK : Kp S (w.alloc (Obj.cells #[.map (some b1), .map (some b2)] 104)) b := ⟨f, D, hMp1, hval⟩
      clear hfx ih
      go_enter Tryz.func112, Tryz.ntmps112
      go_wp2_with (at_lookup; refine wpList_look_ok _ rfl (.tmp 15) (.tmp 16) 144 3 rfl Tryz.underlying144 (zeroInt _) hMp1 rfl hx9 rfl ?_; rw [hv, hs])
      go_ret
      exact ⟨rfl, gb_of (ab1 _ _) _, HK⟩
    | none =>
      have hv : (f x).getD (.int .i64 0) = .int .i64 0 := by rw [hfx]; rfl
      have hs : (f x).isSome = false := by rw [hfx]; rfl
      have HK : Kp S (w.alloc (Obj.cells #[.map (some b1), .map (some b2)] 104)) b := ⟨f, D, hMp1, hval⟩
      obtain ⟨t, hts, ht⟩ := List.mem_map.1 hxs
      have hft : fst_ St.name S.structs x = some t := by rw [← ht]; exact fst_some hO hts
      obtain ⟨fq, D_, nq, vq, hnq, hMq, hvq, hStq⟩ := hD.look hO x
      rw [hft] at hStq
      obtain ⟨A, c, rfl, hVf⟩ := hStq
      have hVf : Rw FdA 7 W0 t.fields A := hVf
      have hvq : (fq x).getD (.agg #[.string ⟨#[]⟩, .slice none 0 0]) = .agg #[.string (bs t.name), .slice A t.fields.length c] := hvq
      have hba := hb0.alloc hb0.size (Obj.cells #[.map (some b1), .map (some b2)] 104)
      obtain ⟨q, hm⟩ : ∃ q, t.fields.length = q := ⟨_, rfl⟩
      have HM := Lib.hid hm
      have hfl := hO.fw t hts
      rw [hm] at hvq hfl
      have hlk := (hMq.next hba).run_look Tryz.underlying101 (zeroSt _) hx9 hvq
      have hrt : ∀ f ∈ t.fields, right S f.type = true ∧ lst f.type ≤ 100 := fun f hf => ⟨hO.rt t hts f hf, hO.ls t hts f hf⟩
      have hnx : ∀ y, y ∈ nxs t → y ∈ nx S x := fun y hy => by unfold nx; rw [hft]; exact hy
      have hdx : dep S x = 1 + gk S t.fields t.fields.length := by
        rw [hP.fx x]
        unfold dF
        rw [hft]
        show fdep S (dep S) t = _
        unfold fdep gk
        rw [List.take_length]
      have hbdx := hP.bd x
      have HDX := Lib.hid hdx
      have hg1 := gb_of (ab1 w (Obj.cells #[.map (some b1), .map (some b2)] 104)) (some b)
      have hfd := fun W => run_fields (.string (bs t.name)) (.slice A q c) W
      have G0 : gk S t.fields 0 = 0 := by unfold gk; simp
      have HG0 := Lib.hid G0.symm
      clear hfx hm hdx hft ht G0
      go_enter Tryz.func112, Tryz.ntmps112
      go_wp2_with (at_lookup; refine wpList_look_ok _ rfl (.tmp 15) (.tmp 16) 144 3 rfl Tryz.underlying144 (zeroInt _) hMp1 rfl hx9 rfl ?_; rw [hv, hs])
      clear hlk hfd
      go_loopw [9, 28] (fun g i wr => ∃ (k z : Nat), k ≤ q ∧ i = .int .i64 (k : Int) ∧ g = .int .i64 (z : Int) ∧ z ≤ 4200 ∧ Hid (z = gk S t.fields k) ∧ Kp S wr b ∧ Bx wr w.heap.size [.map (some b1), .map (some b2)] ∧ w.grownBy wr (some b) ∧ Below W0.heap.size W0 wr) (fun _ i _ => q - (intOf i).toNat)
      case atStart => exact ⟨0, 0, by omega, rfl, rfl, by omega, HG0, HK, B0, hg1, hba⟩
      case round =>
        obtain ⟨k, z, hk, rfl, rfl, hz, hZ, hKr, hBr, hgr, hbW⟩ := hrel
        clear HK B0 hg1 hba hMp hMp1 HG0
        have hlw := hBr.lt
        by_cases hlt : k < q
        · obtain ⟨a, rfl, hA⟩ := hVf.get (i := k) (by rw [HM.out]; exact hlt)
          have hkm : k < t.fields.length := by rw [HM.out]; exact hlt
          have hgs := gk_succ S hkm
          obtain ⟨hr, hls⟩ := hrt _ (List.getElem_mem hkm)
          rw [td_eq _ _ hr] at hgs
          have hdir := right_dir _ hr
          have hinx : ∀ y ∈ dir (t.fields[k]'hkm).type, y ∈ nx S x := fun y hy => hnx y (List.mem_flatMap.2 ⟨_, List.getElem_mem hkm, hy⟩)
          obtain ⟨A3, c3, f0, f1, f2, f3, f4, f5, f6, -, hT⟩ := hA.val
          replace f0 := cell_next hbW f0
          replace f1 := cell_next hbW f1
          replace f2 := cell_next hbW f2
          replace f3 := cell_next hbW f3
          replace f4 := cell_next hbW f4
          replace f5 := cell_next hbW f5
          replace f6 := cell_next hbW f6
          have hblk : (a.add (k * 7)).block < wr.heap.size := blk_lt f0
          generalize t.fields[k]'hkm = f at *
          have hW1 := Below.next hbW (ab1 wr (Obj.cells #[.int .i64 f.num, .string (bs f.name), .int .i64 f.type.kind, .int .i64 f.type.size, .string (bs f.type.name), .slice A3 f.type.elem.length c3, .bool f.opt] 61))
          have cI := innermost_any S f.type _ (wr.alloc (Obj.cells #[.int .i64 f.num, .string (bs f.name), .int .i64 f.type.kind, .int .i64 f.type.size, .string (bs f.type.name), .slice A3 f.type.elem.length c3, .bool f.opt] 61)) hr (by omega) (hT.next hW1)
          rw [← hZ.out] at hgs
          obtain ⟨L, hL⟩ : ∃ L, lst f.type = L := ⟨_, rfl⟩
          have HIP : InP f.type (wr.alloc (Obj.cells #[.int .i64 f.num, .string (bs f.name), .int .i64 f.type.kind, .int .i64 f.type.size, .string (bs f.type.name), .slice A3 f.type.elem.length c3, .bool f.opt] 61)) = fun e w' => ∃ v, e = .returned (.tuple #[v, .int .i64 (L : Int)]) ∧ TyV w' (inn f.type) v ∧ Below (wr.alloc (Obj.cells #[.int .i64 f.num, .string (bs f.name), .int .i64 f.type.kind, .int .i64 f.type.size, .string (bs f.type.name), .slice A3 f.type.elem.length c3, .bool f.opt] 61)).heap.size (wr.alloc (Obj.cells #[.int .i64 f.num, .string (bs f.name), .int .i64 f.type.kind, .int .i64 f.type.size, .string (bs f.type.name), .slice A3 f.type.elem.length c3, .bool f.opt] 61)) w' := by unfold InP; rw [hL]
          rw [HIP] at cI
          rw [hL] at hgs hls
          have HGS := Lib.hid hgs
          clear hgs hA hT hrt hL HIP
          go_wp2_with fail
          refine cI.mono ?_
          rintro e w2 ⟨v2, rfl, hV2, hb2⟩
          have hbr2 := Below.next (ab1 wr _) hb2
          obtain ⟨A5, c5, rfl, -⟩ := hV2
          have hW2 := Below.next hbW hbr2
          have hgr2 := gb_next hgr hbr2
          have hK2 := hKr.next hbr2
          have T0 := hBr.next hbr2
          generalize inn f.type = u at *
          have U0 := T0.next (ab1 w2 (Obj.cells #[.int .i64 u.kind, .int .i64 u.size, .string (bs u.name), .slice A5 u.elem.length c5] 53))
          have hK3 := hK2.next (ab1 w2 (Obj.cells #[.int .i64 u.kind, .int .i64 u.size, .string (bs u.name), .slice A5 u.elem.length c5] 53))
          have hgr3 := gb_next hgr2 (ab1 w2 (Obj.cells #[.int .i64 u.kind, .int .i64 u.size, .string (bs u.name), .slice A5 u.elem.length c5] 53))
          have hW3 := Below.next hW2 (ab1 w2 (Obj.cells #[.int .i64 u.kind, .int .i64 u.size, .string (bs u.name), .slice A5 u.elem.length c5] 53))
          have t0 := T0.c 0 rfl
          have t1 := T0.c 1 rfl
          have lt0 := T0.lt
          clear T0 hgr2 hK2 hKr hgr hBr f0 f1 f2 f3 f4 f5 f6 cI
          by_cases h6 : u.kind = 6
          · have d6 : (u.kind == 6) = true := by simpa using h6
            have hun : u.name ∈ sns S ∧ u.name ∈ nx S x := by
              rcases hdir with ⟨e1, h | h⟩ | ⟨-, -, h, -⟩
              · exact ⟨h.2, hinx _ (by rw [e1]; simp)⟩
              · omega
              · exact absurd h6 h
            have hrk := hP.dn x u.name hun.2 hun.1
            have hdb := hP.bd u.name
            have hgs := HGS.out
            rw [if_pos h6] at hgs
            have cD := ih u.name (w2.alloc (Obj.cells #[.int .i64 u.kind, .int .i64 u.size, .string (bs u.name), .slice A5 u.elem.length c5] 53)) (by omega) hun.1 hW3 hK3
            obtain ⟨y, hy⟩ : ∃ y, dep S u.name = y := ⟨_, rfl⟩
            have HDP : DpP S u.name b (w2.alloc (Obj.cells #[.int .i64 u.kind, .int .i64 u.size, .string (bs u.name), .slice A5 u.elem.length c5] 53)) = fun e w' => e = .returned (.int .i64 (y : Int)) ∧ (w2.alloc (Obj.cells #[.int .i64 u.kind, .int .i64 u.size, .string (bs u.name), .slice A5 u.elem.length c5] 53)).grownBy w' (some b) ∧ Kp S w' b := by unfold DpP; rw [hy]
            rw [HDP] at cD
            rw [hy] at hgs hdb
            obtain ⟨x2, hx2⟩ : ∃ x2, gk S t.fields (k + 1) = x2 := ⟨_, rfl⟩
            rw [hx2] at hgs
            have HX2 := Lib.hid hx2.symm
            have HS := Lib.hid hgs
            clear hgs hx2 hy HDP HGS hdir hinx hun h6
            go_wp2_with fail
            refine cD.mono ?_
            rintro e w4 ⟨rfl, hg4, hK4⟩
            have hW4 := hW3.grown hg4 hW3.size (fun j hj => by cases hj; exact hlow)
            have V0 := U0.kept hg4 (by omega)
            have hgA := hgr3.trans hg4
            by_cases hzy : z < L + y
            · have d7 : decide ((z : Int) < (L : Int) + (y : Int)) = true := by rw [decide_eq_true_eq]; omega
              have hx3 : (L : Int) + (y : Int) = (x2 : Int) := by have := HS.out; omega
              go_wp2_with fail
              go_roundw
              case rel => exact ⟨k + 1, x2, by omega, by go_num, by rw [Int.max_eq_right (by omega)], by have := HS.out; omega, HX2, hK4, V0, hgA, hW4⟩
              case measure => simp [intOf]; omega
            · have d7 : decide ((z : Int) < (L : Int) + (y : Int)) = false := by rw [decide_eq_false_iff_not]; omega
              have hx3 : x2 = z := by have := HS.out; omega
              subst hx3
              go_wp2_with fail
              go_roundw
              case rel => exact ⟨k + 1, x2, by omega, by go_num, by rw [Int.max_eq_left (by omega)], hz, HX2, hK4, V0, hgA, hW4⟩
              case measure => simp [intOf]; omega
          · have d6 : (u.kind == 6) = false := by simpa using h6
            have hgs := HGS.out
            rw [if_neg h6, Nat.add_zero] at hgs
            obtain ⟨x2, hx2⟩ : ∃ x2, gk S t.fields (k + 1) = x2 := ⟨_, rfl⟩
            rw [hx2] at hgs
            have HX2 := Lib.hid hx2.symm
            have HS := Lib.hid hgs
            clear hgs hx2 HGS hdir hinx h6
            by_cases hzy : z < L
            · have d7 : decide ((z : Int) < (L : Int)) = true := by rw [decide_eq_true_eq]; omega
              have hx3 : x2 = L := by have := HS.out; omega
              subst hx3
              go_wp2_with fail
              go_roundw
              case rel => exact ⟨k + 1, x2, by omega, by go_num, by rw [Int.max_eq_right (by omega)], by omega, HX2, hK3, U0, hgr3, hW3⟩
              case measure => simp [intOf]; omega
            · have d7 : decide ((z : Int) < (L : Int)) = false := by rw [decide_eq_false_iff_not]; omega
              have hx3 : x2 = z := by have := HS.out; omega
              subst hx3
              go_wp2_with fail
              go_roundw
              case rel => exact ⟨k + 1, x2, by omega, by go_num, by rw [Int.max_eq_left (by omega)], hz, HX2, hK3, U0, hgr3, hW3⟩
              case measure => simp [intOf]; omega
        · obtain rfl : k = q := by omega
          have hdz : dep S x = 1 + z := by rw [HDX.out, hZ.out, HM.out]
          have hdz2 : (1 : Int) + (z : Int) = ((dep S x : Nat) : Int) := by omega
          obtain ⟨d, hd⟩ : ∃ d, dep S x = d := ⟨_, rfl⟩
          rw [hd] at hdz2
          have HDD := Lib.hid hd
          obtain ⟨f3, D3, hM3, hv3⟩ := hKr
          clear hdz hd hZ
          have hlk3 : ∀ w', Mp w' b (1000 + 1) (putF f3 x (.int .i64 (d : Int))) (D3.put (.string x) (.held (.int .i64 (d : Int)))) → (Instr.lookup 144 (.map (some b)) (.string (bs x)) false).run Tryz.prog w' = .ok (.int .i64 (d : Int)) w' := fun w' h => h.run_look Tryz.underlying144 (zeroInt _) hx9 (by unfold putF; rw [if_pos rfl]; rfl)
          go_wp2_with (at_mapUpdate; refine wpList_put (u := .int .i64 (d : Int)) (k := x) _ rfl (.tmp 52) (.tmp 53) (.tmp 55) 144 3 rfl Tryz.underlying144 hM3 (by omega) rfl hx9 rfl rfl ?_; intro w4 hM4 hg4; have hlk4 := hlk3 w4 hM4)
          go_ret
          refine ⟨by rw [HDD.out]; rfl, hgr.trans hg4, putF f3 x (.int .i64 (d : Int)), D3.put (.string x) (.held (.int .i64 (d : Int))), ?_, ?_⟩
          · have hU : ∀ y, (putF f3 x (.int .i64 (d : Int)) y).isSome = true → y ∈ sns S := fun y hy => by
              unfold putF at hy
              split at hy
              · rename_i e; rw [e]; exact hxs
              · obtain ⟨v, hv⟩ := Option.isSome_iff_exists.1 hy
                exact (hv3 y v hv).1
            have := hM4.norm (sns S) hU
            exact ⟨this.own.mono (by unfold sns; rw [List.length_map]; have := hO.nn; omega), this.has_, this.at_⟩
          · intro y v hv
            unfold putF at hv
            split at hv
            · rename_i e
              injection hv with hv
              exact ⟨by rw [e]; exact hxs, by rw [← hv, e, HDD.out]⟩
            · exact hv3 y v hv
end Go.Proofs.YtcilkcnddgacgaaGreatDoor
/-
  The developers' check that no struct uses itself, or is too deep. No conditions beyond those that each names.
-/
namespace Go.Proofs.YtcilkcnddgacgaaGreatDoor
open Go.RowKit Go.Maps Go.Sort Go.Shelf
theorem spot_none {w : World} {a : Addr} {v : Value} (h : w.cell? a = some v) : a.spot = none := by
  unfold World.cell? at h
  split at h
  · split at h
    · cases h
    · rename_i h1; simpa using h1
  · cases h
theorem hasName_any (l : List (List UInt8)) (x : List UInt8) (v : Value) (w : World) (hl : l.length ≤ 1000000) (h : Nms w l v) :
    Calls Tryz.prog 69 #[v, .string (bs x)] w (Is (.bool (l.contains x)) w) := by
  obtain ⟨A, c, rfl, h⟩ := h
  have key : l = [] → Calls Tryz.prog 69 #[.slice A l.length c, .string (bs x)] w (Is (.bool (l.contains x)) w) := fun e => by
    subst e
    exact (Tryz.slices_Contains_string_empty A c (bs x) w).mono fun e w' ⟨h1, h2⟩ => ⟨h1, h2.symm⟩
  rcases h with h | ⟨a, rfl, h⟩
  · exact key h
  · by_cases h0 : l = []
    · exact key h0
    · have h1 : 0 < l.length := List.length_pos_iff.2 h0
      have hs : a.spot = none := spot_none (h 0 h1)
      obtain ⟨b, off, s⟩ := a
      have hs : s = none := hs
      subst hs
      refine (Tryz.slices_Contains_string b off l.length c (l.map bs) (bs x) w (by simp) (by omega) fun j hj => ?_).mono fun e w' ⟨h1, h2⟩ => ⟨?_, h2.symm⟩
      · have hj2 : j < l.length := by simpa using hj
        have := h j hj2
        rw [Nat.mul_one] at this
        have e : (l.map bs).getD j ByteArray.empty = bs (l[j]'hj2) := by simp [List.getD_eq_getElem?_getD, hj2]
        rw [e]
        unfold TyN Addr.add at this
        by_cases hj0 : j = 0
        · subst hj0; simpa using this
        · simpa [hj0] using this
      · rw [h1]
        congr 2
        rw [Bool.eq_iff_iff, Lib.containsS_iff, List.contains_iff_mem, List.take_of_length_le (by simp), List.mem_map]
        exact ⟨fun ⟨y, hy, e⟩ => by rw [← bs_inj e]; exact hy, fun h => ⟨x, h, rfl⟩⟩
theorem Us.short {S : Sch} (hO : Okk S) {x : List UInt8} {l : List (List UInt8)} (h : Us S x l) : l.length ≤ 1000000 := by
  have := nodup_le l (univ S) (asc_nodup h.1) fun y hy => by
    have := (h.2 y).1 hy
    cases this with
    | one h => exact nx_sub hO h
    | more _ h => exact nx_sub hO h
  have := univ_len hO
  omega
def FUs (S : Sch) (x : List UInt8) (W1 : World) : Fact := ⟨fun v w' => ∃ l, Us S x l ∧ Nms w' l v ∧ Below W1.heap.size W1 w', fun _ _ _ ⟨l, h1, h2, h3⟩ hb => ⟨l, h1, h2.next hb, upG h3 hb⟩⟩
open Classical in
/-- The error of structs that use themselves or are too deep. -/
noncomputable def nsR (S : Sch) : Nat := if cyc S then 19 else if deep S then 9 else 0
theorem nsR_no {S : Sch} (h : ¬ cyc S) : (deep S → nsR S = 9) ∧ (¬ deep S → nsR S = 0) := by unfold nsR; rw [if_neg h]; exact ⟨fun h => if_pos h, fun h => if_neg h⟩
theorem exB (p : Prop) : ∃ r : Bool, r = true ↔ p := by
  by_cases h : p
  · exact ⟨true, by simp [h]⟩
  · exact ⟨false, by simp [h]⟩
theorem take_all {α : Type} {l : List α} {P : α → Prop} {k : Nat} (hk : k < l.length) (h : ∀ t ∈ l.take k, P t) (h1 : P (l[k]'hk)) : ∀ t ∈ l.take (k + 1), P t := fun t ht => by
  rw [List.take_succ_eq_append_getElem hk, List.mem_append, List.mem_singleton] at ht
  rcases ht with ht | rfl
  · exact h t ht
  · exact h1
set_option maxRecDepth 100000 in
set_option maxHeartbeats 8000000 in
theorem checkNesting_any (S : Sch) (hO : Okk S) (hP : ¬ cyc S → ∃ rk, Dpt S rk) (b1 b2 : Nat) (v : Value) (w : World) (hv : ScV w S v) (hD : Dm w S b1 b2) :
    Calls Tryz.prog 67 #[v, .agg #[.map (some b1), .map (some b2)]] w (Ib (.int .i64 (nsR S : Int)) w) := by
  have hmm := @run_makeMap Tryz.prog
  obtain ⟨A, c, A2, c2, rfl, hS⟩ := hv
  have hSs := hS.st
  clear hS
  obtain ⟨n, hn⟩ : ∃ n, S.enums.length = n := ⟨_, rfl⟩
  obtain ⟨m, hm⟩ : ∃ m, S.structs.length = m := ⟨_, rfl⟩
  have HM := Lib.hid hm
  have hmn : n + m ≤ 36 := by have := hO.nn; omega
  rw [hn, hm]
  have z1 : (w.alloc (Obj.cells #[.int .i64 S.ver, .slice A n c, .slice A2 m c2] 25)).heap.size = w.heap.size + 1 := by simp
  have B1 := (Bx.new3 w 25 (.int .i64 S.ver) (.slice A n c) (.slice A2 m c2)).next (ab1 _ (Obj.cells #[.map (some b1), .map (some b2)] 104))
  have B2 := Bx.new2 (w.alloc (Obj.cells #[.int .i64 S.ver, .slice A n c, .slice A2 m c2] 25)) 104 (.map (some b1)) (.map (some b2))
  rw [z1] at B2
  have hab := ab2 w (Obj.cells #[.int .i64 S.ver, .slice A n c, .slice A2 m c2] 25) (Obj.cells #[.map (some b1), .map (some b2)] 104)
  have HC0 : Hid (∀ t ∈ S.structs.take 0, ¬ Reach (nx S) t.name t.name) := Lib.hid (fun _ h => by simp at h)
  clear hn hm z1
  go_enter Tryz.func67, Tryz.ntmps67
  go_wp2_with fail
  go_loopw [13] (fun i wr => ∃ k : Nat, k ≤ m ∧ i = .int .i64 (k : Int) ∧ Hid (∀ t ∈ S.structs.take k, ¬ Reach (nx S) t.name t.name) ∧ Bx wr w.heap.size [.int .i64 S.ver, .slice A n c, .slice A2 m c2] ∧ Bx wr (w.heap.size + 1) [.map (some b1), .map (some b2)] ∧ Below w.heap.size w wr) (fun i _ => m - (intOf i).toNat)
  case atStart => exact ⟨0, by omega, rfl, HC0, B1, B2, hab⟩
  case round =>
    obtain ⟨k, hk, rfl, HC, C1, C2, hb⟩ := hrel
    clear HC0 B1 B2 hab
    have s2 := C1.c 2 rfl
    have l1 := C1.lt
    have l2 := C2.lt
    by_cases hlt : k < m
    · obtain ⟨a, rfl, hA⟩ := hSs.get (i := k) (by rw [HM.out]; exact hlt)
      have hkm : k < S.structs.length := by rw [HM.out]; exact hlt
      have hTM := fun h => take_all (P := fun t : St => ¬ Reach (nx S) t.name t.name) hkm HC.out h
      have hts : S.structs[k]'hkm ∈ S.structs := List.getElem_mem hkm
      obtain ⟨A3, c3, e0, e1, -⟩ := hA.val
      replace e0 := cell_next hb e0
      replace e1 := cell_next hb e1
      have hblk : (a.add (k * 2)).block < wr.heap.size := blk_lt e0
      generalize S.structs[k]'hkm = t at *
      have hx40 := (hO.ne t.name (.inl (List.mem_map.2 ⟨t, hts, rfl⟩))).2
      obtain ⟨r, hr⟩ := exB (Reach (nx S) t.name t.name)
      have HCY : r = true → cyc S := fun h => ⟨t, hts, hr.1 h⟩
      have HNX : Hid (r = false → ∀ t ∈ S.structs.take (k + 1), ¬ Reach (nx S) t.name t.name) := Lib.hid fun h => hTM fun h1 => by rw [hr.2 h1] at h; cases h
      obtain ⟨x, hxx⟩ : ∃ x, t.name = x := ⟨_, rfl⟩
      rw [hxx] at hr e0 hx40
      have hx : x.length ≤ 9223372036854775807 := by omega
      clear hA hTM HC hxx
      go_upto_region 4 with (fail)
      have hE := Bx.new2 wr 37 (.string (bs x)) (.slice A3 t.fields.length c3)
      have hR := C2.next (ab1 wr (Obj.cells #[.string (bs x), .slice A3 t.fields.length c3] 37))
      have hS1 := C1.next (ab1 wr (Obj.cells #[.string (bs x), .slice A3 t.fields.length c3] 37))
      have hb1 := Below.next hb (ab1 wr (Obj.cells #[.string (bs x), .slice A3 t.fields.length c3] 37))
      have hD1 := hD.next hb1
      generalize wr.alloc (Obj.cells #[.string (bs x), .slice A3 t.fields.length c3] 37) = W1 at *
      generalize hp6 : wr.heap.size = p6 at *
      clear e0 e1 hblk s2 l1 l2 C1 C2 hb hts
      refine wp_region_on (by kernel_rfl) (FF [(3, Fact.at_ W1 (.pointer (some ⟨(w.heap.size + 1), 0, none⟩))), (6, Fact.at_ W1 (.pointer (some ⟨p6, 0, none⟩))), (17, Fact.at_ W1 (.agg #[.map (some b1), .map (some b2)])), (18, Fact.at_ W1 (.pointer (some ⟨p6, 0, none⟩))), (19, Fact.at_ W1 (.string (bs x))), (20, FUs S x W1), (21, Fact.at_ W1 (.pointer (some ⟨p6, 0, none⟩))), (22, Fact.at_ W1 (.string (bs x))), (23, Fact.at_ W1 (.bool r))]) [3, 6] 40 [17, 18, 19, 20, 21, 22, 23] rfl (by kernel_rfl) (by kernel_rfl) ?_ ?_ ?_
      · intro t ht
        simp only [List.mem_cons, List.not_mem_nil, or_false] at ht
        rcases ht with rfl | rfl
        · exact ⟨rfl, Below.refl _ _⟩
        · exact ⟨rfl, Below.refl _ _⟩
      · refine fcs ⟨at1 3 17 (.pointer (some ⟨(w.heap.size + 1), 0, none⟩)) (.agg #[.map (some b1), .map (some b2)]) rfl (by first | exact .inl rfl | exact .inr ⟨_, _, _, rfl, rfl, by kernel_rfl, by decide, rfl⟩) (by kernel_rfl) rfl rfl (fun a W' hb h1 => by have h3 := (hb.cell (p := ⟨(w.heap.size + 1), 0, none⟩) hR.lt).trans (hR.c 0 rfl); have h4 := (hb.cell (p := ⟨(w.heap.size + 1), 1, none⟩) hR.lt).trans (hR.c 1 rfl); simp [execOp, h1] <;> go_simp), ?_⟩
        refine fcs ⟨at1 6 18 (.pointer (some ⟨p6, 0, none⟩)) (.pointer (some ⟨p6, 0, none⟩)) rfl (by first | exact .inl rfl | exact .inr ⟨_, _, _, rfl, rfl, by kernel_rfl, by decide, rfl⟩) (by kernel_rfl) rfl rfl (fun a W' hb h1 => by simp [execOp, h1] <;> go_simp), ?_⟩
        refine fcs ⟨at1 18 19 (.pointer (some ⟨p6, 0, none⟩)) (.string (bs x)) rfl (by first | exact .inl rfl | exact .inr ⟨_, _, _, rfl, rfl, by kernel_rfl, by decide, rfl⟩) (by kernel_rfl) rfl rfl (fun a W' hb h1 => by have h3 := (hb.cell (p := ⟨p6, 0, none⟩) hE.lt).trans (hE.c 0 rfl); simp [execOp, h1] <;> go_simp), ?_⟩
        refine fcs ⟨at_enter (W0 := W1) (by first | exact .inl rfl | exact .inr ⟨_, _, _, rfl, rfl, by kernel_rfl, by decide, rfl⟩) (fun a W' hf => ?_), ?_⟩
        · have h1 := hf 17 (by kernel_rfl)
          have h2 := hf 19 (by kernel_rfl)
          have h1' : a.tmps.getD 17 undef = (.agg #[.map (some b1), .map (some b2)]) := h1.1
          have h2' : a.tmps.getD 19 undef = (.string (bs x)) := h2.1
          refine ⟨111, #[(.agg #[.map (some b1), .map (some b2)]), (.string (bs x))], by rw [← h1', ← h2']; simpa [execOp, resolve, Act.eval] using run_invoke (by kernel_rfl) _ W', (used_any S hO b1 b2 x hx W' (hD1.next h1.2)).mono fun e w' ⟨v, l, e1, e2, e3, e4⟩ => ⟨v, e1, e4, fun s hs => ?_⟩⟩
          injection hs with hs
          subst hs
          exact ⟨l, e2, e3, upG h1.2 e4⟩
        refine fcs ⟨at1 6 21 (.pointer (some ⟨p6, 0, none⟩)) (.pointer (some ⟨p6, 0, none⟩)) rfl (by first | exact .inl rfl | exact .inr ⟨_, _, _, rfl, rfl, by kernel_rfl, by decide, rfl⟩) (by kernel_rfl) rfl rfl (fun a W' hb h1 => by simp [execOp, h1] <;> go_simp), ?_⟩
        refine fcs ⟨at1 21 22 (.pointer (some ⟨p6, 0, none⟩)) (.string (bs x)) rfl (by first | exact .inl rfl | exact .inr ⟨_, _, _, rfl, rfl, by kernel_rfl, by decide, rfl⟩) (by kernel_rfl) rfl rfl (fun a W' hb h1 => by have h3 := (hb.cell (p := ⟨p6, 0, none⟩) hE.lt).trans (hE.c 0 rfl); simp [execOp, h1] <;> go_simp), ?_⟩
        refine fcs ⟨at_enter (W0 := W1) (by first | exact .inl rfl | exact .inr ⟨_, _, _, rfl, rfl, by kernel_rfl, by decide, rfl⟩) (fun a W' hf => ?_), ?_⟩
        · obtain ⟨l, hu, hN, hbl⟩ := hf 20 (by kernel_rfl)
          have h2 := hf 22 (by kernel_rfl)
          have h2' : a.tmps.getD 22 undef = (.string (bs x)) := h2.1
          have hc : l.contains x = r := by rw [Bool.eq_iff_iff, List.contains_iff_mem, hr]; exact hu.2 x
          have hl : l.length ≤ 1000000 := Us.short hO hu
          refine ⟨69, #[a.tmps.getD 20 undef, (.string (bs x))], by rw [← h2']; simpa [execOp, resolve, Act.eval] using run_invoke (by kernel_rfl) _ W', (hasName_any l x _ W' hl hN).mono fun e w' ⟨e1, e2⟩ => ⟨.bool r, by rw [e1, hc], by rw [← e2]; exact Below.refl _ _, fun s hs => ?_⟩⟩
          injection hs with hs
          subst hs
          rw [← e2]
          exact ⟨rfl, hbl⟩
        exact fnl
      intro vv wv hvv hbv
      have hv23 : vv 23 = .bool r := (hvv 23 (by decide)).1
      simp only [lay, List.foldl_cons, List.foldl_nil, List.setIfInBounds_toArray, List.set_cons_succ, List.set_cons_zero, hv23]
      have hS2 := hS1.next hbv
      have hR2 := hR.next hbv
      have hb2 := Below.next hb1 hbv
      clear hvv hE hR hS1 hb1 hD1 hr hbv
      cases r
      · have HN2 := Lib.hid (HNX.out rfl)
        clear HNX HCY
        go_wp2_with fail
        go_roundw
        case rel => exact ⟨k + 1, by omega, by go_num, HN2, hS2, hR2, hb2⟩
        case measure => simp [intOf]; omega
      · have hE9 : (19 : Int) = (nsR S : Int) := by unfold nsR; rw [if_pos (HCY rfl)]; rfl
        clear HNX HCY
        go_wp2_with fail
        go_ret
        exact ⟨by rw [← hE9]; rfl, hb2⟩
    · obtain rfl : k = m := by omega
      have hnc : ¬ cyc S := by
        rintro ⟨t, ht, h⟩
        exact HC.out t (by rw [List.take_of_length_le (by rw [HM.out]; exact Nat.le_refl _)]; exact ht) h
      obtain ⟨rk, hDp⟩ := hP hnc
      have hK := Kp.made S wr
      have hnr := nsR_no hnc
      have HNR := Lib.hid hnr
      have hS1 := C1.next (ab1 wr (Obj.map #[] 0))
      have hR1 := C2.next (ab1 wr (Obj.map #[] 0))
      have hb1 := Below.next hb (ab1 wr (Obj.map #[] 0))
      have hsz := hb.size
      have HD0 : Hid (∀ t ∈ S.structs.take 0, dep S t.name ≤ 6) := Lib.hid (fun _ h => by simp at h)
      clear HC hnc hP hnr
      go_wp2_with fail
      have hlw := l2
      clear s2 l1 l2 C1 C2 hb
      rename World => wo
      go_loopw [29] (fun i wr => ∃ y : Nat, y ≤ k ∧ i = .int .i64 (y : Int) ∧ Hid (∀ t ∈ S.structs.take y, dep S t.name ≤ 6) ∧ Kp S wr wo.heap.size ∧ Bx wr w.heap.size [.int .i64 S.ver, .slice A n c, .slice A2 k c2] ∧ Bx wr (w.heap.size + 1) [.map (some b1), .map (some b2)] ∧ Below w.heap.size w wr) (fun i _ => k - (intOf i).toNat)
      case atStart => exact ⟨0, by omega, rfl, HD0, hK, hS1, hR1, hb1⟩
      case round =>
        clear hK hS1 hR1 hb1 HD0
        obtain ⟨y, hy, rfl, HD, hK, C1, C2, hb⟩ := hrel
        have s2 := C1.c 2 rfl
        have d0 := C2.c 0 rfl
        have d1 := C2.c 1 rfl
        have l1 := C1.lt
        have l2 := C2.lt
        have l3 := hK.lt
        by_cases hlt : y < k
        · obtain ⟨a, rfl, hA⟩ := hSs.get (i := y) (by rw [HM.out]; exact hlt)
          have hkm : y < S.structs.length := by rw [HM.out]; exact hlt
          have hTM := fun h => take_all (P := fun t : St => dep S t.name ≤ 6) hkm HD.out h
          have hts : S.structs[y]'hkm ∈ S.structs := List.getElem_mem hkm
          obtain ⟨A3, c3, e0, e1, -⟩ := hA.val
          replace e0 := cell_next hb e0
          replace e1 := cell_next hb e1
          have hblk : (a.add (y * 2)).block < wr.heap.size := blk_lt e0
          generalize S.structs[y]'hkm = t at *
          have hb2 := Below.next hb (ab1 wr (Obj.cells #[.string (bs t.name), .slice A3 t.fields.length c3] 37))
          have hK2 := hK.next (ab1 wr (Obj.cells #[.string (bs t.name), .slice A3 t.fields.length c3] 37))
          have cD := depth_any S hO rk hDp w wo.heap.size b1 b2 hD hsz (rk t.name + 1) t.name _ (Nat.lt_succ_self _) (List.mem_map.2 ⟨t, hts, rfl⟩) hb2 hK2
          have hS2 := C1.next (ab1 wr (Obj.cells #[.string (bs t.name), .slice A3 t.fields.length c3] 37))
          have hR2 := C2.next (ab1 wr (Obj.cells #[.string (bs t.name), .slice A3 t.fields.length c3] 37))
          have hbd := hDp.bd t.name
          obtain ⟨d, hd⟩ : ∃ d, dep S t.name = d := ⟨_, rfl⟩
          have HDE : 6 < d → deep S := fun h => ⟨t, hts, by rw [hd]; exact h⟩
          have HT := Lib.hid hTM
          have HDD := Lib.hid hd
          unfold DpP at cD
          rw [hd] at cD hbd
          clear hA hTM hd hts HD
          go_wp2_with fail
          refine cD.mono ?_
          rintro e w2 ⟨rfl, hg2, hK3⟩
          have hS3 := hS2.kept hg2 (by omega)
          have hR3 := hR2.kept hg2 (by omega)
          have hb3 := hb2.grown hg2 hb2.size (fun j hj => by cases hj; exact hsz)
          clear cD hS2 hR2 hK2 hb2 hK C1 C2 hb s2 d0 d1 l1 l2 e0 e1 hblk
          by_cases h6 : 6 < d
          · have hE9 : (9 : Int) = (nsR S : Int) := by rw [HNR.out.1 (HDE h6)]; rfl
            clear HDE HT
            go_wp2_with fail
            go_ret
            exact ⟨by rw [← hE9]; rfl, hb3⟩
          · have HN2 := Lib.hid (HT.out (by rw [HDD.out]; omega))
            clear HDE HT HDD
            go_wp2_with fail
            go_roundw
            case rel => exact ⟨y + 1, by omega, by go_num, HN2, hK3, hS3, hR3, hb3⟩
            case measure => simp [intOf]; omega
        · obtain rfl : y = k := by omega
          have hE9 : (0 : Int) = (nsR S : Int) := by
            rw [HNR.out.2]
            · rfl
            · rintro ⟨t, ht, h⟩
              have := HD.out t (by rw [List.take_of_length_le (by rw [HM.out]; exact Nat.le_refl _)]; exact ht)
              omega
          clear HD
          go_wp2_with fail
          go_ret
          exact ⟨by rw [← hE9]; rfl, hb⟩
end Go.Proofs.YtcilkcnddgacgaaGreatDoor
/-
  What valid schemas of few parts keep: mathematics. No conditions beyond those that each names.
-/
namespace Go.Proofs.YtcilkcnddgacgaaGreatDoor
theorem fewT_nok : ∀ (t : Ty), fewT t = true → nok t
  | .mk k s n e, h => by
    rw [fewT] at h
    simp only [Bool.and_eq_true, decide_eq_true_eq] at h
    rw [nok]
    exact ⟨by omega, go e h.2.2.2⟩
where go : ∀ (e : List Ty), fewT.fews e = true → nok.noks e
  | [], _ => by rw [nok.noks]; trivial
  | t :: ts, h => by
    rw [fewT.fews, Bool.and_eq_true] at h
    rw [nok.noks]
    exact ⟨fewT_nok t h.1, go ts h.2⟩
theorem fewT_lok : ∀ (t : Ty), fewT t = true → lok t
  | .mk k s n e, h => by
    rw [fewT] at h
    simp only [Bool.and_eq_true, decide_eq_true_eq] at h
    rw [lok]
    exact ⟨by omega, go e h.2.2.2⟩
where go : ∀ (e : List Ty), fewT.fews e = true → lok.loks e
  | [], _ => by rw [lok.loks]; trivial
  | t :: ts, h => by
    rw [fewT.fews, Bool.and_eq_true] at h
    rw [lok.loks]
    exact ⟨fewT_lok t h.1, go ts h.2⟩
theorem lst_le : ∀ (t : Ty), lst t ≤ dpt t
  | .mk k s n e => by
    rw [dpt]
    by_cases h5 : k = 5
    · subst h5
      match e with
      | [] => rw [lst]; simp
      | t :: ts =>
        rw [lst_list, dpt.dpts]
        have := lst_le t
        omega
    · rw [lst_not _ _ _ h5]
      omega
theorem fewT_lst {t : Ty} (h : fewT t = true) : lst t ≤ 8 := by
  rw [fewT_eq] at h
  simp only [Bool.and_eq_true, decide_eq_true_eq] at h
  have := lst_le t
  omega
/-- The bounds of a schema of few parts. -/
structure FewB (S : Sch) : Prop where
  ne : S.enums.length ≤ 18
  ns : S.structs.length ≤ 18
  en : ∀ x ∈ S.enums, x.name.length ≤ 40 ∧ x.names.length ≤ 18 ∧ x.nums.length ≤ 18 ∧ ∀ y ∈ x.names, y.length ≤ 40
  st : ∀ t ∈ S.structs, t.name.length ≤ 40 ∧ t.fields.length ≤ 18 ∧ ∀ f ∈ t.fields, f.name.length ≤ 40 ∧ nok f.type ∧ lok f.type ∧ lst f.type ≤ 8
theorem few_B {S : Sch} (h : few S = true) : FewB S := by
  unfold few at h
  simp only [Bool.and_eq_true, decide_eq_true_eq, List.all_eq_true] at h
  obtain ⟨h1, h2, h3, h4⟩ := h
  refine ⟨h1, h2, fun x hx => ?_, fun t ht => ?_⟩
  · have := h3 x hx
    unfold fewE shortN at this
    simp only [Bool.and_eq_true, decide_eq_true_eq, List.all_eq_true] at this
    exact this
  · have := h4 t ht
    unfold fewS shortN at this
    simp only [Bool.and_eq_true, decide_eq_true_eq, List.all_eq_true] at this
    refine ⟨this.1, this.2.1, fun f hf => ?_⟩
    have hf := this.2.2 f hf
    unfold fewF shortN at hf
    simp only [Bool.and_eq_true, decide_eq_true_eq] at hf
    exact ⟨hf.1, fewT_nok _ hf.2, fewT_lok _ hf.2, fewT_lst hf.2⟩
theorem nodup_take {α : Type} {l : List α} (h : ∀ i (hi : i < l.length), l[i]'hi ∉ l.take i) : l.Nodup := by
  rw [List.nodup_iff_pairwise_ne, List.pairwise_iff_getElem]
  intro i j hi hj hij e
  refine h j hj ?_
  rw [← e, List.mem_take_iff_getElem]
  exact ⟨i, by omega, rfl⟩
theorem stE_at {S : Sch} {i : Nat} (hi : i < S.structs.length) : stE S i = stErr S (ens S ++ (sns S).take i) (S.structs[i]'hi) := by unfold stE; rw [getD_of hi]
theorem enE_at {S : Sch} {i : Nat} (hi : i < S.enums.length) : enE S i = enErr ((ens S).take i) (S.enums[i]'hi) := by unfold enE; rw [getD_of hi]
theorem stErr_ok {S : Sch} {pre : List (List UInt8)} {t : St} (h : stErr S pre t = 0) : isTn t.name = true ∧ t.name ∉ pre ∧ ∀ k, k < t.fields.length → fdErr S t k = 0 := by
  unfold stErr at h
  by_cases h1 : isTn t.name = false
  · rw [if_pos h1] at h; cases h
  · rw [if_neg h1] at h
    by_cases h2 : pre.contains t.name = true
    · rw [if_pos h2] at h; cases h
    · rw [if_neg h2] at h
      exact ⟨by simpa using h1, fun hm => h2 (List.contains_iff_mem.2 hm), fe_iff.1 h⟩
theorem enErr_ok {pre : List (List UInt8)} {x : En} (h : enErr pre x = 0) : isTn x.name = true ∧ x.name ∉ pre ∧ x.names.length ≠ 0 ∧ x.nums.length = x.names.length ∧ ∀ k, k < x.names.length → nmErr x k = 0 := by
  unfold enErr at h
  by_cases h1 : isTn x.name = false
  · rw [if_pos h1] at h; cases h
  · rw [if_neg h1] at h
    by_cases h2 : pre.contains x.name = true
    · rw [if_pos h2] at h; cases h
    · rw [if_neg h2] at h
      by_cases h3 : x.names.length = 0 ∨ x.nums.length ≠ x.names.length
      · rw [if_pos h3] at h; cases h
      · rw [if_neg h3] at h
        exact ⟨by simpa using h1, fun hm => h2 (List.contains_iff_mem.2 hm), by omega, by omega, fe_iff.1 h⟩
theorem fdErr_ok {S : Sch} {t : St} {k : Nat} (hk : k < t.fields.length) (h : fdErr S t k = 0) : 1 ≤ (t.fields[k]'hk).num ∧ (t.fields[k]'hk).num ≤ 127 ∧ isN (t.fields[k]'hk).name = true ∧ right S (t.fields[k]'hk).type = true := by
  rcases fdErr_cases S t k with ⟨-, e⟩ | ⟨-, -, -, e⟩ | ⟨-, -, -, -, e⟩ | ⟨-, -, -, -, -, e⟩ | ⟨-, -, -, -, -, -, e⟩ | ⟨a, b, -, d, -, f, -⟩
  · rw [h] at e; cases e
  · rw [h] at e; cases e
  · rw [h] at e; cases e
  · rw [h] at e; cases e
  · rw [h] at e; cases e
  · rw [getD_of hk] at a b d f
    exact ⟨a, b, d, f⟩
theorem Parts.nd {S : Sch} (hP : Parts S) : (sns S).Nodup := nodup_take fun i hi hm => by
  have hi2 : i < S.structs.length := by simpa [sns] using hi
  have h := hP.st i hi2
  rw [stE_at hi2] at h
  exact (stErr_ok h).2.1 (List.mem_append_right _ (by simpa [sns] using hm))
theorem Parts.st_ {S : Sch} (hP : Parts S) {t : St} (ht : t ∈ S.structs) : isTn t.name = true ∧ t.name ∉ ens S ∧ ∀ f ∈ t.fields, right S f.type = true := by
  obtain ⟨i, hi, rfl⟩ := List.mem_iff_getElem.1 ht
  have h := hP.st i hi
  rw [stE_at hi] at h
  obtain ⟨h1, h2, h3⟩ := stErr_ok h
  refine ⟨h1, fun hm => h2 (List.mem_append_left _ hm), fun f hf => ?_⟩
  obtain ⟨k, hk, rfl⟩ := List.mem_iff_getElem.1 hf
  exact (fdErr_ok hk (h3 k hk)).2.2.2
theorem Parts.en_ {S : Sch} (hP : Parts S) {x : En} (hx : x ∈ S.enums) : isTn x.name = true := by
  obtain ⟨i, hi, rfl⟩ := List.mem_iff_getElem.1 hx
  have h := hP.en i hi
  rw [enE_at hi] at h
  exact (enErr_ok h).1
theorem Parts.okk {S : Sch} (hP : Parts S) (hB : FewB S) : Okk S where
  rt := fun t ht f hf => (hP.st_ ht).2.2 f hf
  nd := hP.nd
  ne := fun x hx => by
    have h : isTn x = true := by
      rcases hx with h | h
      · obtain ⟨t, ht, rfl⟩ := List.mem_map.1 h; exact (hP.st_ ht).1
      · obtain ⟨t, ht, rfl⟩ := List.mem_map.1 h; exact hP.en_ ht
    exact ⟨isN_ne (isTn_isN h), by have := isN_lenS (isTn_isN h); omega⟩
  dj := fun x hs he => by
    obtain ⟨t, ht, rfl⟩ := List.mem_map.1 hs
    exact (hP.st_ ht).2.1 he
  ls := fun t ht f hf => by have := ((hB.st t ht).2.2 f hf).2.2.2; omega
  fw := fun t ht => (hB.st t ht).2.1
  nn := by have := hB.ne; have := hB.ns; omega
theorem td_near (S : Sch) {d d' : List UInt8 → Nat} : ∀ (t : Ty), (∀ y ∈ dir t, y ∈ sns S → d y = d' y) → td S d t = td S d' t
  | .mk k s n e, h => by
    by_cases h5 : k = 5
    · subst h5
      match e with
      | [] => simp [td]
      | t :: ts =>
        rw [td, if_pos rfl, td, if_pos rfl, td_near S t fun y hy => h y (by rw [dir_neg _ _ _ (by decide), dir.dirs]; exact List.mem_append_left _ hy)]
    · by_cases h6 : k = 6
      · have hh : n ∈ sns S → d n = d' n := h n (by rw [dir_pos _ _ _ (.inl h6)]; simp)
        cases e <;> simp only [td, if_neg h5, if_pos h6] <;> split <;> first | exact hh (by assumption) | rfl
      · cases e <;> simp only [td, if_neg h5, if_neg h6]
theorem td_le (S : Sch) {d : List UInt8 → Nat} {B : Nat} (hd : ∀ y, d y ≤ B) : ∀ (t : Ty), td S d t ≤ lst t + B
  | .mk k s n e => by
    by_cases h5 : k = 5
    · subst h5
      match e with
      | [] => rw [td, if_pos rfl]; exact Nat.zero_le _
      | t :: ts =>
        rw [td, if_pos rfl, lst_list]
        have := td_le S hd t
        show 1 + td S d t ≤ _
        omega
    · rw [lst_not _ _ _ h5]
      by_cases h6 : k = 6
      · cases e <;> simp only [td, if_neg h5, if_pos h6] <;> split <;> first | (have := hd n; omega) | omega
      · cases e <;> simp only [td, if_neg h5, if_neg h6] <;> omega
theorem fst_st {S : Sch} (x : List UInt8) : ((fst_ St.name S.structs x).getD st0) = st0 ∨ ((fst_ St.name S.structs x).getD st0) ∈ S.structs ∧ ((fst_ St.name S.structs x).getD st0).name = x := by
  cases h : fst_ St.name S.structs x with
  | none => exact .inl rfl
  | some t => exact .inr (fst_mem h)
theorem dF_le {S : Sch} (hB : FewB S) {d : List UInt8 → Nat} {B : Nat} (hd : ∀ y, d y ≤ B) (x : List UInt8) : dF S d x ≤ 9 + B := by
  unfold dF
  rcases fst_st (S := S) x with h | ⟨h, -⟩
  · rw [h]; show 1 + 0 ≤ _; omega
  · generalize (fst_ St.name S.structs x).getD st0 = t at *
    unfold fdep
    have : ((t.fields.map fun f => td S d f.type).foldl max 0) ≤ 8 + B := (foldl_max_le _ _ _).2 ⟨by omega, fun z hz => by
      obtain ⟨f, hf, rfl⟩ := List.mem_map.1 hz
      have := td_le S hd f.type
      have := ((hB.st t h).2.2 f hf).2.2.2
      omega⟩
    omega
theorem gd_le {S : Sch} (hB : FewB S) : ∀ (n : Nat) (x : List UInt8), gd (dF S) n x ≤ 9 * n
  | 0, _ => Nat.le_refl _
  | n + 1, x => by
    have := dF_le hB (gd_le hB n) x
    show dF S (gd (dF S) n) x ≤ _
    omega
/-- The structs that a struct refers to. -/
def nxS (S : Sch) (x : List UInt8) : List (List UInt8) := (nx S x).filter fun y => (sns S).contains y
theorem mem_nxS {S : Sch} {x y : List UInt8} : y ∈ nxS S x ↔ y ∈ nx S x ∧ y ∈ sns S := by unfold nxS; rw [List.mem_filter, List.contains_iff_mem]
theorem dF_near (S : Sch) : Near (nxS S) (dF S) := fun d d' x h => by
  unfold dF fdep
  congr 2
  refine List.map_congr_left fun f hf => td_near S f.type fun y hy hs => h y (mem_nxS.2 ⟨?_, hs⟩)
  unfold nx nxs
  exact List.mem_flatMap.2 ⟨f, hf, hy⟩
open Classical in
/-- How many structs a name leads to. -/
noncomputable def rkS (S : Sch) (x : List UInt8) : Nat := ((sns S).filter fun y => decide (Reach (nx S) x y)).length
theorem no_loop {S : Sch} (hc : ¬ cyc S) (x : List UInt8) : ¬ Reach (nx S) x x := fun h => by
  rcases fst_st (S := S) x with e | ⟨h1, h2⟩
  · have : nx S x = [] := by unfold nx; rw [e]; rfl
    rcases Reach.first h with h | ⟨z, hz, -⟩
    · rw [this] at h; cases h
    · rw [this] at hz; cases hz
  · exact hc ⟨_, h1, by rw [h2]; exact h⟩
theorem rkS_down {S : Sch} (hn : (sns S).Nodup) (hc : ¬ cyc S) : Down (nxS S) (rkS S) := fun x y hy => by
  obtain ⟨h1, h2⟩ := mem_nxS.1 hy
  have := nodup_le (y :: (sns S).filter fun z => @decide (Reach (nx S) y z) (Classical.propDecidable _)) ((sns S).filter fun z => @decide (Reach (nx S) x z) (Classical.propDecidable _))
    (List.nodup_cons.2 ⟨fun h => no_loop hc y (by simpa using (List.mem_filter.1 h).2), hn.filter _⟩) fun z hz => by
      rw [List.mem_filter]
      rcases List.mem_cons.1 hz with rfl | hz
      · exact ⟨h2, by simpa using Reach.one h1⟩
      · obtain ⟨h3, h4⟩ := List.mem_filter.1 hz
        exact ⟨h3, by simpa using (Reach.one h1).trans (by simpa using h4)⟩
  simp only [List.length_cons] at this
  exact this
theorem rkS_lt (S : Sch) (x : List UInt8) : rkS S x < S.structs.length + 1 := by
  have := List.length_filter_le (fun y => @decide (Reach (nx S) x y) (Classical.propDecidable _)) (sns S)
  unfold rkS
  unfold sns at this ⊢
  simp only [List.length_map] at this
  omega
theorem dpt_of {S : Sch} (hn : (sns S).Nodup) (hB : FewB S) (hc : ¬ cyc S) : Dpt S (rkS S) where
  dn := fun x y hy hs => rkS_down hn hc x y (mem_nxS.2 ⟨hy, hs⟩)
  fx := fun x => gd_fix (rkS_down hn hc) (dF_near S) (rkS_lt S) x
  bd := fun x => by
    have := gd_le hB (S.structs.length + 1) x
    have := hB.ns
    unfold dep
    omega
end Go.Proofs.YtcilkcnddgacgaaGreatDoor


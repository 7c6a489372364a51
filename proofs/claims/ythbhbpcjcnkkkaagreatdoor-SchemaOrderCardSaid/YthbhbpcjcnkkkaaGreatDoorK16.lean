/-
  What a struct of a valid schema uses: mathematics, no conditions beyond those that each names.
-/
import Derived.Test.YthbhbpcjcnkkkaaGreatDoorK12
import Derived.Lib.OthersKept
import Derived.Test.YthbhbpcjcnkkkaaGreatDoorK07
import Derived.Test.YthbhbpcjcnkkkaaGreatDoorK02
import Derived.Test.YthbhbpcjcnkkkaaGreatDoorK08
import Derived.Sort.EncStr
import Derived.Sort.Walk0
import Derived.Maps.AppendAt
import Derived.Test.YthbhbpcjcnkkkaaGreatDoorK15
namespace Go.Proofs.YthbhbpcjcnkkkaaGreatDoor
open Go.RowKit
theorem td_ge {S : Sch} (hO : Okk S) {d : List UInt8 → Nat} {t : Ty} (hr : right S t = true) {y : List UInt8} (hy : y ∈ dir t) (hs : y ∈ sns S) : d y ≤ td S d t := by
  rw [td_eq d t hr]
  rcases right_dir t hr with ⟨h1, h2⟩ | ⟨h1, -⟩
  · rw [h1] at hy
    obtain rfl : y = (inn t).name := by simpa using hy
    rcases h2 with ⟨h6, -⟩ | ⟨h7, h8⟩
    · rw [if_pos h6]; omega
    · exact absurd h8 (fun h => hO.dj _ hs h)
  · rw [h1] at hy; cases hy
theorem nx_st {S : Sch} {x y : List UInt8} (h : y ∈ nx S x) : ∃ t ∈ S.structs, t.name = x ∧ fst_ St.name S.structs x = some t ∧ ∃ f ∈ t.fields, y ∈ dir f.type := by
  unfold nx at h
  cases e : fst_ St.name S.structs x with
  | none => rw [e] at h; cases h
  | some t =>
    rw [e] at h
    obtain ⟨f, hf, hy⟩ := List.mem_flatMap.1 h
    obtain ⟨h1, h2⟩ := fst_mem e
    exact ⟨t, h1, h2, rfl, f, hf, hy⟩
theorem dep_step {S : Sch} (hO : Okk S) {rk : List UInt8 → Nat} (hP : Dpt S rk) {x y : List UInt8} (h : y ∈ nx S x) (hs : y ∈ sns S) : dep S y < dep S x := by
  obtain ⟨t, ht, hn, hf, f, hff, hy⟩ := nx_st h
  have h1 := td_ge hO (d := dep S) (hO.rt t ht f hff) hy hs
  rw [hP.fx x]
  unfold dF fdep
  rw [hf]
  have h2 := le_foldl_max (t.fields.map fun f => td S (dep S) f.type) 0 (x := td S (dep S) f.type) (List.mem_map.2 ⟨f, hff, rfl⟩)
  show dep S y < 1 + (t.fields.map fun f => td S (dep S) f.type).foldl max 0
  omega
theorem nx_src {S : Sch} {x y : List UInt8} (h : y ∈ nx S x) : x ∈ sns S := by
  obtain ⟨t, ht, hn, -⟩ := nx_st h
  exact List.mem_map.2 ⟨t, ht, hn⟩
theorem dep_reach {S : Sch} (hO : Okk S) {rk : List UInt8 → Nat} (hP : Dpt S rk) {x y : List UInt8} (h : Reach (nx S) x y) : y ∈ sns S → dep S y < dep S x := by
  induction h with
  | one h => exact fun hs => dep_step hO hP h hs
  | more h k ih => exact fun hs => Nat.lt_trans (dep_step hO hP k hs) (ih (nx_src k))
theorem dep_pos {S : Sch} {rk : List UInt8 → Nat} (hP : Dpt S rk) (x : List UInt8) : 1 ≤ dep S x := by
  rw [hP.fx x]
  unfold dF fdep
  omega
theorem reach_univ {S : Sch} (hO : Okk S) {x y : List UInt8} (h : Reach (nx S) x y) : y ∈ univ S := by
  cases h with
  | one h => exact nx_sub hO h
  | more _ h => exact nx_sub hO h
theorem Us.sub {S : Sch} {x y : List UInt8} {l m : List (List UInt8)} (h : Us S x l) (k : Us S y m) (hy : y ∈ l) : ∀ z ∈ m, z ∈ l := fun z hz => (h.2 z).2 (((h.2 y).1 hy).trans ((k.2 z).1 hz))
end Go.Proofs.YthbhbpcjcnkkkaaGreatDoor
/-
  What the uses of a struct of a valid schema keep: mathematics. No conditions beyond those that each names.
-/
namespace Go.Proofs.YthbhbpcjcnkkkaaGreatDoor
theorem UsA.one {S : Sch} {x : List UInt8} {l m : List (List UInt8)} (h : UsA S x l) (k : UsA S x m) : l = m := by
  rcases h with ⟨h1, h2, h3⟩ | ⟨h1, rfl⟩
  · rcases k with ⟨-, -, k3⟩ | ⟨k1, -⟩
    · exact h3.one k3
    · exact absurd ⟨h1, h2⟩ k1
  · rcases k with ⟨k1, k2, -⟩ | ⟨-, rfl⟩
    · exact absurd ⟨k1, k2⟩ h1
    · rfl
theorem UsA.short {S : Sch} (hB : FewB S) {x : List UInt8} {l : List (List UInt8)} (h : UsA S x l) : l.length ≤ 1000000 := by
  rcases h with ⟨h1, -, h3⟩ | ⟨-, rfl⟩
  · exact h3.short ((chk_zero h1).pt.okk hB)
  · exact Nat.zero_le _
section
variable {S : Sch} (hc : chk S = 0)
include hc
theorem cl_us {x : List UInt8} {l : List (List UInt8)} (hx : x ∈ sns S) (h : UsA S x l) : Us S x l := by
  rcases h with ⟨-, -, h⟩ | ⟨h, -⟩
  · exact h
  · exact absurd ⟨hc, List.contains_iff_mem.2 hx⟩ h
theorem cl_dep {x : List UInt8} (hx : x ∈ sns S) : depA S x = dep S x := by
  unfold depA
  rw [if_pos hc, if_pos (List.contains_iff_mem.2 hx)]
theorem cl_sub {x y : List UInt8} {l m : List (List UInt8)} (hx : x ∈ sns S) (h : UsA S x l) (hy : y ∈ l) (k : UsA S y m) : ∀ z ∈ m, z ∈ l := by
  rcases k with ⟨-, -, k⟩ | ⟨-, rfl⟩
  · exact (cl_us hc hx h).sub k hy
  · intro z hz; cases hz
theorem cl_ne {x y : List UInt8} {l : List (List UInt8)} (hx : x ∈ sns S) (h : UsA S x l) (hy : y ∈ l) : y ≠ x := by
  rintro rfl
  have hr := ((cl_us hc hx h).2 y).1 hy
  obtain ⟨t, ht, e⟩ := List.mem_map.1 hx
  exact (chk_zero hc).nc ⟨t, ht, by rw [e]; exact hr⟩
theorem cl_asc {x : List UInt8} {l : List (List UInt8)} (hx : x ∈ sns S) (h : UsA S x l) {k : Nat} (hk : k + 1 < l.length) : l[k] < l[k + 1] := (ltB _ _).2 (steps_of_asc (cl_us hc hx h).1 k hk)
variable (hB : FewB S)
include hB
theorem cl_rng {x : List UInt8} (hx : x ∈ sns S) : 1 ≤ depA S x ∧ depA S x ≤ 6 := by
  have hV := chk_zero hc
  have hD := dpt_of hV.pt.nd hB hV.nc
  rw [cl_dep hc hx]
  refine ⟨dep_pos hD x, Nat.le_of_not_lt fun h => ?_⟩
  obtain ⟨t, ht, rfl⟩ := List.mem_map.1 hx
  exact hV.nd ⟨t, ht, h⟩
theorem cl_less {x y : List UInt8} {l : List (List UInt8)} (hx : x ∈ sns S) (h : UsA S x l) (hy : y ∈ l) : depA S y < depA S x := by
  have hV := chk_zero hc
  have hD := dpt_of hV.pt.nd hB hV.nc
  have hr := ((cl_us hc hx h).2 y).1 hy
  by_cases hs : y ∈ sns S
  · rw [cl_dep hc hs, cl_dep hc hx]
    exact dep_reach (hV.pt.okk hB) hD hr hs
  · have h0 : depA S y = 0 := by
      unfold depA
      rw [if_pos hc, if_neg fun h => hs (List.contains_iff_mem.1 h)]
    have := (cl_rng hc hB hx).1
    omega
theorem cl_xor {x y : List UInt8} {l : List (List UInt8)} (hx : x ∈ sns S) (h : UsA S x l) (hy : y ∈ l) : (sns S).contains y = !(ens S).contains y := by
  have hO := (chk_zero hc).pt.okk hB
  have hr := ((cl_us hc hx h).2 y).1 hy
  have hu := reach_univ hO hr
  unfold univ at hu
  rcases List.mem_append.1 hu with h1 | h1
  · have h2 : y ∉ ens S := fun h => hO.dj y h1 h
    simp [h1, h2]
  · have h2 : y ∉ sns S := fun h => hO.dj y h h1
    simp [h1, h2]
theorem cl_len {x : List UInt8} {l : List (List UInt8)} (h : UsA S x l) {y : List UInt8} (hy : y ∈ l) : y.length ≤ 40 := by
  have hO := (chk_zero hc).pt.okk hB
  rcases h with ⟨-, -, h3⟩ | ⟨-, rfl⟩
  · have hu := reach_univ hO ((h3.2 y).1 hy)
    unfold univ at hu
    exact (hO.ne y (List.mem_append.1 hu)).2
  · cases hy
end
end Go.Proofs.YthbhbpcjcnkkkaaGreatDoor
/-
  The hash of a string, byte by byte: the program's and the reference's. The tables of utf8 as the program laid them.
-/
namespace Go.Proofs.YthbhbpcjcnkkkaaGreatDoor
open Go.RowKit
theorem xor_lt64 {a b : Nat} (ha : a < 18446744073709551616) (hb : b < 18446744073709551616) : a ^^^ b < 18446744073709551616 := Nat.xor_lt_two_pow (n := 64) ha hb
def mul (x b : Nat) : Nat := (x ^^^ b) * 1099511628211 % 18446744073709551616
/-- The hash behind bytes. -/
def has (x : Nat) (l : List UInt8) : Nat := l.foldl (fun x b => mul x b.toNat) x
def hash (l : List UInt8) : Nat := has 14695981039346656037 l
theorem mul_lt (x b : Nat) : mul x b < 18446744073709551616 := Nat.mod_lt _ (by decide)
theorem has_lt {x : Nat} (h : x < 18446744073709551616) (l : List UInt8) : has x l < 18446744073709551616 := by
  induction l generalizing x with
  | nil => exact h
  | cons b l ih => exact ih (mul_lt _ _)
theorem hash_lt (l : List UInt8) : hash l < 18446744073709551616 := has_lt (by decide) l
theorem has_snoc (x : Nat) (l : List UInt8) (b : UInt8) : has x (l ++ [b]) = mul (has x l) b.toNat := by
  unfold has
  rw [List.foldl_append, List.foldl_cons, List.foldl_nil]
theorem hash_snoc (l : List UInt8) (b : UInt8) : hash (l ++ [b]) = mul (hash l) b.toNat := has_snoc _ l b
set_option maxRecDepth 100000 in
theorem multiplied_any (x b : Nat) (w : World) (hx : x ≤ 18446744073709551615) (hb : b ≤ 255) :
    Calls Tryz.prog 83 #[.int .u64 (x : Int), .int .u8 (b : Int)] w (Is (.int .u64 (mul x b : Int)) w) := by
  obtain ⟨y, hy⟩ : ∃ y, x ^^^ b = y := ⟨_, rfl⟩
  have hy2 : y < 18446744073709551616 := by rw [← hy]; exact xor_lt64 (by omega) (by omega)
  have k1 : bits BinOp.xor IntKind.u64 (x : Int) (b : Int) = (y : Int) := by rw [u64_xor_nat _ _ (by omega) (by omega), hy]
  obtain ⟨z, hz⟩ : ∃ z, mul x b = z := ⟨_, rfl⟩
  have k2 : IntKind.u64.wrap ((y : Int) * 1099511628211) = (z : Int) := by
    rw [← hz, mul, hy, IntKind.wrap_u64]
    omega
  rw [hz]
  clear hz hy hy2
  go_enter Tryz.func83, Tryz.ntmps83
  go_wp2_with fail
  go_ret
  exact ret_is rfl
def Tabs (w : World) : Prop := Lib.Utf8Tabs 0 1 w
theorem Tabs.below {w w' : World} (h : Tabs w) (hb : Below w.heap.size w w') : Tabs w' := Utf8Tabs_below h hb
theorem runeLen_decode (s : ByteArray) (pos : Nat) (hr : (Utf8.decode s pos).1 ≠ 65533) : Lib.runeLen ((Utf8.decode s pos).1 : Int) = ((Utf8.decode s pos).2 : Int) := by
  rw [Lib.decode_at] at *
  revert hr
  generalize s.size - pos = n
  have b0 := (s.get! pos).toNat_lt; have b1 := (s.get! (pos + 1)).toNat_lt; have b2 := (s.get! (pos + 2)).toNat_lt; have b3 := (s.get! (pos + 3)).toNat_lt
  revert b0 b1 b2 b3
  generalize (s.get! pos).toNat = c0
  generalize (s.get! (pos + 1)).toNat = c1
  generalize (s.get! (pos + 2)).toNat = c2
  generalize (s.get! (pos + 3)).toNat = c3
  intro b0 b1 b2 b3
  unfold Lib.decodeN
  split
  · intro _; unfold Lib.runeLen; simp only; split <;> first | omega | (split <;> omega)
  split
  · split
    · intro _; unfold Lib.runeLen; simp only; repeat' split
      all_goals omega
    · intro h; exact absurd rfl h
  split
  · split
    · intro _; unfold Lib.runeLen; simp only; repeat' split
      all_goals omega
    · intro h; exact absurd rfl h
  split
  · split
    · intro _; unfold Lib.runeLen; simp only; repeat' split
      all_goals omega
    · intro h; exact absurd rfl h
  · intro h; exact absurd rfl h
theorem decode_fits (s : ByteArray) (pos : Nat) (h : pos < s.size) : 1 ≤ (Utf8.decode s pos).2 ∧ pos + (Utf8.decode s pos).2 ≤ s.size := by
  rw [Lib.decode_at]
  have hn : 1 ≤ s.size - pos := by omega
  suffices H : 1 ≤ (Lib.decodeN (s.size - pos) (s.get! pos).toNat (s.get! (pos + 1)).toNat (s.get! (pos + 2)).toNat (s.get! (pos + 3)).toNat).2 ∧ (Lib.decodeN (s.size - pos) (s.get! pos).toNat (s.get! (pos + 1)).toNat (s.get! (pos + 2)).toNat (s.get! (pos + 3)).toNat).2 ≤ s.size - pos from ⟨H.1, by omega⟩
  generalize s.size - pos = n at *
  unfold Lib.decodeN
  repeat' split
  all_goals simp only
  all_goals omega
theorem decode_drop (s : ByteArray) (pos : Nat) (h : pos < s.size) : Utf8.decode (s.extract pos s.size) 0 = Utf8.decode s pos := by
  have hz : (s.extract pos s.size).size = s.size - pos := by simp
  have hg : ∀ k, k < s.size - pos → (s.extract pos s.size).get! k = s.get! (pos + k) := by
    intro k hk
    rw [Utf8W.get!_of_lt _ _ (by omega), Utf8W.get!_of_lt _ _ (by omega), ByteArray.getElem_extract]
  have hg2 : ∀ (t : ByteArray) k, ¬ k < t.size → t.get! k = 0 := by
    intro t k hk
    cases t with
    | mk d =>
      show d[k]! = 0
      exact getElem!_neg d k hk
  have hq : ∀ k, (s.extract pos s.size).get! k = s.get! (pos + k) := by
    intro k
    by_cases hk : k < s.size - pos
    · exact hg k hk
    · rw [hg2 _ _ (by omega), hg2 _ _ (by omega)]
  rw [Lib.decode_at, Lib.decode_at, hz, hq, hq, hq, hq]
  rfl
set_option maxRecDepth 100000 in
theorem width_any (s : ByteArray) (pos : Nat) (w : World) (h : pos < s.size) (hT : Tabs w) :
    Calls Tryz.prog 97 #[.int .i32 ((Utf8.decode s pos).1 : Int), .string (s.extract pos s.size)] w (Ib (.int .i64 ((Utf8.decode s pos).2 : Int)) w) := by
  by_cases hr : (Utf8.decode s pos).1 = 65533
  · have c1 := Tryz.utf8_DecodeRuneInString (s.extract pos s.size) w hT
    have e1 : Lib.decodeGo (s.extract pos s.size) = Utf8.decode s pos := by
      unfold Lib.decodeGo
      rw [if_neg (by simp; omega), decode_drop s pos h]
    rw [e1] at c1
    rw [hr] at c1 ⊢
    obtain ⟨K, hK⟩ : ∃ K, (Utf8.decode s pos).2 = K := ⟨_, rfl⟩
    rw [hK] at c1 ⊢
    clear e1 hr hK
    go_enter Tryz.func97, Tryz.ntmps97
    go_wp2_with fail
    refine c1.mono ?_
    rintro e w' ⟨rfl, hb⟩
    go_wp2_with fail
    go_ret
    exact ⟨rfl, hb⟩
  · have c1 := Tryz.utf8_RuneLen ((Utf8.decode s pos).1 : Int) w
    rw [runeLen_decode s pos hr] at c1
    obtain ⟨K, hK⟩ : ∃ K, (Utf8.decode s pos).2 = K := ⟨_, rfl⟩
    obtain ⟨R, hR⟩ : ∃ R, (Utf8.decode s pos).1 = R := ⟨_, rfl⟩
    rw [hK] at c1 ⊢
    rw [hR] at c1 hr ⊢
    have d1 : ((R : Int) == 65533) = false := by simp; omega
    clear hr hK hR
    go_enter Tryz.func97, Tryz.ntmps97
    go_wp2_with fail
    refine c1.mono ?_
    rintro e w' ⟨rfl, rfl⟩
    go_wp2_with fail
    go_ret
    exact ⟨rfl, Below.refl _ _⟩
theorem take_snoc (s : ByteArray) (k : Nat) (h : k < s.size) : s.data.toList.take (k + 1) = s.data.toList.take k ++ [s[k]] := by
  rw [List.take_succ_eq_append_getElem (by simpa using h)]; rfl
theorem size_list (s : ByteArray) : s.data.toList.length = s.size := by simp
set_option maxHeartbeats 1000000 in
set_option maxRecDepth 100000 in
theorem fold64_any (s : ByteArray) (x : Nat) (w : World) (hs : s.size ≤ 9223372036854775807) (hx : x ≤ 18446744073709551615) (hT : Tabs w) :
    Calls Tryz.prog 82 #[.int .u64 (x : Int), .string s, .func (.func 83) #[] #[]] w (Ib (.int .u64 (has x s.data.toList : Int)) w) := by
  go_enter Tryz.func82, Tryz.ntmps82
  go_wp2_with fail
  go_loopw [0] (fun u wx => ∃ pos acc : Nat, u = .int .u64 (acc : Int) ∧ acc ≤ 18446744073709551615 ∧ pos ≤ s.size ∧ wx.heap[w.heap.size]? = some (.stringIter s pos) ∧ Below w.heap.size w wx ∧ Hid (acc = has x (s.data.toList.take pos))) (fun _ wx => s.size - wx.iterPos w.heap.size)
  case atStart => exact ⟨0, x, rfl, hx, by omega, World.iter_heap w s 0, (Below.refl _ w).alloc (Nat.le_refl _) _, Lib.hid rfl⟩
  case round =>
    obtain ⟨pos, acc, rfl, ha, hp, hit, hbw, hI⟩ := hrel
    by_cases hps : pos < s.size
    · have hnx : ∀ ty, (Instr.next (.pointer (some ⟨w.heap.size, 0, none⟩)) true ty).run Tryz.prog wr = _ := fun ty => Lib.run_next_any_at wr w.heap.size s pos ty hit hps
      obtain ⟨hK1, hK2⟩ := decode_fits s pos hps
      have hit2 := Lib.iterAt_heap wr w.heap.size s pos (pos + (Utf8.decode s pos).2) hit
      have hbw2 := Lib.below_iterAt hbw (k := w.heap.size) (Nat.le_refl _) s (pos + (Utf8.decode s pos).2)
      obtain ⟨W, hWd⟩ : ∃ W, wr.iterAt w.heap.size s (pos + (Utf8.decode s pos).2) = W := ⟨_, rfl⟩
      rw [hWd] at hnx hit2 hbw2
      have hltW : w.heap.size < W.heap.size := (Array.getElem?_eq_some_iff.1 hit2).1
      have cw := width_any s pos W hps (hT.below hbw2)
      obtain ⟨R, hR⟩ : ∃ R, (Utf8.decode s pos).1 = R := ⟨_, rfl⟩
      obtain ⟨K, hK⟩ : ∃ K, (Utf8.decode s pos).2 = K := ⟨_, rfl⟩
      rw [hR] at hnx cw
      rw [hK] at hK1 hK2 hit2 cw
      clear hWd hR hK
      go_wp2_with fail
      refine cw.mono ?_
      rintro e w2 ⟨rfl, hb2⟩
      have hit3 := (hb2.block _ hltW).trans hit2
      have hbw3 := hbw2.trans (hb2.mono hbw2.size)
      have hi0 : wr.iterPos w.heap.size = pos := by simp [World.iterPos, hit]
      clear cw hit2 hbw2 hb2 hnx hit hbw
      go_wp2_with fail
      go_loop [0, 21] (fun u i => ∃ k c : Nat, k ≤ K ∧ i = .int .i64 (k : Int) ∧ u = .int .u64 (c : Int) ∧ c ≤ 18446744073709551615 ∧ Hid (c = has x (s.data.toList.take (pos + k)))) (fun _ i => K - (intOf i).toNat)
      case atStart => exact ⟨0, acc, by omega, rfl, rfl, ha, hI⟩
      case round =>
        obtain ⟨k, c, hk, rfl, rfl, hc, hJ⟩ := hrel
        by_cases hlt : k < K
        · obtain ⟨j, hj⟩ : ∃ j, pos + k = j := ⟨_, rfl⟩
          have l0 : IntKind.i64.wrap ((pos : Int) + (k : Int)) = (j : Int) := by rw [show (pos : Int) + (k : Int) = (j : Int) by omega]; exact IntWalk.i64_in _ (by omega)
          have l00 : (pos : Int) + (k : Int) = (j : Int) := by omega
          have hjs : j < s.size := by omega
          have hsn := take_snoc s j hjs
          obtain ⟨b, hb⟩ : ∃ b, (s[j]'hjs).toNat = b := ⟨_, rfl⟩
          have hb3 : b ≤ 255 := by rw [← hb]; have := (s[j]'hjs).toNat_lt; omega
          have cm := fun W => multiplied_any c b W hc hb3
          obtain ⟨d, hd⟩ : ∃ d, mul c b = d := ⟨_, rfl⟩
          have hd2 : d ≤ 18446744073709551615 := by have := mul_lt c b; omega
          have hE := Lib.hid (show d = has x (s.data.toList.take (pos + (k + 1))) by rw [show pos + (k + 1) = j + 1 by omega, hsn, has_snoc, hb, ← hj, ← hJ.out, hd])
          rw [hd] at cm
          clear hJ hsn hd hI
          go_wp2_with fail
          refine (cm _).mono ?_
          rintro e w3 ⟨rfl, rfl⟩
          go_wp2_with fail
          go_round
          case rel => exact ⟨k + 1, d, by omega, rfl, rfl, hd2, hE⟩
          case measure => simp [intOf]; omega
        · obtain rfl : k = K := by omega
          go_wp2_with fail
          go_roundw
          case rel => exact ⟨pos + k, c, rfl, hc, hK2, hit3, hbw3, hJ⟩
          case measure =>
            have hi3 : w2.iterPos w.heap.size = pos + k := by simp [World.iterPos, hit3]
            rw [hi0, hi3]; omega
    · have hnx : ∀ ty, (Instr.next (.pointer (some ⟨w.heap.size, 0, none⟩)) true ty).run Tryz.prog wr = _ := fun ty => Lib.run_next_end_at wr w.heap.size s pos ty hit hps
      obtain rfl : pos = s.size := by omega
      have hE : acc = has x s.data.toList := by rw [hI.out, ← size_list, List.take_length]
      have hH := Lib.hid hE
      clear hE hI
      go_wp2_with fail
      go_ret
      exact ⟨by rw [hH.out]; rfl, hbw⟩
set_option maxRecDepth 100000 in
theorem hash_any (l : List UInt8) (w : World) (hs : l.length ≤ 9223372036854775807) (hT : Tabs w) :
    Calls Tryz.prog 57 #[.string (bs l)] w (Ib (.int .u64 (hash l : Int)) w) := by
  have c1 := fold64_any (bs l) 14695981039346656037 w hs (by decide) hT
  rw [bs_list] at c1
  obtain ⟨h, hh⟩ : ∃ h, hash l = h := ⟨_, rfl⟩
  rw [show has 14695981039346656037 l = h from hh] at c1
  rw [hh]
  clear hh
  go_enter Tryz.func57, Tryz.ntmps57
  go_wp2_with fail
  refine c1.mono ?_
  rintro e w' ⟨rfl, hb⟩
  go_wp2_with fail
  go_ret
  exact ⟨rfl, hb⟩
set_option maxRecDepth 100000 in
theorem refHash_any (l : List UInt8) (w : World) (hs : l.length ≤ 9223372036854775807) :
    Calls Tryz.prog 58 #[.string (bs l)] w (Is (.int .u64 (hash l : Int)) w) := by
  have hsz : (bs l).size = l.length := rfl
  obtain ⟨h, hh⟩ : ∃ h, hash l = h := ⟨_, rfl⟩
  rw [hh]
  have H := Lib.hid hh
  clear hh
  go_enter Tryz.func58, Tryz.ntmps58
  go_wp2_with fail
  go_loop [3, 4] (fun u i => ∃ k c : Nat, k ≤ l.length ∧ i = .int .i64 (k : Int) ∧ u = .int .u64 (c : Int) ∧ c ≤ 18446744073709551615 ∧ Hid (c = hash (l.take k))) (fun _ i => l.length - (intOf i).toNat)
  case atStart => exact ⟨0, 14695981039346656037, by omega, rfl, rfl, by decide, Lib.hid rfl⟩
  case round =>
    obtain ⟨k, c, hk, rfl, rfl, hc, hJ⟩ := hrel
    by_cases hlt : k < l.length
    · have hlt2 : k < (bs l).size := hlt
      obtain ⟨b, hb⟩ : ∃ b, (l[k]'hlt).toNat = b := ⟨_, rfl⟩
      have hb2 : ((bs l)[k]'hlt2).toNat = b := hb
      have hb3 : b ≤ 255 := by rw [← hb]; have := (l[k]'hlt).toNat_lt; omega
      obtain ⟨y, hy⟩ : ∃ y, c ^^^ b = y := ⟨_, rfl⟩
      have k1 : bits BinOp.xor IntKind.u64 (c : Int) (b : Int) = (y : Int) := by rw [u64_xor_nat _ _ (by omega) (by omega), hy]
      obtain ⟨d, hd⟩ : ∃ d, mul c b = d := ⟨_, rfl⟩
      have hd2 : d ≤ 18446744073709551615 := by have := mul_lt c b; omega
      have k2 : IntKind.u64.wrap ((y : Int) * 1099511628211) = (d : Int) := by
        rw [← hd, mul, hy, IntKind.wrap_u64]
        omega
      have hE := Lib.hid (show d = hash (l.take (k + 1)) by rw [List.take_succ_eq_append_getElem hlt, hash_snoc, hb, ← hJ.out, hd])
      clear hJ hb hd hy
      go_wp2_with fail
      go_round
      case rel => exact ⟨k + 1, d, by omega, by go_num, rfl, hd2, hE⟩
      case measure => simp [intOf]; omega
    · obtain rfl : k = l.length := by omega
      have hE := Lib.hid (show c = h by rw [hJ.out, List.take_length, H.out])
      clear hJ
      go_wp2_with fail
      go_ret
      exact ret_is (by rw [hE.out])
end Go.Proofs.YthbhbpcjcnkkkaaGreatDoor
/-
  Lists of names that a call owns. No conditions beyond those that each names.
-/
namespace Go.Proofs.YthbhbpcjcnkkkaaGreatDoor
open Go.RowKit Go.Maps
/-- The slice v owns the names l. -/
def Wn (B : Nat) (w : World) (v : Value) (l : List (List UInt8)) : Prop := w.ownsRow B 9 1 v l.length (l.map encStr)
theorem Wn.nil (B : Nat) (w : World) : Wn B w (.slice none 0 0) [] := World.ownsRow_nil _ _ _ _
theorem Wn.other {B : Nat} {w w' : World} {v : Value} {l : List (List UInt8)} (h : Wn B w v l) (hb : Below w.heap.size w w') : Wn B w' v l := by
  unfold Wn World.ownsRow at *
  refine ⟨h.1, ?_⟩
  rcases h.2 with h1 | ⟨g, cap, cur, h1, h2, h3, h4⟩
  · exact .inl h1
  · refine .inr ⟨g, cap, cur, h1, h2, ?_, h4⟩
    rw [hb.block g (Array.getElem?_eq_some_iff.1 h3).1]
    exact h3
theorem Wn.nms {B : Nat} {w : World} {v : Value} {l : List (List UInt8)} (h : Wn B w v l) : Nms w l v := by
  have h1 := h
  obtain ⟨-, ⟨h2, h3⟩ | ⟨g, cap, cur, rfl, hB, hg, -⟩⟩ := h
  · subst h2
    obtain rfl := List.eq_nil_of_length_eq_zero h3
    exact ⟨none, 0, rfl, .inl rfl⟩
  · refine ⟨_, _, rfl, .inr ⟨_, rfl, fun i hi => ?_⟩⟩
    rw [Nat.mul_one]
    exact World.ownsRow.cells h1 (g := g) rfl i _ (by simp [List.getElem?_eq_getElem hi, encStr, bs])
/-- A slice literal of one name. -/
theorem Wn.lit {B : Nat} (w : World) (x : List UInt8) {g : Nat} (hg : w.heap.size = g) (hB : B ≤ w.heap.size) : Wn B (w.alloc (.cells #[.string (bs x)] 9)) (.slice (some ⟨g, 0, none⟩) 1 1) [x] := by
  subst hg
  exact ⟨rfl, .inr ⟨w.heap.size, 1, _, rfl, hB, heap_alloc_new w _, Nat.le_refl 1, by decide, rfl, rfl⟩⟩
theorem Wn.low {B : Nat} {w w' : World} {v : Value} {l : List (List UInt8)} (h : Wn B w v l) (hg : w.grownBy w' v.ownBlock) (hs : B ≤ w.heap.size) : Below B w w' :=
  ⟨hg.os, hg.tape, hg.output, hg.size, fun k hk => hg.block k (Nat.lt_of_lt_of_le hk hs) (fun e => by
    rcases h.2 with ⟨rfl, _⟩ | ⟨g, cap, cur, rfl, hB, _⟩
    · simp [Value.ownBlock] at e
    · simp [Value.ownBlock] at e; omega)⟩
theorem infoS : (Tryz.prog.info? 9).map (fun i => (i.zero, i.size, i.bytes)) = some (some (.string ⟨#[]⟩), 1, 16) := by kernel_rfl
theorem wpList_pushN {w : World} {ops : Array Oper} {rest : List Oper} {o : Oper} {a : Act} {Q : Exit → Act → World → Prop} (hgd : o.guard = none) (s x : Operand)
    (ho : o.op = .call { callee := .builtin .append, args := #[s, x], argTypes := #[35, 35] }) (B : Nat) (v : Value) (l : List (List UInt8)) (b : List UInt8) (ad : Addr) (d : Nat) (hs : a.eval s = v) (hx : a.eval x = .slice (some ad) 1 d)
    (hown : Wn B w v l) (hc : w.cell? ad = some (.string (bs b))) (hm : l.length ≤ 100000) (hB : B ≤ w.heap.size)
    (h : ∀ v' w', Wn B w' v' (l ++ [b]) → w.grownBy w' v.ownBlock → (v'.ownBlock = v.ownBlock ∨ v'.ownBlock = some w.heap.size) → wpList Tryz.prog ops Q rest (a.put o.dst v') w') : wpList Tryz.prog ops Q (o :: rest) a w := by
  obtain ⟨i, hi, hz, hs5, hby⟩ := info_parts infoS
  refine wpList_append_own_at w hgd s x 35 ho B 9 i _ 1 16 Tryz.underlying35 hi hz hs5 hby rfl (by omega) v l.length (l.map encStr) hs hown ad 1 d [.string (bs b)] hx rfl
    (by intro j u hj
        cases j with
        | zero => simp at hj; subst hj; rw [Addr.add_zero']; exact hc
        | succ j => simp at hj) (by simp [Value.oneCell']) (by simp only [maxLen]; omega) (by omega) hB ?_
  intro v' w' h1 h2 _ h4
  refine h v' w' ?_ h2 h4
  unfold Wn
  rw [show (l ++ [b]).map encStr = l.map encStr ++ [.string (bs b)] by simp [encStr, bs], List.length_append]
  exact h1
/-- A list put behind the empty one. -/
theorem wpList_pushAll {w : World} {ops : Array Oper} {rest : List Oper} {o : Oper} {a : Act} {Q : Exit → Act → World → Prop} (hgd : o.guard = none) (s x : Operand)
    (ho : o.op = .call { callee := .builtin .append, args := #[s, x], argTypes := #[35, 35] }) (B : Nat) (m : List (List UInt8)) (u : Value) (hs : a.eval s = .slice none 0 0) (hx : a.eval x = u)
    (hm : Nms w m u) (hl : m.length ≤ 100000) (hB : B ≤ w.heap.size)
    (h : ∀ v' w', Wn B w' v' m → w.grownBy w' none → wpList Tryz.prog ops Q rest (a.put o.dst v') w') : wpList Tryz.prog ops Q (o :: rest) a w := by
  obtain ⟨i, hi, hz, hs5, hby⟩ := info_parts infoS
  obtain ⟨A, c, rfl, hR⟩ := hm
  by_cases h0 : m = []
  · subst h0
    refine wpList_plain hgd fun K hK => ?_
    have hr : (Builtin.append_ #[35, 35] o.type #[.slice none 0 0, .slice A 0 c]).run Tryz.prog w = .ok (.slice none 0 0) w := by
      cases A <;> simp [Builtin.append_, run_underlying Tryz.underlying35, sizeOf, typeInfo, hi, Builtin.lenOf, Builtin.firstCells, loadCells, loadCellsFrom]
    unfold Oper.wp execOp
    have hx : a.eval x = .slice A 0 c := hx
    simp only [ho, resolve, invoke, builtin, Sem.run_bind, Sem.run_pure, Result.andThen_ok, List.map_toArray, List.map_cons, List.map_nil, hs, hx, hr]
    exact hK _ _ (h _ _ (Wn.nil _ _) ⟨rfl, rfl, rfl, Nat.le_refl _, fun _ _ _ => rfl⟩)
  · rcases hR with h1 | ⟨ad, rfl, hR⟩
    · exact absurd h1 h0
    refine wpList_append_own_at w hgd s x 35 ho B 9 i _ 1 16 Tryz.underlying35 hi hz hs5 hby rfl (by omega) (.slice none 0 0) 0 [] hs (World.ownsRow_nil _ _ _ _) ad m.length c (m.map encStr) hx (by simp)
      (fun j u hj => by
        rw [List.getElem?_map] at hj
        cases e : m[j]? with
        | none => rw [e] at hj; cases hj
        | some y =>
          rw [e] at hj
          cases hj
          obtain ⟨hj2, rfl⟩ := List.getElem?_eq_some_iff.1 e
          have := hR j hj2
          rw [Nat.mul_one] at this
          exact this) (by intro u hu; obtain ⟨y, -, rfl⟩ := List.mem_map.1 hu; rfl) (by simp only [maxLen]; omega) (by omega) hB ?_
    intro v' w' h1 h2 _ _
    refine h v' w' ?_ h2
    unfold Wn
    rw [Nat.zero_add, List.nil_append] at h1
    exact h1
/-- Where a name is put: what is still to come. -/
def pst (l : List (List UInt8)) (x : List UInt8) (k : Nat) (d : Bool) (out : List (List UInt8)) : Prop := out ++ (if d then l.drop k else put leB (l.drop k) x) = put leB l x
theorem pst_start (l : List (List UInt8)) (x : List UInt8) : pst l x 0 false [] := rfl
theorem pst_done {l : List (List UInt8)} {x : List UInt8} {k : Nat} {out : List (List UInt8)} (hk : k < l.length) (h : pst l x k true out) : pst l x (k + 1) true (out ++ [l[k]'hk]) := by
  unfold pst at h ⊢
  rw [← h, if_pos rfl, if_pos rfl, List.append_assoc]
  congr 1
  rw [List.drop_eq_getElem_cons hk]
  rfl
theorem pst_gt {l : List (List UInt8)} {x : List UInt8} {k : Nat} {out : List (List UInt8)} (hk : k < l.length) (hx : leB x (l[k]'hk) = false) (h : pst l x k false out) : pst l x (k + 1) false (out ++ [l[k]'hk]) := by
  unfold pst at h ⊢
  rw [← h, if_neg (by decide), if_neg (by decide), List.append_assoc]
  congr 1
  rw [List.drop_eq_getElem_cons hk, put, if_neg (by rw [hx]; decide)]
  rfl
theorem pst_lt {l : List (List UInt8)} {x : List UInt8} {k : Nat} {out : List (List UInt8)} (hk : k < l.length) (hx : leB x (l[k]'hk) = true) (hne : x ≠ l[k]'hk) (h : pst l x k false out) : pst l x (k + 1) true (out ++ [x] ++ [l[k]'hk]) := by
  unfold pst at h ⊢
  rw [← h, if_pos rfl, if_neg (by decide), List.append_assoc, List.append_assoc]
  congr 1
  rw [List.drop_eq_getElem_cons hk, put, if_pos hx, if_neg hne]
  rfl
theorem pst_eq {l : List (List UInt8)} {x : List UInt8} {k : Nat} {out : List (List UInt8)} (hk : k < l.length) (hx : leB x (l[k]'hk) = true) (he : x = l[k]'hk) (h : pst l x k false out) : pst l x (k + 1) true (out ++ [l[k]'hk]) := by
  unfold pst at h ⊢
  rw [← h, if_pos rfl, if_neg (by decide), List.append_assoc]
  congr 1
  rw [List.drop_eq_getElem_cons hk, put, if_pos hx, if_pos he]
  rfl
theorem pst_end1 {l : List (List UInt8)} {x : List UInt8} {out : List (List UInt8)} (h : pst l x l.length true out) : out = put leB l x := by
  unfold pst at h
  rw [if_pos rfl, List.drop_length, List.append_nil] at h
  exact h
theorem pst_end0 {l : List (List UInt8)} {x : List UInt8} {out : List (List UInt8)} (h : pst l x l.length false out) : out ++ [x] = put leB l x := by
  unfold pst at h
  rw [if_neg (by decide), List.drop_length, put] at h
  exact h
theorem put_length (l : List (List UInt8)) (x : List UInt8) : (put leB l x).length ≤ l.length + 1 := by
  induction l with
  | nil => simp [put]
  | cons y r ih =>
    rw [put]
    split
    · split <;> simp
    · simp; omega
theorem pst_len {l : List (List UInt8)} {x : List UInt8} {k : Nat} {d : Bool} {out : List (List UInt8)} (h : pst l x k d out) : out.length ≤ l.length + 1 := by
  have h1 := put_length l x
  rw [← show out ++ _ = put leB l x from h, List.length_append] at h1
  omega
theorem right_elem {S : Sch} {k s : Int} {n : List UInt8} {e : List Ty} (h : right S (.mk k s n e) = true) : (k = 5 ∧ ∃ t, e = [t] ∧ right S t = true) ∨ (k ≠ 5 ∧ e = []) := by
  by_cases h5 : k = 5
  · subst h5
    obtain ⟨-, t, he, ht⟩ := right_list h
    exact .inl ⟨rfl, t, he, ht⟩
  · rw [right_eq] at h
    simp only [Bool.and_eq_true] at h
    obtain ⟨-, h⟩ := h
    rw [if_neg h5] at h
    refine .inr ⟨h5, ?_⟩
    by_cases h6 : k = 6
    · rw [if_pos h6] at h
      simp only [Bool.and_eq_true, decide_eq_true_eq] at h
      exact List.eq_nil_of_length_eq_zero h.2
    · rw [if_neg h6] at h
      by_cases h7 : k = 7
      · rw [if_pos h7] at h
        simp only [Bool.and_eq_true, decide_eq_true_eq] at h
        exact List.eq_nil_of_length_eq_zero h.2
      · rw [if_neg h7] at h
        simp only [Bool.and_eq_true, decide_eq_true_eq] at h
        exact List.eq_nil_of_length_eq_zero h.2
theorem bl_eq (x y : List UInt8) : Op.bytesLess (bs x).toList (bs y).toList = decide (x < y) := by rw [toList_bs, toList_bs, bytesLess_eq]
/-- Names that stay as they are whatever becomes of blocks below lo. -/
def NmN (lo : Nat) (w : World) (l : List (List UInt8)) (v : Value) : Prop := ∀ w', w.heap.size ≤ w'.heap.size → (∀ i, lo ≤ i → i < w.heap.size → w'.heap[i]? = w.heap[i]?) → Nms w' l v
theorem NmN.nms {lo : Nat} {w : World} {l : List (List UInt8)} {v : Value} (h : NmN lo w l v) : Nms w l v := h w (Nat.le_refl _) fun _ _ _ => rfl
theorem NmN.nil (lo : Nat) (w : World) : NmN lo w [] (.slice none 0 0) := fun _ _ _ => Sl.nil _ _ _
theorem NmN.next {lo : Nat} {w w' : World} {l : List (List UInt8)} {v : Value} (h : NmN lo w l v) (hb : Below w.heap.size w w') : NmN lo w' l v := fun w2 hs hk => h w2 (Nat.le_trans hb.size hs) fun i h1 h2 => (hk i h1 (Nat.lt_of_lt_of_le h2 hb.size)).trans (hb.block i h2)
theorem Wn.nmn {B : Nat} {w : World} {v : Value} {l : List (List UInt8)} (h : Wn B w v l) : NmN B w l v := by
  intro w' hs hk
  refine Wn.nms (B := B) (w := w') (v := v) (l := l) ?_
  unfold Wn World.ownsRow at *
  refine ⟨h.1, ?_⟩
  rcases h.2 with h1 | ⟨g, cap, cur, h1, h2, h3, h4⟩
  · exact .inl h1
  · refine .inr ⟨g, cap, cur, h1, h2, ?_, h4⟩
    rw [hk g h2 (Array.getElem?_eq_some_iff.1 h3).1]
    exact h3
/-- What holds whatever becomes of one block. -/
def Rob (q : Option Nat) (w : World) (P : World → Prop) : Prop := ∀ w', w.grownBy w' q → P w'
theorem Rob.get {q : Option Nat} {w : World} {P : World → Prop} (h : Rob q w P) : P w := h w ⟨rfl, rfl, rfl, Nat.le_refl _, fun _ _ _ => rfl⟩
theorem gbB {w w' : World} (hb : Below w.heap.size w w') (q : Option Nat) : w.grownBy w' q := ⟨hb.os, hb.tape, hb.output, hb.size, fun i hi _ => hb.block i hi⟩
theorem Rob.next {q : Option Nat} {w w' : World} {P : World → Prop} (h : Rob q w P) (hb : Below w.heap.size w w') : Rob q w' P := fun w2 hg => h w2 ((gbB hb q).trans hg)
theorem Rob.push {q q' : Option Nat} {w w' : World} {P : World → Prop} (h : Rob q w P) (hg : w.grownBy w' q) (hq : q' = q ∨ ∃ b, q' = some b ∧ w.heap.size ≤ b) : Rob q' w' P := fun w2 hg2 => h w2 ⟨hg2.os.trans hg.os, hg2.tape.trans hg.tape, hg2.output.trans hg.output, Nat.le_trans hg.size hg2.size, fun i hi hne => (hg2.block i (Nat.lt_of_lt_of_le hi hg.size) (by
  rcases hq with rfl | ⟨b, rfl, hb⟩
  · exact hne
  · intro e; injection e with e; omega)).trans (hg.block i hi hne)⟩
theorem Bx.rob {w : World} {c : Nat} {vs : List Value} {q : Option Nat} (h : Bx w c vs) (hne : some c ≠ q) : Rob q w fun W => Bx W c vs := fun w' hg =>
  ⟨Nat.lt_of_lt_of_le h.lt hg.size, fun j v e => by
    have hb := hg.block c h.lt hne
    obtain ⟨h1, h2⟩ := h.at_ j v e
    unfold World.cell? World.frozen? at *
    rw [hb]
    exact ⟨h1, h2⟩⟩
theorem NmN.rob {lo : Nat} {w : World} {l : List (List UInt8)} {v : Value} {q : Option Nat} (h : NmN lo w l v) (hq : ∀ b, q = some b → b < lo) : Rob q w fun W => Nms W l v := fun w' hg =>
  h w' hg.size fun i h1 h2 => hg.block i h2 (fun e => by have := hq i e.symm; omega)
theorem Wn.blk {B : Nat} {w : World} {v : Value} {l : List (List UInt8)} (h : Wn B w v l) (b : Nat) (e : v.ownBlock = some b) : B ≤ b ∧ b < w.heap.size := h.lt b e
end Go.Proofs.YthbhbpcjcnkkkaaGreatDoor
/-
  The reference's direct and put. No conditions beyond those that each names.
-/
namespace Go.Proofs.YthbhbpcjcnkkkaaGreatDoor
open Go.RowKit Go.Maps
/-- The call returns names, and memory only grows. -/
def NmP (l : List (List UInt8)) (w : World) (e : Ending) (w' : World) : Prop := ∃ v, e = .returned v ∧ NmN w.heap.size w' l v ∧ Below w.heap.size w w'
set_option maxRecDepth 100000 in
set_option maxHeartbeats 2000000 in
theorem refDirect_any (N : Nat) : ∀ (S : Sch) (t : Ty) (v : Value) (w : World), SizeOf.sizeOf t < N → right S t = true → TyV w t v →
    Calls Tryz.prog 69 #[v] w (NmP (dir t) w) := by
  induction N with
  | zero => intro S t v w h; omega
  | succ N ih =>
    intro S t v w hN hr hv
    obtain ⟨k, s, nm, e⟩ := t
    rw [TyV.mk_] at hv
    obtain ⟨A, c, rfl, hR⟩ := hv
    by_cases h67 : k = 6 ∨ k = 7
    · have hd : dir (.mk k s nm e) = [nm] := dir_pos _ _ _ h67
      rw [hd]
      clear hr hR ih hd
      rcases h67 with rfl | rfl
      · go_enter Tryz.func69, Tryz.ntmps69
        go_wp2_with fail
        go_ret
        exact ⟨.slice (some ⟨w.heap.size + 1, 0, none⟩) 1 1, rfl, (Wn.lit (B := w.heap.size) _ nm (by simp) (by simp)).nmn, ab2 _ _ _⟩
      · go_enter Tryz.func69, Tryz.ntmps69
        go_wp2_with fail
        go_ret
        exact ⟨.slice (some ⟨w.heap.size + 1, 0, none⟩) 1 1, rfl, (Wn.lit (B := w.heap.size) _ nm (by simp) (by simp)).nmn, ab2 _ _ _⟩
    · have hB := Bx.new4 w 45 (.int .i64 k) (.int .i64 s) (.string (bs nm)) (.slice A e.length c)
      rcases right_elem hr with ⟨rfl, t', rfl, ht⟩ | ⟨h5, rfl⟩
      · have hd : dir (.mk 5 s nm [t']) = dir t' := by rw [dir_neg _ _ _ h67, dir.dirs, dir.dirs, List.append_nil]
        rw [hd]
        have hlen : (dir t').length ≤ 100000 := by rcases right_dir t' ht with ⟨h, -⟩ | ⟨h, -⟩ <;> rw [h] <;> simp
        obtain ⟨a, rfl, hA⟩ := hR.get (i := 0) (by simp)
        rw [Nat.zero_mul, Addr.add_zero'] at hA
        have hA : TyA w t' a := hA
        have hsz : SizeOf.sizeOf t' < N := by
          have := size_elem (t := .mk 5 s nm [t']) (i := 0) (Nat.zero_lt_succ 0)
          have : SizeOf.sizeOf t' < SizeOf.sizeOf (Ty.mk 5 s nm [t']) := this
          omega
        clear hd h67 hr hR
        go_enter Tryz.func69, Tryz.ntmps69
        go_wp2_with fail
        go_loopw [3, 4] (fun p i wr => ∃ j : Nat, j ≤ 1 ∧ i = .int .i64 (j : Int) ∧ (j = 0 → p = .slice none 0 0) ∧ (j = 1 → NmN w.heap.size wr (dir t') p) ∧ Bx wr w.heap.size [.int .i64 5, .int .i64 s, .string (bs nm), .slice (some a) 1 c] ∧ Below w.heap.size w wr) (fun _ i _ => 1 - (intOf i).toNat)
        case atStart => exact ⟨0, by omega, rfl, fun _ => rfl, fun h => by omega, hB, ab1 _ _⟩
        case round =>
          obtain ⟨j, hj, rfl, hp0, hp1, R1, hb⟩ := hrel
          clear hB
          have b3 := R1.c 3 rfl
          have l3 := R1.lt
          by_cases h0 : j = 0
          · subst h0
            have hp := hp0 rfl
            subst hp
            clear hp0 hp1
            obtain ⟨A3, c3, e0, e1, e2, e3, hV⟩ := (TyA.next hb t' a hA).val
            have hblk : a.block < wr.heap.size := blk_lt e0
            have cI := ih S t' _ wr hsz ht hV
            clear hA ih ht hV
            go_wp2_with fail
            refine cI.mono ?_
            rintro e w2 ⟨v2, rfl, hN2, hb2⟩
            have hb3 := Below.next hb hb2
            have R2 := R1.next hb2
            clear cI e0 e1 e2 e3 b3
            go_wp2_with (at_builtin; refine wpList_pushAll rfl (.tmp 23) (.tmp 29) rfl w.heap.size (dir t') _ rfl rfl hN2.nms hlen hb3.size ?_; intro v' w3 ho hg)
            go_roundw
            case rel => exact ⟨1, by omega, rfl, fun h => by omega, fun _ => ho.nmn, R2.next (Below.grown (Below.refl _ _) hg (Nat.le_refl _) (fun _ h => by cases h)), hb3.grown hg hb3.size (fun _ h => by cases h)⟩
            case measure => simp [intOf]
          · obtain rfl : j = 1 := by omega
            have hN := hp1 rfl
            clear hp0 hp1 hA ih ht
            go_wp2_with fail
            go_ret
            exact ⟨_, rfl, hN, hb⟩
      · have hd : dir (.mk k s nm []) = [] := by rw [dir_neg _ _ _ h67, dir.dirs]
        rw [hd]
        have k6 : k ≠ 6 := fun h => h67 (.inl h)
        have k7 : k ≠ 7 := fun h => h67 (.inr h)
        have d6 : (k == 6) = false := by rw [beq_eq_false_iff_ne]; exact k6
        have d7 : (k == 7) = false := by rw [beq_eq_false_iff_ne]; exact k7
        clear hd h67 hr hR ih
        go_enter Tryz.func69, Tryz.ntmps69
        go_wp2_with fail
        go_loopw [3, 4] (fun p i wr => p = .slice none 0 0 ∧ i = .int .i64 0 ∧ Bx wr w.heap.size [.int .i64 k, .int .i64 s, .string (bs nm), .slice A 0 c] ∧ Below w.heap.size w wr) (fun _ i _ => 0)
        case atStart => exact ⟨rfl, rfl, hB, ab1 _ _⟩
        case round =>
          obtain ⟨rfl, rfl, R1, hb⟩ := hrel
          have b3 := R1.c 3 rfl
          have l3 := R1.lt
          clear hB
          go_wp2_with fail
          go_ret
          exact ⟨_, rfl, NmN.nil _ _, hb⟩
set_option maxRecDepth 100000 in
set_option maxHeartbeats 2000000 in
theorem refPut_any (l : List (List UInt8)) (x : List UInt8) (v : Value) (w : World) (hl : l.length ≤ 1000) (h : Nms w l v) :
    Calls Tryz.prog 70 #[v, .string (bs x)] w (NmP (put leB l x) w) := by
  obtain ⟨A, c, rfl, hR⟩ := h
  obtain ⟨m, hm⟩ : ∃ m, l.length = m := ⟨_, rfl⟩
  have HM := Lib.hid hm
  rw [hm] at hl ⊢
  clear hm
  go_enter Tryz.func70, Tryz.ntmps70
  go_wp2_with fail
  go_loopw [5, 6, 7] (fun p dv i wr => ∃ (k : Nat) (d : Bool) (out : List (List UInt8)), k ≤ m ∧ i = .int .i64 (k : Int) ∧ dv = .bool d ∧ Wn w.heap.size wr p out ∧ Hid (pst l x k d out) ∧ Below w.heap.size w wr) (fun _ _ i _ => m - (intOf i).toNat)
  case atStart => exact ⟨0, false, [], by omega, rfl, rfl, Wn.nil _ _, Lib.hid (pst_start l x), Below.refl _ _⟩
  case round =>
    obtain ⟨k, d, out, hk, rfl, rfl, ho, hI, hb⟩ := hrel
    have hol : out.length ≤ m + 1 := by have := pst_len hI.out; rw [HM.out] at this; exact this
    by_cases hlt : k < m
    · have hkm : k < l.length := by rw [HM.out]; exact hlt
      obtain ⟨a, rfl, hA⟩ := hR.get hkm
      rw [Nat.mul_one] at hA
      have e0 : wr.cell? (a.add k) = some (.string (bs (l[k]'hkm))) := cell_next hb hA
      cases d
      · have hgt := fun h => pst_gt hkm h hI.out
        have hl2 := fun h1 h2 => pst_lt hkm h1 h2 hI.out
        have he := fun h1 h2 => pst_eq hkm h1 h2 hI.out
        have hbl := bl_eq x (l[k]'hkm)
        have hA1 : TyN w (l[k]'hkm) (a.add k) := hA
        generalize l[k]'hkm = y at *
        clear hA hI
        by_cases h1 : leB x y = true
        · by_cases h2 : x = y
          · have E := Lib.hid (he h1 h2)
            replace hbl : Op.bytesLess (bs x).toList (bs y).toList = false := by rw [hbl, decide_eq_false_iff_not, ltB]; exact fun h => h.2 h2
            subst h2
            have q1 := sq_t x
            clear hgt hl2 he h1
            go_wp2_with (at_builtin; refine wpList_pushN rfl (.tmp 34) (.tmp 39) rfl w.heap.size u5 out x _ 1 rfl rfl (ho.other (ab1 _ _)) (by simp) (by omega) (Nat.le_trans hb.size (ab1 _ _).size) ?_; intro v' w4 ho' hg' _)
            go_roundw
            case rel => exact ⟨k + 1, true, _, by omega, by go_num, rfl, ho', E, (hb.alloc hb.size _).grown hg' (Nat.le_trans hb.size (ab1 _ _).size) (fun k hk => (ho.lt k hk).1)⟩
            case measure => simp [intOf]; omega
          · have E := Lib.hid (hl2 h1 h2)
            replace hbl : Op.bytesLess (bs x).toList (bs y).toList = true := by rw [hbl, decide_eq_true_eq, ltB]; exact ⟨h1, h2⟩
            clear hgt hl2 he h1 h2
            have hbx := (hb.alloc hb.size (Obj.cells #[.string (bs x)] 9))
            go_wp2_with (first | (at_builtin; refine wpList_pushN rfl (.tmp 30) (.tmp 32) rfl w.heap.size u5 out x _ 1 rfl rfl (ho.other (ab1 _ _)) (by simp) (by omega) (Nat.le_trans hb.size (ab1 _ _).size) ?_; intro v' w4 ho' hg' _; have hb4 := hbx.grown hg' (Nat.le_trans hb.size (ab1 _ _).size) (fun k hk => (ho.lt k hk).1); have e4 := cell_next hb4 hA1; have ol4 : (out ++ [x]).length ≤ m + 2 := by rw [List.length_append]; simp; omega) | (at_builtin; refine wpList_pushN rfl (.tmp 34) (.tmp 39) rfl w.heap.size v' (out ++ [x]) y _ 1 rfl rfl (ho'.other (ab1 _ _)) (by simp) (by omega) (Nat.le_trans hb4.size (ab1 _ _).size) ?_; intro v5 w5 ho5 hg5 _))
            go_roundw
            case rel => exact ⟨k + 1, true, _, by omega, by go_num, rfl, ho5, E, (hb4.alloc hb4.size _).grown hg5 (Nat.le_trans hb4.size (ab1 _ _).size) (fun k hk => (ho'.lt k hk).1)⟩
            case measure => simp [intOf]; omega
        · have E := Lib.hid (hgt (by simpa using h1))
          have hxy : x ≠ y := fun h => h1 (by subst h; rcases tot_leB.total x x with h | h <;> exact h)
          replace hbl : Op.bytesLess (bs x).toList (bs y).toList = false := by rw [hbl, decide_eq_false_iff_not, ltB]; exact fun h => h1 h.1
          have q1 := sq_f hxy
          clear hgt hl2 he h1
          go_wp2_with (at_builtin; refine wpList_pushN rfl (.tmp 34) (.tmp 39) rfl w.heap.size u5 out y _ 1 rfl rfl (ho.other (ab1 _ _)) (by simp) (by omega) (Nat.le_trans hb.size (ab1 _ _).size) ?_; intro v' w4 ho' hg' _)
          go_roundw
          case rel => exact ⟨k + 1, false, _, by omega, by go_num, rfl, ho', E, (hb.alloc hb.size _).grown hg' (Nat.le_trans hb.size (ab1 _ _).size) (fun k hk => (ho.lt k hk).1)⟩
          case measure => simp [intOf]; omega
      · have hx := Lib.hid (pst_done hkm hI.out)
        generalize l[k]'hkm = y at *
        clear hA hI
        go_wp2_with (at_builtin; refine wpList_pushN rfl (.tmp 34) (.tmp 39) rfl w.heap.size u5 out y _ 1 rfl rfl (ho.other (ab1 _ _)) (by simp) (by omega) (Nat.le_trans hb.size (ab1 _ _).size) ?_; intro v' w4 ho' hg' _)
        go_roundw
        case rel => exact ⟨k + 1, true, _, by omega, by go_num, rfl, ho', hx, (hb.alloc hb.size _).grown hg' (Nat.le_trans hb.size (ab1 _ _).size) (fun k hk => (ho.lt k hk).1)⟩
        case measure => simp [intOf]; omega
    · obtain rfl : k = m := by omega
      have hol9 : out.length ≤ 1001 := by omega
      cases d
      · have E := Lib.hid (pst_end0 (by rw [HM.out]; exact hI.out))
        clear hI
        go_wp2_with (at_builtin; refine wpList_pushN rfl (.tmp 43) (.tmp 45) rfl w.heap.size u5 out x _ 1 rfl rfl (ho.other (ab1 _ _)) (by simp) (by omega) (Nat.le_trans hb.size (ab1 _ _).size) ?_; intro v' w4 ho' hg' _)
        go_ret
        exact ⟨_, rfl, E.out ▸ ho'.nmn, (hb.alloc hb.size _).grown hg' (Nat.le_trans hb.size (ab1 _ _).size) (fun k hk => (ho.lt k hk).1)⟩
      · have E := Lib.hid (pst_end1 (by rw [HM.out]; exact hI.out))
        clear hI
        go_wp2_with fail
        go_ret
        exact ⟨_, rfl, E.out ▸ ho.nmn, hb⟩
end Go.Proofs.YthbhbpcjcnkkkaaGreatDoor
/-
  The reference's search of what a struct uses. No conditions beyond those that each names.
-/
namespace Go.Proofs.YthbhbpcjcnkkkaaGreatDoor
open Go.RowKit Go.Maps
def UdP (S : Sch) (x : List UInt8) (w : World) (e : Ending) (w' : World) : Prop := ∃ v l, e = .returned v ∧ (Asc leB l ∧ ∀ y, y ∈ l ↔ Reach (nx S) x y) ∧ Nms w' l v ∧ Below w.heap.size w w'
theorem Bf.outlen {S : Sch} {x : List UInt8} {out todo done : List (List UInt8)} {z : Nat} (h : Bf leB (nx S) x out todo z done) (U : List (List UInt8)) (hU : ∀ x, ∀ y ∈ nx S x, y ∈ U) : out.length ≤ U.length :=
  nodup_le _ _ (asc_nodup h.asc) fun y hy => by
    have := h.re y hy
    cases this with
    | one h => exact hU _ _ h
    | more _ h => exact hU _ _ h
theorem fst_st0 {S : Sch} (x : List UInt8) : ((fst_ St.name S.structs x).getD st0) = st0 ∨ ((fst_ St.name S.structs x).getD st0) ∈ S.structs := by
  cases e : fst_ St.name S.structs x with
  | none => exact .inl rfl
  | some t => exact .inr (fst_mem e).1
set_option maxRecDepth 100000 in
set_option maxHeartbeats 8000000 in
theorem refUsed_any (S : Sch) (U : List (List UInt8)) (hU : ∀ x, ∀ y ∈ nx S x, y ∈ U) (hUl : U.length ≤ 1000) (hrt : ∀ t ∈ S.structs, ∀ f ∈ t.fields, right S f.type = true) (hfw : ∀ t ∈ S.structs, t.fields.length ≤ 1000) (hn : S.structs.length ≤ 1000)
    (x : List UInt8) (v : Value) (w : World) (hv : ScV w S v) : Calls Tryz.prog 42 #[v, .string (bs x)] w (UdP S x w) := by
  have hv0 := hv
  obtain ⟨A, c, A2, c2, rfl, hS⟩ := hv
  obtain ⟨n, hnn⟩ : ∃ n, S.enums.length = n := ⟨_, rfl⟩
  obtain ⟨m, hmm⟩ : ∃ m, S.structs.length = m := ⟨_, rfl⟩
  rw [hnn, hmm] at hv0 ⊢
  have hab := ab2 w (Obj.cells #[.int .i64 S.ver, .slice A n c, .slice A2 m c2] 25) (Obj.cells #[.string (bs x)] 9)
  have B1 := (Bx.new3 w 25 (.int .i64 S.ver) (.slice A n c) (.slice A2 m c2)).next (ab1 _ (Obj.cells #[.string (bs x)] 9))
  have L0 := Wn.lit (B := w.heap.size + 1) (w.alloc (Obj.cells #[.int .i64 S.ver, .slice A n c, .slice A2 m c2] 25)) x (g := w.heap.size + 1) (by simp) (by simp)
  have H0 : Hid (Bf leB (nx S) x [] [x] 0 []) := Lib.hid (Bf.start _ _ _)
  clear hnn hmm
  go_enter Tryz.func42, Tryz.ntmps42
  go_wp2_with fail
  go_loopw [5, 6, 7] (fun p q_ i wr => ∃ (z : Nat) (out todo : List (List UInt8)), z ≤ todo.length ∧ i = .int .i64 (z : Int) ∧ Rob q_.ownBlock wr (fun W => Nms W out p) ∧ Wn (w.heap.size + 1) wr q_ todo ∧ Hid (Bf leB (nx S) x out todo z []) ∧ Rob q_.ownBlock wr (fun W => Bx W w.heap.size [.int .i64 S.ver, .slice A n c, .slice A2 m c2]) ∧ Below w.heap.size w wr) (fun _ _ i _ => U.length + 2 - (intOf i).toNat)
  case atStart => exact ⟨0, [], [x], by simp, rfl, fun _ _ => Sl.nil _ _ _, L0, H0, B1.rob (by intro e; simp [Value.ownBlock] at e), hab⟩
  case round =>
    obtain ⟨z, out, todo, hz, rfl, hp, hq, hI, R1, hb⟩ := hrel
    clear B1 L0 H0 hab
    have htl : todo.length ≤ U.length + 1 := hI.out.len U hU
    have q0 := R1.get.c 0 rfl
    have q1 := R1.get.c 1 rfl
    have q2 := R1.get.c 2 rfl
    have l1 := R1.get.lt
    have hqn := hq.nms
    obtain ⟨A3, c3, rfl, hR3⟩ := hqn
    by_cases hlt : z < todo.length
    · obtain ⟨a3, rfl, hA3⟩ := hR3.get hlt
      rw [Nat.mul_one] at hA3
      obtain ⟨y, hy⟩ : ∃ y, todo[z]'hlt = y := ⟨_, rfl⟩
      have HY : Hid (∃ h : z < todo.length, todo[z]'h = y) := Lib.hid ⟨hlt, hy⟩
      rw [hy] at hA3
      have e0 : wr.cell? (a3.add z) = some (.string (bs y)) := hA3
      obtain ⟨uX, hVX, cX⟩ := refStruct_ex S y _ w hv0 hn
      obtain ⟨bX, hbX⟩ : ∃ bX, (fst_ St.name S.structs y).isSome = bX := ⟨_, rfl⟩
      rw [hbX] at cX
      obtain ⟨t, ht⟩ : ∃ t, (fst_ St.name S.structs y).getD st0 = t := ⟨_, rfl⟩
      have HT : Hid (nx S y = nxs t) := Lib.hid (by unfold nx; rw [ht])
      have HF : Hid (∀ f ∈ t.fields, right S f.type = true) := Lib.hid (by
        rcases fst_st0 (S := S) y with h | h
        · rw [ht] at h; subst h; intro f hf; cases hf
        · rw [ht] at h; exact hrt t h)
      have HL : t.fields.length ≤ 1000 := by
        rcases fst_st0 (S := S) y with h | h
        · rw [ht] at h; subst h; decide
        · rw [ht] at h; exact hfw t h
      rw [ht] at hVX
      clear ht hbX
      obtain ⟨A4, c4, rfl, hVf⟩ := hVX
      have hzN : z ≤ 9223372036854775807 := by omega
      go_upto_region 6 with (fail)
      refine wp_region_box (by kernel_rfl) (FF [(2, Fact.at_ wr (.pointer (some ⟨w.heap.size, 0, none⟩))), (6, Fact.at_ wr (.slice (some a3) todo.length c3)), (7, Fact.at_ wr (.int .i64 (z : Int))), (22, Fact.at_ wr (.agg #[.int .i64 S.ver, .slice A n c, .slice A2 m c2])), (23, Fact.at_ wr (.slice (some a3) todo.length c3)), (24, Fact.at_ wr (.int .i64 (z : Int))), (25, Fact.at_ wr (.pointer (some (a3.add z)))), (26, Fact.at_ wr (.string (bs y))), (27, Fact.at_ wr (.tuple #[.agg #[.string (bs t.name), .slice A4 t.fields.length c4], .bool bX])), (21, Fact.at_ wr (.tuple #[.agg #[.string (bs t.name), .slice A4 t.fields.length c4], .bool bX])), (28, Fact.at_ wr (.agg #[.string (bs t.name), .slice A4 t.fields.length c4])), (29, Fact.at_ wr (.bool bX)), (9, Fact.at_ wr (.bool bX))]) [2, 6, 7] 73 8 10 28 [.string ⟨#[]⟩, .slice none 0 0] [.string (bs t.name), .slice A4 t.fields.length c4] [22, 23, 24, 25, 26, 27, 21, 28, 29, 9, 8] rfl (by kernel_rfl) (by kernel_rfl) (by kernel_rfl) (by kernel_rfl) (FF_soft (fcs ⟨at_soft wr (.pointer (some ⟨w.heap.size, 0, none⟩)), fcs ⟨at_soft wr (.slice (some a3) todo.length c3), fcs ⟨at_soft wr (.int .i64 (z : Int)), fcs ⟨at_soft wr (.agg #[.int .i64 S.ver, .slice A n c, .slice A2 m c2]), fcs ⟨at_soft wr (.slice (some a3) todo.length c3), fcs ⟨at_soft wr (.int .i64 (z : Int)), fcs ⟨at_soft wr (.pointer (some (a3.add z))), fcs ⟨at_soft wr (.string (bs y)), fcs ⟨at_soft wr (.tuple #[.agg #[.string (bs t.name), .slice A4 t.fields.length c4], .bool bX]), fcs ⟨at_soft wr (.tuple #[.agg #[.string (bs t.name), .slice A4 t.fields.length c4], .bool bX]), fcs ⟨at_soft wr (.agg #[.string (bs t.name), .slice A4 t.fields.length c4]), fcs ⟨at_soft wr (.bool bX), fcs ⟨at_soft wr (.bool bX), fnl⟩⟩⟩⟩⟩⟩⟩⟩⟩⟩⟩⟩⟩)) ?_ ?_ ?_
      · intro t9 ht9
        simp only [List.mem_cons, List.not_mem_nil, or_false] at ht9
        rcases ht9 with rfl | rfl | rfl
        · exact ⟨rfl, Below.refl _ _⟩
        · exact ⟨rfl, Below.refl _ _⟩
        · exact ⟨rfl, Below.refl _ _⟩
      · refine fcs ⟨.plain (at1 2 22 (.pointer (some ⟨w.heap.size, 0, none⟩)) (.agg #[.int .i64 S.ver, .slice A n c, .slice A2 m c2]) rfl (by first | exact .inl rfl | exact .inr ⟨_, _, _, rfl, rfl, by kernel_rfl, by decide, rfl⟩) (by kernel_rfl) rfl rfl (fun a9 W9 hb9 h9 => by have g0 := cell_next hb9 q0; have g1 := cell_next hb9 q1; have g2 := cell_next hb9 q2; simp [execOp, h9] <;> go_simp)) (by decide) (by decide), ?_⟩
        refine fcs ⟨.plain (atcopy 6 23 (.slice (some a3) todo.length c3) (.inl rfl) rfl (by first | exact .inl rfl | exact .inr ⟨_, _, _, rfl, rfl, by kernel_rfl, by decide, rfl⟩) (by kernel_rfl) rfl rfl) (by decide) (by decide), ?_⟩
        refine fcs ⟨.plain (atcopy 7 24 (.int .i64 (z : Int)) (.inl rfl) rfl (by first | exact .inl rfl | exact .inr ⟨_, _, _, rfl, rfl, by kernel_rfl, by decide, rfl⟩) (by kernel_rfl) rfl rfl) (by decide) (by decide), ?_⟩
        refine fcs ⟨.plain (at2 23 24 25 (.slice (some a3) todo.length c3) (.int .i64 (z : Int)) (.pointer (some (a3.add z))) rfl (by first | exact .inl rfl | exact .inr ⟨_, _, _, rfl, rfl, by kernel_rfl, by decide, rfl⟩) (by kernel_rfl) (by kernel_rfl) rfl rfl rfl (fun a9 W9 hb9 h9 h8 => by simp [execOp, h9, h8] <;> go_simp)) (by decide) (by decide), ?_⟩
        refine fcs ⟨.plain (at1 25 26 (.pointer (some (a3.add z))) (.string (bs y)) rfl (by first | exact .inl rfl | exact .inr ⟨_, _, _, rfl, rfl, by kernel_rfl, by decide, rfl⟩) (by kernel_rfl) rfl rfl (fun a9 W9 hb9 h9 => by have g0 := cell_next hb9 e0; simp [execOp, h9] <;> go_simp)) (by decide) (by decide), ?_⟩
        refine fcs ⟨.plain (atc2 14 22 26 27 (.agg #[.int .i64 S.ver, .slice A n c, .slice A2 m c2]) (.string (bs y)) (.tuple #[.agg #[.string (bs t.name), .slice A4 t.fields.length c4], .bool bX]) _ rfl rfl (by first | exact .inl rfl | exact .inr ⟨_, _, _, rfl, rfl, by kernel_rfl, by decide, rfl⟩) (by kernel_rfl) (by kernel_rfl) rfl rfl (by kernel_rfl) rfl (fun W9 hb9 => cX W9 (Below.next hb hb9))) (by decide) (by decide), ?_⟩
        refine fcs ⟨.plain (atcopy 27 21 (.tuple #[.agg #[.string (bs t.name), .slice A4 t.fields.length c4], .bool bX]) (.inl rfl) rfl (by first | exact .inl rfl | exact .inr ⟨_, _, _, rfl, rfl, by kernel_rfl, by decide, rfl⟩) (by kernel_rfl) rfl rfl) (by decide) (by decide), ?_⟩
        refine fcs ⟨.plain (at1 21 28 (.tuple #[.agg #[.string (bs t.name), .slice A4 t.fields.length c4], .bool bX]) (.agg #[.string (bs t.name), .slice A4 t.fields.length c4]) rfl (by first | exact .inl rfl | exact .inr ⟨_, _, _, rfl, rfl, by kernel_rfl, by decide, rfl⟩) (by kernel_rfl) rfl rfl (fun a9 W9 hb9 h9 => by simp [execOp, h9] <;> go_simp)) (by decide) (by decide), ?_⟩
        refine fcs ⟨.plain (at1 21 29 (.tuple #[.agg #[.string (bs t.name), .slice A4 t.fields.length c4], .bool bX]) (.bool bX) rfl (by first | exact .inl rfl | exact .inr ⟨_, _, _, rfl, rfl, by kernel_rfl, by decide, rfl⟩) (by kernel_rfl) rfl rfl (fun a9 W9 hb9 h9 => by simp [execOp, h9] <;> go_simp)) (by decide) (by decide), ?_⟩
        refine fcs ⟨.alloc rfl rfl rfl (by decide) (fun a9 w9 => ⟨_, by simp [execOp, ptr0] <;> go_simp, ab1 _ (Obj.cells #[.string ⟨#[]⟩, .slice none 0 0] 32), Bx.new2 _ _ _ _⟩), ?_⟩
        refine fcs ⟨.store rfl rfl rfl (by kernel_rfl) (by kernel_rfl) (fun a9 w9 b9 h9 hx9 hf9 => (by have k1 : a9.eval (.tmp 8) = .pointer (some ⟨b9, 0, none⟩) := h9; have k2 : a9.eval (.tmp 28) = .agg #[.string (bs t.name), .slice A4 t.fields.length c4] := hf9.1; have g0 := hx9.c 0 rfl; have g1 := hx9.c 1 rfl; have f0 := hx9.f 0 rfl; have f1 := hx9.f 1 rfl; have l9 := hx9.lt; exact ⟨_, by simp [execOp, k1, k2] <;> go_simp, gb_set2 _ _ _ _, hx9.put2 _ _⟩)), ?_⟩
        refine fcs ⟨.plain (atcopy 29 9 (.bool bX) (.inr rfl) rfl (by first | exact .inl rfl | exact .inr ⟨_, _, _, rfl, rfl, by kernel_rfl, by decide, rfl⟩) (by kernel_rfl) rfl rfl) (by decide) (by decide), ?_⟩
        exact fnl
      rintro vv wv hvv ⟨gx, hgx, hgl, hX⟩ hbv
      unfold ptr0 at hgx
      simp only [lay, List.foldl_cons, List.foldl_nil, List.setIfInBounds_toArray, List.set_cons_succ, List.set_cons_zero, hgx]
      have hbw := Below.next hb hbv
      have R1v := R1.next hbv
      have hpv := hp.next hbv
      have hqv := hq.other hbv
      have hXr : Rob (Value.slice (some a3) todo.length c3).ownBlock wv (fun W => Bx W gx [.string (bs t.name), .slice A4 t.fields.length c4]) := hX.rob (fun e => by have := hq.blk gx e.symm; omega)
      have I0 : Hid (Bf leB (nx S) x out todo z ((t.fields.take 0).flatMap fun f => dir f.type)) := hI
      obtain ⟨q, hqq⟩ : ∃ q, t.fields.length = q := ⟨_, rfl⟩
      have HQ := Lib.hid hqq
      rw [hqq] at hXr HL
      clear hvv hI q0 q1 q2 l1 R1 hA3 e0 cX hqq hy hgl hR3 hp hX
      go_wp2_with fail
      go_loopw [5, 6, 10] (fun p q_ i wr => ∃ (k : Nat) (out todo : List (List UInt8)), k ≤ q ∧ i = .int .i64 (k : Int) ∧ Rob q_.ownBlock wr (fun W => Nms W out p) ∧ Wn (w.heap.size + 1) wr q_ todo ∧ Hid (Bf leB (nx S) x out todo z ((t.fields.take k).flatMap fun f => dir f.type)) ∧ Hid (∃ h : z < todo.length, todo[z]'h = y) ∧ Rob q_.ownBlock wr (fun W => Bx W w.heap.size [.int .i64 S.ver, .slice A n c, .slice A2 m c2]) ∧ Rob q_.ownBlock wr (fun W => Bx W gx [.string (bs t.name), .slice A4 q c4]) ∧ Below w.heap.size w wr) (fun _ _ i _ => q - (intOf i).toNat)
      case atStart => exact ⟨0, out, todo, by omega, rfl, hpv, hqv, I0, HY, R1v, hXr, hbw⟩
      case round =>
        clear hpv hqv I0 HY R1v hXr hq hbv hb hbw
        obtain ⟨k, out, todo, hk, rfl, hp, hq, hI, HY, R1, X1, hb⟩ := hrel
        have x1 := X1.get.c 1 rfl
        have l1 := X1.get.lt
        by_cases hkq : k < q
        · have hkf : k < t.fields.length := by rw [HQ.out]; exact hkq
          obtain ⟨a4, rfl, hA4⟩ := hVf.get hkf
          obtain ⟨A5, c5, f0, f1, f2, f3, f4, f5, f6, -, hTy⟩ := (FdA.next hb hA4).val
          have hblk : (a4.add (k * 7)).block < wr.heap.size := blk_lt f0
          have hr := HF.out _ (List.getElem_mem hkf)
          have hin : ∀ y' ∈ dir (t.fields[k]'hkf).type, y' ∈ nx S y := fun y' hy' => by rw [HT.out]; exact List.mem_flatMap.2 ⟨_, List.getElem_mem hkf, hy'⟩
          have hnx : (t.fields.take (k + 1)).flatMap (fun f => dir f.type) = (t.fields.take k).flatMap (fun f => dir f.type) ++ dir (t.fields[k]'hkf).type := by rw [List.take_succ_eq_append_getElem hkf, List.flatMap_append]; simp
          generalize t.fields[k]'hkf = f at *
          have cD := refDirect_any (SizeOf.sizeOf f.type + 1) S f.type _ wr (Nat.lt_succ_self _) hr hTy
          obtain ⟨dn, hdn⟩ : ∃ dn, (t.fields.take k).flatMap (fun f => dir f.type) = dn := ⟨_, rfl⟩
          rw [hdn] at hI hnx
          obtain ⟨L, hL⟩ : ∃ L, dir f.type = L := ⟨_, rfl⟩
          rw [hL] at cD hin hnx
          have hLl : L.length ≤ 1 := by
            rw [← hL]
            rcases right_dir f.type hr with ⟨h, -⟩ | ⟨h, -⟩ <;> rw [h] <;> simp
          have HNX := Lib.hid hnx
          have HIN := Lib.hid hin
          clear hA4 hTy hr hL hdn hnx hin
          go_wp2_with fail
          refine cD.mono ?_
          rintro e w3 ⟨v3, rfl, hN3, hb3⟩
          have hb3w := Below.next hb hb3
          have R3 := R1.next hb3
          have X3 := X1.next hb3
          have hp3 := hp.next hb3
          have hq3 := hq.other hb3
          have I3 : Hid (Bf leB (nx S) x out todo z (dn ++ L.take 0)) := by rw [List.take_zero, List.append_nil]; exact hI
          clear cD f0 f1 f2 f3 f4 f5 f6 x1 l1 R1 X1 hp hI hblk
          go_wp2_with fail
          go_loopw [5, 6, 12] (fun p q_ i wr => ∃ (j : Nat) (out todo : List (List UInt8)), j ≤ L.length ∧ i = .int .i64 (j : Int) ∧ Rob q_.ownBlock wr (fun W => Nms W out p) ∧ Wn (w.heap.size + 1) wr q_ todo ∧ Hid (Bf leB (nx S) x out todo z (dn ++ L.take j)) ∧ Hid (∃ h : z < todo.length, todo[z]'h = y) ∧ Rob q_.ownBlock wr (fun W => Bx W w.heap.size [.int .i64 S.ver, .slice A n c, .slice A2 m c2]) ∧ Rob q_.ownBlock wr (fun W => Bx W gx [.string (bs t.name), .slice (some a4) q c4]) ∧ Rob q_.ownBlock wr (fun W => Nms W L v3) ∧ Below w.heap.size w wr) (fun _ _ i _ => L.length - (intOf i).toNat)
          case atStart => exact ⟨0, out, todo, by omega, rfl, hp3, hq3, I3, HY, R3, X3, hN3.rob (fun b e => (hq.blk b e).2), hb3w⟩
          case round =>
            clear hb3w R3 X3 hp3 hq3 I3 HY hb hb3 hN3 hq
            obtain ⟨j, out, todo, hj, rfl, hp, hq, hI, HY, R1, X1, hN, hb⟩ := hrel
            have hol : out.length ≤ U.length := hI.out.outlen U hU
            have htl2 : todo.length ≤ U.length + 1 := hI.out.len U hU
            have hN0 := hN.get
            obtain ⟨A6, c6, rfl, hR6⟩ := hN0
            have hp0 := hp.get
            have hpg := hp.get
            have hqg := hq.nms
            obtain ⟨A8, c8, rfl, -⟩ := hqg
            obtain ⟨A7, c7, rfl, hR7⟩ := hp0
            by_cases hjl : j < L.length
            · obtain ⟨a6, rfl, hA6⟩ := hR6.get hjl
              rw [Nat.mul_one] at hA6
              have hni := HIN.out _ (List.getElem_mem hjl)
              have htk : L.take (j + 1) = L.take j ++ [L[j]'hjl] := List.take_succ_eq_append_getElem hjl
              generalize L[j]'hjl = y' at *
              have g0 : wr.cell? (a6.add j) = some (.string (bs y')) := hA6
              have cI := refIn_any out out.length y' _ wr (by omega) hpg
              rw [List.take_length] at cI
              have HTK := Lib.hid (show dn ++ L.take (j + 1) = (dn ++ L.take j) ++ [y'] by rw [htk, List.append_assoc])
              cases hc : out.contains y'
              · rw [hc] at cI
                have hyo : y' ∉ out := by rw [List.contains_eq_mem] at hc; simpa using hc
                obtain ⟨hz1, hz2⟩ := HY.out
                have EB := Lib.hid (hI.out.new tot_leB hz1 (by rw [hz2]; exact hni) hyo)
                have EY : Hid (∃ h : z < (todo ++ [y']).length, (todo ++ [y'])[z]'h = y) := Lib.hid ⟨by rw [List.length_append]; omega, by rw [List.getElem_append_left hz1]; exact hz2⟩
                have cP := refPut_any out y' _ wr (by omega) hpg
                clear hA6 hI hni htk hc hyo hz1 hz2 HY
                go_wp2_with fail
                refine cI.mono ?_
                rintro e w4 ⟨rfl, rfl⟩
                go_wp2_with fail
                refine cP.mono ?_
                rintro e w5 ⟨v5, rfl, hN5, hb5⟩
                have hb5w := Below.next hb hb5
                have hq5 := hq.other hb5
                have g5 := cell_next hb5 g0
                have hbs5 : w.heap.size + 1 ≤ w5.heap.size := by have := hb5.size; have := R1.get.lt; omega
                clear cP cI g0
                go_wp2_with (at_builtin; refine wpList_pushN rfl (.tmp 65) (.tmp 70) rfl (w.heap.size + 1) _ todo y' _ 1 rfl rfl (hq5.other (ab1 _ _)) (by simp) (by omega) (Nat.le_trans hbs5 (ab1 _ _).size) ?_; intro v' w6 ho' hg' h4')
                have h4 : v'.ownBlock = (Value.slice A8 todo.length c8).ownBlock ∨ ∃ b, v'.ownBlock = some b ∧ (w5.alloc (Obj.cells #[.string (bs y')] 9)).heap.size ≤ b := h4'.imp id (fun e => ⟨_, e, Nat.le_refl _⟩)
                have hbl := ab1 w5 (Obj.cells #[.string (bs y')] 9)
                have hb6 := (hb5w.alloc hb5w.size (Obj.cells #[.string (bs y')] 9)).grown hg' (Nat.le_trans hb5w.size hbl.size) (fun k hk => by have := (hq5.lt k hk).1; omega)
                go_roundw
                case rel => exact ⟨j + 1, _, _, by omega, by go_num, ((hN5.next hbl).rob (fun b e => (hq.blk b e).2)).push hg' h4, ho', HTK.out ▸ EB, EY, ((R1.next hb5).next hbl).push hg' h4, ((X1.next hb5).next hbl).push hg' h4, ((hN.next hb5).next hbl).push hg' h4, hb6⟩
                case measure => simp [intOf]; omega
              · rw [hc] at cI
                have hyo : y' ∈ out := by simpa using hc
                have EB := Lib.hid (hI.out.old hyo)
                clear hA6 hI hni htk hc hyo
                go_wp2_with fail
                refine cI.mono ?_
                rintro e w4 ⟨rfl, rfl⟩
                go_wp2_with fail
                go_roundw
                case rel => exact ⟨j + 1, out, todo, by omega, by go_num, hp, hq, HTK.out ▸ EB, HY, R1, X1, hN, hb⟩
                case measure => simp [intOf]; omega
            · obtain rfl : j = L.length := by omega
              have EB : Hid (Bf leB (nx S) x out todo z ((t.fields.take (k + 1)).flatMap fun f => dir f.type)) := by rw [HNX.out]; rw [List.take_length] at hI; exact hI
              clear hI
              go_wp2_with fail
              go_roundw
              case rel => exact ⟨k + 1, out, todo, by omega, by go_num, hp, hq, EB, HY, R1, X1, hb⟩
              case measure => simp [intOf]; omega
        · obtain rfl : k = q := by omega
          have EB : Hid (Bf leB (nx S) x out todo (z + 1) []) := by
            obtain ⟨hz1, hz2⟩ := HY.out
            refine Lib.hid (hI.out.next hz1 ?_)
            rw [hz2, HT.out, List.take_of_length_le (by rw [HQ.out]; exact Nat.le_refl _)]
            rfl
          have hz9 : z + 1 ≤ todo.length := by obtain ⟨hz1, hz2⟩ := HY.out; omega
          clear hI HY
          go_wp2_with fail
          go_roundw
          case rel => exact ⟨z + 1, out, todo, hz9, by go_num, hp, hq, EB, R1, hb⟩
          case measure => simp [intOf]; omega
    · obtain rfl : z = todo.length := by omega
      have E := hI.out.done_ rfl
      clear hI
      go_wp2_with fail
      go_ret
      exact ⟨_, out, rfl, E, hp.get, hb⟩
end Go.Proofs.YthbhbpcjcnkkkaaGreatDoor

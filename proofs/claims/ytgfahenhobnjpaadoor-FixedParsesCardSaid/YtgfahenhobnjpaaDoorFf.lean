/-
  Strings as lists of bytes; the contracts of strings.CutPrefix at "-" and strings.Cut at ".". No conditions but Go's own bound of a string's length.
-/
import Derived.Test.YtgfahenhobnjpaaDoorFe
import Derived.Test.YtgfahenhobnjpaaDoorFd
import Derived.Lib.Bytealg
import Derived.Lib.IndexLaws
import Derived.Lib.Walk
import Derived.Laws.Strings3
namespace Go.Proofs.YtgfahenhobnjpaaDoor
open Go.RowKit
def bef (l : List UInt8) : List UInt8 := l.takeWhile (fun c => c != 46)
def aft (l : List UInt8) : List UInt8 := (l.dropWhile (fun c => c != 46)).tail
def dot (l : List UInt8) : Bool := l.contains 46
def neg45 (l : List UInt8) : Bool := l.head? == some 45
def unsg (l : List UInt8) : List UInt8 := if neg45 l then l.tail else l
theorem prefix45 (l : List UInt8) : Lib.hasPrefix l [45] = neg45 l := by
  unfold Lib.hasPrefix neg45
  cases l with
  | nil => rfl
  | cons c l => simp [List.isPrefixOf, Bool.beq_comm]
theorem trim45 (l : List UInt8) : Lib.trimPrefix l [45] = unsg l := by
  unfold Lib.trimPrefix unsg
  rw [prefix45]
  split
  · simp
  · rfl
theorem cutPrefix_any (s : ByteArray) (w : World) :
    Calls Tryd.prog 9 #[.string s, .string ⟨#[45]⟩] w (Is (.tuple #[.string ⟨(unsg s.data.toList).toArray⟩, .bool (neg45 s.data.toList)]) w) := by
  refine (Tryd.strings_CutPrefix s ⟨#[45]⟩ w).mono ?_
  rintro e w' ⟨rfl, rfl⟩
  have e1 : Lib.trimPrefix s.data.toList (⟨#[45]⟩ : ByteArray).data.toList = unsg s.data.toList := trim45 _
  have e2 : Lib.hasPrefix s.data.toList (⟨#[45]⟩ : ByteArray).data.toList = neg45 s.data.toList := prefix45 _
  rw [e1, e2]
  exact ⟨rfl, rfl⟩
def dotAt (s : ByteArray) (i : Int) : Value := if i < 0 then .tuple #[.string s, .string ⟨#[]⟩, .bool false] else .tuple #[.string (s.extract 0 i.toNat), .string (s.extract (i.toNat + 1) s.size), .bool true]
set_option maxRecDepth 100000 in
set_option maxHeartbeats 1000000 in
theorem cut0_any (s : ByteArray) (w : World) (hs : s.size ≤ 9223372036854775807) : Calls Tryd.prog 29 #[.string s, .string ⟨#[46]⟩] w fun e w' => e = .returned (dotAt s (Lib.indexByte s.data.toList 46)) ∧ ∃ n, w' = w.drewN n := by
  have c := fun w => Tryd.stringslite_Index_one s 46 w
  rcases Int.lt_or_le (Lib.indexByte s.data.toList 46) 0 with h0 | h0
  · have h1 : Lib.indexByte s.data.toList 46 = -1 := by have := Lib.indexByte_ge s.data.toList 46; omega
    have H := Lib.hid h1
    clear h0 h1
    go_enter Tryd.func29, Tryd.ntmps29
    go_wp2_with (refine (c w).mono ?_; rw [H.out]; rintro e w' ⟨rfl, rfl⟩)
    go_ret3
    exact ⟨by rw [H.out]; rfl, 0, rfl⟩
  · obtain ⟨n, hn⟩ : ∃ n : Nat, Lib.indexByte s.data.toList 46 = n := ⟨(Lib.indexByte s.data.toList 46).toNat, by omega⟩
    have hlt : n < s.size := by
      have := (Lib.indexByte_some hn).1
      have h2 := (List.getElem?_eq_some_iff.1 this).1
      rw [Array.length_toList] at h2
      exact h2
    have H := Lib.hid hn
    have hi1 : (n : Int) + 1 ≤ (s.size : Int) := by omega
    have hi2 : (n : Int) ≤ (s.size : Int) := by omega
    have hw1 : IntKind.i64.wrap ((n : Int) + 1) = (n : Int) + 1 := IntWalk.i64_in _ (by omega)
    have hw2 : ((n : Int) + 1).toNat = n + 1 := by omega
    clear hn h0
    go_enter Tryd.func29, Tryd.ntmps29
    go_wp2_with (refine (c w).mono ?_; rw [H.out]; rintro e w' ⟨rfl, rfl⟩)
    go_quiet (fail)
    go_wp2
    go_ret3
    refine ⟨?_, nq, rfl⟩
    rw [H.out]
    show _ = Ending.returned (dotAt s (n : Int))
    unfold dotAt
    rw [if_neg (by omega), Int.toNat_natCast]
    rfl
theorem idx_spec (m : List UInt8) : (Lib.indexByte m 46 = -1 → bef m = m ∧ dot m = false) ∧
    ∀ n : Nat, Lib.indexByte m 46 = n → bef m = m.take n ∧ aft m = m.drop (n + 1) ∧ dot m = true := by
  induction m with
  | nil => exact ⟨fun _ => ⟨rfl, rfl⟩, fun n h => by simp [Lib.indexByte] at h⟩
  | cons b m ih =>
    unfold Lib.indexByte
    by_cases hb : b = 46
    · subst hb
      refine ⟨fun h => by simp at h, fun n h => ?_⟩
      have : n = 0 := by simpa using h.symm
      subst this
      exact ⟨by simp [bef], by simp [aft], by simp [dot]⟩
    · have hbb : (b == 46) = false := beq_eq_false_iff_ne.2 hb
      have hnb : (b != 46) = true := bne_iff_ne.2 hb
      rw [hbb]
      simp only [Bool.false_eq_true, if_false]
      have hbef : bef (b :: m) = b :: bef m := by unfold bef; rw [List.takeWhile_cons, hnb]; rfl
      have haft : aft (b :: m) = aft m := by unfold aft; rw [List.dropWhile_cons, hnb]; rfl
      have hsls : dot (b :: m) = dot m := by
        unfold dot
        rw [List.contains_cons, show (46 == b) = false from beq_eq_false_iff_ne.2 (Ne.symm hb), Bool.false_or]
      rw [hbef, haft, hsls]
      by_cases h1 : Lib.indexByte m 46 = -1
      · rw [h1]
        refine ⟨fun _ => ⟨by rw [(ih.1 h1).1], (ih.1 h1).2⟩, fun n h => ?_⟩
        simp at h
      · have hb1 : (Lib.indexByte m 46 == -1) = false := beq_eq_false_iff_ne.2 h1
        rw [hb1]
        have hge := Lib.indexByte_ge m 46
        simp only [Bool.false_eq_true, if_false]
        refine ⟨fun h => by omega, fun n h => ?_⟩
        obtain ⟨k, rfl⟩ : ∃ k, n = k + 1 := ⟨n - 1, by omega⟩
        obtain ⟨i1, i2, i3⟩ := ih.2 k (by omega)
        exact ⟨by rw [i1]; rfl, by rw [i2]; rfl, i3⟩
theorem aft_none {l : List UInt8} (h : dot l = false) : aft l = [] := by
  have hall : l.dropWhile (fun c => c != 46) = [] := by
    unfold dot at h
    induction l with
    | nil => rfl
    | cons c l ih =>
      rw [List.contains_cons, Bool.or_eq_false_iff] at h
      have hc : (c != 46) = true := by
        rw [bne_iff_ne]
        rintro rfl
        have := h.1
        rw [beq_self_eq_true] at this
        cases this
      rw [List.dropWhile_cons, hc, if_pos rfl]
      exact ih h.2
  unfold aft
  rw [hall]; rfl
theorem ext_list (s : ByteArray) (i j : Nat) : s.extract i j = ⟨((s.data.toList.take j).drop i).toArray⟩ := by
  apply ba_eq
  rw [ByteArray.data_extract, Array.toList_extract, List.extract_eq_take_drop, List.drop_take]
theorem dotAt_eq (s : ByteArray) : dotAt s (Lib.indexByte s.data.toList 46) = .tuple #[.string ⟨(bef s.data.toList).toArray⟩, .string ⟨(aft s.data.toList).toArray⟩, .bool (dot s.data.toList)] := by
  have hs := idx_spec s.data.toList
  unfold dotAt
  rcases Int.lt_or_le (Lib.indexByte s.data.toList 46) 0 with h0 | h0
  · have h1 : Lib.indexByte s.data.toList 46 = -1 := by have := Lib.indexByte_ge s.data.toList 46; omega
    obtain ⟨i1, i2⟩ := hs.1 h1
    rw [if_pos h0, i1, i2, aft_none i2]
  · obtain ⟨n, hn⟩ : ∃ n : Nat, Lib.indexByte s.data.toList 46 = n := ⟨(Lib.indexByte s.data.toList 46).toNat, by omega⟩
    obtain ⟨i1, i2, i3⟩ := hs.2 n hn
    have hlt : n < s.size := by
      have := (Lib.indexByte_some hn).1
      have h2 := (List.getElem?_eq_some_iff.1 this).1
      rw [Array.length_toList] at h2
      exact h2
    rw [if_neg (by omega), hn, Int.toNat_natCast, i1, i2, i3, ext_list s 0 n, ext_list s (n + 1) s.size, List.drop_zero, List.take_of_length_le (l := s.data.toList) (i := s.size) (Nat.le_of_eq (size_list s))]
set_option maxHeartbeats 1000000 in
theorem cut_any (s : ByteArray) (w : World) (hs : s.size ≤ 9223372036854775807) : Calls Tryd.prog 10 #[.string s, .string ⟨#[46]⟩] w (Iq (.tuple #[.string ⟨(bef s.data.toList).toArray⟩, .string ⟨(aft s.data.toList).toArray⟩, .bool (dot s.data.toList)]) w) := by
  have c := fun w => cut0_any s w hs
  rw [dotAt_eq] at c
  go_enter Tryd.func10, Tryd.ntmps10
  go_wp2_with (refine (c w).mono ?_; rintro e w' ⟨rfl, n, rfl⟩)
  go_ret3
  exact ⟨n, rfl, rfl⟩
end Go.Proofs.YtgfahenhobnjpaaDoor

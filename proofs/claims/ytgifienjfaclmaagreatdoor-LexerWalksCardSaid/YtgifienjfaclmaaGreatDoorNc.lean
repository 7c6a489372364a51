/-
  Contracts of the developers' endOfLine, skip and joined. No conditions but Go's own bounds of a string's length.
-/
import Derived.Test.YtgifienjfaclmaaGreatDoorNb
import Derived.Test.YtgifienjfaclmaaGreatDoorShelf
namespace Go.Proofs.YtgifienjfaclmaaGreatDoor
open Go.RowKit
theorem Ks.of {w : World} {ks : List Nat} {t : TypeId} : Ks (w.alloc (Obj.cells (ks.map fun (k : Nat) => Value.int .i64 (k : Int)).toArray t)) w.heap.size ks := by
  intro j h
  rw [World.cell?]
  simp only [heap_alloc_new]
  simp [h]
theorem indexByte_eq (l : List UInt8) : (Lib.indexByte l 10 = -1 ∧ (l.takeWhile (fun c => c != 10)).length = l.length) ∨ (Lib.indexByte l 10 = ((l.takeWhile (fun c => c != 10)).length : Int) ∧ (l.takeWhile (fun c => c != 10)).length < l.length) := by
  induction l with
  | nil => exact .inl ⟨rfl, rfl⟩
  | cons c r ih =>
    unfold Lib.indexByte
    by_cases h : c = 10
    · subst h
      exact .inr ⟨rfl, by simp⟩
    · have h1 : (c == 10) = false := by simpa using h
      have h2 : (c != 10) = true := by simpa using h
      rw [List.takeWhile_cons_of_pos (p := fun c : UInt8 => c != 10) h2, if_neg (by simp [h1])]
      rcases ih with ⟨a, b⟩ | ⟨a, b⟩
      · rw [a]; exact .inl ⟨rfl, by simp [b]⟩
      · refine .inr ⟨?_, by simpa using b⟩
        rw [if_neg (by rw [a]; simp), a]
        simp
set_option maxRecDepth 100000 in
theorem eol_any (l : List UInt8) (a : Nat) (w : World) (hl : l.length ≤ 9223372036854775000) (ha : a ≤ l.length) :
    Calls Tryz.prog 31 #[.string (bs l), .int .i64 (a : Int)] w (Is (.int .i64 (eol l a : Int)) w) := by
  have hsz : (bs l).size = l.length := rfl
  have cI := fun W => Tryz.strings_IndexByte (bs (l.drop a)) 10 W
  have hext : (bs l).extract a l.length = bs (l.drop a) := bs_drop l a l.length (Nat.le_refl _)
  have h := indexByte_eq (l.drop a)
  rw [List.length_drop] at h
  unfold eol
  rw [bs_list, show (10 : Int).toNat.toUInt8 = 10 from rfl] at cI
  generalize Lib.indexByte (l.drop a) 10 = x at *
  generalize ((l.drop a).takeWhile (fun c => c != 10)).length = y at *
  go_enter Tryz.func31, Tryz.ntmps31
  go_wp2_with fail
  refine (cI _).mono ?_
  rintro e w' ⟨rfl, rfl⟩
  rcases h with ⟨rfl, h⟩ | ⟨rfl, h⟩
  · have e1 : a + y = l.length := by omega
    go_wp2_with fail
    go_ret
    exact ret_is (by omega)
  · obtain ⟨f, hf⟩ : ∃ f, a + y = f := ⟨_, rfl⟩
    have l11 : (a : Int) + (y : Int) = (f : Int) := by omega
    have hf2 : f ≤ l.length := by omega
    go_wp2_with fail
    go_ret
    exact ret_is (by omega)
set_option maxRecDepth 100000 in
theorem joined_any (l : List UInt8) (a : Nat) (w : World) : Calls Tryz.prog 41 #[.string (bs l), .int .i64 (a : Int)] w (Is (.bool (jn l a)) w) := by
  have cK := fun W => kindAt_any l a W
  unfold jn
  generalize kat l a = k at *
  go_enter Tryz.func41, Tryz.ntmps41
  go_wp2_with fail
  refine (cK _).mono ?_
  rintro e w' ⟨rfl, rfl⟩
  go_wp2_with fail
  all_goals
    go_ret
    refine ret_bool2 ?_
    simp at *
    try omega
set_option maxRecDepth 100000 in
set_option maxHeartbeats 2000000 in
theorem skipD_any (l : List UInt8) (a : Nat) (w : World) (hl : l.length ≤ 9223372036854775000) (ha : a ≤ l.length) :
    Calls Tryz.prog 19 #[.string (bs l), .int .i64 (a : Int)] w (Ib (.int .i64 ((l.length - (sk false (l.drop a)).length : Nat) : Int)) w) := by
  have hsz : (bs l).size = l.length := rfl
  obtain ⟨R, hR⟩ : ∃ R, sk false (l.drop a) = R := ⟨_, rfl⟩
  have HR := Lib.hid hR
  rw [hR]
  have c1 := fun g c W j (hj : j ≤ l.length) hK => past_any g c [1] l j W hl hj (by decide) hK rfl
  rw [inK_white] at c1
  have p1 := sk_past l a
  have q1 : a + ((l.drop a).takeWhile isS).length ≤ l.length := by have := tw_le isS l a; omega
  have c0 := fun hK => c1 w.heap.size 1 (w.alloc (Obj.cells #[.int .i64 1] 56)) a ha hK
  rw [hR] at p1
  have hk0 := kat_past l a
  generalize a + ((l.drop a).takeWhile isS).length = b at *
  have P1 := Lib.hid p1
  clear hR p1
  go_enter Tryz.func19, Tryz.ntmps19
  go_wp2_with fail
  refine (c0 (Ks.of (ks := [1]))).mono ?_
  rintro e w' ⟨q, rfl, rfl⟩
  have hb0 : Below w.heap.size w ((w.alloc (Obj.cells #[.int .i64 1] 56)).drewN q) := below_drewN (Below.alloc (Below.refl _ _) (Nat.le_refl _) _) q
  generalize (w.alloc (Obj.cells #[.int .i64 1] 56)).drewN q = w0 at *
  go_wp2_with fail
  go_loopw [1] (fun v wr => ∃ (j : Nat), j ≤ l.length ∧ v = .int .i64 (j : Int) ∧ Below w.heap.size w wr ∧ kat l j ≠ 1 ∧ Hid (sk false (l.drop j) = R)) (fun v _ => l.length - (intOf v).toNat)
  case atStart => exact ⟨b, q1, rfl, hb0, hk0, P1⟩
  case round =>
    obtain ⟨j, hj, rfl, hb, hk, hI⟩ := hrel
    have cK := fun W => kindAt_any l j W
    have hst := sk_stop l j hk
    rw [hI.out] at hst
    by_cases h7 : kat l j = 7
    · rw [h7] at cK
      have hj2 : j < l.length := by
        by_cases h : j < l.length
        · exact h
        · rw [kat_end (by omega)] at h7; cases h7
      have h35 : l[j]'hj2 = 35 := by
        rw [kat_lt hj2] at h7
        exact (kd_facts _).2.2.2.2.2.1.1 h7
      obtain ⟨e1, e2⟩ := eol_gt l j hj2 h35
      have e3 := sk_hash l j hj2 h35
      have cE := fun W => eol_any l j W hl hj
      rw [hI.out] at e3
      generalize eol l j = m at *
      have p1 := sk_past l m
      have q1 : m + ((l.drop m).takeWhile isS).length ≤ l.length := by have := tw_le isS l m; omega
      have cP := fun (W : World) hK => c1 W.heap.size 1 (W.alloc (Obj.cells #[.int .i64 1] 56)) m e2 hK
      rw [e3] at p1
      have hk2 := kat_past l m
      have q2 : m ≤ m + ((l.drop m).takeWhile isS).length := by omega
      generalize m + ((l.drop m).takeWhile isS).length = z at *
      have P1 := Lib.hid p1
      clear p1 e3 h35 hst hk h7 hI
      go_wp2_with fail
      refine (cK _).mono ?_
      rintro e w' ⟨rfl, rfl⟩
      go_wp2_with fail
      refine (cE _).mono ?_
      rintro e w' ⟨rfl, rfl⟩
      go_wp2_with fail
      refine (cP _ (Ks.of (ks := [1]))).mono ?_
      rintro e w' ⟨q, rfl, rfl⟩
      have hb2 := below_drewN (Below.alloc hb hb.size (Obj.cells #[.int .i64 1] 56)) q
      go_wp2_with fail
      go_roundw
      case rel => exact ⟨z, q1, rfl, hb2, hk2, P1⟩
      case measure => simp [intOf]; omega
    · have E := Lib.hid (show l.length - R.length = j by rw [hst h7, List.length_drop]; omega)
      have d7 : ((kat l j : Int) == 7) = false := by simp; omega
      clear hst hI hk
      go_wp2_with fail
      refine (cK _).mono ?_
      rintro e w' ⟨rfl, rfl⟩
      go_wp2_with fail
      go_ret
      exact ⟨by rw [E.out]; rfl, hb⟩
end Go.Proofs.YtgifienjfaclmaaGreatDoor

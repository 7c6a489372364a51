/-
  The contract of the program's Parse. Condition: the program's table of powers of ten reads as it was laid.
-/
import Derived.Test.YtgfahenhobnjpaaDoorFf
namespace Go.Proofs.YtgfahenhobnjpaaDoor
open Go.RowKit
/-- A text of the form that the document asks. -/
def okB (u : List UInt8) : Bool := whole (bef u) && (!dot u || digs (aft u) 5)
/-- The number that the text gives, times 100000. -/
def scB (u : List UInt8) : Nat := numB (bef u) * 100000 + numB (aft u) * 10 ^ (5 - (aft u).length)
/-- What Parse returns. -/
def parB (l : List UInt8) : Value :=
  if l = [] then .tuple #[.int .i64 0, .int .i64 1]
  else if okB (unsg l) = false then .tuple #[.int .i64 0, .int .i64 2]
  else if 214748364800000 < scB (unsg l) then .tuple #[.int .i64 0, .int .i64 4]
  else .tuple #[.int .i64 (sgn (neg45 l) (qlim (scB (unsg l) * 65536) 100000)), .int .i64 0]
theorem digs_all {l : List UInt8} {m : Nat} (h : digs l m = true) : l.all isDg = true ∧ l.length ≤ m ∧ l ≠ [] := by
  unfold digs at h
  simp only [Bool.and_eq_true, decide_eq_true_eq] at h
  exact ⟨h.2, h.1.2, by rintro rfl; exact absurd h.1.1 (by decide)⟩
theorem whole_digs {l : List UInt8} (h : whole l = true) : digs l 10 = true := by
  unfold whole at h
  rw [Bool.and_eq_true] at h
  exact h.1
theorem unsg_len (l : List UInt8) : (unsg l).length ≤ l.length := by
  unfold unsg
  split
  · rw [List.length_tail]; omega
  · exact Nat.le_refl _
theorem bef_len (l : List UInt8) : (bef l).length ≤ l.length := (List.takeWhile_sublist _).length_le
theorem aft_len (l : List UInt8) : (aft l).length ≤ l.length := by
  unfold aft
  rw [List.length_tail]
  have := (List.dropWhile_sublist (fun c => c != 46) (l := l)).length_le
  omega
theorem quiet_is {P : Program} {f : FuncId} {args : Array Value} {v : Value} (h : ∀ w, Calls P f args w (Is v w)) (W : World) :
    Hid (∀ n, Calls P f args (W.drewN n) fun e w'' => e = .returned v ∧ ∃ q, w'' = W.drewN q) :=
  Lib.hid fun n => (h _).mono fun _ _ ⟨a, b⟩ => ⟨a, n, b.symm⟩
set_option maxRecDepth 100000 in
set_option maxHeartbeats 1000000 in
theorem parse_any (s : ByteArray) (w : World) (hs : s.size ≤ 9223372036854775807) (hp : Pw w) :
    Calls Tryd.prog 4 #[.string s] w (Ib (parB s.data.toList) w) := by
  by_cases h0 : s.toList = []
  · have h1 : s.data.toList = [] := by rw [← ByteArray.toList_eq]; exact h0
    have e : parB s.data.toList = .tuple #[.int .i64 0, .int .i64 1] := by unfold parB; rw [if_pos h1]
    rw [e]
    clear e h1
    go_enter Tryd.func4, Tryd.ntmps4
    go_wp2_with fail
    go_ret2
    exact ⟨rfl, Below.refl _ _⟩
  · have h1 : s.data.toList ≠ [] := by rw [← ByteArray.toList_eq]; exact h0
    have h2 : s.toList.isEmpty = false := by cases hh : s.toList with | nil => exact absurd hh h0 | cons a b => rfl
    have ep : parB s.data.toList = if okB (unsg s.data.toList) = false then .tuple #[.int .i64 0, .int .i64 2]
        else if 214748364800000 < scB (unsg s.data.toList) then .tuple #[.int .i64 0, .int .i64 4]
        else .tuple #[.int .i64 (sgn (neg45 s.data.toList) (qlim (scB (unsg s.data.toList) * 65536) 100000)), .int .i64 0] := by
      unfold parB; rw [if_neg h1]
    have cP := fun w => cutPrefix_any s w
    have hlen := unsg_len s.data.toList
    rw [size_list] at hlen
    rw [ep]
    clear ep h1
    generalize neg45 s.data.toList = neg at *
    generalize unsg s.data.toList = u at *
    have cC : ∀ w, Calls Tryd.prog 10 #[.string ⟨u.toArray⟩, .string ⟨#[46]⟩] w (Ib (.tuple #[.string ⟨(bef u).toArray⟩, .string ⟨(aft u).toArray⟩, .bool (dot u)]) w) := fun w => (cut_any ⟨u.toArray⟩ w (by show u.length ≤ _; omega)).mono fun _ _ h => h.ib
    have cW := fun w => isWhole_any ⟨(bef u).toArray⟩ w (by show (bef u).length ≤ _; have := bef_len u; omega)
    have cD := fun w => isDigits_any ⟨(aft u).toArray⟩ 5 w (by omega) (by show (aft u).length ≤ _; have := aft_len u; omega)
    have eW : (⟨(bef u).toArray⟩ : ByteArray).data.toList = bef u := rfl
    have eF : (⟨(aft u).toArray⟩ : ByteArray).data.toList = aft u := rfl
    rw [eW] at cW
    rw [eF] at cD
    by_cases hW : whole (bef u) = true
    · by_cases hD : dot u = true ∧ digs (aft u) 5 = false
      · have e : okB u = false := by unfold okB; rw [hW, hD.1, hD.2]; rfl
        rw [if_pos e]
        rw [hW] at cW
        rw [hD.1] at cC
        rw [hD.2] at cD
        clear e hW hD eW eF hlen
        generalize (⟨u.toArray⟩ : ByteArray) = U at *
        generalize (⟨(bef u).toArray⟩ : ByteArray) = W at *
        generalize (⟨(aft u).toArray⟩ : ByteArray) = F at *
        go_enter Tryd.func4, Tryd.ntmps4
        go_wp2_with fail
        refine (cP _).mono ?_
        rintro e w' ⟨rfl, rfl⟩
        go_wp2_with fail
        refine (cC _).mono ?_
        rintro e w1 ⟨rfl, hb⟩
        go_wp2_with fail
        refine (cW _).mono ?_
        rintro e w' ⟨rfl, rfl⟩
        go_wp2_with fail
        refine (cD _).mono ?_
        rintro e w' ⟨rfl, rfl⟩
        go_wp2_with fail
        go_ret2
        exact ⟨rfl, hb⟩
      · have hok : okB u = true := by
          unfold okB
          rw [hW]
          cases hdt : dot u with
          | false => rfl
          | true => cases hdg : digs (aft u) 5 with
            | true => rfl
            | false => exact absurd ⟨hdt, hdg⟩ hD
        rw [if_neg (by rw [hok]; decide)]
        have hW2 := digs_all (whole_digs hW)
        have hF2 : (aft u).all isDg = true ∧ (aft u).length ≤ 5 := by
          cases hdt : dot u with
          | false => rw [aft_none hdt]; exact ⟨rfl, by decide⟩
          | true => cases hdg : digs (aft u) 5 with
            | true => exact ⟨(digs_all hdg).1, (digs_all hdg).2.1⟩
            | false => exact absurd ⟨hdt, hdg⟩ hD
        have cN : ∀ w, Calls Tryd.prog 13 #[.string ⟨(bef u).toArray⟩] w (Is (.int .u64 (numB (bef u) : Nat)) w) := fun w => number_any ⟨(bef u).toArray⟩ w hW2.1 hW2.2.1
        have cM : ∀ w, Calls Tryd.prog 13 #[.string ⟨(aft u).toArray⟩] w (Is (.int .u64 (numB (aft u) : Nat)) w) := fun w => number_any ⟨(aft u).toArray⟩ w hF2.1 (by show (aft u).length ≤ 10; omega)
        have bx : numB (bef u) < 10000000000 := Nat.lt_of_lt_of_le (numB_lt _ hW2.1) (Nat.pow_le_pow_right (n := 10) (by decide) hW2.2.1)
        have by5 : numB (aft u) * 10 ^ (5 - (aft u).length) < 100000 := by
          have h1 := Nat.mul_lt_mul_of_pos_right (numB_lt _ hF2.1) (Nat.pow_pos (n := 5 - (aft u).length) (show 0 < 10 by decide))
          rw [← Nat.pow_add, show (aft u).length + (5 - (aft u).length) = 5 by omega] at h1
          exact h1
        have esz : ((⟨(aft u).toArray⟩ : ByteArray).size : Int) = ((aft u).length : Int) := rfl
        have hk5 := hF2.2
        unfold scB
        rw [hW] at cW
        generalize numB (bef u) = x at *
        generalize numB (aft u) = y at *
        generalize (aft u).length = k at *
        obtain ⟨j, hj⟩ : ∃ j, 5 - k = j := ⟨_, rfl⟩
        rw [hj] at by5 ⊢
        have hj6 : j < 6 := by omega
        obtain ⟨p, hpp⟩ : ∃ p, 10 ^ j = p := ⟨_, rfl⟩
        rw [hpp] at by5 ⊢
        have hp1 : ∀ w', Below w.heap.size w w' → w'.cell? ⟨0, 5, none⟩ = some (.int .u64 100000) := fun w' hb => (hp.below hb).cell 5 (by decide)
        have hp2 : ∀ w', Below w.heap.size w w' → w'.cell? ⟨0, j, none⟩ = some (.int .u64 (p : Int)) := fun w' hb => by rw [← hpp]; exact (hp.below hb).cell j hj6
        obtain ⟨a, ha⟩ : ∃ a, x * 100000 = a := ⟨_, rfl⟩
        obtain ⟨b, hbb⟩ : ∃ b, y * p = b := ⟨_, rfl⟩
        obtain ⟨t, ht⟩ : ∃ t, a + b = t := ⟨_, rfl⟩
        rw [hbb] at by5
        rw [ha, hbb, ht]
        have l1 : IntKind.u64.wrap ((x : Int) * 100000) = (a : Int) := by rw [show (x : Int) * 100000 = (a : Int) by omega, IntKind.wrap_u64]; omega
        have l2 : IntKind.u64.wrap ((y : Int) * (p : Int)) = (b : Int) := by rw [← Int.natCast_mul, hbb, IntKind.wrap_u64]; omega
        have l3 : IntKind.u64.wrap ((a : Int) + (b : Int)) = (t : Int) := by rw [← Int.natCast_add, ht, IntKind.wrap_u64]; omega
        have l4 : IntKind.i64.wrap (5 - (k : Int)) = (j : Int) := by rw [show (5 : Int) - (k : Int) = (j : Int) by omega]; exact IntWalk.i64_in _ (by omega)
        have htl : t < 1000000000100000 := by omega
        have cR := fun w (h : t ≤ 9223372036854775808) => ratio_any t 65536 100000 w h (by decide) (by decide) (by decide)
        have hql : qlim (t * 65536) 100000 ≤ 140737488355328 := by unfold qlim; exact Nat.min_le_right _ _
        have cS := fun w => signed_any neg (qlim (t * 65536) 100000) w hql
        have hdd : dot u = false ∨ (dot u = true ∧ digs (aft u) 5 = true) := by
          cases hdt : dot u with
          | false => exact .inl rfl
          | true => cases hdg : digs (aft u) 5 with
            | true => exact .inr ⟨rfl, rfl⟩
            | false => exact absurd ⟨hdt, hdg⟩ hD
        generalize dot u = D at *
        generalize digs (aft u) 5 = G at *
        clear hW hD eW eF hlen hok hW2 hF2 ha hbb ht hpp bx by5
        generalize (⟨u.toArray⟩ : ByteArray) = U at *
        generalize (⟨(bef u).toArray⟩ : ByteArray) = W at *
        generalize (⟨(aft u).toArray⟩ : ByteArray) = F at *
        by_cases h4 : 214748364800000 < t
        · rw [if_pos h4]
          rcases hdd with rfl | ⟨rfl, rfl⟩
          · go_enter Tryd.func4, Tryd.ntmps4
            go_wp2_with fail
            refine (cP _).mono ?_
            rintro e w' ⟨rfl, rfl⟩
            go_wp2_with fail
            refine (cC _).mono ?_
            rintro e w1 ⟨rfl, hb⟩
            have m5 := hp1 _ hb
            have mj := hp2 _ hb
            go_wp2_with fail
            refine (cW _).mono ?_
            rintro e w' ⟨rfl, rfl⟩
            go_wp2_with (refine (cD _).mono ?_; rintro e w' ⟨rfl, rfl⟩)
            have QN := quiet_is cN w1
            have QM := quiet_is cM w1
            clear cP cC cW cD cN cM
            go_big_quiet ((first | (go_at_call 13; with_reducible exact QN.out _) | (go_at_call 13; with_reducible exact QM.out _)))
            go_wp2_with fail
            go_ret2
            exact ⟨rfl, below_drewN hb _⟩
          · go_enter Tryd.func4, Tryd.ntmps4
            go_wp2_with fail
            refine (cP _).mono ?_
            rintro e w' ⟨rfl, rfl⟩
            go_wp2_with fail
            refine (cC _).mono ?_
            rintro e w1 ⟨rfl, hb⟩
            have m5 := hp1 _ hb
            have mj := hp2 _ hb
            go_wp2_with fail
            refine (cW _).mono ?_
            rintro e w' ⟨rfl, rfl⟩
            go_wp2_with (refine (cD _).mono ?_; rintro e w' ⟨rfl, rfl⟩)
            have QN := quiet_is cN w1
            have QM := quiet_is cM w1
            clear cP cC cW cD cN cM
            go_big_quiet ((first | (go_at_call 13; with_reducible exact QN.out _) | (go_at_call 13; with_reducible exact QM.out _)))
            go_wp2_with fail
            go_ret2
            exact ⟨rfl, below_drewN hb _⟩
        · rw [if_neg h4]
          rcases hdd with rfl | ⟨rfl, rfl⟩
          · go_enter Tryd.func4, Tryd.ntmps4
            go_wp2_with fail
            refine (cP _).mono ?_
            rintro e w' ⟨rfl, rfl⟩
            go_wp2_with fail
            refine (cC _).mono ?_
            rintro e w1 ⟨rfl, hb⟩
            have m5 := hp1 _ hb
            have mj := hp2 _ hb
            go_wp2_with fail
            refine (cW _).mono ?_
            rintro e w' ⟨rfl, rfl⟩
            go_wp2_with (refine (cD _).mono ?_; rintro e w' ⟨rfl, rfl⟩)
            have QN := quiet_is cN w1
            have QM := quiet_is cM w1
            clear cP cC cW cD cN cM
            go_big_quiet ((first | (go_at_call 13; with_reducible exact QN.out _) | (go_at_call 13; with_reducible exact QM.out _)))
            go_wp2_with fail
            refine (cR _ (by omega)).mono ?_
            rintro e w' ⟨n, rfl, rfl⟩
            go_wp2_with fail
            refine (cS _).mono ?_
            rintro e w' ⟨rfl, rfl⟩
            go_wp2_with fail
            go_ret2
            exact ⟨rfl, below_drewN hb _⟩
          · go_enter Tryd.func4, Tryd.ntmps4
            go_wp2_with fail
            refine (cP _).mono ?_
            rintro e w' ⟨rfl, rfl⟩
            go_wp2_with fail
            refine (cC _).mono ?_
            rintro e w1 ⟨rfl, hb⟩
            have m5 := hp1 _ hb
            have mj := hp2 _ hb
            go_wp2_with fail
            refine (cW _).mono ?_
            rintro e w' ⟨rfl, rfl⟩
            go_wp2_with (refine (cD _).mono ?_; rintro e w' ⟨rfl, rfl⟩)
            have QN := quiet_is cN w1
            have QM := quiet_is cM w1
            clear cP cC cW cD cN cM
            go_big_quiet ((first | (go_at_call 13; with_reducible exact QN.out _) | (go_at_call 13; with_reducible exact QM.out _)))
            go_wp2_with fail
            refine (cR _ (by omega)).mono ?_
            rintro e w' ⟨n, rfl, rfl⟩
            go_wp2_with fail
            refine (cS _).mono ?_
            rintro e w' ⟨rfl, rfl⟩
            go_wp2_with fail
            go_ret2
            exact ⟨rfl, below_drewN hb _⟩
    · have h3 : whole (bef u) = false := by simpa using hW
      have e : okB u = false := by unfold okB; rw [h3]; rfl
      rw [if_pos e]
      rw [h3] at cW
      clear e hW h3 cD eW eF hlen
      generalize (⟨u.toArray⟩ : ByteArray) = U at *
      generalize (⟨(bef u).toArray⟩ : ByteArray) = W at *
      generalize (⟨(aft u).toArray⟩ : ByteArray) = F at *
      go_enter Tryd.func4, Tryd.ntmps4
      go_wp2_with fail
      refine (cP _).mono ?_
      rintro e w' ⟨rfl, rfl⟩
      go_wp2_with fail
      refine (cC _).mono ?_
      rintro e w1 ⟨rfl, hb⟩
      go_wp2_with fail
      refine (cW _).mono ?_
      rintro e w' ⟨rfl, rfl⟩
      go_wp2_with fail
      go_ret2
      exact ⟨rfl, hb⟩
end Go.Proofs.YtgfahenhobnjpaaDoor

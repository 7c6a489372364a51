import Derived.Test.YtnfdoflmdlomhaaGreatDoorM10
/-
  The reference's names, and lists of names. No conditions beyond those that each names.
-/
namespace Go.Proofs.YtnfdoflmdlomhaaGreatDoor
open Go.RowKit
theorem ret_bool3 {a b : Bool} {w : World} (h : a = true ↔ b = true) : Is (.bool b) w (.returned (.bool a)) w := ⟨by rw [Bool.eq_iff_iff.2 h], rfl⟩
/-- A byte of a name, at its beginning or behind it. -/
def okc (z : Bool) (n : Nat) : Bool := (decide (97 ≤ n) && decide (n ≤ 122)) || (decide (65 ≤ n) && decide (n ≤ 90)) || (!z && (decide (n = 95) || (decide (48 ≤ n) && decide (n ≤ 57))))
theorem okc_true (c : UInt8) : okc true c.toNat = isL c := by unfold okc isL; simp
theorem okc_false (c : UInt8) : okc false c.toNat = isW c := by
  unfold okc isW isL isD
  have : (c == 95) = decide (c.toNat = 95) := by
    rw [Bool.eq_iff_iff]; simp; exact ⟨fun h => by rw [h]; rfl, fun h => UInt8.toNat_inj.1 h⟩
  rw [this]
  simp only [Bool.not_false, Bool.true_and]
  generalize (decide (97 ≤ c.toNat) && decide (c.toNat ≤ 122)) = a
  generalize (decide (65 ≤ c.toNat) && decide (c.toNat ≤ 90)) = b
  generalize (decide (48 ≤ c.toNat) && decide (c.toNat ≤ 57)) = d
  generalize decide (c.toNat = 95) = e
  cases a <;> cases b <;> cases d <;> cases e <;> rfl
theorem isL_isW {c : UInt8} (h : isL c = true) : isW c = true := by unfold isW; rw [h]; rfl
theorem isN_iff (l : List UInt8) (h1 : 1 ≤ l.length) (h2 : l.length ≤ 16) : isN l = true ↔ ∀ j (h : j < l.length), okc (decide (j = 0)) (l[j]'h).toNat = true := by
  unfold isN
  match l, h1 with
  | c :: r, _ =>
    have e0 : decide (1 ≤ (c :: r).length) = true := by simp
    have e1 : decide ((c :: r).length ≤ 16) = true := by simpa using h2
    rw [e0, e1]
    simp only [List.head?_cons, Option.any_some, Bool.true_and, Bool.and_eq_true, List.all_eq_true]
    constructor
    · rintro ⟨hL, hW⟩ j hj
      cases j with
      | zero => rw [decide_eq_true rfl, okc_true]; exact hL
      | succ j => rw [decide_eq_false (by omega), okc_false]; exact hW _ (List.getElem_mem hj)
    · intro h
      have h0 := h 0 (by simp)
      rw [decide_eq_true rfl, okc_true] at h0
      refine ⟨h0, fun x hx => ?_⟩
      obtain ⟨j, hj, rfl⟩ := List.mem_iff_getElem.1 hx
      cases j with
      | zero => exact isL_isW h0
      | succ j =>
        have := h (j + 1) hj
        rw [decide_eq_false (by omega), okc_false] at this
        exact this
theorem isN_out (l : List UInt8) (h : l.length < 1 ∨ 16 < l.length) : isN l = false := by
  unfold isN
  rcases h with h | h
  · rw [show decide (1 ≤ l.length) = false by rw [decide_eq_false_iff_not]; omega]; rfl
  · rw [show decide (l.length ≤ 16) = false by rw [decide_eq_false_iff_not]; omega]; simp
set_option maxRecDepth 100000 in
set_option maxHeartbeats 2000000 in
theorem refIsName_any (l : List UInt8) (w : World) (hl : l.length ≤ 9223372036854775807) :
    Calls Tryz.prog 70 #[.string (bs l)] w (Is (.bool (isN l)) w) := by
  have hsz : (bs l).size = l.length := rfl
  by_cases h0 : l.length < 1
  · rw [isN_out l (.inl h0)]
    have d1 : decide ((l.length : Int) < 1) = true := by simp; omega
    go_enter Tryz.func70, Tryz.ntmps70
    go_wp2_with fail
    go_ret
    exact ret_bool rfl
  · by_cases h16 : 16 < l.length
    · rw [isN_out l (.inr h16)]
      have d1 : decide ((l.length : Int) < 1) = false := by simp; omega
      have d2 : decide ((16 : Int) < (l.length : Int)) = true := by simp; omega
      go_enter Tryz.func70, Tryz.ntmps70
      go_wp2_with fail
      go_ret
      exact ret_bool rfl
    · have HI := Lib.hid (isN_iff l (by omega) (by omega))
      have d1 : decide ((l.length : Int) < 1) = false := by simp; omega
      have d2 : decide ((16 : Int) < (l.length : Int)) = false := by simp; omega
      have h17 : l.length ≤ 16 := by omega
      clear h0 h16 hl
      go_enter Tryz.func70, Tryz.ntmps70
      go_wp2_with fail
      go_loop [3] (fun i => ∃ k : Nat, k ≤ l.length ∧ i = .int .i64 (k : Int) ∧ Hid (∀ j (h : j < l.length), j < k → okc (decide (j = 0)) (l[j]'h).toNat = true)) (fun i => l.length - (intOf i).toNat)
      case atStart => exact ⟨0, by omega, rfl, Lib.hid fun j _ h => by omega⟩
      case round =>
        obtain ⟨k, hk, rfl, hI⟩ := hrel
        clear d1 d2
        by_cases hlt : k < l.length
        · have hlt2 : k < (bs l).size := hlt
          have hb : ((bs l)[k]'hlt2).toNat = (l[k]'hlt).toNat := rfl
          have hx : Hid (okc (decide (k = 0)) (l[k]'hlt).toNat = false → isN l = false) := Lib.hid fun e => by
            rw [Bool.eq_false_iff]
            intro h
            rw [HI.out.1 h k hlt] at e
            cases e
          have hy : Hid (okc (decide (k = 0)) (l[k]'hlt).toNat = true → ∀ j (h : j < l.length), j < k + 1 → okc (decide (j = 0)) (l[j]'h).toNat = true) := Lib.hid fun e j h hj => by
            by_cases hjk : j < k
            · exact hI.out j h hjk
            · obtain rfl : j = k := by omega
              exact e
          generalize (l[k]'hlt).toNat = n at *
          clear hI
          by_cases hk0 : k = 0
          · subst hk0
            go_wp2_with fail
            all_goals
              first
                | (go_ret
                   exact ret_bool (Eq.symm (hx.out (by clear hx hy HI; unfold okc; simp; (try simp only [Bool.not_eq_eq_eq_not, Bool.not_true, decide_eq_false_iff_not] at *); omega))))
                | (go_round
                   case rel => exact ⟨1, by omega, rfl, Lib.hid (hy.out (by clear hx hy HI; unfold okc; simp; (try simp only [Bool.not_eq_eq_eq_not, Bool.not_false, decide_eq_true_eq] at *); omega))⟩
                   case measure => simp [intOf]; omega)
          · have dk : ((k : Int) == 0) = false := by simp; omega
            rw [decide_eq_false hk0] at hx hy
            go_wp2_with fail
            all_goals
              first
                | (go_ret
                   exact ret_bool (Eq.symm (hx.out (by clear hx hy HI; unfold okc; simp; (try simp only [Bool.not_eq_eq_eq_not, Bool.not_true, decide_eq_false_iff_not, beq_eq_false_iff_ne, ne_eq] at *); omega))))
                | (go_round
                   case rel => exact ⟨k + 1, by omega, by go_num, Lib.hid (hy.out (by clear hx hy HI; unfold okc; simp; (try simp only [Bool.not_eq_eq_eq_not, Bool.not_false, decide_eq_true_eq, beq_iff_eq, beq_eq_false_iff_ne, ne_eq] at *); omega))⟩
                   case measure => simp [intOf]; omega)
        · obtain rfl : k = l.length := by omega
          have E := Lib.hid (HI.out.2 fun j h => hI.out j h h)
          clear hI
          go_wp2_with fail
          go_ret
          exact ret_bool E.out.symm
theorem isTn_eq (l : List UInt8) (h : isN l = true) : ∃ (c : UInt8) (h0 : 0 < l.length), l[0]'h0 = c ∧ isTn l = (decide (65 ≤ c.toNat) && decide (c.toNat ≤ 90)) := by
  match l, isN_ne h with
  | c :: r, _ => exact ⟨c, by simp, rfl, by unfold isTn; rw [h, Bool.true_and]⟩
set_option maxRecDepth 100000 in
theorem refIsType_any (l : List UInt8) (w : World) (hl : l.length ≤ 9223372036854775807) :
    Calls Tryz.prog 69 #[.string (bs l)] w (Is (.bool (isTn l)) w) := by
  have hsz : (bs l).size = l.length := rfl
  have c1 := refIsName_any l w hl
  cases h : isN l
  · rw [h] at c1
    rw [show isTn l = false by unfold isTn; rw [h]; rfl]
    go_enter Tryz.func69, Tryz.ntmps69
    go_wp2_with fail
    refine c1.mono ?_
    rintro e w' ⟨rfl, rfl⟩
    go_wp2_with fail
    go_ret
    exact ret_bool rfl
  · obtain ⟨c, h0, hc, e⟩ := isTn_eq l h
    rw [h] at c1
    rw [e]
    have h00 : 0 < (bs l).size := h0
    have hb : ((bs l)[0]'h00).toNat = c.toNat := by rw [← hc]; rfl
    generalize c.toNat = n at *
    clear hc e h
    go_enter Tryz.func69, Tryz.ntmps69
    go_wp2_with fail
    refine c1.mono ?_
    rintro e w' ⟨rfl, rfl⟩
    go_wp2_with fail
    all_goals
      go_ret
      refine ret_bool3 ?_
      simp
      try omega
/-- Lists of names in memory. -/
abbrev Nms (w : World) (l : List (List UInt8)) (v : Value) : Prop := Sl TyN 1 w l v
theorem Nms.next {w w' : World} (hb : Below w.heap.size w w') {l : List (List UInt8)} {v : Value} (h : Nms w l v) : Nms w' l v := Sl.next (fun _ _ => TyN.next hb) h
theorem notin_succ {l : List (List UInt8)} {k : Nat} {x : List UInt8} (h : (l.take k).contains x = false) (hk : k < l.length) (hx : l[k]'hk ≠ x) : (l.take (k + 1)).contains x = false := by
  rw [List.take_succ_eq_append_getElem hk]
  rw [List.contains_eq_mem] at h ⊢
  simp only [decide_eq_false_iff_not, List.mem_append, List.mem_singleton] at h ⊢
  exact fun e => e.elim h (fun e => hx e.symm)
theorem in_of {l : List (List UInt8)} {k n : Nat} {x : List UInt8} (hk : k < l.length) (hkn : k < n) (hx : l[k]'hk = x) : (l.take n).contains x = true := by
  rw [List.contains_iff_mem]
  have : k < (l.take n).length := by simp; omega
  have e : (l.take n)[k]'this = x := by rw [List.getElem_take]; exact hx
  rw [← e]
  exact List.getElem_mem this
set_option maxRecDepth 100000 in
set_option maxHeartbeats 1000000 in
theorem refIn_any (l : List (List UInt8)) (n : Nat) (x : List UInt8) (v : Value) (w : World) (hl : l.length ≤ 1000000) (h : Nms w l v) :
    Calls Tryz.prog 46 #[v, .int .i64 (n : Int), .string (bs x)] w (Is (.bool ((l.take n).contains x)) w) := by
  obtain ⟨A, c, rfl, hR⟩ := h
  obtain ⟨m, hm⟩ : ∃ m, l.length = m := ⟨_, rfl⟩
  have HM := Lib.hid hm
  rw [hm] at hl ⊢
  clear hm
  obtain ⟨r, hr⟩ : ∃ r, (l.take n).contains x = r := ⟨_, rfl⟩
  rw [hr]
  have HR := Lib.hid hr
  clear hr
  go_enter Tryz.func46, Tryz.ntmps46
  go_wp2_with fail
  go_loop [7] (fun i => ∃ k : Nat, k ≤ m ∧ k ≤ n ∧ i = .int .i64 (k : Int) ∧ Hid ((l.take k).contains x = false)) (fun i => m - (intOf i).toNat)
  case atStart => exact ⟨0, by omega, by omega, rfl, Lib.hid rfl⟩
  case round =>
    obtain ⟨k, hk, hkn, rfl, hI⟩ := hrel
    by_cases hn : k < n
    · by_cases hlt : k < m
      · obtain ⟨a, rfl, hA⟩ := hR.get (i := k) (by rw [HM.out]; exact hlt)
        rw [Nat.mul_one] at hA
        have hx : l[k]'(by rw [HM.out]; exact hlt) = x → (l.take n).contains x = true := fun e => in_of _ hn e
        have hy : l[k]'(by rw [HM.out]; exact hlt) ≠ x → (l.take (k + 1)).contains x = false := fun e => notin_succ hI.out _ e
        generalize l[k]'(by rw [HM.out]; exact hlt) = y at *
        have h0 : w.cell? (a.add k) = some (.string (bs y)) := hA
        clear hA hR hI
        by_cases e : y = x
        · have E := Lib.hid (hx e)
          subst e
          have q1 := sq_t y
          clear hx hy
          go_wp2_with fail
          go_ret
          exact ret_bool (E.out.symm.trans HR.out)
        · have E := Lib.hid (hy e)
          have q1 := sq_f e
          clear hx hy
          go_wp2_with fail
          go_round
          case rel => exact ⟨k + 1, by omega, by omega, by go_num, E⟩
          case measure => simp [intOf]; omega
      · obtain rfl : k = m := by omega
        have E := Lib.hid (show (l.take n).contains x = false by
          have := hI.out
          rw [List.take_of_length_le (by rw [HM.out]; exact Nat.le_refl _)] at this
          rw [List.take_of_length_le (by rw [HM.out]; omega)]
          exact this)
        clear hI hR
        go_wp2_with fail
        go_ret
        exact ret_bool (E.out.symm.trans HR.out)
    · obtain rfl : k = n := by omega
      clear hR
      go_wp2_with fail
      go_ret
      exact ret_bool (hI.out.symm.trans HR.out)
set_option maxRecDepth 100000 in
theorem refPlain_any (t : Ty) (v : Value) (w : World) (h : TyV w t v) (_hl : t.elem.length ≤ 9223372036854775807) :
    Calls Tryz.prog 94 #[v] w (Ib (.bool (decide (t.elem.length = 0))) w) := by
  obtain ⟨A, c, rfl, -⟩ := h
  have e : decide (t.elem.length = 0) = ((t.elem.length : Int) == 0) := by rw [Bool.eq_iff_iff]; simp
  rw [e]
  generalize t.elem.length = n at *
  go_enter Tryz.func94, Tryz.ntmps94
  go_wp2_with fail
  go_ret
  exact ⟨rfl, ab1 _ _⟩
set_option maxRecDepth 100000 in
set_option maxHeartbeats 1000000 in
theorem lawHas_any (l : List (List UInt8)) (x : List UInt8) (v : Value) (w : World) (hl : l.length ≤ 1000000) (h : Nms w l v) :
    Calls Tryz.prog 28 #[v, .string (bs x)] w (Is (.bool (l.contains x)) w) := by
  obtain ⟨A, c, rfl, hR⟩ := h
  obtain ⟨m, hm⟩ : ∃ m, l.length = m := ⟨_, rfl⟩
  have HM := Lib.hid hm
  rw [hm] at hl ⊢
  clear hm
  obtain ⟨r, hr⟩ : ∃ r, l.contains x = r := ⟨_, rfl⟩
  rw [hr]
  have HR := Lib.hid hr
  clear hr
  go_enter Tryz.func28, Tryz.ntmps28
  go_wp2_with fail
  go_loop [5] (fun i => ∃ k : Nat, k ≤ m ∧ i = .int .i64 (k : Int) ∧ Hid ((l.take k).contains x = false)) (fun i => m - (intOf i).toNat)
  case atStart => exact ⟨0, by omega, rfl, Lib.hid rfl⟩
  case round =>
    obtain ⟨k, hk, rfl, hI⟩ := hrel
    by_cases hlt : k < m
    · obtain ⟨a, rfl, hA⟩ := hR.get (i := k) (by rw [HM.out]; exact hlt)
      rw [Nat.mul_one] at hA
      have hx : l[k]'(by rw [HM.out]; exact hlt) = x → l.contains x = true := fun e => by
        have := in_of (n := m) (by rw [HM.out]; exact hlt) hlt e
        rwa [List.take_of_length_le (by rw [HM.out]; exact Nat.le_refl _)] at this
      have hy : l[k]'(by rw [HM.out]; exact hlt) ≠ x → (l.take (k + 1)).contains x = false := fun e => notin_succ hI.out _ e
      generalize l[k]'(by rw [HM.out]; exact hlt) = y at *
      have h0 : w.cell? (a.add k) = some (.string (bs y)) := hA
      clear hA hR hI
      by_cases e : y = x
      · have E := Lib.hid (hx e)
        subst e
        have q1 := sq_t y
        clear hx hy
        go_wp2_with fail
        go_ret
        exact ret_bool (E.out.symm.trans HR.out)
      · have E := Lib.hid (hy e)
        have q1 := sq_f e
        clear hx hy
        go_wp2_with fail
        go_round
        case rel => exact ⟨k + 1, by omega, by go_num, E⟩
        case measure => simp [intOf]; omega
    · obtain rfl : k = m := by omega
      have E := Lib.hid (show l.contains x = false by
        have := hI.out
        rwa [List.take_of_length_le (by rw [HM.out]; exact Nat.le_refl _)] at this)
      clear hI hR
      go_wp2_with fail
      go_ret
      exact ret_bool (E.out.symm.trans HR.out)
set_option maxRecDepth 100000 in
set_option maxHeartbeats 1000000 in
theorem lawNames_any (l m : List (List UInt8)) (u v : Value) (w : World) (_hl : l.length ≤ 1000000) (hm : m.length ≤ 1000000) (h : Nms w l u) (k : Nms w m v) :
    Calls Tryz.prog 25 #[u, v] w (Ib (.bool (decide (l = m))) w) := by
  obtain ⟨A, c, rfl, hR⟩ := h
  obtain ⟨A2, c2, rfl, hR2⟩ := k
  obtain ⟨r, hr⟩ : ∃ r, decide (l = m) = r := ⟨_, rfl⟩
  rw [hr]
  have HR := Lib.hid hr
  clear hr
  by_cases hlm : l.length = m.length
  · have d1 : ((l.length : Int) != (m.length : Int)) = false := by simp; omega
    obtain ⟨n, hn⟩ : ∃ n, m.length = n := ⟨_, rfl⟩
    have HM := Lib.hid hn
    have HL := Lib.hid (hlm.trans hn)
    rw [hlm, hn] at d1
    rw [hlm]
    rw [hn] at hm ⊢
    clear hlm hn
    go_enter Tryz.func25, Tryz.ntmps25
    go_wp2_with fail
    go_loopw [5] (fun i wr => ∃ (k q : Nat), k ≤ n ∧ i = .int .i64 (k : Int) ∧ wr = w.drewN q ∧ Hid (∀ j (h : j < l.length) (h2 : j < m.length), j < k → l[j]'h = m[j]'h2)) (fun i _ => n - (intOf i).toNat)
    case atStart => exact ⟨0, 0, by omega, rfl, rfl, Lib.hid fun j _ _ h => by omega⟩
    case round =>
      obtain ⟨k, q, hk, rfl, rfl, hI⟩ := hrel
      clear d1
      by_cases hlt : k < n
      · obtain ⟨a, rfl, hA⟩ := hR.get (i := k) (by rw [HL.out]; exact hlt)
        obtain ⟨b, rfl, hB⟩ := hR2.get (i := k) (by rw [HM.out]; exact hlt)
        rw [Nat.mul_one] at hA hB
        have hx : l[k]'(by rw [HL.out]; exact hlt) ≠ m[k]'(by rw [HM.out]; exact hlt) → decide (l = m) = false := fun e => by
          rw [decide_eq_false_iff_not]; intro h; subst h; exact e rfl
        have hy : l[k]'(by rw [HL.out]; exact hlt) = m[k]'(by rw [HM.out]; exact hlt) → ∀ j (h : j < l.length) (h2 : j < m.length), j < k + 1 → l[j]'h = m[j]'h2 := fun e j h h2 hj => by
          by_cases hjk : j < k
          · exact hI.out j h h2 hjk
          · obtain rfl : j = k := by omega
            exact e
        generalize l[k]'(by rw [HL.out]; exact hlt) = y at *
        generalize m[k]'(by rw [HM.out]; exact hlt) = z at *
        have h0 : w.cell? (a.add k) = some (.string (bs y)) := hA
        have h1 : w.cell? (b.add k) = some (.string (bs z)) := hB
        clear hA hR hI hB hR2
        by_cases e : y = z
        · have E := Lib.hid (hy e)
          subst e
          have q1 := sn_t y
          have q2 := sq_t y
          clear hx hy
          go_wp2_with fail
          go_quiet (fail)
          go_wp2_with fail
          go_roundw
          case rel => exact ⟨k + 1, _, by omega, by go_num, rfl, E⟩
          case measure => simp [intOf]; omega
        · have E := Lib.hid (hx e)
          have q1 := sn_f e
          have q2 := sq_f e
          clear hx hy
          go_wp2_with fail
          go_quiet (fail)
          go_wp2_with fail
          go_ret
          obtain rfl := E.out.symm.trans HR.out
          exact ⟨rfl, below_drewN (below_drewN (Below.refl _ _) _) _⟩
      · obtain rfl : k = n := by omega
        have E := Lib.hid (show decide (l = m) = true by
          rw [decide_eq_true_eq]
          refine List.ext_getElem (by rw [HL.out, HM.out]) fun j h h2 => hI.out j h h2 (by rw [← HL.out]; exact h))
        clear hI hR hR2
        go_wp2_with fail
        go_ret
        obtain rfl := E.out.symm.trans HR.out
        exact ⟨rfl, below_drewN (Below.refl _ _) _⟩
  · have d1 : ((l.length : Int) != (m.length : Int)) = true := by simp; omega
    obtain rfl : false = r := by rw [← HR.out, eq_comm, decide_eq_false_iff_not]; intro h; exact hlm (by rw [h])
    generalize l.length = a at *
    generalize m.length = b at *
    go_enter Tryz.func25, Tryz.ntmps25
    go_wp2_with fail
    go_ret
    exact ⟨rfl, Below.refl _ _⟩
end Go.Proofs.YtnfdoflmdlomhaaGreatDoor
/-
  The reference's sizes of types: level, FewType. No conditions beyond those that each names.
-/
namespace Go.Proofs.YtnfdoflmdlomhaaGreatDoor
open Go.RowKit
/-- How many lists a type has within one another. -/
def dpt : Ty → Nat
  | .mk _ _ _ e => dpts e
where dpts : List Ty → Nat
  | [] => 0
  | t :: ts => max (1 + dpt t) (dpts ts)
def dpe (e : List Ty) (left k : Nat) : Nat := ((e.take k).map fun t => 1 + min left (dpt t)).foldl max 0
theorem foldl_max_snoc (l : List Nat) (x : Nat) : (l ++ [x]).foldl max 0 = max (l.foldl max 0) x := by rw [List.foldl_append]; rfl
theorem foldl_max_cons (a : Nat) (l : List Nat) (z : Nat) : (a :: l).foldl max z = max a (l.foldl max z) := by
  induction l generalizing a z with
  | nil => simp [Nat.max_comm]
  | cons b l ih =>
    rw [List.foldl_cons, ih b (max z a)]
    rw [ih b z]
    have : l.foldl max (max z a) = max a (l.foldl max z) := by
      have := ih a z
      rwa [List.foldl_cons] at this
    rw [this]
    omega
theorem dpts_le (n : Nat) : ∀ e : List Ty, (e.map fun t => 1 + min n (dpt t)).foldl max 0 = min (n + 1) (dpt.dpts e)
  | [] => by rw [dpt.dpts]; simp
  | t :: ts => by
    rw [List.map_cons, foldl_max_cons, dpts_le n ts, dpt.dpts]
    omega
theorem dpt_elem (t : Ty) : dpt t = dpt.dpts t.elem := by cases t; rw [dpt]; rfl
theorem dpe_all (t : Ty) (n : Nat) : dpe t.elem n t.elem.length = min (n + 1) (dpt t) := by
  unfold dpe
  rw [List.take_length, dpts_le, dpt_elem]
theorem dpe_succ {e : List Ty} {k : Nat} (h : k < e.length) (n : Nat) : dpe e n (k + 1) = max (dpe e n k) (1 + min n (dpt (e[k]'h))) := by
  unfold dpe
  rw [List.take_succ_eq_append_getElem h, List.map_append, List.map_singleton, foldl_max_snoc]
theorem dpe_le (e : List Ty) (n k : Nat) : dpe e n k ≤ n + 1 := by
  unfold dpe
  rw [foldl_max_le]
  exact ⟨by omega, fun x hx => by
    obtain ⟨t, -, rfl⟩ := List.mem_map.1 hx
    omega⟩
theorem size_elem {t : Ty} {i : Nat} (h : i < t.elem.length) : SizeOf.sizeOf (t.elem[i]'h) < SizeOf.sizeOf t := by
  obtain ⟨k, s, n, e⟩ := t
  have h1 : SizeOf.sizeOf (e[i]'h) < SizeOf.sizeOf e := List.sizeOf_lt_of_mem (List.getElem_mem h)
  have h2 := Ty.mk.sizeOf_spec k s n e
  show SizeOf.sizeOf (e[i]'h) < SizeOf.sizeOf (Ty.mk k s n e)
  omega
/-- Go's own bound of a slice's length, at each list of elements. -/
def lok : Ty → Prop
  | .mk _ _ _ e => e.length ≤ 9223372036854775807 ∧ loks e
where loks : List Ty → Prop
  | [] => True
  | t :: ts => lok t ∧ loks ts
theorem loks_get : ∀ {e : List Ty} {i : Nat} (h : i < e.length), lok.loks e → lok (e[i]'h)
  | t :: ts, 0, _, hl => by rw [lok.loks] at hl; exact hl.1
  | t :: ts, i + 1, h, hl => by
    rw [lok.loks] at hl
    have := loks_get (e := ts) (i := i) (by simpa using h) hl.2
    simpa using this
theorem lok_get {t : Ty} (hl : lok t) {i : Nat} (h : i < t.elem.length) : lok (t.elem[i]'h) := by
  obtain ⟨k, s, n, e⟩ := t
  rw [lok] at hl
  exact loks_get h hl.2
theorem lok_len {t : Ty} (hl : lok t) : t.elem.length ≤ 9223372036854775807 := by
  obtain ⟨k, s, n, e⟩ := t
  rw [lok] at hl
  exact hl.1
set_option maxRecDepth 100000 in
set_option maxHeartbeats 2000000 in
theorem level_any (N : Nat) : ∀ (t : Ty) (n : Nat) (v : Value) (w : World), SizeOf.sizeOf t < N → n ≤ 1000 → lok t → TyV w t v →
    Calls Tryz.prog 57 #[v, .int .i64 (n : Int)] w (Ib (.int .i64 ((min n (dpt t) : Nat) : Int)) w) := by
  induction N with
  | zero => intro t n v w h; omega
  | succ N ih =>
    intro t n v w hN hn hlk hv
    have hmm := lok_len hlk
    obtain ⟨A, c, rfl, hR⟩ := hv
    have HR0 := hR
    obtain ⟨m, hm⟩ : ∃ m, t.elem.length = m := ⟨_, rfl⟩
    have HM := Lib.hid hm
    rw [hm] at hmm ⊢
    clear hm
    have hB := Bx.new4 w 45 (.int .i64 t.kind) (.int .i64 t.size) (.string (bs t.name)) (.slice A m c)
    cases n with
    | zero =>
      rw [Nat.zero_min]
      go_enter Tryz.func57, Tryz.ntmps57
      go_wp2_with fail
      go_loop [5, 6] (fun a i => a = .int .i64 0 ∧ i = .int .i64 0) (fun _ _ => 0)
      case atStart => exact ⟨rfl, rfl⟩
      case round =>
        obtain ⟨rfl, rfl⟩ := hrel
        by_cases h0 : 0 < m
        · go_wp2_with fail
          go_ret
          exact ⟨rfl, ab1 _ _⟩
        · obtain rfl : m = 0 := by omega
          go_wp2_with fail
          go_ret
          exact ⟨rfl, ab1 _ _⟩
    | succ n =>
      have hn1 : (((n + 1 : Nat) : Int)) - 1 = (n : Int) := by omega
      have hn0 : decide ((0 : Int) < ((n + 1 : Nat) : Int)) = true := by rw [decide_eq_true_eq]; omega
      have HD := Lib.hid (dpe_all t n)
      obtain ⟨q, hq⟩ : ∃ q, n + 1 = q := ⟨_, rfl⟩
      rw [hq] at HD hn hn1 hn0 ⊢
      obtain ⟨r, hr⟩ : ∃ r, min q (dpt t) = r := ⟨_, rfl⟩
      rw [hr] at HD ⊢
      have hqn : n ≤ 1000 := by omega
      clear hr
      have Hq := Lib.hid hq
      clear hq hR
      go_enter Tryz.func57, Tryz.ntmps57
      go_wp2_with fail
      go_loopw [5, 6] (fun a i wr => ∃ (k x : Nat), k ≤ m ∧ i = .int .i64 (k : Int) ∧ a = .int .i64 (x : Int) ∧ x ≤ 1001 ∧ Hid (x = dpe t.elem n k) ∧ Bx wr w.heap.size [.int .i64 t.kind, .int .i64 t.size, .string (bs t.name), .slice A m c] ∧ Below w.heap.size w wr) (fun _ i _ => m - (intOf i).toNat)
      case atStart => exact ⟨0, 0, by omega, rfl, rfl, by omega, Lib.hid rfl, hB, ab1 _ _⟩
      case round =>
        obtain ⟨k, x, hk, rfl, rfl, hx1, hx, hBr, hb⟩ := hrel
        have c3 := hBr.c 3 rfl
        by_cases hlt : k < m
        · obtain ⟨a, rfl, hA⟩ := HR0.get (i := k) (by rw [HM.out]; exact hlt)
          have hA := TyA.next hb _ _ hA
          obtain ⟨A3, c4, h0, h1, h2, h3, hV⟩ := hA.val
          have hblk : (a.add (k * 4)).block < wr.heap.size := blk_lt h0
          have cL := ih (t.elem[k]'(by rw [HM.out]; exact hlt)) n _ wr (by have := size_elem (t := t) (i := k) (by rw [HM.out]; exact hlt); omega) hqn (lok_get hlk _) hV
          have hsu := dpe_succ (e := t.elem) (k := k) (by rw [HM.out]; exact hlt) n
          rw [← hx.out] at hsu
          have hle := dpe_le t.elem n (k + 1)
          obtain ⟨y, hy⟩ : ∃ y, min n (dpt (t.elem[k]'(by rw [HM.out]; exact hlt))) = y := ⟨_, rfl⟩
          rw [hy] at cL hsu
          have hyn : y ≤ 1000 := by omega
          obtain ⟨x2, hx2⟩ : ∃ x2, dpe t.elem n (k + 1) = x2 := ⟨_, rfl⟩
          rw [hx2] at hsu hle
          have Hx2 := Lib.hid hx2.symm
          have Hs := Lib.hid hsu
          generalize t.elem[k]'(by rw [HM.out]; exact hlt) = u at *
          clear hy hx2 hsu HR0 hx hA HD ih hlk
          go_wp2_with fail
          refine cL.mono ?_
          rintro e w2 ⟨rfl, hb2⟩
          by_cases hxy : x < 1 + y
          · have d1 : decide ((x : Int) < 1 + (y : Int)) = true := by simp; omega
            have hx3 : (1 : Int) + (y : Int) = (x2 : Int) := by have := Hs.out; omega
            go_wp2_with fail
            go_roundw
            case rel => exact ⟨k + 1, x2, by omega, by go_num, rfl, by omega, Hx2, hBr.next hb2, Below.next hb hb2⟩
            case measure => simp [intOf]; omega
          · have d1 : decide ((x : Int) < 1 + (y : Int)) = false := by simp; omega
            have hx3 : x2 = x := by have := Hs.out; omega
            subst hx3
            go_wp2_with fail
            go_roundw
            case rel => exact ⟨k + 1, _, by omega, by go_num, rfl, by omega, Hx2, hBr.next hb2, Below.next hb hb2⟩
            case measure => simp [intOf]; omega
        · obtain rfl : k = m := by omega
          obtain rfl : x = r := by rw [hx.out, ← HD.out, HM.out]
          clear HR0 hx HD ih
          go_wp2_with fail
          go_ret
          exact ⟨rfl, hb⟩
/-- Small enough to be examined. -/
def fewT : Ty → Bool
  | .mk k s n e => decide (n.length ≤ 40) && (decide (e.length ≤ 3) && (decide (min 20 (dpt (.mk k s n e)) ≤ 8) && fews e))
where fews : List Ty → Bool
  | [] => true
  | t :: ts => fewT t && fews ts
theorem fews_all : ∀ e : List Ty, fewT.fews e = e.all fewT
  | [] => by rw [fewT.fews]; rfl
  | t :: ts => by rw [fewT.fews, fews_all ts]; rfl
theorem fewT_eq (t : Ty) : fewT t = (decide (t.name.length ≤ 40) && (decide (t.elem.length ≤ 3) && (decide (min 20 (dpt t) ≤ 8) && t.elem.all fewT))) := by
  obtain ⟨k, s, n, e⟩ := t
  rw [fewT, fews_all]
  rfl
theorem all_at {α : Type} {p : α → Bool} {l : List α} {k : Nat} (h : k < l.length) (hp : p (l[k]'h) = false) : l.all p = false := by
  rw [List.all_eq_false]
  exact ⟨_, List.getElem_mem h, by simp [hp]⟩
theorem all_end {α : Type} {p : α → Bool} {l : List α} (hp : ∀ j (h : j < l.length), p (l[j]'h) = true) : l.all p = true := by
  rw [List.all_eq_true]
  intro x hx
  obtain ⟨j, hj, rfl⟩ := List.mem_iff_getElem.1 hx
  exact hp j hj
set_option maxRecDepth 100000 in
set_option maxHeartbeats 2000000 in
theorem fewType_any (N : Nat) : ∀ (t : Ty) (v : Value) (w : World), SizeOf.sizeOf t < N → lok t → TyV w t v →
    Calls Tryz.prog 29 #[v] w (Ib (.bool (fewT t)) w) := by
  induction N with
  | zero => intro t v w h; omega
  | succ N ih =>
    intro t v w hN hlk hv
    have hmm := lok_len hlk
    have cL := fun W h => level_any (SizeOf.sizeOf t + 1) t 20 v W (by omega) (by omega) hlk (TyV.next h hv)
    obtain ⟨A, c, rfl, hR⟩ := hv
    have HR0 := hR
    obtain ⟨r, hr⟩ : ∃ r, fewT t = r := ⟨_, rfl⟩
    rw [hr]
    rw [fewT_eq] at hr
    obtain ⟨L, hL⟩ : ∃ L, min 20 (dpt t) = L := ⟨_, rfl⟩
    rw [hL] at hr cL
    obtain ⟨m, hm⟩ : ∃ m, t.elem.length = m := ⟨_, rfl⟩
    have HM := Lib.hid hm
    rw [hm] at hmm hr cL ⊢
    clear hm hL
    have hB := Bx.new4 w 45 (.int .i64 t.kind) (.int .i64 t.size) (.string (bs t.name)) (.slice A m c)
    have hsz : (bs t.name).size = t.name.length := rfl
    by_cases h1 : t.name.length ≤ 40
    · have d1 : decide ((40 : Int) < (t.name.length : Int)) = false := by rw [decide_eq_false_iff_not]; omega
      rw [decide_eq_true h1, Bool.true_and] at hr
      by_cases h2 : m ≤ 3
      · have d2 : decide ((3 : Int) < (m : Int)) = false := by rw [decide_eq_false_iff_not]; omega
        rw [decide_eq_true h2, Bool.true_and] at hr
        by_cases h3 : L ≤ 8
        · have d3 : decide ((8 : Int) < (L : Int)) = false := by rw [decide_eq_false_iff_not]; omega
          rw [decide_eq_true h3, Bool.true_and] at hr
          have HR := Lib.hid hr
          clear hr hR h1 h3
          go_enter Tryz.func29, Tryz.ntmps29
          go_wp2_with fail
          refine (cL _ (ab1 _ _)).mono ?_
          rintro e w1 ⟨rfl, hb1⟩
          have hB1 := hB.next hb1
          have hb2 := Below.next (ab1 _ _) hb1
          clear hB hb1
          go_wp2_with fail
          go_loopw [3] (fun i wr => ∃ k : Nat, k ≤ m ∧ i = .int .i64 (k : Int) ∧ Hid (∀ j (h : j < t.elem.length), j < k → fewT (t.elem[j]'h) = true) ∧ Bx wr w.heap.size [.int .i64 t.kind, .int .i64 t.size, .string (bs t.name), .slice A m c] ∧ Below w.heap.size w wr) (fun i _ => m - (intOf i).toNat)
          case atStart => exact ⟨0, by omega, rfl, Lib.hid fun j _ h => by omega, hB1, hb2⟩
          case round =>
            obtain ⟨k, hk, rfl, hI, hBr, hb⟩ := hrel
            have c3 := hBr.c 3 rfl
            clear cL d1 d2 d3 hB1 hb2
            by_cases hlt : k < m
            · obtain ⟨a, rfl, hA⟩ := HR0.get (i := k) (by rw [HM.out]; exact hlt)
              have hA := TyA.next hb _ _ hA
              obtain ⟨A3, c4, h0, h1, h2, h3, hV⟩ := hA.val
              have hblk : (a.add (k * 4)).block < wr.heap.size := blk_lt h0
              have cL := ih (t.elem[k]'(by rw [HM.out]; exact hlt)) _ wr (by have := size_elem (t := t) (i := k) (by rw [HM.out]; exact hlt); omega) (lok_get hlk _) hV
              have hx : fewT (t.elem[k]'(by rw [HM.out]; exact hlt)) = false → r = false := fun e => by rw [← HR.out]; exact all_at _ e
              have hy : fewT (t.elem[k]'(by rw [HM.out]; exact hlt)) = true → ∀ j (h : j < t.elem.length), j < k + 1 → fewT (t.elem[j]'h) = true := fun e j h hj => by
                by_cases hjk : j < k
                · exact hI.out j h hjk
                · obtain rfl : j = k := by omega
                  exact e
              generalize t.elem[k]'(by rw [HM.out]; exact hlt) = u at *
              generalize fewT u = b at *
              cases b
              · have E := Lib.hid (hx rfl)
                clear HR0 hA ih hlk hx hy hI
                go_wp2_with fail
                refine cL.mono ?_
                rintro e w2 ⟨rfl, hb2⟩
                go_wp2_with fail
                go_ret
                exact ⟨by rw [E.out]; rfl, Below.next hb hb2⟩
              · have E := Lib.hid (hy rfl)
                clear HR0 hA ih hlk hx hy hI
                go_wp2_with fail
                refine cL.mono ?_
                rintro e w2 ⟨rfl, hb2⟩
                go_wp2_with fail
                go_roundw
                case rel => exact ⟨k + 1, by omega, by go_num, E, hBr.next hb2, Below.next hb hb2⟩
                case measure => simp [intOf]; omega
            · obtain rfl : k = m := by omega
              obtain rfl : true = r := by rw [← HR.out]; exact (all_end fun j h => hI.out j h (by rw [← HM.out]; exact h)).symm
              clear HR0 ih hI
              go_wp2_with fail
              go_ret
              exact ⟨rfl, hb⟩
        · have d3 : decide ((8 : Int) < (L : Int)) = true := by rw [decide_eq_true_eq]; omega
          rw [decide_eq_false h3, Bool.false_and] at hr
          subst hr
          clear hR h1 h3 ih
          go_enter Tryz.func29, Tryz.ntmps29
          go_wp2_with fail
          refine (cL _ (ab1 _ _)).mono ?_
          rintro e w1 ⟨rfl, hb1⟩
          go_wp2_with fail
          go_ret
          exact ⟨rfl, Below.next (ab1 _ _) hb1⟩
      · have d2 : decide ((3 : Int) < (m : Int)) = true := by rw [decide_eq_true_eq]; omega
        rw [decide_eq_false h2, Bool.false_and] at hr
        subst hr
        clear hR h1 h2 ih cL
        go_enter Tryz.func29, Tryz.ntmps29
        go_wp2_with fail
        go_ret
        exact ⟨rfl, ab1 _ _⟩
    · have d1 : decide ((40 : Int) < (t.name.length : Int)) = true := by rw [decide_eq_true_eq]; omega
      rw [decide_eq_false h1, Bool.false_and] at hr
      subst hr
      clear hR h1 ih cL
      go_enter Tryz.func29, Tryz.ntmps29
      go_wp2_with fail
      go_ret
      exact ⟨rfl, ab1 _ _⟩
end Go.Proofs.YtnfdoflmdlomhaaGreatDoor

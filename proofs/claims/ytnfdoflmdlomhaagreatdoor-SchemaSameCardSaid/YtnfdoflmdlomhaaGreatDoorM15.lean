import Derived.Test.YtnfdoflmdlomhaaGreatDoorM14
import Derived.Test.YtnfdoflmdlomhaaGreatDoorM13
import Derived.Test.YtnfdoflmdlomhaaGreatDoorM11
/-
  The developers' definitions by name: sizes of kinds, which names there are, the type within all lists. No conditions beyond those that each names.
-/
namespace Go.Proofs.YtnfdoflmdlomhaaGreatDoor
open Go.RowKit Go.Maps
/-- The definitions of a schema, in two maps. -/
structure DfM {α : Type} (W : World) (b : Nat) (l : List α) (key : α → List UInt8) (V : World → α → Value → Prop) (f : List UInt8 → Option Value) (D : DataW Value) : Prop where
  map : ∃ n, n ≤ 1000 ∧ Mp W b n f D
  is : ∀ x, (f x).isSome = (l.map key).contains x
  val : ∀ x u, f x = some u → ∃ t ∈ l, key t = x ∧ V W t u
theorem DfM.next {α : Type} {W W' : World} {b : Nat} {l : List α} {key : α → List UInt8} {V : World → α → Value → Prop} {f : List UInt8 → Option Value} {D : DataW Value} (hV : ∀ t u, V W t u → V W' t u) (h : DfM W b l key V f D) (hb : Below W.heap.size W W') : DfM W' b l key V f D := by
  obtain ⟨n, hn, hm⟩ := h.map
  refine ⟨⟨n, hn, hm.next hb⟩, h.is, fun x u e => ?_⟩
  obtain ⟨t, h1, h2, h3⟩ := h.val x u e
  exact ⟨t, h1, h2, hV _ _ h3⟩
structure Dm (W : World) (S : Sch) (b b2 : Nat) : Prop where
  st : ∃ f D, DfM W b S.structs St.name StV f D
  en : ∃ f D, DfM W b2 S.enums En.name EnV f D
theorem Dm.next {W W' : World} {S : Sch} {b b2 : Nat} (h : Dm W S b b2) (hb : Below W.heap.size W W') : Dm W' S b b2 := by
  obtain ⟨f, D, h1⟩ := h.st
  obtain ⟨f2, D2, h2⟩ := h.en
  exact ⟨⟨f, D, h1.next (fun _ _ => StV.next hb) hb⟩, ⟨f2, D2, h2.next (fun _ _ => EnV.next hb) hb⟩⟩
theorem zeroSt (w : World) : (zeroValue 32).run Tryz.prog w = .ok (.agg #[.string ⟨#[]⟩, .slice none 0 0]) w := by kernel_rfl
theorem zeroEn (w : World) : (zeroValue 38).run Tryz.prog w = .ok (.agg #[.string ⟨#[]⟩, .slice none 0 0, .slice none 0 0]) w := by kernel_rfl
set_option maxRecDepth 100000 in
set_option maxHeartbeats 1000000 in
theorem hasStruct_any (S : Sch) (b b2 : Nat) (x : List UInt8) (w : World) (hx : x.length ≤ 9223372036854775807) (hD : Dm w S b b2) :
    Calls Tryz.prog 76 #[.agg #[.map (some b), .map (some b2)], .string (bs x)] w (Ib (.bool ((sns S).contains x)) w) := by
  obtain ⟨f, D, hd⟩ := hD.st
  obtain ⟨n, hn, hM⟩ := hd.map
  have hM1 := hM.next (ab1 w (Obj.cells #[.map (some b), .map (some b2)] 67))
  have hi := hd.is x
  obtain ⟨r, hr⟩ : ∃ r, (sns S).contains x = r := ⟨_, rfl⟩
  rw [hr]
  rw [show (f x).isSome = r from hi.trans hr] at hi
  have hv := hd.val x
  clear hi
  have hi2 : (f x).isSome = r := hd.is x ▸ hr
  clear hr
  obtain ⟨o, ho⟩ : ∃ o, f x = o := ⟨_, rfl⟩
  rw [ho] at hi2 hv
  cases o with
  | none =>
    subst hi2
    have hz : (f x).getD (.agg #[.string ⟨#[]⟩, .slice none 0 0]) = .agg #[.string ⟨#[]⟩, .slice none 0 0] := by rw [ho]; rfl
    have hz2 : (f x).isSome = false := by rw [ho]; rfl
    clear hv ho
    go_enter Tryz.func76, Tryz.ntmps76
    go_wp2_with (at_lookup; refine wpList_look_ok _ rfl (.tmp 9) (.tmp 10) 64 32 rfl Tryz.underlying64 (zeroSt _) hM1 rfl hx rfl ?_; rw [hz, hz2])
    go_ret
    exact ⟨rfl, ab2 _ _ _⟩
  | some u =>
    obtain rfl : true = r := hi2
    obtain ⟨t, -, -, hV⟩ := hv u rfl
    obtain ⟨A, c, rfl, -⟩ := hV
    have hz := congrArg (fun o => o.getD (.agg #[.string ⟨#[]⟩, .slice none 0 0])) ho
    have hz2 : (f x).isSome = true := by rw [ho]; rfl
    simp only [Option.getD_some] at hz
    clear hv ho
    go_enter Tryz.func76, Tryz.ntmps76
    go_wp2_with (at_lookup; refine wpList_look_ok _ rfl (.tmp 9) (.tmp 10) 64 32 rfl Tryz.underlying64 (zeroSt _) hM1 rfl hx rfl ?_; rw [hz, hz2])
    go_ret
    exact ⟨rfl, ab2 _ _ _⟩
set_option maxRecDepth 100000 in
set_option maxHeartbeats 1000000 in
theorem hasEnum_any (S : Sch) (b b2 : Nat) (x : List UInt8) (w : World) (hx : x.length ≤ 9223372036854775807) (hD : Dm w S b b2) :
    Calls Tryz.prog 92 #[.agg #[.map (some b), .map (some b2)], .string (bs x)] w (Ib (.bool ((ens S).contains x)) w) := by
  obtain ⟨f, D, hd⟩ := hD.en
  obtain ⟨n, hn, hM⟩ := hd.map
  have hM1 := hM.next (ab1 w (Obj.cells #[.map (some b), .map (some b2)] 67))
  have hi := hd.is x
  obtain ⟨r, hr⟩ : ∃ r, (ens S).contains x = r := ⟨_, rfl⟩
  rw [hr]
  rw [show (f x).isSome = r from hi.trans hr] at hi
  have hv := hd.val x
  clear hi
  have hi2 : (f x).isSome = r := hd.is x ▸ hr
  clear hr
  obtain ⟨o, ho⟩ : ∃ o, f x = o := ⟨_, rfl⟩
  rw [ho] at hi2 hv
  cases o with
  | none =>
    subst hi2
    have hz : (f x).getD (.agg #[.string ⟨#[]⟩, .slice none 0 0, .slice none 0 0]) = .agg #[.string ⟨#[]⟩, .slice none 0 0, .slice none 0 0] := by rw [ho]; rfl
    have hz2 : (f x).isSome = false := by rw [ho]; rfl
    clear hv ho
    go_enter Tryz.func92, Tryz.ntmps92
    go_wp2_with (at_lookup; refine wpList_look_ok _ rfl (.tmp 9) (.tmp 10) 65 38 rfl Tryz.underlying65 (zeroEn _) hM1 rfl hx rfl ?_; rw [hz, hz2])
    go_ret
    exact ⟨rfl, ab2 _ _ _⟩
  | some u =>
    obtain rfl : true = r := hi2
    obtain ⟨t, -, -, hV⟩ := hv u rfl
    obtain ⟨A, c, A2, c2, rfl, -, -⟩ := hV
    have hz := congrArg (fun o => o.getD (.agg #[.string ⟨#[]⟩, .slice none 0 0, .slice none 0 0])) ho
    have hz2 : (f x).isSome = true := by rw [ho]; rfl
    simp only [Option.getD_some] at hz
    clear hv ho
    go_enter Tryz.func92, Tryz.ntmps92
    go_wp2_with (at_lookup; refine wpList_look_ok _ rfl (.tmp 9) (.tmp 10) 65 38 rfl Tryz.underlying65 (zeroEn _) hM1 rfl hx rfl ?_; rw [hz, hz2])
    go_ret
    exact ⟨rfl, ab2 _ _ _⟩
set_option maxRecDepth 100000 in
set_option maxHeartbeats 2000000 in
theorem isSize_any (k s : Int) (w : World) : Calls Tryz.prog 91 #[.int .i64 k, .int .i64 s] w (Is (.bool (szOk k s)) w) := by
  by_cases h1 : k = 1
  · subst h1
    go_enter Tryz.func91, Tryz.ntmps91
    go_wp2_with fail
    all_goals
      go_ret
      refine ret_bool3 ?_
      simp [szOk]
      try omega
  by_cases h2 : k = 2
  · subst h2
    go_enter Tryz.func91, Tryz.ntmps91
    go_wp2_with fail
    all_goals
      go_ret
      refine ret_bool3 ?_
      simp [szOk]
      try omega
  by_cases h3 : k = 3
  · subst h3
    go_enter Tryz.func91, Tryz.ntmps91
    go_wp2_with fail
    all_goals
      go_ret
      refine ret_bool3 ?_
      simp [szOk]
      try omega
  by_cases h4 : k = 4
  · subst h4
    go_enter Tryz.func91, Tryz.ntmps91
    go_wp2_with fail
    all_goals
      go_ret
      refine ret_bool3 ?_
      simp [szOk]
      try omega
  by_cases h5 : k = 5
  · subst h5
    go_enter Tryz.func91, Tryz.ntmps91
    go_wp2_with fail
    all_goals
      go_ret
      refine ret_bool3 ?_
      simp [szOk]
      try omega
  by_cases h6 : k = 6
  · subst h6
    go_enter Tryz.func91, Tryz.ntmps91
    go_wp2_with fail
    all_goals
      go_ret
      refine ret_bool3 ?_
      simp [szOk]
      try omega
  by_cases h7 : k = 7
  · subst h7
    go_enter Tryz.func91, Tryz.ntmps91
    go_wp2_with fail
    all_goals
      go_ret
      refine ret_bool3 ?_
      simp [szOk]
      try omega
  have hz : szOk k s = false := by simp [szOk, h1, h2, h3, h4, h5, h6, h7]
  rw [hz]
  have d1 : (k == 1) = false := by simpa using h1
  have d2 : (k == 2) = false := by simpa using h2
  have d3 : (k == 3) = false := by simpa using h3
  have d4 : (k == 4) = false := by simpa using h4
  have d5 : (k == 5) = false := by simpa using h5
  have d6 : (k == 6) = false := by simpa using h6
  have d7 : (k == 7) = false := by simpa using h7
  clear h1 h2 h3 h4 h5 h6 h7 hz
  go_enter Tryz.func91, Tryz.ntmps91
  go_wp2_with fail
  go_ret
  exact ret_bool rfl
end Go.Proofs.YtnfdoflmdlomhaaGreatDoor
/-
  The developers' valid types. No conditions beyond those that each names.
-/
namespace Go.Proofs.YtnfdoflmdlomhaaGreatDoor
open Go.RowKit Go.Maps Go.Sort
/-- Go's own bound of a name's length, in a type and within it. -/
def nok : Ty → Prop
  | .mk _ _ n e => n.length ≤ 9223372036854775807 ∧ noks e
where noks : List Ty → Prop
  | [] => True
  | t :: ts => nok t ∧ noks ts
theorem rights_len (S : Sch) (e : List Ty) (h : e.length ≠ 1) : rights S e = false := by
  match e, h with
  | [], _ => rw [rights]
  | [_], h => exact absurd rfl h
  | a :: b :: r, _ => rw [rights]; simp
set_option maxRecDepth 100000 in
set_option maxHeartbeats 4000000 in
theorem permits_any (N : Nat) : ∀ (S : Sch) (t : Ty) (b b2 : Nat) (u : Value) (w : World), SizeOf.sizeOf t < N → nok t → lok t → Dm w S b b2 → TyV w t u →
    Calls Tryz.prog 67 #[.agg #[.map (some b), .map (some b2)], u] w (Ib (.bool (right S t)) w) := by
  induction N with
  | zero => intro S t b b2 u w h; omega
  | succ N ih =>
    intro S t b b2 u w hN hnl hlk hD hT
    obtain ⟨k, s, n, e⟩ := t
    have hlen : e.length ≤ 9223372036854775807 := lok_len hlk
    have hnk := hnl
    have hn2 : n.length ≤ 9223372036854775807 := by rw [nok] at hnl; exact hnl.1
    obtain ⟨A3, c3, rfl, hR⟩ := TyV.mk_.1 hT
    obtain ⟨r, hr⟩ : ∃ r, right S (.mk k s n e) = r := ⟨_, rfl⟩
    rw [hr]
    rw [right_eq] at hr
    obtain ⟨z, hz⟩ : ∃ z, szOk k s = z := ⟨_, rfl⟩
    have cZ := fun W => isSize_any k s W
    rw [hz] at hr cZ
    cases z with
    | false =>
      rw [Bool.false_and] at hr
      subst hr
      clear hz hR hT hD ih
      go_enter Tryz.func67, Tryz.ntmps67
      go_wp2_with fail
      refine (cZ _).mono ?_
      rintro e1 w1 ⟨rfl, rfl⟩
      go_wp2_with fail
      go_ret
      exact ⟨rfl, ab2 _ _ _⟩
    | true =>
      rw [Bool.true_and] at hr
      by_cases h5 : k = 5
      · subst h5
        rw [if_pos rfl] at hr
        have hB1 := (Bx.new2 w 67 (.map (some b)) (.map (some b2))).next (ab1 _ (Obj.cells #[.int .i64 5, .int .i64 s, .string (bs n), .slice A3 e.length c3] 45))
        have hB2 := Bx.new4 (w.alloc (Obj.cells #[.map (some b), .map (some b2)] 67)) 45 (.int .i64 5) (.int .i64 s) (.string (bs n)) (.slice A3 e.length c3)
        have hz1 : (w.alloc (Obj.cells #[.map (some b), .map (some b2)] 67)).heap.size = w.heap.size + 1 := by simp
        rw [hz1] at hB2
        have hab := ab2 w (Obj.cells #[.map (some b), .map (some b2)] 67) (Obj.cells #[.int .i64 5, .int .i64 s, .string (bs n), .slice A3 e.length c3] 45)
        have k2 := fun d os => cell_regrown (hB2.c 2 rfl) d os
        have k3 := fun d os => cell_regrown (hB2.c 3 rfl) d os
        have j0 := fun d os => cell_regrown (hB1.c 0 rfl) d os
        have j1 := fun d os => cell_regrown (hB1.c 1 rfl) d os
        clear hB1 hB2 hz1 hz
        by_cases hn : n = []
        · subst hn
          rw [decide_eq_true rfl, Bool.true_and] at hr
          have q0 : (bs ([] : List UInt8)).toList = [] := toList_bs []
          have q1 : ((bs ([] : List UInt8)).toList == []) = true := by rw [toList_bs]; rfl
          by_cases hl : e.length = 1
          · obtain ⟨t, rfl⟩ : ∃ t, e = [t] := by
              match e, hl with
              | [t], _ => exact ⟨t, rfl⟩
            have hr2 : right S t = r := by rw [← hr, rights]; simp
            obtain ⟨a, rfl, hA⟩ := hR.get (i := 0) (by show 0 < 1; omega)
            rw [Nat.zero_mul] at hA
            have hA : TyA w t a := hA
            have e9 : ([t] : List Ty).length = 1 := rfl
            rw [e9] at k2 k3 j0 j1 hab ⊢
            obtain ⟨A4, c4, e0, e1, e2, e3, hV⟩ := hA.val
            have hblk : a.block < w.heap.size := blk_lt e0
            have cR := fun W h => ih S t b b2 _ W (by have h8 := Ty.mk.sizeOf_spec 5 s [] [t]; have h9 := List.cons.sizeOf_spec t []; omega) (by rw [nok, nok.noks] at hnk; exact hnk.2.1) (lok_get (t := .mk 5 s [] [t]) hlk (i := 0) (by show 0 < 1; omega)) (hD.next h) (TyV.next h hV)
            rw [hr2] at cR
            have i0 := fun d os => cell_regrown (cell_next hab e0) d os
            have i1 := fun d os => cell_regrown (cell_next hab e1) d os
            have i2 := fun d os => cell_regrown (cell_next hab e2) d os
            have i3 := fun d os => cell_regrown (cell_next hab e3) d os
            have cN := fun d os => Calls.regrown_of (cR (grow (redrawn ((w.alloc (Obj.cells #[.map (some b), .map (some b2)] 67)).alloc (Obj.cells #[.int .i64 5, .int .i64 s, .string (bs []), .slice (some a) 1 c3] 45)) d) os) (Below.next hab (below_regrown _ d os)))
            clear hT hr hr2 hR hV hA cR hlk hnk hab e0 e1 e2 e3 ih hD
            go_enter Tryz.func67, Tryz.ntmps67
            go_wp2_with fail
            refine (cZ _).mono ?_
            rintro e1 w1 ⟨rfl, rfl⟩
            go_wp2_with fail
            refine wp_region_quiet_below (by kernel_rfl) (by kernel_rfl) ?_
            repeat (quiet_step (exact cN _ _))
            refine wpQuiet_nil ?_
            intro _ hw'
            obtain ⟨⟨dq, osq⟩, hw''⟩ := hw'
            subst hw''
            go_wp2_with fail
            go_ret
            exact ⟨rfl, Below.next (ab2 _ _ _) (below_regrown _ _ _)⟩
          · have hr2 : false = r := by rw [← hr, rights_len S e hl]
            subst hr2
            generalize e.length = m at *
            have d4 : ((m : Int) == 1) = false := by rw [beq_eq_false_iff_ne]; omega
            clear hT hr hR hab ih hD hlk hnk hl j0 j1
            go_enter Tryz.func67, Tryz.ntmps67
            go_wp2_with fail
            refine (cZ _).mono ?_
            rintro e1 w1 ⟨rfl, rfl⟩
            go_wp2_with fail
            refine wp_region_quiet_below (by kernel_rfl) (by kernel_rfl) ?_
            repeat (quiet_step (fail))
            refine wpQuiet_nil ?_
            intro _ hw'
            obtain ⟨⟨dq, osq⟩, hw''⟩ := hw'
            subst hw''
            go_wp2_with fail
            go_ret
            exact ⟨rfl, Below.next (ab2 _ _ _) (below_regrown _ _ _)⟩
        · rw [decide_eq_false hn, Bool.false_and] at hr
          subst hr
          have q0 : ¬ (bs n).toList = [] := by rw [toList_bs]; exact hn
          have q1 : ((bs n).toList == []) = false := by rw [toList_bs]; simpa using hn
          generalize e.length = m at *
          clear hT hR hab ih hD hlk hnk hn j0 j1
          go_enter Tryz.func67, Tryz.ntmps67
          go_wp2_with fail
          refine (cZ _).mono ?_
          rintro e1 w1 ⟨rfl, rfl⟩
          go_wp2_with fail
          refine wp_region_quiet_below (by kernel_rfl) (by kernel_rfl) ?_
          repeat (quiet_step (fail))
          refine wpQuiet_nil ?_
          intro _ hw'
          obtain ⟨⟨dq, osq⟩, hw''⟩ := hw'
          subst hw''
          go_wp2_with fail
          go_ret
          exact ⟨rfl, Below.next (ab2 _ _ _) (below_regrown _ _ _)⟩
      · rw [if_neg h5] at hr
        have d5 : (k == 5) = false := by simpa using h5
        by_cases h6 : k = 6
        · subst h6
          rw [if_pos rfl] at hr
          have cS := fun W h => hasStruct_any S b b2 n W hn2 (hD.next h)
          generalize (sns S).contains n = y at *
          have e1 : decide (e.length = 0) = ((e.length : Int) == 0) := by rw [Bool.eq_iff_iff]; simp
          rw [e1] at hr
          have hB2 := Bx.new4 (w.alloc (Obj.cells #[.map (some b), .map (some b2)] 67)) 45 (.int .i64 6) (.int .i64 s) (.string (bs n)) (.slice A3 e.length c3)
          have hz1 : (w.alloc (Obj.cells #[.map (some b), .map (some b2)] 67)).heap.size = w.heap.size + 1 := by simp
          rw [hz1] at hB2
          generalize e.length = m at *
          clear hz hR hT hD ih hz1 hlk hnk e1
          cases y with
          | false =>
            rw [Bool.false_and] at hr
            subst hr
            go_enter Tryz.func67, Tryz.ntmps67
            go_wp2_with fail
            refine (cZ _).mono ?_
            rintro e1 w1 ⟨rfl, rfl⟩
            go_wp2_with fail
            refine (cS _ (ab2 _ _ _)).mono ?_
            rintro e1 w1 ⟨rfl, hb1⟩
            go_wp2_with fail
            go_ret
            exact ⟨rfl, Below.next (ab2 _ _ _) hb1⟩
          | true =>
            rw [Bool.true_and] at hr
            subst hr
            go_enter Tryz.func67, Tryz.ntmps67
            go_wp2_with fail
            refine (cZ _).mono ?_
            rintro e1 w1 ⟨rfl, rfl⟩
            go_wp2_with fail
            refine (cS _ (ab2 _ _ _)).mono ?_
            rintro e1 w1 ⟨rfl, hb1⟩
            have b3 := (hB2.next hb1).c 3 rfl
            clear hB2 cS
            go_wp2_with fail
            go_ret
            exact ⟨rfl, Below.next (ab2 _ _ _) hb1⟩
        · rw [if_neg h6] at hr
          have d6 : (k == 6) = false := by simpa using h6
          by_cases h7 : k = 7
          · subst h7
            rw [if_pos rfl] at hr
            have cS := fun W h => hasEnum_any S b b2 n W hn2 (hD.next h)
            generalize (ens S).contains n = y at *
            have e1 : decide (e.length = 0) = ((e.length : Int) == 0) := by rw [Bool.eq_iff_iff]; simp
            rw [e1] at hr
            have hB2 := Bx.new4 (w.alloc (Obj.cells #[.map (some b), .map (some b2)] 67)) 45 (.int .i64 7) (.int .i64 s) (.string (bs n)) (.slice A3 e.length c3)
            have hz1 : (w.alloc (Obj.cells #[.map (some b), .map (some b2)] 67)).heap.size = w.heap.size + 1 := by simp
            rw [hz1] at hB2
            generalize e.length = m at *
            clear hz hR hT hD ih hz1 hlk hnk e1
            cases y with
            | false =>
              rw [Bool.false_and] at hr
              subst hr
              go_enter Tryz.func67, Tryz.ntmps67
              go_wp2_with fail
              refine (cZ _).mono ?_
              rintro e1 w1 ⟨rfl, rfl⟩
              go_wp2_with fail
              refine (cS _ (ab2 _ _ _)).mono ?_
              rintro e1 w1 ⟨rfl, hb1⟩
              go_wp2_with fail
              go_ret
              exact ⟨rfl, Below.next (ab2 _ _ _) hb1⟩
            | true =>
              rw [Bool.true_and] at hr
              subst hr
              go_enter Tryz.func67, Tryz.ntmps67
              go_wp2_with fail
              refine (cZ _).mono ?_
              rintro e1 w1 ⟨rfl, rfl⟩
              go_wp2_with fail
              refine (cS _ (ab2 _ _ _)).mono ?_
              rintro e1 w1 ⟨rfl, hb1⟩
              have b3 := (hB2.next hb1).c 3 rfl
              clear hB2 cS
              go_wp2_with fail
              go_ret
              exact ⟨rfl, Below.next (ab2 _ _ _) hb1⟩
          · rw [if_neg h7] at hr
            have d7 : (k == 7) = false := by simpa using h7
            generalize e.length = m at *
            clear hz hR hT hD ih h5 h6 h7 hlk hnk
            by_cases hn : n = []
            · subst hn
              have q0 : (bs ([] : List UInt8)).toList = [] := toList_bs []
              have e1 : decide (m = 0) = ((m : Int) == 0) := by rw [Bool.eq_iff_iff]; simp
              rw [decide_eq_true rfl, Bool.true_and, e1] at hr
              subst hr
              go_enter Tryz.func67, Tryz.ntmps67
              go_wp2_with fail
              refine (cZ _).mono ?_
              rintro e1 w1 ⟨rfl, rfl⟩
              go_wp2_with fail
              go_ret
              exact ⟨rfl, ab2 _ _ _⟩
            · have q0 : ¬ (bs n).toList = [] := by rw [toList_bs]; exact hn
              rw [decide_eq_false hn, Bool.false_and] at hr
              subst hr
              clear hn
              go_enter Tryz.func67, Tryz.ntmps67
              go_wp2_with fail
              refine (cZ _).mono ?_
              rintro e1 w1 ⟨rfl, rfl⟩
              go_wp2_with fail
              go_ret
              exact ⟨rfl, ab2 _ _ _⟩
end Go.Proofs.YtnfdoflmdlomhaaGreatDoor
/-
  The developers' test of a struct. No conditions beyond those that each names, and what the library's variables hold.
-/
namespace Go.Proofs.YtnfdoflmdlomhaaGreatDoor
open Go.RowKit Go.Maps
/-- A field's number before number k. -/
def prv (l : List Fd) (k : Nat) : Int := if k = 0 then 0 else (l.getD (k - 1) fd0).num
set_option maxRecDepth 100000 in
set_option maxHeartbeats 4000000 in
theorem checkStruct_any (W0 : World) (S : Sch) (t : St) (v : Value) (b n b1 b2 : Nat) (l : List (List UInt8)) (w : World) (hv : StV W0 t v) (hD : Dm W0 S b1 b2) (hb0 : Below W0.heap.size W0 w) (hlow : W0.heap.size ≤ b) (hM : Ms w b n l) (hE : Env W0) (hn : n ≤ 1000)
    (h40 : t.name.length ≤ 40) (hq : t.fields.length ≤ 18) (hs : ∀ f ∈ t.fields, f.name.length ≤ 40 ∧ nok f.type ∧ lok f.type) :
    Calls Tryz.prog 40 #[v, .map (some b), .agg #[.map (some b1), .map (some b2)]] w (CkP (stErr S l t) t.name l b n w) := by
  have hmm := @run_makeMap Tryz.prog
  obtain ⟨A, c, rfl, hVf⟩ := hv
  have hblt := hM.lt
  obtain ⟨q, hm⟩ : ∃ q, t.fields.length = q := ⟨_, rfl⟩
  have HM := Lib.hid hm
  rw [hm] at hq ⊢
  have hz0 : (w.alloc (Obj.cells #[.string (bs t.name), .slice A q c] 32)).heap.size = w.heap.size + 1 := by simp
  have hB0 := (Bx.new2 w 32 (.string (bs t.name)) (.slice A q c)).next (ab1 _ (Obj.cells #[.map (some b1), .map (some b2)] 67))
  have hC0 := Bx.new2 (w.alloc (Obj.cells #[.string (bs t.name), .slice A q c] 32)) 67 (.map (some b1)) (.map (some b2))
  rw [hz0] at hC0
  obtain ⟨wa, hwa⟩ : ∃ wa, (w.alloc (Obj.cells #[.string (bs t.name), .slice A q c] 32)).alloc (Obj.cells #[.map (some b1), .map (some b2)] 67) = wa := ⟨_, rfl⟩
  have hga : w.grownBy wa (some b) := by rw [← hwa]; exact gb_of (ab2 w _ _) _
  have hba : Below W0.heap.size W0 wa := by rw [← hwa]; exact (hb0.alloc hb0.size _).alloc (Nat.le_trans hb0.size (ab1 _ _).size) _
  have hMa : Ms wa b n l := by rw [← hwa]; exact hM.next (ab2 _ _ _)
  have cA := admitT_any t.name b n l wa (by omega) (hE.next hba) hMa hn
  rw [← hwa] at cA
  rw [hwa] at hB0 hC0
  obtain ⟨r, hr⟩ : ∃ r, stErr S l t = r := ⟨_, rfl⟩
  rw [hr]
  unfold stErr at hr
  rw [hm] at hr
  have HWA := Lib.hid hwa
  clear hm hM hMa hz0 hwa
  cases g1 : isTn t.name
  · rw [g1] at cA hr
    rw [if_pos rfl] at hr
    subst hr
    clear g1
    go_enter Tryz.func40, Tryz.ntmps40
    go_wp2_with fail
    refine cA.mono ?_
    rintro e w1 ⟨rfl, hg, -, -⟩
    rw [HWA.out] at hg
    rw [show adE false l t.name = 5 from rfl]
    go_wp2_with fail
    go_ret
    exact CkP.bad (by decide) rfl (hga.trans hg)
  · rw [g1] at cA hr
    rw [if_neg (by decide)] at hr
    cases g2 : l.contains t.name
    · rw [g2, if_neg (by decide)] at hr
      have ha : adE true l t.name = 0 := by unfold adE; rw [g2]; rfl
      have HR := Lib.hid hr
      have ha := Lib.hid ha
      clear g1 g2 hr
      go_enter Tryz.func40, Tryz.ntmps40
      go_wp2_with fail
      refine cA.mono ?_
      rintro e w1 ⟨rfl, hg, -, hz⟩
      rw [HWA.out] at hg
      rw [ha.out]
      have hM1 := hz ha.out
      have hB1 := hB0.kept hg (by omega)
      have hC1 := hC0.kept hg (by omega)
      have x0 := hB1.c 0 rfl
      have x1 := hB1.c 1 rfl
      have hb1 := hba.grown hg hba.size (fun k hk => by cases hk; exact hlow)
      have hE1 : Env w1 := hE.next hb1
      have hgw := hga.trans hg
      have hN0 := Ms.made w1
      have hlt0 := hC1.lt
      have hltb := hB1.lt
      have hB2 := hB1.next (ab1 w1 (.map #[] 0))
      have hC2 := hC1.next (ab1 w1 (.map #[] 0))
      clear hz hB0 hC0 cA hga hba HWA
      go_wp2_with fail
      clear x0 x1
      go_loopw [9, 24] (fun p i wr => ∃ (k : Nat) (z : Int), k ≤ q ∧ i = .int .i64 (k : Int) ∧ p = .int .i64 z ∧ Hid (z = prv t.fields k) ∧ Hid (∀ j, j < k → fdErr S t j = 0) ∧ Bx wr w.heap.size [.string (bs t.name), .slice A q c] ∧ Bx wr (w.heap.size + 1) [.map (some b1), .map (some b2)] ∧ Ms wr w1.heap.size k ((t.fields.take k).map Fd.name) ∧ Below w1.heap.size w1 wr) (fun _ i _ => q - (intOf i).toNat)
      case atStart => exact ⟨0, 0, by omega, rfl, rfl, Lib.hid rfl, Lib.hid fun j h => by omega, hB2, hC2, hN0, ab1 _ _⟩
      case round =>
        obtain ⟨k, zp, hk, rfl, rfl, hZ, hI, hBr, hCr, hN, hbr⟩ := hrel
        have hbW := Below.next hb1 hbr
        have hlt1 : w1.heap.size < wr.heap.size := hN.lt
        clear hN0 hB2 hC2
        by_cases hlt : k < q
        · obtain ⟨a, rfl, hA⟩ := hVf.get (i := k) (by rw [HM.out]; exact hlt)
          have hkm : k < t.fields.length := by rw [HM.out]; exact hlt
          have hnx : (t.fields.take (k + 1)).map Fd.name = (t.fields.take k).map Fd.name ++ [(t.fields[k]'hkm).name] := by rw [List.take_succ_eq_append_getElem hkm, List.map_append]; rfl
          have hcs := fdErr_cases S t k
          have hpv : prv t.fields (k + 1) = (t.fields[k]'hkm).num := by unfold prv; rw [if_neg (by omega), Nat.add_sub_cancel, getD_of hkm]
          have hz1 : (0 < k ∧ (t.fields[k]'hkm).num ≤ (t.fields.getD (k - 1) fd0).num) → (t.fields[k]'hkm).num ≤ zp := fun h => by
            rw [hZ.out]; unfold prv; rw [if_neg (by omega)]; exact h.2
          have hz2 : 1 ≤ (t.fields[k]'hkm).num → (0 < k → (t.fields.getD (k - 1) fd0).num < (t.fields[k]'hkm).num) → ¬ (t.fields[k]'hkm).num ≤ zp := fun h0 h => by
            rw [hZ.out]; unfold prv
            by_cases hk0 : k = 0
            · rw [if_pos hk0]; omega
            · rw [if_neg hk0]; have := h (by omega); omega
          rw [getD_of hkm] at hcs
          obtain ⟨hs1, hs2, hs3⟩ := hs _ (List.getElem_mem hkm)
          obtain ⟨A3, c3, f0, f1, f2, f3, f4, f5, f6, -, hT⟩ := hA.val
          replace f0 := cell_next hbW f0
          replace f1 := cell_next hbW f1
          replace f2 := cell_next hbW f2
          replace f3 := cell_next hbW f3
          replace f4 := cell_next hbW f4
          replace f5 := cell_next hbW f5
          replace f6 := cell_next hbW f6
          have hblk : (a.add (k * 7)).block < wr.heap.size := blk_lt f0
          obtain ⟨o, ho⟩ : ∃ o, Obj.cells #[Value.int .i64 (t.fields[k]'hkm).num, .string (bs (t.fields[k]'hkm).name), .int .i64 (t.fields[k]'hkm).type.kind, .int .i64 (t.fields[k]'hkm).type.size, .string (bs (t.fields[k]'hkm).type.name), .slice A3 (t.fields[k]'hkm).type.elem.length c3, .bool (t.fields[k]'hkm).opt] 47 = o := ⟨_, rfl⟩
          have hG := Bx.new7 wr 47 (.int .i64 (t.fields[k]'hkm).num) (.string (bs (t.fields[k]'hkm).name)) (.int .i64 (t.fields[k]'hkm).type.kind) (.int .i64 (t.fields[k]'hkm).type.size) (.string (bs (t.fields[k]'hkm).type.name)) (.slice A3 (t.fields[k]'hkm).type.elem.length c3) (.bool (t.fields[k]'hkm).opt)
          have hbx := Below.next hbW (ab1 wr o)
          have cN := admitN_any (t.fields[k]'hkm).name w1.heap.size k ((t.fields.take k).map Fd.name) (wr.alloc o) (by omega) (hE.next hbx) (hN.next (ab1 _ _)) (by omega)
          have cP := fun W hW => permits_any (SizeOf.sizeOf (t.fields[k]'hkm).type + 1) S (t.fields[k]'hkm).type b1 b2 _ W (by omega) hs2 hs3 (hD.next hW) (hT.next hW)
          have hfe : ∀ e, fdErr S t k = e → e ≠ 0 → r = e := fun e he h0 => by rw [← HR.out]; exact fe_at hlt hI.out he h0
          have hnxt := fun h => before_succ (p := fun j => fdErr S t j = 0) hI.out (k := k) h
          have x0 := hBr.c 0 rfl
          have x1 := hBr.c 1 rfl
          rw [← ho] at cN hbx
          generalize t.fields[k]'hkm = f at *
          clear ho o
          rcases hcs with ⟨p1, pe⟩ | ⟨p1, p2, p3, pe⟩ | ⟨p1, p2, p3, p4, pe⟩ | ⟨p1, p2, p3, p4, p5, pe⟩ | ⟨p1, p2, p3, p4, p5, p6, pe⟩ | ⟨p1, p2, p3, p4, p5, p6, pe⟩
          · obtain rfl := hfe _ pe (by decide)
            clear hfe hnxt hz1 hz2 hpv hnx hA hT cN cP pe
            by_cases g5 : f.num < 1
            · have d1 : decide (f.num < 1) = true := decide_eq_true g5
              clear p1 g5
              go_wp2_with fail
              go_ret
              exact CkP.bad (by decide) rfl (gb_next hgw (Below.next hbr (ab1 _ _)))
            · have d1 : decide (f.num < 1) = false := decide_eq_false g5
              have d2 : decide (127 < f.num) = true := by rw [decide_eq_true_eq]; omega
              clear p1 g5
              go_wp2_with fail
              go_ret
              exact CkP.bad (by decide) rfl (gb_next hgw (Below.next hbr (ab1 _ _)))
          · obtain rfl := hfe _ pe (by decide)
            have d1 : decide (f.num < 1) = false := by rw [decide_eq_false_iff_not]; omega
            have d2 : decide (127 < f.num) = false := by rw [decide_eq_false_iff_not]; omega
            have d3 : decide (f.num ≤ zp) = true := decide_eq_true (hz1 p3)
            clear hfe hnxt hz1 hz2 hpv hnx hA hT cN cP pe p1 p2 p3
            go_wp2_with fail
            go_ret
            exact CkP.bad (by decide) rfl (gb_next hgw (Below.next hbr (ab1 _ _)))
          · obtain rfl := hfe _ pe (by decide)
            have pe2 := Lib.hid (hz2 p1 p3)
            have d3 : decide (f.num ≤ zp) = false := decide_eq_false pe2.out
            clear hfe hnxt hz1 hpv hnx hA hT cP pe
            have d1 : decide (f.num < 1) = false := by rw [decide_eq_false_iff_not]; omega
            have d2 : decide (127 < f.num) = false := by rw [decide_eq_false_iff_not]; omega
            have d3 : decide (f.num ≤ zp) = false := decide_eq_false (hz2 p1 p3)
            have HA2 := Lib.hid (show adE (isN f.name) ((t.fields.take k).map Fd.name) f.name = 5 by unfold adE; rw [p4]; rfl)
            go_wp2_with fail
            refine cN.mono ?_
            rintro e w2 ⟨rfl, hg2, -, hq2⟩
            rw [HA2.out]
            clear hq2 p1 p2 p3 p4 hz2
            go_wp2_with fail
            go_ret
            exact CkP.bad (by decide) rfl (gb_next hgw ((Below.next hbr (ab1 _ _)).grown hg2 (Below.next hbr (ab1 _ _)).size (fun k hk => by cases hk; exact Nat.le_refl _)))
          · obtain rfl := hfe _ pe (by decide)
            clear hfe hnxt hz1 hpv hnx hA hT cP pe
            have d1 : decide (f.num < 1) = false := by rw [decide_eq_false_iff_not]; omega
            have d2 : decide (127 < f.num) = false := by rw [decide_eq_false_iff_not]; omega
            have d3 : decide (f.num ≤ zp) = false := decide_eq_false (hz2 p1 p3)
            have HA2 := Lib.hid (show adE (isN f.name) ((t.fields.take k).map Fd.name) f.name = 7 by unfold adE; rw [p4, p5]; rfl)
            go_wp2_with fail
            refine cN.mono ?_
            rintro e w2 ⟨rfl, hg2, -, hq2⟩
            rw [HA2.out]
            clear hq2 p1 p2 p3 p4 p5 hz2
            go_wp2_with fail
            go_ret
            exact CkP.bad (by decide) rfl (gb_next hgw ((Below.next hbr (ab1 _ _)).grown hg2 (Below.next hbr (ab1 _ _)).size (fun k hk => by cases hk; exact Nat.le_refl _)))
          · obtain rfl := hfe _ pe (by decide)
            clear hfe hnxt hz1 hpv hnx hA hT pe
            have d1 : decide (f.num < 1) = false := by rw [decide_eq_false_iff_not]; omega
            have d2 : decide (127 < f.num) = false := by rw [decide_eq_false_iff_not]; omega
            have d3 : decide (f.num ≤ zp) = false := decide_eq_false (hz2 p1 p3)
            have HA2 := Lib.hid (show adE (isN f.name) ((t.fields.take k).map Fd.name) f.name = 0 by unfold adE; rw [p4, p5]; rfl)
            go_wp2_with fail
            refine cN.mono ?_
            rintro e w2 ⟨rfl, hg2, -, hq2⟩
            rw [HA2.out]
            have hN2 := hq2 HA2.out
            have hB3 := (hBr.next (ab1 _ _)).kept hg2 (by omega)
            have hC3 := (hCr.next (ab1 _ _)).kept hg2 (by omega)
            have hG3 := hG.kept hg2 (by omega)
            have hb3 := (Below.next hbr (ab1 _ _)).grown hg2 (Below.next hbr (ab1 _ _)).size (fun k hk => by cases hk; exact Nat.le_refl _)
            have hbW3 := hbx.grown hg2 hbx.size (fun k hk => by cases hk; exact hb1.size)
            have c0 := hC3.c 0 rfl
            have c1 := hC3.c 1 rfl
            have k0 := hG3.c 0 rfl
            have k2 := hG3.c 2 rfl
            have k3 := hG3.c 3 rfl
            have k4 := hG3.c 4 rfl
            have k5 := hG3.c 5 rfl
            clear hq2 hz2 cN
            go_wp2_with fail
            refine (cP _ hbW3).mono ?_
            rintro e w3 ⟨rfl, hb4⟩
            rw [p6]
            clear p1 p2 p3 p4 p5 p6 cP c0 c1 k0 k2 k3 k4 k5
            go_wp2_with fail
            go_ret
            exact CkP.bad (by decide) rfl (gb_next hgw (Below.next hb3 hb4))
          · have HX := Lib.hid (hnxt pe)
            have HT := Lib.hid hnx
            have HP := Lib.hid hpv.symm
            clear hfe hnxt hz1 hpv hnx hA hT pe
            have d1 : decide (f.num < 1) = false := by rw [decide_eq_false_iff_not]; omega
            have d2 : decide (127 < f.num) = false := by rw [decide_eq_false_iff_not]; omega
            have d3 : decide (f.num ≤ zp) = false := decide_eq_false (hz2 p1 p3)
            have HA2 := Lib.hid (show adE (isN f.name) ((t.fields.take k).map Fd.name) f.name = 0 by unfold adE; rw [p4, p5]; rfl)
            go_wp2_with fail
            refine cN.mono ?_
            rintro e w2 ⟨rfl, hg2, -, hq2⟩
            rw [HA2.out]
            have hN2 := hq2 HA2.out
            have hB3 := (hBr.next (ab1 _ _)).kept hg2 (by omega)
            have hC3 := (hCr.next (ab1 _ _)).kept hg2 (by omega)
            have hG3 := hG.kept hg2 (by omega)
            have hb3 := (Below.next hbr (ab1 _ _)).grown hg2 (Below.next hbr (ab1 _ _)).size (fun k hk => by cases hk; exact Nat.le_refl _)
            have hbW3 := hbx.grown hg2 hbx.size (fun k hk => by cases hk; exact hb1.size)
            have c0 := hC3.c 0 rfl
            have c1 := hC3.c 1 rfl
            have k0 := hG3.c 0 rfl
            have k2 := hG3.c 2 rfl
            have k3 := hG3.c 3 rfl
            have k4 := hG3.c 4 rfl
            have k5 := hG3.c 5 rfl
            clear hq2 hz2 cN
            go_wp2_with fail
            refine (cP _ hbW3).mono ?_
            rintro e w3 ⟨rfl, hb4⟩
            rw [p6]
            clear p1 p2 p3 p4 p5 p6 cP c0 c1 k0 k2 k3 k4 k5
            have k0 := (hG3.next hb4).c 0 rfl
            go_wp2_with fail
            go_roundw
            case rel => exact ⟨k + 1, f.num, by omega, by go_num, rfl, HP, HX, hB3.next hb4, hC3.next hb4, HT.out ▸ hN2.next hb4, Below.next hb3 hb4⟩
            case measure => simp [intOf]; omega
        · obtain rfl : k = q := by omega
          have H0 := Lib.hid (show r = 0 by rw [← HR.out]; exact fe_zero hI.out)
          have x0 := hBr.c 0 rfl
          have x1 := hBr.c 1 rfl
          clear hI
          go_wp2_with fail
          go_ret
          exact CkP.ok H0.out (gb_next hgw hbr) (hM1.next hbr)
    · rw [g2, if_pos rfl] at hr
      subst hr
      have ha : adE true l t.name = 7 := by unfold adE; rw [g2]; rfl
      clear g1 g2
      go_enter Tryz.func40, Tryz.ntmps40
      go_wp2_with fail
      refine cA.mono ?_
      rintro e w1 ⟨rfl, hg, -, -⟩
      rw [HWA.out] at hg
      rw [ha]
      go_wp2_with fail
      go_ret
      exact CkP.bad (by decide) rfl (hga.trans hg)
end Go.Proofs.YtnfdoflmdlomhaaGreatDoor

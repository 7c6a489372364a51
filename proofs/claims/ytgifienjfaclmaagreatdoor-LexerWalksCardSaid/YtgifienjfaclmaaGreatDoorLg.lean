/-
  The reference's number at a place. No conditions but Go's own bounds of a string's length.
-/
import Derived.Test.YtgifienjfaclmaaGreatDoorLe
import Derived.Test.YtgifienjfaclmaaGreatDoorLf
namespace Go.Proofs.YtgifienjfaclmaaGreatDoor
open Go.RowKit
def numRV (l : List UInt8) (a e : Nat) : Except Nat Int → Nat × Int × Nat × Nat
  | .error x => (e, 0, if x = 1 then 4 else 2, a)
  | .ok n => if l[e]?.any (fun d => isW d || d == 45) then (e, 0, 2, e) else (e, n, 0, 0)
/-- What the reference says of a number that begins at a. -/
def numR (neg : Bool) (l : List UInt8) (a : Nat) : Nat × Int × Nat × Nat :=
  numRV l a (a + neg.toNat + ((l.drop (a + neg.toNat)).takeWhile isD).length) (numOf neg ((l.drop (a + neg.toNat)).takeWhile isD))
def t4 (x : Nat × Int × Nat × Nat) : Value := .tuple #[.int .i64 (x.1 : Int), .int .i64 x.2.1, .int .i64 (x.2.2.1 : Int), .int .i64 (x.2.2.2 : Int)]
theorem numOf_cases (neg : Bool) (ds : List UInt8) : numOf neg ds = .error 1 ∨ numOf neg ds = .error 2 ∨ ∃ n, numOf neg ds = .ok n := by
  unfold numOf
  by_cases h1 : ds.length = 0 ∨ (1 < ds.length ∧ ds.head? = some 48) ∨ (neg = true ∧ ds.head? = some 48)
  · rw [if_pos h1]; exact .inr (.inl rfl)
  · rw [if_neg h1]
    by_cases h2 : (if neg then 9223372036854775808 else 9223372036854775807) < dval ds
    · rw [if_pos h2]; exact .inl rfl
    · rw [if_neg h2]; exact .inr (.inr ⟨_, rfl⟩)
set_option maxRecDepth 100000 in
set_option maxHeartbeats 2000000 in
theorem numb_pos (l : List UInt8) (a : Nat) (w : World) (hl : l.length ≤ 9223372036854700000) (ha : a < l.length) (hc : l[a]? ≠ some 45) :
    Calls Tryz.prog 26 #[.string (bs l), .int .i64 (a : Int)] w (Is (t4 (numR false l a)) w) := by
  have hsz : (bs l).size = l.length := rfl
  obtain ⟨b, hb0⟩ : ∃ b, a + 0 = b := ⟨_, rfl⟩
  obtain rfl : a = b := by omega
  have hbl : a ≤ l.length := by omega
  obtain ⟨ds, hds⟩ : ∃ ds, (l.drop a).takeWhile isD = ds := ⟨_, rfl⟩
  have hdl : a + ds.length ≤ l.length := by have := tw_le isD l a; rw [hds] at this; omega
  have hall : ∀ c ∈ ds, isD c = true := fun c h => by rw [← hds] at h; exact List.all_eq_true.1 List.all_takeWhile c h
  obtain ⟨e, he⟩ : ∃ e, a + ds.length = e := ⟨_, rfl⟩
  have hei : (a : Int) + (ds.length : Int) = (e : Int) := by omega
  have hpre : (l.drop a).take ds.length = ds := by
    have := List.prefix_iff_eq_take.1 (List.takeWhile_prefix isD (l := l.drop a))
    rw [hds] at this
    exact this.symm
  have hsl : (bs l).extract a e = bs (ds) := by
    rw [bs_slice, List.drop_take]
    rw [show e - a = ds.length by omega, hpre]
  have c1 := fun W => number0_pos ds W hall (by omega)
  unfold numR
  rw [show a + (false : Bool).toNat = a from hb0, hds, he]
  obtain ⟨V, hV⟩ : ∃ V, numOf false ds = V := ⟨_, rfl⟩
  have hVc := numOf_cases false ds
  rw [hV] at c1 hVc ⊢
  obtain ⟨R, hR⟩ : ∃ R, numRV l a e V = R := ⟨_, rfl⟩
  rw [hR]
  have HR := Lib.hid hR
  have hlt2 : a < (bs l).size := ha
  obtain ⟨c0, hc0⟩ : ∃ c0, l[a]'ha = c0 := ⟨_, rfl⟩
  have hcv0 : ((bs l)[a]'hlt2).toNat = c0.toNat := by rw [← hc0]; rfl
  have hae : a ≤ e := by omega
  rw [List.getElem?_eq_getElem ha, hc0] at hc
  have g45 : ((c0.toNat : Int) == 45) = false := (beq_nat c0 45).symm.trans (by simpa using fun h => hc (congrArg some h))
  have f45 : ((c0.toNat : Int) = 45) = False := by simp at g45 ⊢; omega
  obtain ⟨n0, hn0⟩ : ∃ n0, c0.toNat = n0 := ⟨_, rfl⟩
  have hcv := hcv0
  clear hcv0
  rw [hn0] at hcv g45 f45
  have HD := Lib.hid hds
  clear hds hall hpre hV hR hc0 hc hn0
  go_enter Tryz.func26, Tryz.ntmps26
  go_wp2_with fail
  go_loop [8] (fun i => ∃ j : Nat, a ≤ j ∧ j ≤ e ∧ i = .int .i64 (j : Int) ∧ Hid (ds.length = (j - a) + ((l.drop j).takeWhile isD).length)) (fun i => l.length - (intOf i).toNat)
  case atStart => exact ⟨a, by omega, by omega, by go_num, Lib.hid (by rw [HD.out]; omega)⟩
  case round =>
    obtain ⟨j, hj1, hj2, rfl, hI⟩ := hrel
    clear hcv g45 f45
    by_cases hlt : j < l.length
    · have hlt3 : j < (bs l).size := hlt
      obtain ⟨d, hd⟩ : ∃ d, l[j]'hlt = d := ⟨_, rfl⟩
      have hb : ((bs l)[j]'hlt3).toNat = d.toNat := by rw [← hd]; rfl
      have c2 := fun W => digit_any d W
      have hw := tw_at isD l j hlt
      rw [hd] at hw
      have hg : l[j]? = some d := by rw [List.getElem?_eq_getElem hlt, hd]
      obtain ⟨y, hy⟩ : ∃ y, isD d = y := ⟨_, rfl⟩
      rw [hy] at c2 hw
      cases y
      · rw [if_neg (by simp)] at hw
        obtain rfl : j = e := by have := hI.out; omega
        have HR2 := HR.out
        have c3 := fun W => word_any d W
        have g45 : ((d.toNat : Int) == 45) = (d == 45) := (beq_nat d 45).symm
        clear hI hw hd hy HD hei he hdl  hb0
        rcases hVc with rfl | rfl | ⟨n, rfl⟩
        · have H := Lib.hid HR2
          unfold numV at c1
          clear HR HR2 g45 hg c3
          generalize d.toNat = dn at *
          go_wp2_with fail
          refine (c2 _).mono ?_
          rintro e w' ⟨rfl, rfl⟩
          go_wp2_with fail
          refine (c1 _).mono ?_
          rintro e w' ⟨rfl, rfl⟩
          go_wp2_with fail
          (try simp only [Exit.inBlock, Exit.then]); refine bodyPost_ret (results_tmp4 rfl _ _ _) rfl ?_
          exact ⟨by rw [← H.out]; rfl, rfl⟩
        · have H := Lib.hid HR2
          unfold numV at c1
          clear HR HR2 g45 hg c3
          generalize d.toNat = dn at *
          go_wp2_with fail
          refine (c2 _).mono ?_
          rintro e w' ⟨rfl, rfl⟩
          go_wp2_with fail
          refine (c1 _).mono ?_
          rintro e w' ⟨rfl, rfl⟩
          go_wp2_with fail
          (try simp only [Exit.inBlock, Exit.then]); refine bodyPost_ret (results_tmp4 rfl _ _ _) rfl ?_
          exact ⟨by rw [← H.out]; rfl, rfl⟩
        · unfold numRV at HR2
          rw [hg] at HR2
          simp only [Option.any_some] at HR2
          unfold numV at c1
          obtain ⟨q, hq⟩ : ∃ q, isW d = q := ⟨_, rfl⟩
          rw [hq] at c3
          cases q
          · by_cases h45 : d = 45
            · have H := Lib.hid (show ((j, 0, 2, j) : Nat × Int × Nat × Nat) = R by rw [← HR2]; simp [h45])
              subst h45
              have hb : ((bs l)[j]'hlt3).toNat = 45 := hb
              have c2 : ∀ W, Calls Tryz.prog 25 #[.int .u8 45] W (Is (.bool false) W) := c2
              have c3 : ∀ W, Calls Tryz.prog 36 #[.int .u8 45] W (Is (.bool false) W) := c3
              clear HR HR2 g45 hg hq
              go_wp2_with fail
              refine (c2 _).mono ?_
              rintro e w' ⟨rfl, rfl⟩
              go_wp2_with fail
              refine (c1 _).mono ?_
              rintro e w' ⟨rfl, rfl⟩
              go_wp2_with fail
              refine (c3 _).mono ?_
              rintro e w' ⟨rfl, rfl⟩
              go_wp2_with fail
              (try simp only [Exit.inBlock, Exit.then]); refine bodyPost_ret (results_tmp4 rfl _ _ _) rfl ?_
              exact ⟨by rw [← H.out]; rfl, rfl⟩
            · have H := Lib.hid (show ((j, n, 0, 0) : Nat × Int × Nat × Nat) = R by rw [← HR2]; simp [hq, h45])
              rw [show (d == 45) = false by simpa using h45] at g45
              have f45 : ((d.toNat : Int) = 45) = False := by simp at g45 ⊢; omega
              clear HR HR2 hg hq h45
              generalize d.toNat = dn at *
              go_wp2_with fail
              refine (c2 _).mono ?_
              rintro e w' ⟨rfl, rfl⟩
              go_wp2_with fail
              refine (c1 _).mono ?_
              rintro e w' ⟨rfl, rfl⟩
              go_wp2_with fail
              refine (c3 _).mono ?_
              rintro e w' ⟨rfl, rfl⟩
              go_wp2_with fail
              (try simp only [Exit.inBlock, Exit.then]); refine bodyPost_ret (results_tmp4 rfl _ _ _) rfl ?_
              exact ⟨by rw [← H.out]; rfl, rfl⟩
          · have H := Lib.hid (show ((j, 0, 2, j) : Nat × Int × Nat × Nat) = R by rw [← HR2]; simp [hq])
            clear HR HR2 hg hq g45
            generalize d.toNat = dn at *
            go_wp2_with fail
            refine (c2 _).mono ?_
            rintro e w' ⟨rfl, rfl⟩
            go_wp2_with fail
            refine (c1 _).mono ?_
            rintro e w' ⟨rfl, rfl⟩
            go_wp2_with fail
            refine (c3 _).mono ?_
            rintro e w' ⟨rfl, rfl⟩
            go_wp2_with fail
            (try simp only [Exit.inBlock, Exit.then]); refine bodyPost_ret (results_tmp4 rfl _ _ _) rfl ?_
            exact ⟨by rw [← H.out]; rfl, rfl⟩
      · rw [if_pos rfl] at hw
        have hle := tw_le isD l (j + 1)
        have E := Lib.hid (show ds.length = (j + 1 - a) + ((l.drop (j + 1)).takeWhile isD).length by have := hI.out; omega)
        have hjk : j + 1 ≤ e := by have := hI.out; omega
        generalize d.toNat = n at *
        clear hI hw hle hg hy hd
        go_wp2_with fail
        refine (c2 _).mono ?_
        rintro e w' ⟨rfl, rfl⟩
        go_wp2_with fail
        go_round
        case rel => exact ⟨j + 1, by omega, hjk, by go_num, E⟩
        case measure => simp [intOf]; omega
    · obtain rfl : j = l.length := by omega
      obtain rfl : e = l.length := by omega
      have HR2 := HR.out
      clear hI HD hei he hdl  hb0 HR
      rcases hVc with rfl | rfl | ⟨n, rfl⟩
      · have H := Lib.hid HR2
        unfold numV at c1
        clear HR2
        go_wp2_with fail
        refine (c1 _).mono ?_
        rintro e w' ⟨rfl, rfl⟩
        go_wp2_with fail
        (try simp only [Exit.inBlock, Exit.then]); refine bodyPost_ret (results_tmp4 rfl _ _ _) rfl ?_
        exact ⟨by rw [← H.out]; rfl, rfl⟩
      · have H := Lib.hid HR2
        unfold numV at c1
        clear HR2
        go_wp2_with fail
        refine (c1 _).mono ?_
        rintro e w' ⟨rfl, rfl⟩
        go_wp2_with fail
        (try simp only [Exit.inBlock, Exit.then]); refine bodyPost_ret (results_tmp4 rfl _ _ _) rfl ?_
        exact ⟨by rw [← H.out]; rfl, rfl⟩
      · unfold numRV at HR2
        rw [List.getElem?_eq_none (Nat.le_refl _)] at HR2
        simp only [Option.any_none, Bool.false_eq_true, if_false] at HR2
        have H := Lib.hid HR2
        unfold numV at c1
        clear HR2
        go_wp2_with fail
        refine (c1 _).mono ?_
        rintro e w' ⟨rfl, rfl⟩
        go_wp2_with fail
        (try simp only [Exit.inBlock, Exit.then]); refine bodyPost_ret (results_tmp4 rfl _ _ _) rfl ?_
        exact ⟨by rw [← H.out]; rfl, rfl⟩
set_option maxRecDepth 100000 in
set_option maxHeartbeats 2000000 in
theorem numb_neg (l : List UInt8) (a : Nat) (w : World) (hl : l.length ≤ 9223372036854700000) (ha : a < l.length) (hc : l[a]? = some 45) :
    Calls Tryz.prog 26 #[.string (bs l), .int .i64 (a : Int)] w (Is (t4 (numR true l a)) w) := by
  have hsz : (bs l).size = l.length := rfl
  obtain ⟨b, hb0⟩ : ∃ b, a + 1 = b := ⟨_, rfl⟩
  have hba : (a : Int) + 1 = (b : Int) := by omega
  have hbl : b ≤ l.length := by omega
  obtain ⟨ds, hds⟩ : ∃ ds, (l.drop b).takeWhile isD = ds := ⟨_, rfl⟩
  have hdl : b + ds.length ≤ l.length := by have := tw_le isD l b; rw [hds] at this; omega
  have hall : ∀ c ∈ ds, isD c = true := fun c h => by rw [← hds] at h; exact List.all_eq_true.1 List.all_takeWhile c h
  obtain ⟨e, he⟩ : ∃ e, b + ds.length = e := ⟨_, rfl⟩
  have hei : (b : Int) + (ds.length : Int) = (e : Int) := by omega
  have hpre : (l.drop b).take ds.length = ds := by
    have := List.prefix_iff_eq_take.1 (List.takeWhile_prefix isD (l := l.drop b))
    rw [hds] at this
    exact this.symm
  have hsl : (bs l).extract a e = bs (45 :: ds) := by
    rw [bs_slice, List.drop_take]
    have hg : l.drop a = 45 :: l.drop b := by
      rw [List.drop_eq_getElem_cons ha, hb0]
      rw [List.getElem?_eq_getElem ha] at hc
      rw [Option.some.inj hc]
    rw [hg, show e - a = ds.length + 1 by omega, List.take_succ_cons, hpre]
  have c1 := fun W => number0_neg ds W hall (by omega)
  unfold numR
  rw [show a + (true : Bool).toNat = b from hb0, hds, he]
  obtain ⟨V, hV⟩ : ∃ V, numOf true ds = V := ⟨_, rfl⟩
  have hVc := numOf_cases true ds
  rw [hV] at c1 hVc ⊢
  obtain ⟨R, hR⟩ : ∃ R, numRV l a e V = R := ⟨_, rfl⟩
  rw [hR]
  have HR := Lib.hid hR
  have hlt2 : a < (bs l).size := ha
  obtain ⟨c0, hc0⟩ : ∃ c0, l[a]'ha = c0 := ⟨_, rfl⟩
  have hcv0 : ((bs l)[a]'hlt2).toNat = c0.toNat := by rw [← hc0]; rfl
  have hae : a ≤ e := by omega
  rw [List.getElem?_eq_getElem ha, hc0] at hc
  have hcv : ((bs l)[a]'hlt2).toNat = 45 := by rw [hcv0, Option.some.inj hc]; rfl
  clear hcv0
  have HD := Lib.hid hds
  clear hds hall hpre hV hR hc0 hc 
  go_enter Tryz.func26, Tryz.ntmps26
  go_wp2_with fail
  go_loop [8] (fun i => ∃ j : Nat, b ≤ j ∧ j ≤ e ∧ i = .int .i64 (j : Int) ∧ Hid (ds.length = (j - b) + ((l.drop j).takeWhile isD).length)) (fun i => l.length - (intOf i).toNat)
  case atStart => exact ⟨b, by omega, by omega, by go_num, Lib.hid (by rw [HD.out]; omega)⟩
  case round =>
    obtain ⟨j, hj1, hj2, rfl, hI⟩ := hrel
    clear hcv 
    by_cases hlt : j < l.length
    · have hlt3 : j < (bs l).size := hlt
      obtain ⟨d, hd⟩ : ∃ d, l[j]'hlt = d := ⟨_, rfl⟩
      have hb : ((bs l)[j]'hlt3).toNat = d.toNat := by rw [← hd]; rfl
      have c2 := fun W => digit_any d W
      have hw := tw_at isD l j hlt
      rw [hd] at hw
      have hg : l[j]? = some d := by rw [List.getElem?_eq_getElem hlt, hd]
      obtain ⟨y, hy⟩ : ∃ y, isD d = y := ⟨_, rfl⟩
      rw [hy] at c2 hw
      cases y
      · rw [if_neg (by simp)] at hw
        obtain rfl : j = e := by have := hI.out; omega
        have HR2 := HR.out
        have c3 := fun W => word_any d W
        have g45 : ((d.toNat : Int) == 45) = (d == 45) := (beq_nat d 45).symm
        clear hI hw hd hy HD hei he hdl hba hb0
        rcases hVc with rfl | rfl | ⟨n, rfl⟩
        · have H := Lib.hid HR2
          unfold numV at c1
          clear HR HR2 g45 hg c3
          generalize d.toNat = dn at *
          go_wp2_with fail
          refine (c2 _).mono ?_
          rintro e w' ⟨rfl, rfl⟩
          go_wp2_with fail
          refine (c1 _).mono ?_
          rintro e w' ⟨rfl, rfl⟩
          go_wp2_with fail
          (try simp only [Exit.inBlock, Exit.then]); refine bodyPost_ret (results_tmp4 rfl _ _ _) rfl ?_
          exact ⟨by rw [← H.out]; rfl, rfl⟩
        · have H := Lib.hid HR2
          unfold numV at c1
          clear HR HR2 g45 hg c3
          generalize d.toNat = dn at *
          go_wp2_with fail
          refine (c2 _).mono ?_
          rintro e w' ⟨rfl, rfl⟩
          go_wp2_with fail
          refine (c1 _).mono ?_
          rintro e w' ⟨rfl, rfl⟩
          go_wp2_with fail
          (try simp only [Exit.inBlock, Exit.then]); refine bodyPost_ret (results_tmp4 rfl _ _ _) rfl ?_
          exact ⟨by rw [← H.out]; rfl, rfl⟩
        · unfold numRV at HR2
          rw [hg] at HR2
          simp only [Option.any_some] at HR2
          unfold numV at c1
          obtain ⟨q, hq⟩ : ∃ q, isW d = q := ⟨_, rfl⟩
          rw [hq] at c3
          cases q
          · by_cases h45 : d = 45
            · have H := Lib.hid (show ((j, 0, 2, j) : Nat × Int × Nat × Nat) = R by rw [← HR2]; simp [h45])
              subst h45
              have hb : ((bs l)[j]'hlt3).toNat = 45 := hb
              have c2 : ∀ W, Calls Tryz.prog 25 #[.int .u8 45] W (Is (.bool false) W) := c2
              have c3 : ∀ W, Calls Tryz.prog 36 #[.int .u8 45] W (Is (.bool false) W) := c3
              clear HR HR2 g45 hg hq
              go_wp2_with fail
              refine (c2 _).mono ?_
              rintro e w' ⟨rfl, rfl⟩
              go_wp2_with fail
              refine (c1 _).mono ?_
              rintro e w' ⟨rfl, rfl⟩
              go_wp2_with fail
              refine (c3 _).mono ?_
              rintro e w' ⟨rfl, rfl⟩
              go_wp2_with fail
              (try simp only [Exit.inBlock, Exit.then]); refine bodyPost_ret (results_tmp4 rfl _ _ _) rfl ?_
              exact ⟨by rw [← H.out]; rfl, rfl⟩
            · have H := Lib.hid (show ((j, n, 0, 0) : Nat × Int × Nat × Nat) = R by rw [← HR2]; simp [hq, h45])
              rw [show (d == 45) = false by simpa using h45] at g45
              have f45 : ((d.toNat : Int) = 45) = False := by simp at g45 ⊢; omega
              clear HR HR2 hg hq h45
              generalize d.toNat = dn at *
              go_wp2_with fail
              refine (c2 _).mono ?_
              rintro e w' ⟨rfl, rfl⟩
              go_wp2_with fail
              refine (c1 _).mono ?_
              rintro e w' ⟨rfl, rfl⟩
              go_wp2_with fail
              refine (c3 _).mono ?_
              rintro e w' ⟨rfl, rfl⟩
              go_wp2_with fail
              (try simp only [Exit.inBlock, Exit.then]); refine bodyPost_ret (results_tmp4 rfl _ _ _) rfl ?_
              exact ⟨by rw [← H.out]; rfl, rfl⟩
          · have H := Lib.hid (show ((j, 0, 2, j) : Nat × Int × Nat × Nat) = R by rw [← HR2]; simp [hq])
            clear HR HR2 hg hq g45
            generalize d.toNat = dn at *
            go_wp2_with fail
            refine (c2 _).mono ?_
            rintro e w' ⟨rfl, rfl⟩
            go_wp2_with fail
            refine (c1 _).mono ?_
            rintro e w' ⟨rfl, rfl⟩
            go_wp2_with fail
            refine (c3 _).mono ?_
            rintro e w' ⟨rfl, rfl⟩
            go_wp2_with fail
            (try simp only [Exit.inBlock, Exit.then]); refine bodyPost_ret (results_tmp4 rfl _ _ _) rfl ?_
            exact ⟨by rw [← H.out]; rfl, rfl⟩
      · rw [if_pos rfl] at hw
        have hle := tw_le isD l (j + 1)
        have E := Lib.hid (show ds.length = (j + 1 - b) + ((l.drop (j + 1)).takeWhile isD).length by have := hI.out; omega)
        have hjk : j + 1 ≤ e := by have := hI.out; omega
        generalize d.toNat = n at *
        clear hI hw hle hg hy hd
        go_wp2_with fail
        refine (c2 _).mono ?_
        rintro e w' ⟨rfl, rfl⟩
        go_wp2_with fail
        go_round
        case rel => exact ⟨j + 1, by omega, hjk, by go_num, E⟩
        case measure => simp [intOf]; omega
    · obtain rfl : j = l.length := by omega
      obtain rfl : e = l.length := by omega
      have HR2 := HR.out
      clear hI HD hei he hdl hba hb0 HR
      rcases hVc with rfl | rfl | ⟨n, rfl⟩
      · have H := Lib.hid HR2
        unfold numV at c1
        clear HR2
        go_wp2_with fail
        refine (c1 _).mono ?_
        rintro e w' ⟨rfl, rfl⟩
        go_wp2_with fail
        (try simp only [Exit.inBlock, Exit.then]); refine bodyPost_ret (results_tmp4 rfl _ _ _) rfl ?_
        exact ⟨by rw [← H.out]; rfl, rfl⟩
      · have H := Lib.hid HR2
        unfold numV at c1
        clear HR2
        go_wp2_with fail
        refine (c1 _).mono ?_
        rintro e w' ⟨rfl, rfl⟩
        go_wp2_with fail
        (try simp only [Exit.inBlock, Exit.then]); refine bodyPost_ret (results_tmp4 rfl _ _ _) rfl ?_
        exact ⟨by rw [← H.out]; rfl, rfl⟩
      · unfold numRV at HR2
        rw [List.getElem?_eq_none (Nat.le_refl _)] at HR2
        simp only [Option.any_none, Bool.false_eq_true, if_false] at HR2
        have H := Lib.hid HR2
        unfold numV at c1
        clear HR2
        go_wp2_with fail
        refine (c1 _).mono ?_
        rintro e w' ⟨rfl, rfl⟩
        go_wp2_with fail
        (try simp only [Exit.inBlock, Exit.then]); refine bodyPost_ret (results_tmp4 rfl _ _ _) rfl ?_
        exact ⟨by rw [← H.out]; rfl, rfl⟩
end Go.Proofs.YtgifienjfaclmaaGreatDoor

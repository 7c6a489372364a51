/-
  The reference's numbers. No conditions but Go's own bounds of a string's length.
-/
import Derived.Test.YtgifienjfaclmaaGreatDoorLd
namespace Go.Proofs.YtgifienjfaclmaaGreatDoor
open Go.RowKit
/-- What Number returns. -/
def numV : Except Nat Int → Value
  | .error e => .tuple #[.int .i64 0, .int .i64 (e : Int)]
  | .ok n => .tuple #[.int .i64 n, .int .i64 0]
theorem isD_in {c : UInt8} (h : isD c = true) : 48 ≤ c.toNat ∧ c.toNat ≤ 57 := by
  unfold isD at h
  simpa using h
theorem dval_append (a b : List UInt8) : dval a ≤ dval (a ++ b) := by
  have key : ∀ (b : List UInt8) (n : Nat), n ≤ b.foldl (fun n c => 10 * n + (c.toNat - 48)) n := by
    intro b
    induction b with
    | nil => intro n; exact Nat.le_refl _
    | cons c b ih =>
      intro n
      exact Nat.le_trans (by omega) (ih (10 * n + (c.toNat - 48)))
  unfold dval
  rw [List.foldl_append]
  exact key b _
theorem dval_take (l : List UInt8) (k : Nat) : dval (l.take k) ≤ dval l := by
  have := dval_append (l.take k) (l.drop k)
  rwa [List.take_append_drop] at this
theorem dval_pos {l : List UInt8} {c : UInt8} (h : ∀ c ∈ l, isD c = true) (hg : l[0]? = some c) (h48 : c ≠ 48) : 1 ≤ dval l := by
  cases l with
  | nil => cases hg
  | cons d r =>
    obtain rfl : d = c := by simpa using hg
    have h1 := dval_append [d] r
    have h2 := isD_in (h d (List.mem_cons_self ..))
    have h3 : dval [d] = d.toNat - 48 := by simp [dval]
    have h4 : d.toNat ≠ 48 := fun e => h48 (UInt8.toNat_inj.1 e)
    rw [List.singleton_append] at h1
    omega
set_option maxRecDepth 100000 in
set_option maxHeartbeats 1000000 in
theorem number0_pos (ds : List UInt8) (w : World) (hd : ∀ c ∈ ds, isD c = true) (hl : ds.length ≤ 9223372036854770000) :
    Calls Tryz.prog 37 #[.string (bs (ds))] w (Is (numV (numOf false ds)) w) := by
  have hsz : (bs (ds)).size = ds.length := rfl
  cases hds : ds with
  | nil =>
    subst hds
    rw [show numOf false [] = .error 2 from rfl]
    unfold numV
    
    go_enter Tryz.func37, Tryz.ntmps37
    go_wp2_with fail
    go_ret2
    exact ⟨rfl, rfl⟩
  | cons c r =>
    rw [← hds]
    have hlen : 0 < ds.length := by rw [hds]; simp
    have hc : isD c = true := hd c (by rw [hds]; exact List.mem_cons_self ..)
    have hg : ds[0]? = some c := by rw [hds]; rfl
    have hh : ds.head? = some c := by rw [hds]; rfl
    have hct := (isD_in hc)
    have hidx : 0 < (bs (ds)).size := by rw [hsz]; omega
    have hcv : ((bs (ds))[0]'hidx).toNat = c.toNat := by
      show (ds[0]'hlen).toNat = _
      rw [List.getElem?_eq_getElem hlen] at hg
      exact congrArg UInt8.toNat (Option.some.inj hg)
    have hne : ds ≠ [] := by rw [hds]; simp
    have g48 : ((c.toNat : Int) == 48) = (c == 48) := (beq_nat c 48).symm
    have g45 : ((c.toNat : Int) == 45) = false := by simp; omega
    have f45 : ((c.toNat : Int) = 45) = False := by simp; omega
    have hE : ∀ e, numOf false ds = e → numV (numOf false ds) = numV e := fun e h => by rw [h]
    obtain ⟨V, hV⟩ : ∃ V, numOf false ds = V := ⟨_, rfl⟩
    rw [hV]
    have hV2 := hV
    unfold numOf at hV
    rw [hh] at hV
    generalize hn : c.toNat = n at *
    clear hds hE
    by_cases h48 : c = 48
    · have hn2 : n = 48 := by rw [← hn, h48]; rfl
      subst hn2
      by_cases h1 : 1 < ds.length
      · rw [if_pos (.inr (.inl ⟨h1, by rw [h48]⟩))] at hV
        subst hV
        unfold numV
        clear g48 g45 f45 hd hct hn hc hg hh hV2 h48
        go_enter Tryz.func37, Tryz.ntmps37
        go_wp2_with fail
        go_ret2
        exact ⟨rfl, rfl⟩
      · have e1 : ds = [48] := by
          match ds, hlen, hg, h1 with
          | [x], _, hg, _ => simp at hg; rw [hg, h48]
          | x :: y :: z, _, _, h1 => simp at h1
        subst e1
        have hV : numOf false [48] = .ok 0 := rfl
        rw [hV] at hV2
        subst hV2
        unfold numV
        have hsz : (bs [48]).size = 1 := rfl
        have c1 := fun W => digit_any 48 W
        rw [show isD 48 = true from rfl] at c1
        have h480 : ((bs [48])[0]'(by decide)).toNat = 48 := rfl
        clear g48 g45 f45 hd hct hn hc hg hh h48
        go_enter Tryz.func37, Tryz.ntmps37
        go_wp2_with fail
        go_loop [5, 6] (fun u i => ∃ k : Nat, k ≤ 1 ∧ i = .int .i64 (k : Int) ∧ u = .int .u64 0) (fun _ i => 1 - (intOf i).toNat)
        case atStart => exact ⟨0, by omega, rfl, rfl⟩
        case round =>
          obtain ⟨k, hk, rfl, rfl⟩ := hrel
          by_cases hlt : k < 1
          · obtain rfl : k = 0 := by omega
            go_wp2_with fail
            refine (c1 _).mono ?_
            rintro e w' ⟨rfl, rfl⟩
            go_wp2_with fail
            go_round
            case rel => exact ⟨1, by omega, by go_num, rfl⟩
            case measure => simp [intOf]
          · obtain rfl : k = 1 := by omega
            go_wp2_with fail
            go_ret2
            exact ⟨rfl, rfl⟩
    · have q48 : (c == 48) = false := by simpa using h48
      rw [q48] at g48
      have f48 : ((n : Int) = 48) = False := by simp at g48 ⊢; omega
      rw [if_neg (by
        rintro (h | ⟨_, h⟩ | ⟨_, h⟩)
        · omega
        · exact h48 (Option.some.inj h)
        · exact h48 (Option.some.inj h))] at hV
      simp only [Bool.false_eq_true, if_false] at hV
      have hV3 := Lib.hid hV
      have hpos := Lib.hid (dval_pos (l := ds) hd hg h48)
      have HD := Lib.hid hd
      clear hV hV2 q48 h48 hd hh hg hc hn
      have hlen2 : 1 < ds.length ∨ ds.length = 1 := by omega
      rcases hlen2 with hlen2 | hlen2
      all_goals
        go_enter Tryz.func37, Tryz.ntmps37
        go_wp2_with fail
        go_loop [5, 6] (fun u i => ∃ k m : Nat, k ≤ ds.length ∧ i = .int .i64 ((k : Int) : Int) ∧ u = .int .u64 (m : Int) ∧ m ≤ 10000000000000000009 ∧ Hid (m = dval (ds.take k))) (fun _ i => ds.length - (intOf i).toNat)
        case atStart => exact ⟨0, 0, by omega, by rfl, rfl, by omega, Lib.hid rfl⟩
        case round =>
          obtain ⟨k, m, hk, rfl, rfl, hm, hI⟩ := hrel
          clear hcv g48 f48 hct hidx g45 f45
          by_cases hlt : k < ds.length
          · obtain ⟨j, hj⟩ : ∃ j, k = j := ⟨_, rfl⟩
            have hj2 : (k : Int) = (j : Int) := by omega
            have hjs : j < (bs (ds)).size := by rw [hsz]; omega
            obtain ⟨d, hd⟩ : ∃ d, ds[k]'hlt = d := ⟨_, rfl⟩
            have hdv : ((bs (ds))[j]'hjs).toNat = d.toNat := by
              subst hj
              rw [← hd]
              rfl
              
            have hdD : isD d = true := HD.out d (by rw [← hd]; exact List.getElem_mem hlt)
            have c1 := fun W => digit_any d W
            rw [hdD] at c1
            have hdt := isD_in hdD
            have ht : ds.take (k + 1) = ds.take k ++ [d] := by rw [List.take_succ_eq_append_getElem hlt, hd]
            have hnx : dval (ds.take (k + 1)) = 10 * m + (d.toNat - 48) := by rw [ht, dval_snoc, ← hI.out]
            have hmono := dval_take ds (k + 1)
            generalize d.toNat = n at *
            by_cases hbig : 1000000000000000000 < m
            · have hlim : 9223372036854775807 < dval ds := by omega
              have H := Lib.hid (show V = .error 1 by rw [← hV3.out, if_pos hlim])
              have d1 : decide ((1000000000000000000 : Int) < (m : Int)) = true := by simp; omega
              clear hnx ht hdD hmono hlim hd hj hI
              go_wp2_with fail
              refine (c1 _).mono ?_
              rintro e w' ⟨rfl, rfl⟩
              go_wp2_with fail
              go_ret2
              exact ⟨by rw [H.out]; rfl, rfl⟩
            · have d1 : decide ((1000000000000000000 : Int) < (m : Int)) = false := by simp; omega
              obtain ⟨x, hx⟩ : ∃ x, n - 48 = x := ⟨_, rfl⟩
              obtain ⟨y, hy⟩ : ∃ y, 10 * m + x = y := ⟨_, rfl⟩
              rw [hx, hy] at hnx
              have E := Lib.hid hnx.symm
              have k1 : (n : Int) - 48 = (x : Int) := by omega
              have k2 : (10 : Int) * (m : Int) + (x : Int) = (y : Int) := by omega
              have hx9 : x ≤ 9 := by omega
              have hy9 : y ≤ 10000000000000000009 := by omega
              clear hnx ht hdD hmono hd hI hx hy hbig
              go_wp2_with fail
              refine (c1 _).mono ?_
              rintro e w' ⟨rfl, rfl⟩
              go_wp2_with fail
              go_round
              case rel => exact ⟨k + 1, y, by omega, by go_num, rfl, hy9, E⟩
              case measure => simp [intOf]; omega
          · obtain rfl : k = ds.length := by omega
            have e := hI.out
            rw [List.take_length] at e
            have hp := hpos.out
            have hv := hV3.out
            rw [← e] at hp hv
            by_cases hlim : 9223372036854775807 < m
            · rw [if_pos hlim] at hv
              have H := Lib.hid hv
              have d1 : decide ((9223372036854775807 : Int) < (m : Int)) = true := by simp; omega
              clear hv hp e hI hV3 hpos HD
              go_wp2_with fail
              go_ret2
              exact ⟨by rw [← H.out]; rfl, rfl⟩
            · rw [if_neg hlim] at hv
              have H := Lib.hid hv
              have d1 : decide ((9223372036854775807 : Int) < (m : Int)) = false := by simp; omega
              have hm2 : m ≤ 9223372036854775807 := by omega
              clear hv hp e hI hV3 hpos HD hm
              go_wp2_with fail
              go_ret2
              exact ⟨by rw [← H.out]; rfl, rfl⟩
set_option maxRecDepth 100000 in
set_option maxHeartbeats 1000000 in
theorem number0_neg (ds : List UInt8) (w : World) (hd : ∀ c ∈ ds, isD c = true) (hl : ds.length ≤ 9223372036854770000) :
    Calls Tryz.prog 37 #[.string (bs (45 :: ds))] w (Is (numV (numOf true ds)) w) := by
  have hsz : (bs (45 :: ds)).size = ds.length + 1 := by simp [bs_size]
  have h00 : 0 < (bs (45 :: ds)).size := by rw [hsz]; omega
  have h45 : ((bs (45 :: ds))[0]'h00).toNat = 45 := rfl
  cases hds : ds with
  | nil =>
    subst hds
    rw [show numOf true [] = .error 2 from rfl]
    unfold numV
    have hsz : (bs [45]).size = 1 := rfl
    go_enter Tryz.func37, Tryz.ntmps37
    go_wp2_with fail
    go_ret2
    exact ⟨rfl, rfl⟩
  | cons c r =>
    rw [← hds]
    have hlen : 0 < ds.length := by rw [hds]; simp
    have hc : isD c = true := hd c (by rw [hds]; exact List.mem_cons_self ..)
    have hg : ds[0]? = some c := by rw [hds]; rfl
    have hh : ds.head? = some c := by rw [hds]; rfl
    have hct := (isD_in hc)
    have hidx : 1 < (bs (45 :: ds)).size := by rw [hsz]; omega
    have hcv : ((bs (45 :: ds))[1]'hidx).toNat = c.toNat := by
      show (ds[0]'hlen).toNat = _
      rw [List.getElem?_eq_getElem hlen] at hg
      exact congrArg UInt8.toNat (Option.some.inj hg)
    have hne : ds ≠ [] := by rw [hds]; simp
    have g48 : ((c.toNat : Int) == 48) = (c == 48) := (beq_nat c 48).symm
    
    
    have hE : ∀ e, numOf true ds = e → numV (numOf true ds) = numV e := fun e h => by rw [h]
    obtain ⟨V, hV⟩ : ∃ V, numOf true ds = V := ⟨_, rfl⟩
    rw [hV]
    have hV2 := hV
    unfold numOf at hV
    rw [hh] at hV
    generalize hn : c.toNat = n at *
    clear hds hE
    by_cases h48 : c = 48
    · have hn2 : n = 48 := by rw [← hn, h48]; rfl
      subst hn2
      rw [if_pos (.inr (.inr ⟨rfl, by rw [h48]⟩))] at hV
      subst hV
      unfold numV
      have hlen2 : 1 < ds.length ∨ ds.length = 1 := by omega
      clear g48 hd hct hn hc hg hh hV2 h48
      rcases hlen2 with h | h
      · go_enter Tryz.func37, Tryz.ntmps37
        go_wp2_with fail
        go_ret2
        exact ⟨rfl, rfl⟩
      · rw [h] at hsz
        clear h hl hlen
        go_enter Tryz.func37, Tryz.ntmps37
        go_wp2_with fail
        go_ret2
        exact ⟨rfl, rfl⟩
    · have q48 : (c == 48) = false := by simpa using h48
      rw [q48] at g48
      have f48 : ((n : Int) = 48) = False := by simp at g48 ⊢; omega
      rw [if_neg (by
        rintro (h | ⟨_, h⟩ | ⟨_, h⟩)
        · omega
        · exact h48 (Option.some.inj h)
        · exact h48 (Option.some.inj h))] at hV
      simp only [if_true] at hV
      have hV3 := Lib.hid hV
      have hpos := Lib.hid (dval_pos (l := ds) hd hg h48)
      have HD := Lib.hid hd
      clear hV hV2 q48 h48 hd hh hg hc hn
      have hlen2 : 1 < ds.length ∨ ds.length = 1 := by omega
      rcases hlen2 with hlen2 | hlen2
      all_goals
        go_enter Tryz.func37, Tryz.ntmps37
        go_wp2_with fail
        go_loop [5, 6] (fun u i => ∃ k m : Nat, k ≤ ds.length ∧ i = .int .i64 (1 + (k : Int) : Int) ∧ u = .int .u64 (m : Int) ∧ m ≤ 10000000000000000009 ∧ Hid (m = dval (ds.take k))) (fun _ i => ds.length + 1 - (intOf i).toNat)
        case atStart => exact ⟨0, 0, by omega, by simp, rfl, by omega, Lib.hid rfl⟩
        case round =>
          obtain ⟨k, m, hk, rfl, rfl, hm, hI⟩ := hrel
          clear hcv g48 f48 hct hidx 
          by_cases hlt : k < ds.length
          · obtain ⟨j, hj⟩ : ∃ j, 1 + k = j := ⟨_, rfl⟩
            have hj2 : 1 + (k : Int) = (j : Int) := by omega
            have hjs : j < (bs (45 :: ds)).size := by rw [hsz]; omega
            obtain ⟨d, hd⟩ : ∃ d, ds[k]'hlt = d := ⟨_, rfl⟩
            have hdv : ((bs (45 :: ds))[j]'hjs).toNat = d.toNat := by
              subst hj
              rw [← hd]
              show ((45 :: ds)[1 + k]).toNat = _
              simp [Nat.add_comm 1 k]
            have hdD : isD d = true := HD.out d (by rw [← hd]; exact List.getElem_mem hlt)
            have c1 := fun W => digit_any d W
            rw [hdD] at c1
            have hdt := isD_in hdD
            have ht : ds.take (k + 1) = ds.take k ++ [d] := by rw [List.take_succ_eq_append_getElem hlt, hd]
            have hnx : dval (ds.take (k + 1)) = 10 * m + (d.toNat - 48) := by rw [ht, dval_snoc, ← hI.out]
            have hmono := dval_take ds (k + 1)
            generalize d.toNat = n at *
            by_cases hbig : 1000000000000000000 < m
            · have hlim : 9223372036854775808 < dval ds := by omega
              have H := Lib.hid (show V = .error 1 by rw [← hV3.out, if_pos hlim])
              have d1 : decide ((1000000000000000000 : Int) < (m : Int)) = true := by simp; omega
              clear hnx ht hdD hmono hlim hd hj hI
              go_wp2_with fail
              refine (c1 _).mono ?_
              rintro e w' ⟨rfl, rfl⟩
              go_wp2_with fail
              go_ret2
              exact ⟨by rw [H.out]; rfl, rfl⟩
            · have d1 : decide ((1000000000000000000 : Int) < (m : Int)) = false := by simp; omega
              obtain ⟨x, hx⟩ : ∃ x, n - 48 = x := ⟨_, rfl⟩
              obtain ⟨y, hy⟩ : ∃ y, 10 * m + x = y := ⟨_, rfl⟩
              rw [hx, hy] at hnx
              have E := Lib.hid hnx.symm
              have k1 : (n : Int) - 48 = (x : Int) := by omega
              have k2 : (10 : Int) * (m : Int) + (x : Int) = (y : Int) := by omega
              have hx9 : x ≤ 9 := by omega
              have hy9 : y ≤ 10000000000000000009 := by omega
              clear hnx ht hdD hmono hd hI hx hy hbig
              go_wp2_with fail
              refine (c1 _).mono ?_
              rintro e w' ⟨rfl, rfl⟩
              go_wp2_with fail
              go_round
              case rel => exact ⟨k + 1, y, by omega, by go_num, rfl, hy9, E⟩
              case measure => simp [intOf]; omega
          · obtain rfl : k = ds.length := by omega
            have e := hI.out
            rw [List.take_length] at e
            have hp := hpos.out
            have hv := hV3.out
            rw [← e] at hp hv
            by_cases hlim : 9223372036854775808 < m
            · rw [if_pos hlim] at hv
              have H := Lib.hid hv
              have d1 : decide ((9223372036854775808 : Int) < (m : Int)) = true := by simp; omega
              clear hv hp e hI hV3 hpos HD
              go_wp2_with fail
              go_ret2
              exact ⟨by rw [← H.out]; rfl, rfl⟩
            · rw [if_neg hlim] at hv
              have H := Lib.hid hv
              have d1 : decide ((9223372036854775808 : Int) < (m : Int)) = false := by simp; omega
              obtain ⟨q, hq⟩ : ∃ q, m = q + 1 := ⟨m - 1, by omega⟩
              have k1 : (m : Int) - 1 = (q : Int) := by omega
              have hq2 : q ≤ 9223372036854775807 := by omega
              obtain ⟨z, hz⟩ : ∃ z : Int, -(m : Int) = z := ⟨_, rfl⟩
              have k2 : -(q : Int) - 1 = z := by omega
              have k3 : (0 : Int) - (q : Int) - 1 = z := by omega
              rw [hz] at hv
              have H := Lib.hid hv
              have hm1 : 1 ≤ m := by omega
              clear hq hz
              have hm2 : m ≤ 9223372036854775808 := by omega
              clear hv hp e hI hV3 hpos HD hm
              go_wp2_with fail
              go_ret2
              exact ⟨by rw [← H.out]; rfl, rfl⟩
end Go.Proofs.YtgifienjfaclmaaGreatDoor

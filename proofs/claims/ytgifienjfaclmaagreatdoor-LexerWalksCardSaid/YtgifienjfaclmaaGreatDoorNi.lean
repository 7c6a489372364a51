/-
  Contract of the developers' Scan. No conditions but Go's own bounds of a string's length, and what the library's variables hold.
-/
import Derived.Test.YtgifienjfaclmaaGreatDoorNh
import Derived.Test.YtgifienjfaclmaaGreatDoorLs
namespace Go.Proofs.YtgifienjfaclmaaGreatDoor
open Go.RowKit
theorem tok_span {l : List UInt8} {j : Nat} {c : UInt8} {r t : List UInt8} {kd k : Nat} {n : Int} (hd : l.drop j = c :: r) (h : tok c r = .ok (kd, t, n, k)) : 1 ≤ k ∧ j + k ≤ l.length := by
  by_cases hL : isL c = true
  · rcases name_tok hd hL with ⟨e, x, wh, -, -, -, h2, -⟩ | ⟨k2, t2, -, a, b, h2, -⟩
    · rw [h2] at h; cases h
    · rw [h2] at h; cases h; exact ⟨a, b⟩
  · have hL : isL c = false := by simpa using hL
    by_cases hD : (isD c || c == 45) = true
    · rcases num_tok hd hL hD with ⟨e, x, wh, -, -, -, h2⟩ | ⟨k2, n2, -, a, b, h2⟩
      · rw [h2] at h; cases h
      · rw [h2] at h; cases h; exact ⟨a, b⟩
    · have hD : (isD c || c == 45) = false := by simpa using hD
      by_cases h34 : c = 34
      · subst h34
        rcases quo_tok hd with ⟨e, x, wh, -, -, -, h2⟩ | ⟨k2, n2, -, a, b, h2⟩
        · rw [h2] at h; cases h
        · rw [h2] at h; cases h; exact ⟨a, b⟩
      · by_cases hM : isM c = true
        · rw [mark_tok r hM] at h
          cases h
          have : (l.drop j).length = r.length + 1 := by rw [hd]; rfl
          rw [List.length_drop] at this
          omega
        · rw [no_tok r hL hD h34 (by simpa using hM)] at h
          cases h
set_option maxRecDepth 100000 in
set_option maxHeartbeats 4000000 in
theorem scanD_short (l : List UInt8) (w : World) (hl : l.length ≤ 4000) (hE : Env w) :
    Calls Tryz.prog 15 #[.string (bs l)] w (ScanP (scan l) w) := by
  have hsz : (bs l).size = l.length := rfl
  obtain ⟨R, hR⟩ : ∃ R, scan l = R := ⟨_, rfl⟩
  have h0 := At.start l hl
  rw [hR] at h0 ⊢
  have c0 := fun W => skipD_any l 0 W (by omega) (by omega)
  rw [List.drop_zero] at c0
  have hs0 := sk_length false l
  obtain ⟨p0, hp0⟩ : ∃ p0, l.length - (sk false l).length = p0 := ⟨_, rfl⟩
  rw [hp0] at c0 h0
  have H0 := Lib.hid h0
  have hp1 : p0 ≤ l.length := by omega
  have d1 : decide ((4000 : Int) < (l.length : Int)) = false := by simp; omega
  clear h0 hp0 hs0 hR
  go_enter Tryz.func15, Tryz.ntmps15
  go_wp2_with fail
  refine (c0 _).mono ?_
  rintro e w1 ⟨rfl, hb0⟩
  go_wp2_with fail
  go_loopw [5, 6] (fun v i wr => ∃ (j : Nat) (ts : List Tk), j ≤ l.length ∧ ts.length ≤ j ∧ i = .int .i64 (j : Int) ∧ Ot w.heap.size wr v ts ∧ Below w.heap.size w wr ∧ Hid (At l R j ts)) (fun _ i _ => l.length - (intOf i).toNat)
  case atStart => exact ⟨p0, [], hp1, by simp, rfl, Ot.nil _ _, hb0, H0⟩
  case round =>
    obtain ⟨j, ts, hj, htl, rfl, ho, hb, hI⟩ := hrel
    clear c0 H0 hb0
    have hB2 : ∀ (w2 : World) (o p : Obj), Below wr.heap.size wr w2 → w.heap.size ≤ ((w2.alloc o).alloc p).heap.size := fun w2 o p h => Nat.le_trans hb.size (Nat.le_trans h.size (two_ _ _).size)
    have hB1 : ∀ o : Obj, w.heap.size ≤ (wr.alloc o).heap.size := fun o => Nat.le_trans hb.size (one _ _).size
    by_cases hlt : j < l.length
    · have hd : l.drop j = l[j]'hlt :: l.drop (j + 1) := List.drop_eq_getElem_cons hlt
      have hE2 := hE.next hb
      have cC := cut_any l j wr (by omega) hj hE2
      rw [tokAt_cons hlt] at cC
      generalize l[j]'hlt = c at *
      generalize l.drop (j + 1) = r at *
      cases hT : tok c r with
      | error x =>
        obtain ⟨x, o⟩ := x
        have H := Lib.hid (hI.out.err hd hT)
        have hx := (tok_error hT).1
        rw [hT] at cC
        have cC : Calls Tryz.prog 20 #[.string (bs l), .int .i64 (j : Int)] wr (Ib (.tuple #[.agg #[.int .i64 0, .string ⟨#[]⟩, .int .i64 0, .int .i64 0], .int .i64 (x : Int), .int .i64 ((j + o : Nat) : Int)]) wr) := cC
        have dx : ((x : Int) == 0) = false := by simp; omega
        have dx2 : ((x : Int) != 0) = true := by simp; omega
        obtain ⟨y, hy⟩ : ∃ y, j + o = y := ⟨_, rfl⟩
        rw [hy] at cC H
        clear hI hd hT hx hy
        go_wp2_with fail
        refine cC.mono ?_
        rintro e w2 ⟨rfl, hb2⟩
        have hb3 := Below.next hb hb2
        go_wp2_with fail
        go_ret3
        exact ScanP.err H.out (Below.next hb3 (one _ _))
      | ok x =>
        obtain ⟨kd, t, n, k⟩ := x
        obtain ⟨hk1, hk2⟩ := tok_span hd hT
        obtain ⟨E0, hlt3⟩ := hI.out.next hd hT hk1 hk2
        rw [hT] at cC
        have cC : Calls Tryz.prog 20 #[.string (bs l), .int .i64 (j : Int)] wr (Ib (.tuple #[.agg #[.int .i64 (kd : Int), .string (bs t), .int .i64 n, .int .i64 (j : Int)], .int .i64 0, .int .i64 ((j + k : Nat) : Int)]) wr) := cC
        have cs := fun W => skipD_any l (j + k) W (by omega) hk2
        have hs1 := sk_length false (l.drop (j + k))
        obtain ⟨j2, hj2⟩ : ∃ j2, l.length - (sk false (l.drop (j + k))).length = j2 := ⟨_, rfl⟩
        rw [hj2] at E0 hlt3 cs
        have E := Lib.hid E0
        clear E0
        have hj3 : j2 ≤ l.length := by omega
        generalize j + k = y at *
        clear hI hd hT hj2 hs1
        go_wp2_with fail
        refine cC.mono ?_
        rintro e w2 ⟨rfl, hb2⟩
        have hb3 := Below.next hb hb2
        have ho2 := ho.other hb2
        go_wp2_with (at_builtin; refine wpList_pushT rfl (.tmp 30) (.tmp 32) rfl w.heap.size u5 ts ⟨kd, t, n, j⟩ _ 1 rfl rfl (ho2.other (two_ _ _)) cells4 (by omega) (hB2 _ _ _ hb2) ?_; intro v' w3 ho' hg')
        refine (cs _).mono ?_
        rintro e w4 ⟨rfl, hb4⟩
        have hb5 := Below.next ((Below.next hb3 (two_ _ _)).grown hg' (hB2 _ _ _ hb2) (fun q hq => (ho2.lt q hq).1)) hb4
        have ho5 := ho'.other hb4
        go_wp2_with fail
        go_roundw
        case rel => exact ⟨j2, ts ++ [⟨kd, t, n, j⟩], hj3, by simp; omega, rfl, ho5, hb5, E⟩
        case measure => simp [intOf]; omega
    · obtain rfl : j = l.length := by omega
      have H := Lib.hid hI.out.done
      clear hI
      go_wp2_with (at_builtin; refine wpList_pushT rfl (.tmp 37) (.tmp 40) rfl w.heap.size u5 ts ⟨0, [], 0, l.length⟩ _ 1 rfl rfl (ho.other (one _ _)) cells4a (by omega) (hB1 _) ?_; intro v' w3 ho' hg')
      go_ret3
      exact ScanP.ok H.out ((hb.alloc hb.size _).grown hg' (hB1 _) (fun q hq => (ho.lt q hq).1)) ho'
set_option maxRecDepth 100000 in
theorem scanD_any (l : List UInt8) (w : World) (hl2 : l.length ≤ 9223372036854775807) (hE : Env w) :
    Calls Tryz.prog 15 #[.string (bs l)] w (ScanP (scan l) w) := by
  by_cases h : 4000 < l.length
  · have hsz : (bs l).size = l.length := rfl
    have H := Lib.hid (show scan l = .error (3, 0) by unfold scan; rw [if_pos h])
    have d1 : decide ((4000 : Int) < (l.length : Int)) = true := by simp; omega
    clear hE
    go_enter Tryz.func15, Tryz.ntmps15
    go_wp2_with fail
    go_ret3
    exact ScanP.err H.out (Below.refl _ w)
  · exact scanD_short l w (by omega) hE
end Go.Proofs.YtgifienjfaclmaaGreatDoor

/-
  The law of canonical encodings: it returns true. No conditions.
-/
import Derived.Test.YtclbdlbdnnhfmaaWl
namespace Go.Proofs.Ytclbdlbdnnhfmaa
open Go.RowKit
theorem dv_uv : ∀ (l : List UInt8) (i n x k : Nat), dv i n l = (x, k, 0) → n < 128 ^ i → i ≤ 9 → ∃ y, x = n + y * 128 ^ i ∧ l.take (k - i) = uv y ∧ (0 < i → y ≠ 0) := by
  intro l
  induction l with
  | nil => intro i n x k h _ _; rw [dv] at h; cases h
  | cons b r ih =>
    intro i n x k h hn hi
    have hb := UInt8.toNat_lt b
    have hkk := (dv_le _ _ _ _ _ _ h hn hi).2.1 rfl
    rw [dv] at h
    split at h
    · cases h
    · split at h
      · rename_i h9 hb2
        obtain ⟨y, e1, e2, e3⟩ := ih _ _ _ _ h (or_lt2 n _ i hn (by omega)) (by omega)
        have hy := e3 (by omega)
        have hk2 := ((dv_le _ _ _ _ _ _ h (or_lt2 n _ i hn (by omega)) (by omega)).2.1 rfl).1
        refine ⟨b.toNat % 128 + 128 * y, ?_, ?_, fun _ => by omega⟩
        · rw [e1, Nat.pow_succ, Nat.add_mul, ← Nat.add_assoc, Nat.mul_comm 128 y, Nat.mul_assoc, Nat.mul_comm 128]
        · rw [uv_big (by omega), show (b.toNat % 128 + 128 * y) / 128 = y by omega, show 128 + (b.toNat % 128 + 128 * y) % 128 = b.toNat by omega, UInt8.ofNat_toNat, ← e2, show k - i = (k - (i + 1)) + 1 by omega, List.take_succ_cons]
      · split at h
        · cases h
        · rename_i h9 hb2 hc
          cases h
          refine ⟨b.toNat, ?_, ?_, fun h1 h2 => hc ⟨h2, h1⟩⟩
          · rw [Nat.mod_eq_of_lt (show b.toNat < 128 by omega)]
          · rw [uv_small (by omega), show i + 1 - i = 1 by omega, UInt8.ofNat_toNat]; rfl
theorem front_uv {l : List UInt8} (h : eU l = 0) : l.take (kU l) = uv (nU l) := by
  have hd := dv_all l
  rw [h] at hd
  obtain ⟨y, e1, e2, -⟩ := dv_uv l 0 0 _ _ hd (by decide) (by decide)
  rw [e1, Nat.pow_zero, Nat.mul_one, Nat.zero_add, ← e2]
  rfl
theorem front_tv {l : List UInt8} {M : Int} (h : eT M l = 0) : l.take (kT l) = tv (tT M l) ∧ kT l ≤ l.length ∧ (rT M l).length = l.length - kT l := by
  have h3 : eS M 3 l = 0 := by
    by_cases h3 : eS M 3 l = 0
    · exact h3
    · unfold eT at h; rw [if_pos h3] at h; exact absurd h h3
  have hlen : ¬ (rU l).length < nU l := by
    intro h4; unfold eT at h; rw [if_neg (by omega), if_pos h4] at h; cases h
  have hU : eU l = 0 := by
    by_cases hU : eU l = 0
    · exact hU
    · unfold eS at h3; rw [if_pos hU] at h3; exact absurd h3 hU
  have hk := kU_len hU
  have hr := rU_eq hU
  have e1 : tT M l = (rU l).take (nU l) := by unfold tT; rw [if_pos h]
  have e2 : rT M l = (rU l).drop (nU l) := by unfold rT; rw [if_pos h]
  have hrl : (rU l).length = l.length - kU l := by rw [hr, List.length_drop]
  refine ⟨?_, by unfold kT; omega, by rw [e2, List.length_drop, hrl]; unfold kT; omega⟩
  unfold tv kT
  rw [e1, List.length_take, Nat.min_eq_left (by omega), ← front_uv hU, hr]
  rw [List.take_add]
set_option maxRecDepth 100000 in
set_option maxHeartbeats 1000000 in
theorem law_canonical (s : ByteArray) (w : World) (hs : s.size ≤ 9223372036854775807) :
    Calls Try.prog 6 #[.string s] w (Ib (.bool true) w) := by
  obtain ⟨l, rfl⟩ : ∃ l, s = bs l := ⟨_, bs_of s⟩
  have hsz : (bs l).size = l.length := rfl
  by_cases h : 300 < l.length
  · clear hs
    go_enter Try.func6, Try.ntmps6
    go_wp2_with (go_at_call 10; refine (awake_any _).mono ?_; rintro e w5 ⟨rfl, h5⟩)
    go_ret
    exact ⟨by rfl, h5⟩
  have hl : l.length ≤ 300 := by omega
  have cN := fun w => new_any l w
  clear hs h
  have rA := fun g w h => rUint_any g l 0 w (by omega) h
  have rB := fun g w h => rInt_any g l 0 w (by omega) h
  have rC := fun g w h => rText_any g l 0 300 w (by omega) (by decide) (by decide) h
  simp only [if_pos] at rA rB rC
  by_cases hU : eU l = 0
  · have hk := kU_len hU
    have hfr := front_uv hU
    have hrl : (rU l).length = l.length - kU l := by rw [rU_eq hU, List.length_drop]
    have hnl := nU_le l
    have cU := fun w => uint_any (nU l) w hnl
    have hz := zz_uz (nU l)
    have hzb : -9223372036854775808 ≤ uz (nU l) ∧ uz (nU l) ≤ 9223372036854775807 := by unfold uz; split <;> omega
    have cI := fun w => int_any (uz (nU l)) w hzb.1 hzb.2
    rw [hz, ← hfr] at cI
    rw [← hfr] at cU
    rw [hU, show aL 0 0 l (rU l) = rU l by rfl, show aE 0 0 = 0 by rfl] at rA rB
    obtain ⟨k, hkk⟩ : ∃ k, kU l = k := ⟨_, rfl⟩
    rw [hkk] at cI cU hk hrl
    have x1 : (bs l).extract 0 k = bs (l.take k) := bs_take l k
    obtain ⟨r, hr⟩ : ∃ r, rU l = r := ⟨_, rfl⟩
    rw [hr] at rA rB hrl
    have l1 : IntKind.i64.wrap ((l.length : Int) - (r.length : Int)) = (k : Int) := by rw [show (l.length : Int) - (r.length : Int) = (k : Int) by omega]; exact IntWalk.i64_in _ (by omega)
    have l2 : (l.length : Int) - (r.length : Int) = (k : Int) := by omega
    have d1 : decide (l.length < r.length) = false := by simp; omega
    clear hU hfr hz hzb hnl hkk hr
    generalize uz (nU l) = m at *
    generalize nU l = n at *
    by_cases hT : eT 300 l = 0
    · obtain ⟨f1, f2, f3⟩ := front_tv hT
      rw [hT, show aL 0 0 l (rT 300 l) = rT 300 l by rfl, show aE 0 0 = 0 by rfl] at rC
      have hlt : (tT 300 l).length ≤ 100000 := by
        unfold tT; rw [if_pos hT, List.length_take]
        have := rU_len l
        omega
      have cT := fun w => text_any (tT 300 l) w hlt
      rw [← f1] at cT
      generalize tT 300 l = t at *
      generalize kT l = q at *
      generalize rT 300 l = r2 at *
      have x2 : (bs l).extract 0 q = bs (l.take q) := bs_take l q
      have l3 : IntKind.i64.wrap ((l.length : Int) - (r2.length : Int)) = (q : Int) := by rw [show (l.length : Int) - (r2.length : Int) = (q : Int) by omega]; exact IntWalk.i64_in _ (by omega)
      have l4 : (l.length : Int) - (r2.length : Int) = (q : Int) := by omega
      have d2 : decide (l.length < r2.length) = false := by simp; omega
      clear hT f1 f3 hrl hlt
      go_enter Try.func6, Try.ntmps6
      go_wp2_with fail
      refine (cN _).mono ?_
      rintro e w1 ⟨ga, rfl, ha, hb1, A1⟩
      go_wp2_with fail
      refine (cN _).mono ?_
      rintro e w2 ⟨gb, rfl, hb0, hb2, B2⟩
      have A2 := A1.next hb2
      have hab : ga ≠ gb := by have := A1.lt; omega
      have hb2 := Below.next hb1 hb2
      have hgb : w.heap.size ≤ gb := by have := hb1.size; omega
      go_wp2_with fail
      refine (cN _).mono ?_
      rintro e w3 ⟨gc, rfl, hc0, hb3, C3⟩
      have A3 := A2.next hb3
      have B3 := B2.next hb3
      have hac : ga ≠ gc := by have := A2.lt; omega
      have hbc : gb ≠ gc := by have := B2.lt; omega
      have hgc : w.heap.size ≤ gc := by have := hb2.size; omega
      have hb3 := Below.next hb2 hb3
      go_wp2_with fail
      refine (rA _ _ A3).mono ?_
      rintro e w4 ⟨rfl, hg4, A4⟩
      have B4 := B3.off hg4 (Ne.symm hab)
      have C4 := C3.off hg4 (Ne.symm hac)
      have hb4 := Below.read hb3 hg4 ha
      go_wp2_with fail
      refine (rB _ _ B4).mono ?_
      rintro e w5 ⟨rfl, hg5, B5⟩
      have A5 := A4.off hg5 hab
      have C5 := C4.off hg5 (Ne.symm hbc)
      have hb5 := Below.read hb4 hg5 hgb
      go_wp2_with fail
      refine (rC _ _ C5).mono ?_
      rintro e w6 ⟨rfl, hg6, C6⟩
      have A6 := A5.off hg6 hac
      have B6 := B5.off hg6 hbc
      have hb6 := Below.read hb5 hg6 hgc
      clear A1 A2 A3 A4 A5 B2 B3 B4 B5 C3 C4 C5 hg4 hg5 hg6 hb1 hb2 hb3 hb4 hb5 ha hb0 hc0 hgb hgc hab hac hbc rA rB rC cN
      go_wp2_with (first | (go_at_call 26; refine (left_any _ _ _ _ (by assumption)).mono ?_; rintro e w' ⟨rfl, rfl⟩) | (go_at_call 28; refine (err_any _ _ _ _ (by assumption)).mono ?_; rintro e w' ⟨rfl, rfl⟩))
      refine (cU _).mono ?_
      rintro e w7 ⟨rfl, h7⟩
      have C7 := C6.next h7
      have hb7 := Below.next hb6 h7
      go_wp2_with fail
      refine (cI _).mono ?_
      rintro e w8 ⟨rfl, h8⟩
      have C8 := C7.next h8
      have hb8 := Below.next hb7 h8
      go_wp2_with (first | (go_at_call 26; refine (left_any _ _ _ _ (by assumption)).mono ?_; rintro e w' ⟨rfl, rfl⟩) | (go_at_call 28; refine (err_any _ _ _ _ (by assumption)).mono ?_; rintro e w' ⟨rfl, rfl⟩))
      refine (cT _).mono ?_
      rintro e w9 ⟨rfl, h9⟩
      have C9 := C8.next h9
      have hb9 := Below.next hb8 h9
      go_wp2_with (first | (go_at_call 26; refine (left_any _ _ _ _ (by assumption)).mono ?_; rintro e w' ⟨rfl, rfl⟩) | (go_at_call 28; refine (err_any _ _ _ _ (by assumption)).mono ?_; rintro e w' ⟨rfl, rfl⟩))
      go_wp2_with (go_at_call 10; refine (awake_any _).mono ?_; rintro e w10 ⟨rfl, h10⟩)
      go_ret
      exact ⟨by rfl, Below.next hb9 h10⟩
    · rw [aL0 _ _ _ hT, show aE 0 (eT 300 l) = eT 300 l by rfl] at rC
      generalize bs (tT 300 l) = t at *
      generalize eT 300 l = q at *
      have hd : ((q : Int) != 0) = true := by simpa using hT
      clear hT hrl
      go_enter Try.func6, Try.ntmps6
      go_wp2_with fail
      refine (cN _).mono ?_
      rintro e w1 ⟨ga, rfl, ha, hb1, A1⟩
      go_wp2_with fail
      refine (cN _).mono ?_
      rintro e w2 ⟨gb, rfl, hb0, hb2, B2⟩
      have A2 := A1.next hb2
      have hab : ga ≠ gb := by have := A1.lt; omega
      have hb2 := Below.next hb1 hb2
      have hgb : w.heap.size ≤ gb := by have := hb1.size; omega
      go_wp2_with fail
      refine (cN _).mono ?_
      rintro e w3 ⟨gc, rfl, hc0, hb3, C3⟩
      have A3 := A2.next hb3
      have B3 := B2.next hb3
      have hac : ga ≠ gc := by have := A2.lt; omega
      have hbc : gb ≠ gc := by have := B2.lt; omega
      have hgc : w.heap.size ≤ gc := by have := hb2.size; omega
      have hb3 := Below.next hb2 hb3
      go_wp2_with fail
      refine (rA _ _ A3).mono ?_
      rintro e w4 ⟨rfl, hg4, A4⟩
      have B4 := B3.off hg4 (Ne.symm hab)
      have C4 := C3.off hg4 (Ne.symm hac)
      have hb4 := Below.read hb3 hg4 ha
      go_wp2_with fail
      refine (rB _ _ B4).mono ?_
      rintro e w5 ⟨rfl, hg5, B5⟩
      have A5 := A4.off hg5 hab
      have C5 := C4.off hg5 (Ne.symm hbc)
      have hb5 := Below.read hb4 hg5 hgb
      go_wp2_with fail
      refine (rC _ _ C5).mono ?_
      rintro e w6 ⟨rfl, hg6, C6⟩
      have A6 := A5.off hg6 hac
      have B6 := B5.off hg6 hbc
      have hb6 := Below.read hb5 hg6 hgc
      clear A1 A2 A3 A4 A5 B2 B3 B4 B5 C3 C4 C5 hg4 hg5 hg6 hb1 hb2 hb3 hb4 hb5 ha hb0 hc0 hgb hgc hab hac hbc rA rB rC cN
      go_wp2_with (first | (go_at_call 26; refine (left_any _ _ _ _ (by assumption)).mono ?_; rintro e w' ⟨rfl, rfl⟩) | (go_at_call 28; refine (err_any _ _ _ _ (by assumption)).mono ?_; rintro e w' ⟨rfl, rfl⟩))
      refine (cU _).mono ?_
      rintro e w7 ⟨rfl, h7⟩
      have C7 := C6.next h7
      have hb7 := Below.next hb6 h7
      go_wp2_with fail
      refine (cI _).mono ?_
      rintro e w8 ⟨rfl, h8⟩
      have C8 := C7.next h8
      have hb8 := Below.next hb7 h8
      go_wp2_with (first | (go_at_call 26; refine (left_any _ _ _ _ (by assumption)).mono ?_; rintro e w' ⟨rfl, rfl⟩) | (go_at_call 28; refine (err_any _ _ _ _ (by assumption)).mono ?_; rintro e w' ⟨rfl, rfl⟩))
      go_wp2_with (go_at_call 10; refine (awake_any _).mono ?_; rintro e w10 ⟨rfl, h10⟩)
      go_ret
      exact ⟨by rfl, Below.next hb8 h10⟩
  · have e1 : eT 300 l = eU l := by unfold eT eS; rw [if_pos hU, if_pos hU]
    have e2 : bs (tT 300 l) = ⟨#[]⟩ := by unfold tT; rw [e1, if_neg hU]; rfl
    rw [aL0 _ _ _ hU, show aE 0 (eU l) = eU l by rfl, nU_err hU] at rA rB
    rw [e1, e2, aL0 _ _ _ hU, show aE 0 (eU l) = eU l by rfl] at rC
    have rB : ∀ g w, Rdr w g l 0 → Calls Try.prog 21 #[.pointer (some ⟨g, 0, none⟩)] w (Ir (.int .i64 0) g l (eU l) w) := rB
    have rA : ∀ g w, Rdr w g l 0 → Calls Try.prog 19 #[.pointer (some ⟨g, 0, none⟩)] w (Ir (.int .u64 0) g l (eU l) w) := rA
    generalize eU l = q at *
    have hd : ((q : Int) != 0) = true := by simpa using hU
    clear hU e1 e2
    go_enter Try.func6, Try.ntmps6
    go_wp2_with fail
    refine (cN _).mono ?_
    rintro e w1 ⟨ga, rfl, ha, hb1, A1⟩
    go_wp2_with fail
    refine (cN _).mono ?_
    rintro e w2 ⟨gb, rfl, hb0, hb2, B2⟩
    have A2 := A1.next hb2
    have hab : ga ≠ gb := by have := A1.lt; omega
    have hb2 := Below.next hb1 hb2
    have hgb : w.heap.size ≤ gb := by have := hb1.size; omega
    go_wp2_with fail
    refine (cN _).mono ?_
    rintro e w3 ⟨gc, rfl, hc0, hb3, C3⟩
    have A3 := A2.next hb3
    have B3 := B2.next hb3
    have hac : ga ≠ gc := by have := A2.lt; omega
    have hbc : gb ≠ gc := by have := B2.lt; omega
    have hgc : w.heap.size ≤ gc := by have := hb2.size; omega
    have hb3 := Below.next hb2 hb3
    go_wp2_with fail
    refine (rA _ _ A3).mono ?_
    rintro e w4 ⟨rfl, hg4, A4⟩
    have B4 := B3.off hg4 (Ne.symm hab)
    have C4 := C3.off hg4 (Ne.symm hac)
    have hb4 := Below.read hb3 hg4 ha
    go_wp2_with fail
    refine (rB _ _ B4).mono ?_
    rintro e w5 ⟨rfl, hg5, B5⟩
    have A5 := A4.off hg5 hab
    have C5 := C4.off hg5 (Ne.symm hbc)
    have hb5 := Below.read hb4 hg5 hgb
    go_wp2_with fail
    refine (rC _ _ C5).mono ?_
    rintro e w6 ⟨rfl, hg6, C6⟩
    have A6 := A5.off hg6 hac
    have B6 := B5.off hg6 hbc
    have hb6 := Below.read hb5 hg6 hgc
    clear A1 A2 A3 A4 A5 B2 B3 B4 B5 C3 C4 C5 hg4 hg5 hg6 hb1 hb2 hb3 hb4 hb5 ha hb0 hc0 hgb hgc hab hac hbc rA rB rC cN
    go_wp2_with (first | (go_at_call 26; refine (left_any _ _ _ _ (by assumption)).mono ?_; rintro e w' ⟨rfl, rfl⟩) | (go_at_call 28; refine (err_any _ _ _ _ (by assumption)).mono ?_; rintro e w' ⟨rfl, rfl⟩))
    go_wp2_with (go_at_call 10; refine (awake_any _).mono ?_; rintro e w10 ⟨rfl, h10⟩)
    go_ret
    exact ⟨by rfl, Below.next hb6 h10⟩
end Go.Proofs.Ytclbdlbdnnhfmaa

/-
  The law of bursts: it returns true. The tables of utf8 as the program laid them; a string's length below 2^47.
-/
import Derived.Test.YtghmbglnhcdbjaaDoorCj
namespace Go.Proofs.YtghmbglnhcdbjaaDoor
open Go.RowKit
theorem opn_head {h m : List UInt8} (hl : h.length = 4) : opn (h ++ m) = if le 4 (crc m) = h then (m, 0) else ([], 11) := by
  have h1 : (h ++ m).length = 4 + m.length := by simp [hl]
  have h2 : (h ++ m).drop 4 = m := by
    rw [List.drop_append_of_le_length (by omega), List.drop_of_length_le (by omega), List.nil_append]
  unfold opn
  rw [if_neg (by omega), h2]
  by_cases e : le 4 (crc m) = h
  · rw [if_pos e, if_pos (by rw [seal_, e])]
  · rw [if_neg e, if_neg]
    intro k
    exact e (List.append_inj_left k (by rw [le_length, hl]))
theorem le4_lt (l : List UInt8) : crc l < 256 ^ 4 := crc_lt l
/-- A burst's string has another checksum. -/
theorem flips_crc {l : List UInt8} {a q : Nat} (ha : a < 8 * l.length) (h0 : (flips l a q 32).2 ≠ 0) : crc (flips l a q 32).1 ≠ crc l := by
  obtain ⟨h1, h2, h3⟩ := flips_facts l a q 32
  exact crc_burst h1 h3 (by omega) (by omega) h0
/-- A burst's string is another one. -/
theorem flips_ne {l : List UInt8} {a q : Nat} (h0 : (flips l a q 32).2 ≠ 0) : (flips l a q 32).1 ≠ l := by
  obtain ⟨h1, h2, h3⟩ := flips_facts l a q 32
  intro e
  rw [e] at h3
  have := congrArg (num l ^^^ ·) h3
  simp only [Nat.xor_self] at this
  rw [← Nat.xor_assoc, Nat.xor_self, Nat.zero_xor] at this
  have h5 := Nat.mul_pos (Nat.two_pow_pos a) (Nat.pos_of_ne_zero h0)
  omega
/-- Without an inverted bit it is the string. -/
theorem flips_same {l : List UInt8} {a q : Nat} (h0 : (flips l a q 32).2 = 0) : (flips l a q 32).1 = l := by
  obtain ⟨h1, h2, h3⟩ := flips_facts l a q 32
  rw [h0, Nat.mul_zero, Nat.xor_zero] at h3
  exact num_inj h1 h3
set_option maxRecDepth 100000 in
set_option maxHeartbeats 2000000 in
theorem bursts_core (l m x h r : List UInt8) (k : Int) (q p p2 : Nat) (z z2 : Bool) (cl cm : Nat) (w : World) (hs : l.length ≤ 140737488355328) (h0 : l ≠ []) (hT : Tabs w)
    (c1 : ∀ W, Calls Tryd.prog 19 #[.int .i64 k, .int .i64 (8 * (l.length : Int))] W (Is (.int .i64 (p : Int)) W))
    (c2 : ∀ W, Calls Tryd.prog 18 #[.string (bs l), .int .i64 (p : Int), .int .u32 (q : Int)] W (Ib (.tuple #[.string (bs m), .bool z]) W))
    (c3 : ∀ W, Tabs W → Calls Tryd.prog 9 #[.string (bs l)] W (Ib (.int .u32 (cl : Int)) W))
    (c4 : ∀ W, Tabs W → Calls Tryd.prog 9 #[.string (bs m)] W (Ib (.int .u32 (cm : Int)) W))
    (c5 : ∀ W, Tabs W → Calls Tryd.prog 14 #[.string (bs l)] W (Ib (.string (bs x)) W))
    (hx : x.length = 4 + l.length) (hx4 : (bs x).extract 0 4 = bs h) (hh : (bs h).size = 4) (hm : (bs m).size = l.length) (hz : z = true → cl ≠ cm)
    (c6 : z = true → ∀ W, Tabs W → Calls Tryd.prog 15 #[.string (bs (h ++ m))] W (Ib (.tuple #[.string (bs []), .int .i64 11]) W))
    (c7 : ∀ W, Calls Tryd.prog 19 #[.int .i64 k, .int .i64 32] W (Is (.int .i64 (p2 : Int)) W))
    (c8 : ∀ W, Calls Tryd.prog 18 #[.string (bs h), .int .i64 (p2 : Int), .int .u32 (q : Int)] W (Ib (.tuple #[.string (bs r), .bool z2]) W))
    (hr : (bs r).size = 4)
    (c9 : ∃ y f, (z2 = true → f = 11) ∧ ∀ W, Tabs W → Calls Tryd.prog 15 #[.string (bs (r ++ l))] W (Ib (.tuple #[.string y, .int .i64 f]) W)) :
    Calls Tryd.prog 6 #[.string (bs l), .int .i64 k, .int .u32 (q : Int)] w (Ib (.bool true) w) := by
  have hsz : (bs l).size = l.length := rfl
  have hxz : (bs x).size = 4 + l.length := hx
  have hl0 : (((l.length : Nat) : Int) == 0) = false := by
    have := List.length_pos_iff.2 h0
    simp; omega
  have hl1 : (l = []) = False := by simp [h0]
  have ca : ∀ W, Tabs W → _ := fun W hW => awake_any W hW
  have a1 := bs_append h m
  have a2 := bs_append r l
  clear hx
  cases z
  · go_enter Tryd.func6, Tryd.ntmps6
    go_wp2_with fail
    refine (c1 _).mono ?_
    rintro e w1 ⟨rfl, rfl⟩
    go_wp2_with fail
    refine (c2 _).mono ?_
    rintro e w1 ⟨rfl, hb1⟩
    go_wp2_with fail
    refine (ca _ (hT.below hb1)).mono ?_
    rintro e w2 ⟨rfl, hb2⟩
    go_wp2_with fail
    go_ret
    exact ⟨rfl, Below.next hb1 hb2⟩
  · have hne := hz rfl
    have d1 : ((cl : Int) == (cm : Int)) = false := by simp; omega
    have d2 : (cl = cm) = False := by simp [hne]
    have c10 := c6 rfl
    obtain ⟨y, f, hf, c11⟩ := c9
    clear c6
    clear hz
    have hf2 : z2 = false ∨ (z2 = true ∧ f = 11) := by
      cases z2
      · exact .inl rfl
      · exact .inr ⟨rfl, hf rfl⟩
    clear hf
    go_enter Tryd.func6, Tryd.ntmps6
    go_wp2_with fail
    refine (c1 _).mono ?_
    rintro e w1 ⟨rfl, rfl⟩
    go_wp2_with fail
    refine (c2 _).mono ?_
    rintro e w1 ⟨rfl, hb1⟩
    clear c1 c2
    go_wp2_with fail
    refine (c3 _ (hT.below hb1)).mono ?_
    rintro e w2 ⟨rfl, hb2⟩
    have h2 := Below.next hb1 hb2
    clear hb1 hb2 c3
    go_wp2_with fail
    refine (c4 _ (hT.below h2)).mono ?_
    rintro e w3 ⟨rfl, hb3⟩
    have h3 := Below.next h2 hb3
    clear h2 hb3 c4
    go_wp2_with fail
    refine (c5 _ (hT.below h3)).mono ?_
    rintro e w4 ⟨rfl, hb4⟩
    have h4 := Below.next h3 hb4
    clear h3 hb4 c5
    go_wp2_with fail
    refine (c10 _ (hT.below h4)).mono ?_
    rintro e w5 ⟨rfl, hb5⟩
    have h5 := Below.next h4 hb5
    clear h4 hb5 c10
    go_wp2_with fail
    refine wp_region_on (by kernel_rfl) (FF [(9, Fact.at_ w5 (.string (bs x))), (1, Fact.at_ w5 (.int .i64 k)), (2, Fact.at_ w5 (.int .u32 (q : Int))), (56, Fact.at_ w5 (.string (bs x))), (57, Fact.at_ w5 (.string (bs h))), (58, Fact.at_ w5 (.int .i64 k)), (59, Fact.at_ w5 (.int .i64 (p2 : Int))), (60, Fact.at_ w5 (.int .u32 (q : Int))), (61, Fact.at_ w5 (.tuple #[.string (bs r), .bool z2])), (55, Fact.at_ w5 (.tuple #[.string (bs r), .bool z2])), (62, Fact.at_ w5 (.string (bs r))), (63, Fact.at_ w5 (.bool z2)), (12, Fact.at_ w5 (.string (bs r))), (13, Fact.at_ w5 (.bool z2))]) [9, 1, 2] 84 [56, 57, 58, 59, 60, 61, 55, 62, 63, 12, 13] rfl (by kernel_rfl) (by kernel_rfl) ?_ ?_ ?_
    · intro t ht
      simp only [List.mem_cons, List.not_mem_nil, or_false] at ht
      rcases ht with rfl | rfl | rfl
      · exact ⟨rfl, Below.refl _ _⟩
      · exact ⟨rfl, Below.refl _ _⟩
      · exact ⟨rfl, Below.refl _ _⟩
    · refine fcs ⟨atcopy 9 56 (.string (bs x)) (.inl rfl) rfl (by first | exact .inl rfl | exact .inr ⟨_, _, _, rfl, rfl, by kernel_rfl, by decide, rfl⟩) (by kernel_rfl) rfl rfl, ?_⟩
      refine fcs ⟨at1 56 57 (.string (bs x)) (.string (bs h)) rfl (by first | exact .inl rfl | exact .inr ⟨_, _, _, rfl, rfl, by kernel_rfl, by decide, rfl⟩) (by kernel_rfl) rfl rfl (fun a w hb h1 => by simp [execOp, h1]; go_simp; intro h9; omega), ?_⟩
      refine fcs ⟨atcopy 1 58 (.int .i64 k) (.inl rfl) rfl (by first | exact .inl rfl | exact .inr ⟨_, _, _, rfl, rfl, by kernel_rfl, by decide, rfl⟩) (by kernel_rfl) rfl rfl, ?_⟩
      refine fcs ⟨atc2k 19 58 59 (.int .i64 k) _ (.int .i64 (p2 : Int)) _ rfl rfl (by first | exact .inl rfl | exact .inr ⟨_, _, _, rfl, rfl, by kernel_rfl, by decide, rfl⟩) (by kernel_rfl) rfl (by kernel_rfl) rfl (fun w hb => (c7 w).mono fun _ _ h => Is.ib h), ?_⟩
      refine fcs ⟨atcopy 2 60 (.int .u32 (q : Int)) (.inl rfl) rfl (by first | exact .inl rfl | exact .inr ⟨_, _, _, rfl, rfl, by kernel_rfl, by decide, rfl⟩) (by kernel_rfl) rfl rfl, ?_⟩
      refine fcs ⟨atc3 18 57 59 60 61 (.string (bs h)) (.int .i64 (p2 : Int)) (.int .u32 (q : Int)) (.tuple #[.string (bs r), .bool z2]) _ rfl rfl (by first | exact .inl rfl | exact .inr ⟨_, _, _, rfl, rfl, by kernel_rfl, by decide, rfl⟩) (by kernel_rfl) (by kernel_rfl) (by kernel_rfl) rfl rfl rfl (by kernel_rfl) rfl (fun w hb => c8 w), ?_⟩
      refine fcs ⟨atcopy 61 55 (.tuple #[.string (bs r), .bool z2]) (.inl rfl) rfl (by first | exact .inl rfl | exact .inr ⟨_, _, _, rfl, rfl, by kernel_rfl, by decide, rfl⟩) (by kernel_rfl) rfl rfl, ?_⟩
      refine fcs ⟨at1 55 62 (.tuple #[.string (bs r), .bool z2]) (.string (bs r)) rfl (by first | exact .inl rfl | exact .inr ⟨_, _, _, rfl, rfl, by kernel_rfl, by decide, rfl⟩) (by kernel_rfl) rfl rfl (fun a w hb h1 => by simp [execOp, h1]; go_simp), ?_⟩
      refine fcs ⟨at1 55 63 (.tuple #[.string (bs r), .bool z2]) (.bool z2) rfl (by first | exact .inl rfl | exact .inr ⟨_, _, _, rfl, rfl, by kernel_rfl, by decide, rfl⟩) (by kernel_rfl) rfl rfl (fun a w hb h1 => by simp [execOp, h1]; go_simp), ?_⟩
      refine fcs ⟨atcopy 62 12 (.string (bs r)) (.inr rfl) rfl (by first | exact .inl rfl | exact .inr ⟨_, _, _, rfl, rfl, by kernel_rfl, by decide, rfl⟩) (by kernel_rfl) rfl rfl, ?_⟩
      refine fcs ⟨atcopy 63 13 (.bool z2) (.inr rfl) rfl (by first | exact .inl rfl | exact .inr ⟨_, _, _, rfl, rfl, by kernel_rfl, by decide, rfl⟩) (by kernel_rfl) rfl rfl, ?_⟩
      exact fnl
    intro vv wv hvv hbv
    have hv62 : vv 62 = (.string (bs r)) := (hvv 62 (by decide)).1
    have hv63 : vv 63 = (.bool z2) := (hvv 63 (by decide)).1
    have hv55 : vv 55 = (.tuple #[.string (bs r), .bool z2]) := (hvv 55 (by decide)).1
    have hv12 : vv 12 = (.string (bs r)) := (hvv 12 (by decide)).1
    have hv13 : vv 13 = (.bool z2) := (hvv 13 (by decide)).1
    simp only [lay, List.foldl_cons, List.foldl_nil, List.setIfInBounds_toArray, List.set_cons_succ, List.set_cons_zero, hv62, hv63, hv55, hv12, hv13]
    have h6 := Below.next h5 hbv
    clear hvv hv62 hv63 hbv h5 c7 c8
    go_wp2_with fail
    refine (c11 _ (hT.below h6)).mono ?_
    rintro e w7 ⟨rfl, hb7⟩
    have h7 := Below.next h6 hb7
    clear h6 hb7 c11
    rcases hf2 with rfl | ⟨rfl, rfl⟩
    · go_wp2_with fail
      refine (ca _ (hT.below h7)).mono ?_
      rintro e w8 ⟨rfl, hb8⟩
      go_wp2_with fail
      go_ret
      exact ⟨rfl, Below.next h7 hb8⟩
    · go_wp2_with fail
      refine (ca _ (hT.below h7)).mono ?_
      rintro e w8 ⟨rfl, hb8⟩
      go_wp2_with fail
      go_ret
      exact ⟨rfl, Below.next h7 hb8⟩
set_option maxRecDepth 100000 in
theorem bursts_any (l : List UInt8) (k : Int) (q : Nat) (w : World) (hs : l.length ≤ 140737488355328) (hT : Tabs w) :
    Calls Tryd.prog 6 #[.string (bs l), .int .i64 k, .int .u32 (q : Int)] w (Ib (.bool true) w) := by
  by_cases h0 : l = []
  · subst h0
    have hsz : (bs []).size = 0 := rfl
    have ca := awake_any w hT
    go_enter Tryd.func6, Tryd.ntmps6
    go_wp2_with fail
    refine ca.mono ?_
    rintro e w8 ⟨rfl, hb8⟩
    go_wp2_with fail
    go_ret
    exact ⟨rfl, hb8⟩
  · have hl := List.length_pos_iff.2 h0
    obtain ⟨u, hu⟩ : ∃ u, (IntKind.u64.wrap k).toNat = u := ⟨_, rfl⟩
    have hp : u % (8 * l.length) < 8 * l.length := Nat.mod_lt _ (by omega)
    have hp2 : u % 32 < 8 * (le 4 (crc l)).length := by rw [le_length]; exact Nat.mod_lt _ (by decide)
    obtain ⟨m1, -, -⟩ := flips_facts l (u % (8 * l.length)) q 32
    obtain ⟨r1, -, -⟩ := flips_facts (le 4 (crc l)) (u % 32) q 32
    rw [le_length] at r1
    refine bursts_core l (flips l (u % (8 * l.length)) q 32).1 (seal_ l) (le 4 (crc l)) (flips (le 4 (crc l)) (u % 32) q 32).1 k q (u % (8 * l.length)) (u % 32) (decide ((flips l (u % (8 * l.length)) q 32).2 ≠ 0)) (decide ((flips (le 4 (crc l)) (u % 32) q 32).2 ≠ 0)) (crc l) (crc (flips l (u % (8 * l.length)) q 32).1) w hs h0 hT
      (fun W => ?_) (fun W => flipped_any l _ q W hs hp) (fun W hW => crc_any l W (by omega) hW) (fun W hW => crc_any _ W (by omega) hW) (fun W hW => seal_any l W (by omega) hW) (seal_length l) ?_ (by rw [bs_size, le_length]) m1 (fun hz => ?_) (fun hz W hW => ?_) (fun W => ?_) (fun W => flipped_any _ _ q W (by rw [le_length]; decide) hp2) r1 ?_
    · have := place_any k (8 * l.length) W (by omega) (by omega)
      rw [hu, show ((8 * l.length : Nat) : Int) = 8 * (l.length : Int) by omega] at this
      exact this
    · rw [bs_take, seal_, List.take_append_of_le_length (by rw [le_length]; exact Nat.le_refl _), List.take_of_length_le (by rw [le_length]; exact Nat.le_refl _)]
    · exact Ne.symm (flips_crc hp (of_decide_eq_true hz))
    · have := open_any (le 4 (crc l) ++ (flips l (u % (8 * l.length)) q 32).1) W (by rw [List.length_append, le_length]; omega) hW
      rw [opn_head (le_length 4 _), if_neg] at this
      · exact this
      · intro e
        exact flips_crc hp (of_decide_eq_true hz) (le_inj (le4_lt _) (le4_lt _) e)
    · have := place_any k 32 W (by omega) (by omega)
      rw [hu] at this
      exact this
    · refine ⟨_, _, fun hz => ?_, fun W hW => open_any ((flips (le 4 (crc l)) (u % 32) q 32).1 ++ l) W (by rw [List.length_append]; omega) hW⟩
      rw [opn_head r1, if_neg]
      · rfl
      · intro e
        exact flips_ne (of_decide_eq_true hz) e.symm
end Go.Proofs.YtghmbglnhcdbjaaDoor

import Derived.Test.YtndidbanbklonaaBi
/-
  The developers' check of a fault. No conditions beyond those that each names.
-/
namespace Go.Proofs.Ytndidbanbklonaa
open Go.RowKit Go.Sort Go.Lib Go.Shelf
set_option maxRecDepth 100000 in
set_option maxHeartbeats 4000000 in
theorem check_any (n : Int) (y : Ft) (w : World) : Calls Try.prog 13 #[.int .i64 n, (.agg #[.int .i64 y.k, .int .i64 y.a, .int .i64 y.b, .int .i64 y.f, .int .i64 y.u, .int .i64 y.x])] w (Ib (.int .i64 (ckI n y)) w) := by
  have hab := ab1 w (Obj.cells #[.int .i64 y.k, .int .i64 y.a, .int .i64 y.b, .int .i64 y.f, .int .i64 y.u, .int .i64 y.x] 41)
  obtain ⟨yk, ya, yb, yf, yu, yx⟩ := y
  rw [show ckI n ⟨yk, ya, yb, yf, yu, yx⟩ = ckP n yk ya yb yf yu yx from rfl]
  by_cases h32 : 1 ≤ n ∧ n ≤ 8
  · have d32 : ndB n = true := decide_eq_true h32
    by_cases h33 : yk < 1
    · have d33 : decide (yk < 1) = true := decide_eq_true h33
      have HR : Hid (ckP n yk ya yb yf yu yx = 4) := Lib.hid (if_neg (by omega))
      clear h32 h33 
      go_enter Try.func13, Try.ntmps13
      go_wp2_with (first | (go_at_call 19; refine (node_any _ _).mono ?_; rintro e w9 ⟨rfl, rfl⟩) | (go_at_call 26; refine (peers_any _ _ _ _).mono ?_; rintro e w9 ⟨rfl, rfl⟩) | (go_at_call 20; refine (time_any _ _).mono ?_; rintro e w9 ⟨rfl, rfl⟩))
      go_ret
      rw [HR.out]
      exact ⟨rfl, hab⟩
    · have d33 : decide (yk < 1) = false := decide_eq_false h33
      by_cases h34 : 4 < yk
      · have d34 : decide (4 < yk) = true := decide_eq_true h34
        have HR : Hid (ckP n yk ya yb yf yu yx = 4) := Lib.hid (if_neg (by omega))
        clear h32 h33 h34 
        go_enter Try.func13, Try.ntmps13
        go_wp2_with (first | (go_at_call 19; refine (node_any _ _).mono ?_; rintro e w9 ⟨rfl, rfl⟩) | (go_at_call 26; refine (peers_any _ _ _ _).mono ?_; rintro e w9 ⟨rfl, rfl⟩) | (go_at_call 20; refine (time_any _ _).mono ?_; rintro e w9 ⟨rfl, rfl⟩))
        go_ret
        rw [HR.out]
        exact ⟨rfl, hab⟩
      · have d34 : decide (4 < yk) = false := decide_eq_false h34
        by_cases h35 : 0 ≤ ya ∧ ya < n ∧ 0 ≤ yb ∧ yb < n ∧ ya ≠ yb
        · have d35 : prB n ya yb = true := decide_eq_true h35
          by_cases h36 : 0 ≤ yf ∧ yf ≤ 1099511627776
          · have d36 : tmB yf = true := decide_eq_true h36
            by_cases h37 : 0 ≤ yu ∧ yu ≤ 1099511627776
            · have d37 : tmB yu = true := decide_eq_true h37
              by_cases h38 : yu < yf
              · have d38 : decide (yu < yf) = true := decide_eq_true h38
                have HR : Hid (ckP n yk ya yb yf yu yx = 4) := Lib.hid (if_neg (by omega))
                clear h32 h33 h34 h35 h36 h37 h38 
                go_enter Try.func13, Try.ntmps13
                go_wp2_with (first | (go_at_call 19; refine (node_any _ _).mono ?_; rintro e w9 ⟨rfl, rfl⟩) | (go_at_call 26; refine (peers_any _ _ _ _).mono ?_; rintro e w9 ⟨rfl, rfl⟩) | (go_at_call 20; refine (time_any _ _).mono ?_; rintro e w9 ⟨rfl, rfl⟩))
                go_ret
                rw [HR.out]
                exact ⟨rfl, hab⟩
              · have d38 : decide (yu < yf) = false := decide_eq_false h38
                by_cases h39 : yk = 2
                · have d39 : (yk == 2) = true := beq_iff_eq.2 h39
                  by_cases h40 : 0 ≤ yx ∧ yx ≤ 1099511627776
                  · have d40 : tmB yx = true := decide_eq_true h40
                    by_cases h41 : yx ≠ 0
                    · have d41 : (yx != 0) = true := bne_iff_ne.2 h41
                      have HR : Hid (ckP n yk ya yb yf yu yx = 0) := Lib.hid (if_pos (by omega))
                      clear h32 h33 h34 h35 h36 h37 h38 h39 h40 h41 
                      go_enter Try.func13, Try.ntmps13
                      go_wp2_with (first | (go_at_call 19; refine (node_any _ _).mono ?_; rintro e w9 ⟨rfl, rfl⟩) | (go_at_call 26; refine (peers_any _ _ _ _).mono ?_; rintro e w9 ⟨rfl, rfl⟩) | (go_at_call 20; refine (time_any _ _).mono ?_; rintro e w9 ⟨rfl, rfl⟩))
                      go_ret
                      rw [HR.out]
                      exact ⟨rfl, hab⟩
                    · have d41 : (yx != 0) = false := (by rw [bne_eq_false_iff_eq]; exact Classical.not_not.1 h41)
                      have HR : Hid (ckP n yk ya yb yf yu yx = 0) := Lib.hid (if_pos (by omega))
                      clear h32 h33 h34 h35 h36 h37 h38 h39 h40 h41 
                      go_enter Try.func13, Try.ntmps13
                      go_wp2_with (first | (go_at_call 19; refine (node_any _ _).mono ?_; rintro e w9 ⟨rfl, rfl⟩) | (go_at_call 26; refine (peers_any _ _ _ _).mono ?_; rintro e w9 ⟨rfl, rfl⟩) | (go_at_call 20; refine (time_any _ _).mono ?_; rintro e w9 ⟨rfl, rfl⟩))
                      go_ret
                      rw [HR.out]
                      exact ⟨rfl, hab⟩
                  · have d40 : tmB yx = false := decide_eq_false h40
                    have HR : Hid (ckP n yk ya yb yf yu yx = 4) := Lib.hid (if_neg (by omega))
                    clear h32 h33 h34 h35 h36 h37 h38 h39 h40 
                    go_enter Try.func13, Try.ntmps13
                    go_wp2_with (first | (go_at_call 19; refine (node_any _ _).mono ?_; rintro e w9 ⟨rfl, rfl⟩) | (go_at_call 26; refine (peers_any _ _ _ _).mono ?_; rintro e w9 ⟨rfl, rfl⟩) | (go_at_call 20; refine (time_any _ _).mono ?_; rintro e w9 ⟨rfl, rfl⟩))
                    go_ret
                    rw [HR.out]
                    exact ⟨rfl, hab⟩
                · have d39 : (yk == 2) = false := beq_eq_false_iff_ne.2 h39
                  by_cases h42 : yk = 3
                  · have d42 : (yk == 3) = true := beq_iff_eq.2 h42
                    by_cases h43 : 0 ≤ yx ∧ yx ≤ 1099511627776
                    · have d43 : tmB yx = true := decide_eq_true h43
                      by_cases h44 : yx ≠ 0
                      · have d44 : (yx != 0) = true := bne_iff_ne.2 h44
                        have HR : Hid (ckP n yk ya yb yf yu yx = 0) := Lib.hid (if_pos (by omega))
                        clear h32 h33 h34 h35 h36 h37 h38 h39 h42 h43 h44 
                        go_enter Try.func13, Try.ntmps13
                        go_wp2_with (first | (go_at_call 19; refine (node_any _ _).mono ?_; rintro e w9 ⟨rfl, rfl⟩) | (go_at_call 26; refine (peers_any _ _ _ _).mono ?_; rintro e w9 ⟨rfl, rfl⟩) | (go_at_call 20; refine (time_any _ _).mono ?_; rintro e w9 ⟨rfl, rfl⟩))
                        go_ret
                        rw [HR.out]
                        exact ⟨rfl, hab⟩
                      · have d44 : (yx != 0) = false := (by rw [bne_eq_false_iff_eq]; exact Classical.not_not.1 h44)
                        have HR : Hid (ckP n yk ya yb yf yu yx = 0) := Lib.hid (if_pos (by omega))
                        clear h32 h33 h34 h35 h36 h37 h38 h39 h42 h43 h44 
                        go_enter Try.func13, Try.ntmps13
                        go_wp2_with (first | (go_at_call 19; refine (node_any _ _).mono ?_; rintro e w9 ⟨rfl, rfl⟩) | (go_at_call 26; refine (peers_any _ _ _ _).mono ?_; rintro e w9 ⟨rfl, rfl⟩) | (go_at_call 20; refine (time_any _ _).mono ?_; rintro e w9 ⟨rfl, rfl⟩))
                        go_ret
                        rw [HR.out]
                        exact ⟨rfl, hab⟩
                    · have d43 : tmB yx = false := decide_eq_false h43
                      have HR : Hid (ckP n yk ya yb yf yu yx = 4) := Lib.hid (if_neg (by omega))
                      clear h32 h33 h34 h35 h36 h37 h38 h39 h42 h43 
                      go_enter Try.func13, Try.ntmps13
                      go_wp2_with (first | (go_at_call 19; refine (node_any _ _).mono ?_; rintro e w9 ⟨rfl, rfl⟩) | (go_at_call 26; refine (peers_any _ _ _ _).mono ?_; rintro e w9 ⟨rfl, rfl⟩) | (go_at_call 20; refine (time_any _ _).mono ?_; rintro e w9 ⟨rfl, rfl⟩))
                      go_ret
                      rw [HR.out]
                      exact ⟨rfl, hab⟩
                  · have d42 : (yk == 3) = false := beq_eq_false_iff_ne.2 h42
                    by_cases h45 : 0 ≤ yx ∧ yx ≤ 1099511627776
                    · have d45 : tmB yx = true := decide_eq_true h45
                      by_cases h46 : yx ≠ 0
                      · have d46 : (yx != 0) = true := bne_iff_ne.2 h46
                        have HR : Hid (ckP n yk ya yb yf yu yx = 4) := Lib.hid (if_neg (by omega))
                        clear h32 h33 h34 h35 h36 h37 h38 h39 h42 h45 h46 
                        go_enter Try.func13, Try.ntmps13
                        go_wp2_with (first | (go_at_call 19; refine (node_any _ _).mono ?_; rintro e w9 ⟨rfl, rfl⟩) | (go_at_call 26; refine (peers_any _ _ _ _).mono ?_; rintro e w9 ⟨rfl, rfl⟩) | (go_at_call 20; refine (time_any _ _).mono ?_; rintro e w9 ⟨rfl, rfl⟩))
                        go_ret
                        rw [HR.out]
                        exact ⟨rfl, hab⟩
                      · have d46 : (yx != 0) = false := (by rw [bne_eq_false_iff_eq]; exact Classical.not_not.1 h46)
                        have HR : Hid (ckP n yk ya yb yf yu yx = 0) := Lib.hid (if_pos (by omega))
                        clear h32 h33 h34 h35 h36 h37 h38 h39 h42 h45 h46 
                        go_enter Try.func13, Try.ntmps13
                        go_wp2_with (first | (go_at_call 19; refine (node_any _ _).mono ?_; rintro e w9 ⟨rfl, rfl⟩) | (go_at_call 26; refine (peers_any _ _ _ _).mono ?_; rintro e w9 ⟨rfl, rfl⟩) | (go_at_call 20; refine (time_any _ _).mono ?_; rintro e w9 ⟨rfl, rfl⟩))
                        go_ret
                        rw [HR.out]
                        exact ⟨rfl, hab⟩
                    · have d45 : tmB yx = false := decide_eq_false h45
                      have HR : Hid (ckP n yk ya yb yf yu yx = 4) := Lib.hid (if_neg (by omega))
                      clear h32 h33 h34 h35 h36 h37 h38 h39 h42 h45 
                      go_enter Try.func13, Try.ntmps13
                      go_wp2_with (first | (go_at_call 19; refine (node_any _ _).mono ?_; rintro e w9 ⟨rfl, rfl⟩) | (go_at_call 26; refine (peers_any _ _ _ _).mono ?_; rintro e w9 ⟨rfl, rfl⟩) | (go_at_call 20; refine (time_any _ _).mono ?_; rintro e w9 ⟨rfl, rfl⟩))
                      go_ret
                      rw [HR.out]
                      exact ⟨rfl, hab⟩
            · have d37 : tmB yu = false := decide_eq_false h37
              have HR : Hid (ckP n yk ya yb yf yu yx = 4) := Lib.hid (if_neg (by omega))
              clear h32 h33 h34 h35 h36 h37 
              go_enter Try.func13, Try.ntmps13
              go_wp2_with (first | (go_at_call 19; refine (node_any _ _).mono ?_; rintro e w9 ⟨rfl, rfl⟩) | (go_at_call 26; refine (peers_any _ _ _ _).mono ?_; rintro e w9 ⟨rfl, rfl⟩) | (go_at_call 20; refine (time_any _ _).mono ?_; rintro e w9 ⟨rfl, rfl⟩))
              go_ret
              rw [HR.out]
              exact ⟨rfl, hab⟩
          · have d36 : tmB yf = false := decide_eq_false h36
            have HR : Hid (ckP n yk ya yb yf yu yx = 4) := Lib.hid (if_neg (by omega))
            clear h32 h33 h34 h35 h36 
            go_enter Try.func13, Try.ntmps13
            go_wp2_with (first | (go_at_call 19; refine (node_any _ _).mono ?_; rintro e w9 ⟨rfl, rfl⟩) | (go_at_call 26; refine (peers_any _ _ _ _).mono ?_; rintro e w9 ⟨rfl, rfl⟩) | (go_at_call 20; refine (time_any _ _).mono ?_; rintro e w9 ⟨rfl, rfl⟩))
            go_ret
            rw [HR.out]
            exact ⟨rfl, hab⟩
        · have d35 : prB n ya yb = false := decide_eq_false h35
          have HR : Hid (ckP n yk ya yb yf yu yx = 4) := Lib.hid (if_neg (by omega))
          clear h32 h33 h34 h35 
          go_enter Try.func13, Try.ntmps13
          go_wp2_with (first | (go_at_call 19; refine (node_any _ _).mono ?_; rintro e w9 ⟨rfl, rfl⟩) | (go_at_call 26; refine (peers_any _ _ _ _).mono ?_; rintro e w9 ⟨rfl, rfl⟩) | (go_at_call 20; refine (time_any _ _).mono ?_; rintro e w9 ⟨rfl, rfl⟩))
          go_ret
          rw [HR.out]
          exact ⟨rfl, hab⟩
  · have d32 : ndB n = false := decide_eq_false h32
    have HR : Hid (ckP n yk ya yb yf yu yx = 4) := Lib.hid (if_neg (by omega))
    clear h32 
    go_enter Try.func13, Try.ntmps13
    go_wp2_with (first | (go_at_call 19; refine (node_any _ _).mono ?_; rintro e w9 ⟨rfl, rfl⟩) | (go_at_call 26; refine (peers_any _ _ _ _).mono ?_; rintro e w9 ⟨rfl, rfl⟩) | (go_at_call 20; refine (time_any _ _).mono ?_; rintro e w9 ⟨rfl, rfl⟩))
    go_ret
    rw [HR.out]
    exact ⟨rfl, hab⟩
end Go.Proofs.Ytndidbanbklonaa

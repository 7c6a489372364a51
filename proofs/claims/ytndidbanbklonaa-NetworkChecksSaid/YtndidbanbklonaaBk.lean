import Derived.Test.YtndidbanbklonaaBi
/-
  The reference's check of a fault, and which are in force. No conditions beyond those that each names.
-/
namespace Go.Proofs.Ytndidbanbklonaa
open Go.RowKit Go.Sort Go.Lib Go.Shelf
set_option maxRecDepth 100000 in
set_option maxHeartbeats 4000000 in
theorem applies_any (y : Ft) (at_ fr to_ : Int) (w : World) : Calls Try.prog 41 #[(.agg #[.int .i64 y.k, .int .i64 y.a, .int .i64 y.b, .int .i64 y.f, .int .i64 y.u, .int .i64 y.x]), .int .i64 at_, .int .i64 fr, .int .i64 to_] w (Ib (.bool (cnB y at_ fr to_)) w) := by
  have hab := ab1 w (Obj.cells #[.int .i64 y.k, .int .i64 y.a, .int .i64 y.b, .int .i64 y.f, .int .i64 y.u, .int .i64 y.x] 41)
  obtain ⟨yk, ya, yb, yf, yu, yx⟩ := y
  rw [show cnB ⟨yk, ya, yb, yf, yu, yx⟩ at_ fr to_ = cnI yk ya yb yf yu at_ fr to_ from rfl]
  by_cases h22 : at_ < yf
  · have d22 : decide (at_ < yf) = true := decide_eq_true h22
    have HR : Hid (cnI yk ya yb yf yu at_ fr to_ = false) := Lib.hid (decide_eq_false (by omega))
    clear h22
    go_enter Try.func41, Try.ntmps41
    go_wp2_with (fail)
    go_ret
    rw [HR.out]
    exact ⟨rfl, hab⟩
  · have d22 : decide (at_ < yf) = false := decide_eq_false h22
    by_cases h23 : yu ≤ at_
    · have d23 : decide (yu ≤ at_) = true := decide_eq_true h23
      have HR : Hid (cnI yk ya yb yf yu at_ fr to_ = false) := Lib.hid (decide_eq_false (by omega))
      clear h22 h23
      go_enter Try.func41, Try.ntmps41
      go_wp2_with (fail)
      go_ret
      rw [HR.out]
      exact ⟨rfl, hab⟩
    · have d23 : decide (yu ≤ at_) = false := decide_eq_false h23
      by_cases h24 : ya = fr
      · have d24 : (ya == fr) = true := beq_iff_eq.2 h24
        by_cases h25 : yb = to_
        · have d25 : (yb == to_) = true := beq_iff_eq.2 h25
          have HR : Hid (cnI yk ya yb yf yu at_ fr to_ = true) := Lib.hid (decide_eq_true (by omega))
          clear h22 h23 h24 h25
          go_enter Try.func41, Try.ntmps41
          go_wp2_with (fail)
          go_ret
          rw [HR.out]
          exact ⟨rfl, hab⟩
        · have d25 : (yb == to_) = false := beq_eq_false_iff_ne.2 h25
          by_cases h26 : yk = 4
          · have d26 : (yk == 4) = true := beq_iff_eq.2 h26
            by_cases h27 : ya = to_
            · have d27 : (ya == to_) = true := beq_iff_eq.2 h27
              by_cases h28 : yb = fr
              · have d28 : (yb == fr) = true := beq_iff_eq.2 h28
                have HR : Hid (cnI yk ya yb yf yu at_ fr to_ = true) := Lib.hid (decide_eq_true (by omega))
                clear h22 h23 h24 h25 h26 h27 h28
                go_enter Try.func41, Try.ntmps41
                go_wp2_with (fail)
                go_ret
                rw [HR.out]
                exact ⟨rfl, hab⟩
              · have d28 : (yb == fr) = false := beq_eq_false_iff_ne.2 h28
                have HR : Hid (cnI yk ya yb yf yu at_ fr to_ = false) := Lib.hid (decide_eq_false (by omega))
                clear h22 h23 h24 h25 h26 h27 h28
                go_enter Try.func41, Try.ntmps41
                go_wp2_with (fail)
                go_ret
                rw [HR.out]
                exact ⟨rfl, hab⟩
            · have d27 : (ya == to_) = false := beq_eq_false_iff_ne.2 h27
              have HR : Hid (cnI yk ya yb yf yu at_ fr to_ = false) := Lib.hid (decide_eq_false (by omega))
              clear h22 h23 h24 h25 h26 h27
              go_enter Try.func41, Try.ntmps41
              go_wp2_with (fail)
              go_ret
              rw [HR.out]
              exact ⟨rfl, hab⟩
          · have d26 : (yk == 4) = false := beq_eq_false_iff_ne.2 h26
            have HR : Hid (cnI yk ya yb yf yu at_ fr to_ = false) := Lib.hid (decide_eq_false (by omega))
            clear h22 h23 h24 h25 h26
            go_enter Try.func41, Try.ntmps41
            go_wp2_with (fail)
            go_ret
            rw [HR.out]
            exact ⟨rfl, hab⟩
      · have d24 : (ya == fr) = false := beq_eq_false_iff_ne.2 h24
        by_cases h29 : yk = 4
        · have d29 : (yk == 4) = true := beq_iff_eq.2 h29
          by_cases h30 : ya = to_
          · have d30 : (ya == to_) = true := beq_iff_eq.2 h30
            by_cases h31 : yb = fr
            · have d31 : (yb == fr) = true := beq_iff_eq.2 h31
              have HR : Hid (cnI yk ya yb yf yu at_ fr to_ = true) := Lib.hid (decide_eq_true (by omega))
              clear h22 h23 h24 h29 h30 h31
              go_enter Try.func41, Try.ntmps41
              go_wp2_with (fail)
              go_ret
              rw [HR.out]
              exact ⟨rfl, hab⟩
            · have d31 : (yb == fr) = false := beq_eq_false_iff_ne.2 h31
              have HR : Hid (cnI yk ya yb yf yu at_ fr to_ = false) := Lib.hid (decide_eq_false (by omega))
              clear h22 h23 h24 h29 h30 h31
              go_enter Try.func41, Try.ntmps41
              go_wp2_with (fail)
              go_ret
              rw [HR.out]
              exact ⟨rfl, hab⟩
          · have d30 : (ya == to_) = false := beq_eq_false_iff_ne.2 h30
            have HR : Hid (cnI yk ya yb yf yu at_ fr to_ = false) := Lib.hid (decide_eq_false (by omega))
            clear h22 h23 h24 h29 h30
            go_enter Try.func41, Try.ntmps41
            go_wp2_with (fail)
            go_ret
            rw [HR.out]
            exact ⟨rfl, hab⟩
        · have d29 : (yk == 4) = false := beq_eq_false_iff_ne.2 h29
          have HR : Hid (cnI yk ya yb yf yu at_ fr to_ = false) := Lib.hid (decide_eq_false (by omega))
          clear h22 h23 h24 h29
          go_enter Try.func41, Try.ntmps41
          go_wp2_with (fail)
          go_ret
          rw [HR.out]
          exact ⟨rfl, hab⟩
set_option maxRecDepth 100000 in
set_option maxHeartbeats 4000000 in
theorem refCheck_any (n : Int) (y : Ft) (w : World) : Calls Try.prog 14 #[.int .i64 n, (.agg #[.int .i64 y.k, .int .i64 y.a, .int .i64 y.b, .int .i64 y.f, .int .i64 y.u, .int .i64 y.x])] w (Ib (.int .i64 (ckI n y)) w) := by
  have hab := ab1 w (Obj.cells #[.int .i64 y.k, .int .i64 y.a, .int .i64 y.b, .int .i64 y.f, .int .i64 y.u, .int .i64 y.x] 41)
  obtain ⟨yk, ya, yb, yf, yu, yx⟩ := y
  rw [show ckI n ⟨yk, ya, yb, yf, yu, yx⟩ = ckP n yk ya yb yf yu yx from rfl]
  by_cases h47 : n < 1
  · have d47 : decide (n < 1) = true := decide_eq_true h47
    have HR : Hid (ckP n yk ya yb yf yu yx = 4) := Lib.hid (if_neg (by omega))
    clear h47 
    go_enter Try.func14, Try.ntmps14
    go_wp2_with (fail)
    go_ret
    rw [HR.out]
    exact ⟨rfl, hab⟩
  · have d47 : decide (n < 1) = false := decide_eq_false h47
    by_cases h48 : 8 < n
    · have d48 : decide (8 < n) = true := decide_eq_true h48
      have HR : Hid (ckP n yk ya yb yf yu yx = 4) := Lib.hid (if_neg (by omega))
      clear h47 h48 
      go_enter Try.func14, Try.ntmps14
      go_wp2_with (fail)
      go_ret
      rw [HR.out]
      exact ⟨rfl, hab⟩
    · have d48 : decide (8 < n) = false := decide_eq_false h48
      by_cases h49 : yk < 1
      · have d49 : decide (yk < 1) = true := decide_eq_true h49
        have HR : Hid (ckP n yk ya yb yf yu yx = 4) := Lib.hid (if_neg (by omega))
        clear h47 h48 h49 
        go_enter Try.func14, Try.ntmps14
        go_wp2_with (fail)
        go_ret
        rw [HR.out]
        exact ⟨rfl, hab⟩
      · have d49 : decide (yk < 1) = false := decide_eq_false h49
        by_cases h50 : 4 < yk
        · have d50 : decide (4 < yk) = true := decide_eq_true h50
          have HR : Hid (ckP n yk ya yb yf yu yx = 4) := Lib.hid (if_neg (by omega))
          clear h47 h48 h49 h50 
          go_enter Try.func14, Try.ntmps14
          go_wp2_with (fail)
          go_ret
          rw [HR.out]
          exact ⟨rfl, hab⟩
        · have d50 : decide (4 < yk) = false := decide_eq_false h50
          by_cases h51 : ya < 0
          · have d51 : decide (ya < 0) = true := decide_eq_true h51
            have HR : Hid (ckP n yk ya yb yf yu yx = 4) := Lib.hid (if_neg (by omega))
            clear h47 h48 h49 h50 h51 
            go_enter Try.func14, Try.ntmps14
            go_wp2_with (fail)
            go_ret
            rw [HR.out]
            exact ⟨rfl, hab⟩
          · have d51 : decide (ya < 0) = false := decide_eq_false h51
            by_cases h52 : n ≤ ya
            · have d52 : decide (n ≤ ya) = true := decide_eq_true h52
              have HR : Hid (ckP n yk ya yb yf yu yx = 4) := Lib.hid (if_neg (by omega))
              clear h47 h48 h49 h50 h51 h52 
              go_enter Try.func14, Try.ntmps14
              go_wp2_with (fail)
              go_ret
              rw [HR.out]
              exact ⟨rfl, hab⟩
            · have d52 : decide (n ≤ ya) = false := decide_eq_false h52
              by_cases h53 : yb < 0
              · have d53 : decide (yb < 0) = true := decide_eq_true h53
                have HR : Hid (ckP n yk ya yb yf yu yx = 4) := Lib.hid (if_neg (by omega))
                clear h47 h48 h49 h50 h51 h52 h53 
                go_enter Try.func14, Try.ntmps14
                go_wp2_with (fail)
                go_ret
                rw [HR.out]
                exact ⟨rfl, hab⟩
              · have d53 : decide (yb < 0) = false := decide_eq_false h53
                by_cases h54 : n ≤ yb
                · have d54 : decide (n ≤ yb) = true := decide_eq_true h54
                  have HR : Hid (ckP n yk ya yb yf yu yx = 4) := Lib.hid (if_neg (by omega))
                  clear h47 h48 h49 h50 h51 h52 h53 h54 
                  go_enter Try.func14, Try.ntmps14
                  go_wp2_with (fail)
                  go_ret
                  rw [HR.out]
                  exact ⟨rfl, hab⟩
                · have d54 : decide (n ≤ yb) = false := decide_eq_false h54
                  by_cases h55 : ya = yb
                  · have d55 : (ya == yb) = true := beq_iff_eq.2 h55
                    have HR : Hid (ckP n yk ya yb yf yu yx = 4) := Lib.hid (if_neg (by omega))
                    clear h47 h48 h49 h50 h51 h52 h53 h54 h55 
                    go_enter Try.func14, Try.ntmps14
                    go_wp2_with (fail)
                    go_ret
                    rw [HR.out]
                    exact ⟨rfl, hab⟩
                  · have d55 : (ya == yb) = false := beq_eq_false_iff_ne.2 h55
                    by_cases h56 : yf < 0
                    · have d56 : decide (yf < 0) = true := decide_eq_true h56
                      have HR : Hid (ckP n yk ya yb yf yu yx = 4) := Lib.hid (if_neg (by omega))
                      clear h47 h48 h49 h50 h51 h52 h53 h54 h55 h56 
                      go_enter Try.func14, Try.ntmps14
                      go_wp2_with (fail)
                      go_ret
                      rw [HR.out]
                      exact ⟨rfl, hab⟩
                    · have d56 : decide (yf < 0) = false := decide_eq_false h56
                      by_cases h57 : yu < yf
                      · have d57 : decide (yu < yf) = true := decide_eq_true h57
                        have HR : Hid (ckP n yk ya yb yf yu yx = 4) := Lib.hid (if_neg (by omega))
                        clear h47 h48 h49 h50 h51 h52 h53 h54 h55 h56 h57 
                        go_enter Try.func14, Try.ntmps14
                        go_wp2_with (fail)
                        go_ret
                        rw [HR.out]
                        exact ⟨rfl, hab⟩
                      · have d57 : decide (yu < yf) = false := decide_eq_false h57
                        by_cases h58 : 1099511627776 < yu
                        · have d58 : decide (1099511627776 < yu) = true := decide_eq_true h58
                          have HR : Hid (ckP n yk ya yb yf yu yx = 4) := Lib.hid (if_neg (by omega))
                          clear h47 h48 h49 h50 h51 h52 h53 h54 h55 h56 h57 h58 
                          go_enter Try.func14, Try.ntmps14
                          go_wp2_with (fail)
                          go_ret
                          rw [HR.out]
                          exact ⟨rfl, hab⟩
                        · have d58 : decide (1099511627776 < yu) = false := decide_eq_false h58
                          by_cases h59 : yx < 0
                          · have d59 : decide (yx < 0) = true := decide_eq_true h59
                            have HR : Hid (ckP n yk ya yb yf yu yx = 4) := Lib.hid (if_neg (by omega))
                            clear h47 h48 h49 h50 h51 h52 h53 h54 h55 h56 h57 h58 h59 
                            go_enter Try.func14, Try.ntmps14
                            go_wp2_with (fail)
                            go_ret
                            rw [HR.out]
                            exact ⟨rfl, hab⟩
                          · have d59 : decide (yx < 0) = false := decide_eq_false h59
                            by_cases h60 : 1099511627776 < yx
                            · have d60 : decide (1099511627776 < yx) = true := decide_eq_true h60
                              have HR : Hid (ckP n yk ya yb yf yu yx = 4) := Lib.hid (if_neg (by omega))
                              clear h47 h48 h49 h50 h51 h52 h53 h54 h55 h56 h57 h58 h59 h60 
                              go_enter Try.func14, Try.ntmps14
                              go_wp2_with (fail)
                              go_ret
                              rw [HR.out]
                              exact ⟨rfl, hab⟩
                            · have d60 : decide (1099511627776 < yx) = false := decide_eq_false h60
                              by_cases h61 : yx ≠ 0
                              · have d61 : (yx != 0) = true := bne_iff_ne.2 h61
                                by_cases h62 : yk = 1
                                · have d62 : (yk == 1) = true := beq_iff_eq.2 h62
                                  have HR : Hid (ckP n yk ya yb yf yu yx = 4) := Lib.hid (if_neg (by omega))
                                  clear h47 h48 h49 h50 h51 h52 h53 h54 h55 h56 h57 h58 h59 h60 h61 h62 
                                  go_enter Try.func14, Try.ntmps14
                                  go_wp2_with (fail)
                                  go_ret
                                  rw [HR.out]
                                  exact ⟨rfl, hab⟩
                                · have d62 : (yk == 1) = false := beq_eq_false_iff_ne.2 h62
                                  by_cases h63 : yk = 4
                                  · have d63 : (yk == 4) = true := beq_iff_eq.2 h63
                                    have HR : Hid (ckP n yk ya yb yf yu yx = 4) := Lib.hid (if_neg (by omega))
                                    clear h47 h48 h49 h50 h51 h52 h53 h54 h55 h56 h57 h58 h59 h60 h61 h62 h63 
                                    go_enter Try.func14, Try.ntmps14
                                    go_wp2_with (fail)
                                    go_ret
                                    rw [HR.out]
                                    exact ⟨rfl, hab⟩
                                  · have d63 : (yk == 4) = false := beq_eq_false_iff_ne.2 h63
                                    have HR : Hid (ckP n yk ya yb yf yu yx = 0) := Lib.hid (if_pos (by omega))
                                    clear h47 h48 h49 h50 h51 h52 h53 h54 h55 h56 h57 h58 h59 h60 h61 h62 h63 
                                    go_enter Try.func14, Try.ntmps14
                                    go_wp2_with (fail)
                                    go_ret
                                    rw [HR.out]
                                    exact ⟨rfl, hab⟩
                              · have d61 : (yx != 0) = false := (by rw [bne_eq_false_iff_eq]; exact Classical.not_not.1 h61)
                                have HR : Hid (ckP n yk ya yb yf yu yx = 0) := Lib.hid (if_pos (by omega))
                                clear h47 h48 h49 h50 h51 h52 h53 h54 h55 h56 h57 h58 h59 h60 h61 
                                go_enter Try.func14, Try.ntmps14
                                go_wp2_with (fail)
                                go_ret
                                rw [HR.out]
                                exact ⟨rfl, hab⟩
end Go.Proofs.Ytndidbanbklonaa

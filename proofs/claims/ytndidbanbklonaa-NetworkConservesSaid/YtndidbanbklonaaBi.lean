import Derived.Test.YtndidbanbklonaaBh
/-
  Faults as data; which are valid, which are in force: both checks. No conditions beyond those that each names.
-/
namespace Go.Proofs.Ytndidbanbklonaa
open Go.RowKit Go.Sort Go.Lib Go.Shelf
/-- A fault: its kind, its nodes, from, until, its extra time. -/
structure Ft where
  k : Int
  a : Int
  b : Int
  f : Int
  u : Int
  x : Int
def e6 (y : Ft) : List Value := [.int .i64 y.k, .int .i64 y.a, .int .i64 y.b, .int .i64 y.f, .int .i64 y.u, .int .i64 y.x]
theorem e6_len (y : Ft) : (e6 y).length = 6 := rfl
theorem e6_one (y : Ft) (u : Value) (h : u ∈ e6 y) : u.oneCell' = true := by
  simp only [e6, List.mem_cons, List.not_mem_nil, or_false] at h
  rcases h with rfl | rfl | rfl | rfl | rfl | rfl <;> rfl
/-- A number of nodes; a time; two nodes. -/
def ndB (n : Int) : Bool := decide (1 ≤ n ∧ n ≤ 8)
def tmB (n : Int) : Bool := decide (0 ≤ n ∧ n ≤ 1099511627776)
def prB (n a b : Int) : Bool := decide (0 ≤ a ∧ a < n ∧ 0 ≤ b ∧ b < n ∧ a ≠ b)
/-- Whether a fault is in force and concerns what is sent. -/
def cnI (yk ya yb yf yu at_ fr to_ : Int) : Bool := decide (yf ≤ at_ ∧ at_ < yu ∧ (ya = fr ∧ yb = to_ ∨ (ya = to_ ∧ yb = fr) ∧ yk = 4))
def cnB (y : Ft) (at_ fr to_ : Int) : Bool := cnI y.k y.a y.b y.f y.u at_ fr to_
/-- A valid fault. -/
abbrev FtP (n yk ya yb yf yu yx : Int) : Prop := (1 ≤ n ∧ n ≤ 8) ∧ (1 ≤ yk ∧ yk ≤ 4) ∧ (0 ≤ ya ∧ ya < n ∧ 0 ≤ yb ∧ yb < n ∧ ya ≠ yb) ∧ (0 ≤ yf ∧ yf ≤ 1099511627776) ∧ (0 ≤ yu ∧ yu ≤ 1099511627776) ∧ yf ≤ yu ∧ (0 ≤ yx ∧ yx ≤ 1099511627776) ∧ (yx = 0 ∨ yk = 2 ∨ yk = 3)
def ckP (n yk ya yb yf yu yx : Int) : Int := if FtP n yk ya yb yf yu yx then 0 else 4
abbrev FtOk (n : Int) (y : Ft) : Prop := FtP n y.k y.a y.b y.f y.u y.x
def ckI (n : Int) (y : Ft) : Int := ckP n y.k y.a y.b y.f y.u y.x
set_option maxRecDepth 100000 in
set_option maxHeartbeats 4000000 in
theorem node_any (n : Int) (w : World) : Calls Try.prog 19 #[.int .i64 n] w (Is (.bool (ndB n)) w) := by
  by_cases h1 : 1 ≤ n
  · have d1 : decide (1 ≤ n) = true := decide_eq_true h1
    by_cases h2 : n ≤ 8
    · have d2 : decide (n ≤ 8) = true := decide_eq_true h2
      have HR : Hid (ndB n = true) := Lib.hid (decide_eq_true (by omega))
      clear h1 h2 
      go_enter Try.func19, Try.ntmps19
      go_wp2_with (fail)
      go_ret
      rw [HR.out]
      exact ⟨rfl, rfl⟩
    · have d2 : decide (n ≤ 8) = false := decide_eq_false h2
      have HR : Hid (ndB n = false) := Lib.hid (decide_eq_false (by omega))
      clear h1 h2 
      go_enter Try.func19, Try.ntmps19
      go_wp2_with (fail)
      go_ret
      rw [HR.out]
      exact ⟨rfl, rfl⟩
  · have d1 : decide (1 ≤ n) = false := decide_eq_false h1
    have HR : Hid (ndB n = false) := Lib.hid (decide_eq_false (by omega))
    clear h1 
    go_enter Try.func19, Try.ntmps19
    go_wp2_with (fail)
    go_ret
    rw [HR.out]
    exact ⟨rfl, rfl⟩
set_option maxRecDepth 100000 in
set_option maxHeartbeats 4000000 in
theorem time_any (n : Int) (w : World) : Calls Try.prog 20 #[.int .i64 n] w (Is (.bool (tmB n)) w) := by
  by_cases h3 : 0 ≤ n
  · have d3 : decide (0 ≤ n) = true := decide_eq_true h3
    by_cases h4 : n ≤ 1099511627776
    · have d4 : decide (n ≤ 1099511627776) = true := decide_eq_true h4
      have HR : Hid (tmB n = true) := Lib.hid (decide_eq_true (by omega))
      clear h3 h4 
      go_enter Try.func20, Try.ntmps20
      go_wp2_with (fail)
      go_ret
      rw [HR.out]
      exact ⟨rfl, rfl⟩
    · have d4 : decide (n ≤ 1099511627776) = false := decide_eq_false h4
      have HR : Hid (tmB n = false) := Lib.hid (decide_eq_false (by omega))
      clear h3 h4 
      go_enter Try.func20, Try.ntmps20
      go_wp2_with (fail)
      go_ret
      rw [HR.out]
      exact ⟨rfl, rfl⟩
  · have d3 : decide (0 ≤ n) = false := decide_eq_false h3
    have HR : Hid (tmB n = false) := Lib.hid (decide_eq_false (by omega))
    clear h3 
    go_enter Try.func20, Try.ntmps20
    go_wp2_with (fail)
    go_ret
    rw [HR.out]
    exact ⟨rfl, rfl⟩
set_option maxRecDepth 100000 in
set_option maxHeartbeats 4000000 in
theorem peers_any (n a b : Int) (w : World) : Calls Try.prog 26 #[.int .i64 n, .int .i64 a, .int .i64 b] w (Is (.bool (prB n a b)) w) := by
  by_cases h5 : 0 ≤ a
  · have d5 : decide (0 ≤ a) = true := decide_eq_true h5
    by_cases h6 : a < n
    · have d6 : decide (a < n) = true := decide_eq_true h6
      by_cases h7 : 0 ≤ b
      · have d7 : decide (0 ≤ b) = true := decide_eq_true h7
        by_cases h8 : b < n
        · have d8 : decide (b < n) = true := decide_eq_true h8
          by_cases h9 : a ≠ b
          · have d9 : (a != b) = true := bne_iff_ne.2 h9
            have HR : Hid (prB n a b = true) := Lib.hid (decide_eq_true (by omega))
            clear h5 h6 h7 h8 h9 
            go_enter Try.func26, Try.ntmps26
            go_wp2_with (fail)
            go_ret
            rw [HR.out]
            exact ⟨rfl, rfl⟩
          · have d9 : (a != b) = false := (by rw [bne_eq_false_iff_eq]; exact Classical.not_not.1 h9)
            have HR : Hid (prB n a b = false) := Lib.hid (decide_eq_false (by omega))
            clear h5 h6 h7 h8 h9 
            go_enter Try.func26, Try.ntmps26
            go_wp2_with (fail)
            go_ret
            rw [HR.out]
            exact ⟨rfl, rfl⟩
        · have d8 : decide (b < n) = false := decide_eq_false h8
          have HR : Hid (prB n a b = false) := Lib.hid (decide_eq_false (by omega))
          clear h5 h6 h7 h8 
          go_enter Try.func26, Try.ntmps26
          go_wp2_with (fail)
          go_ret
          rw [HR.out]
          exact ⟨rfl, rfl⟩
      · have d7 : decide (0 ≤ b) = false := decide_eq_false h7
        have HR : Hid (prB n a b = false) := Lib.hid (decide_eq_false (by omega))
        clear h5 h6 h7 
        go_enter Try.func26, Try.ntmps26
        go_wp2_with (fail)
        go_ret
        rw [HR.out]
        exact ⟨rfl, rfl⟩
    · have d6 : decide (a < n) = false := decide_eq_false h6
      have HR : Hid (prB n a b = false) := Lib.hid (decide_eq_false (by omega))
      clear h5 h6 
      go_enter Try.func26, Try.ntmps26
      go_wp2_with (fail)
      go_ret
      rw [HR.out]
      exact ⟨rfl, rfl⟩
  · have d5 : decide (0 ≤ a) = false := decide_eq_false h5
    have HR : Hid (prB n a b = false) := Lib.hid (decide_eq_false (by omega))
    clear h5 
    go_enter Try.func26, Try.ntmps26
    go_wp2_with (fail)
    go_ret
    rw [HR.out]
    exact ⟨rfl, rfl⟩
set_option maxRecDepth 100000 in
set_option maxHeartbeats 4000000 in
theorem concerns_any (y : Ft) (at_ fr to_ : Int) (w : World) : Calls Try.prog 39 #[(.agg #[.int .i64 y.k, .int .i64 y.a, .int .i64 y.b, .int .i64 y.f, .int .i64 y.u, .int .i64 y.x]), .int .i64 at_, .int .i64 fr, .int .i64 to_] w (Ib (.bool (cnB y at_ fr to_)) w) := by
  have hab := ab1 w (Obj.cells #[.int .i64 y.k, .int .i64 y.a, .int .i64 y.b, .int .i64 y.f, .int .i64 y.u, .int .i64 y.x] 41)
  obtain ⟨yk, ya, yb, yf, yu, yx⟩ := y
  rw [show cnB ⟨yk, ya, yb, yf, yu, yx⟩ at_ fr to_ = cnI yk ya yb yf yu at_ fr to_ from rfl]
  by_cases h10 : at_ < yf
  · have d10 : decide (at_ < yf) = true := decide_eq_true h10
    have HR : Hid (cnI yk ya yb yf yu at_ fr to_ = false) := Lib.hid (decide_eq_false (by omega))
    clear h10
    go_enter Try.func39, Try.ntmps39
    go_wp2_with (fail)
    go_ret
    rw [HR.out]
    exact ⟨rfl, hab⟩
  · have d10 : decide (at_ < yf) = false := decide_eq_false h10
    by_cases h11 : yu ≤ at_
    · have d11 : decide (yu ≤ at_) = true := decide_eq_true h11
      have HR : Hid (cnI yk ya yb yf yu at_ fr to_ = false) := Lib.hid (decide_eq_false (by omega))
      clear h10 h11
      go_enter Try.func39, Try.ntmps39
      go_wp2_with (fail)
      go_ret
      rw [HR.out]
      exact ⟨rfl, hab⟩
    · have d11 : decide (yu ≤ at_) = false := decide_eq_false h11
      by_cases h12 : ya = fr
      · have d12 : (ya == fr) = true := beq_iff_eq.2 h12
        by_cases h13 : yb = to_
        · have d13 : (yb == to_) = true := beq_iff_eq.2 h13
          by_cases h14 : ya = to_
          · have d14 : (ya == to_) = true := beq_iff_eq.2 h14
            by_cases h15 : yb = fr
            · have d15 : (yb == fr) = true := beq_iff_eq.2 h15
              have HR : Hid (cnI yk ya yb yf yu at_ fr to_ = true) := Lib.hid (decide_eq_true (by omega))
              clear h10 h11 h12 h13 h14 h15
              go_enter Try.func39, Try.ntmps39
              go_wp2_with (fail)
              go_ret
              rw [HR.out]
              exact ⟨rfl, hab⟩
            · have d15 : (yb == fr) = false := beq_eq_false_iff_ne.2 h15
              have HR : Hid (cnI yk ya yb yf yu at_ fr to_ = true) := Lib.hid (decide_eq_true (by omega))
              clear h10 h11 h12 h13 h14 h15
              go_enter Try.func39, Try.ntmps39
              go_wp2_with (fail)
              go_ret
              rw [HR.out]
              exact ⟨rfl, hab⟩
          · have d14 : (ya == to_) = false := beq_eq_false_iff_ne.2 h14
            have HR : Hid (cnI yk ya yb yf yu at_ fr to_ = true) := Lib.hid (decide_eq_true (by omega))
            clear h10 h11 h12 h13 h14
            go_enter Try.func39, Try.ntmps39
            go_wp2_with (fail)
            go_ret
            rw [HR.out]
            exact ⟨rfl, hab⟩
        · have d13 : (yb == to_) = false := beq_eq_false_iff_ne.2 h13
          by_cases h16 : ya = to_
          · have d16 : (ya == to_) = true := beq_iff_eq.2 h16
            by_cases h17 : yb = fr
            · have d17 : (yb == fr) = true := beq_iff_eq.2 h17
              by_cases h18 : yk = 4
              · have d18 : (yk == 4) = true := beq_iff_eq.2 h18
                have HR : Hid (cnI yk ya yb yf yu at_ fr to_ = true) := Lib.hid (decide_eq_true (by omega))
                clear h10 h11 h12 h13 h16 h17 h18
                go_enter Try.func39, Try.ntmps39
                go_wp2_with (fail)
                go_ret
                rw [HR.out]
                exact ⟨rfl, hab⟩
              · have d18 : (yk == 4) = false := beq_eq_false_iff_ne.2 h18
                have HR : Hid (cnI yk ya yb yf yu at_ fr to_ = false) := Lib.hid (decide_eq_false (by omega))
                clear h10 h11 h12 h13 h16 h17 h18
                go_enter Try.func39, Try.ntmps39
                go_wp2_with (fail)
                go_ret
                rw [HR.out]
                exact ⟨rfl, hab⟩
            · have d17 : (yb == fr) = false := beq_eq_false_iff_ne.2 h17
              have HR : Hid (cnI yk ya yb yf yu at_ fr to_ = false) := Lib.hid (decide_eq_false (by omega))
              clear h10 h11 h12 h13 h16 h17
              go_enter Try.func39, Try.ntmps39
              go_wp2_with (fail)
              go_ret
              rw [HR.out]
              exact ⟨rfl, hab⟩
          · have d16 : (ya == to_) = false := beq_eq_false_iff_ne.2 h16
            have HR : Hid (cnI yk ya yb yf yu at_ fr to_ = false) := Lib.hid (decide_eq_false (by omega))
            clear h10 h11 h12 h13 h16
            go_enter Try.func39, Try.ntmps39
            go_wp2_with (fail)
            go_ret
            rw [HR.out]
            exact ⟨rfl, hab⟩
      · have d12 : (ya == fr) = false := beq_eq_false_iff_ne.2 h12
        by_cases h19 : ya = to_
        · have d19 : (ya == to_) = true := beq_iff_eq.2 h19
          by_cases h20 : yb = fr
          · have d20 : (yb == fr) = true := beq_iff_eq.2 h20
            by_cases h21 : yk = 4
            · have d21 : (yk == 4) = true := beq_iff_eq.2 h21
              have HR : Hid (cnI yk ya yb yf yu at_ fr to_ = true) := Lib.hid (decide_eq_true (by omega))
              clear h10 h11 h12 h19 h20 h21
              go_enter Try.func39, Try.ntmps39
              go_wp2_with (fail)
              go_ret
              rw [HR.out]
              exact ⟨rfl, hab⟩
            · have d21 : (yk == 4) = false := beq_eq_false_iff_ne.2 h21
              have HR : Hid (cnI yk ya yb yf yu at_ fr to_ = false) := Lib.hid (decide_eq_false (by omega))
              clear h10 h11 h12 h19 h20 h21
              go_enter Try.func39, Try.ntmps39
              go_wp2_with (fail)
              go_ret
              rw [HR.out]
              exact ⟨rfl, hab⟩
          · have d20 : (yb == fr) = false := beq_eq_false_iff_ne.2 h20
            have HR : Hid (cnI yk ya yb yf yu at_ fr to_ = false) := Lib.hid (decide_eq_false (by omega))
            clear h10 h11 h12 h19 h20
            go_enter Try.func39, Try.ntmps39
            go_wp2_with (fail)
            go_ret
            rw [HR.out]
            exact ⟨rfl, hab⟩
        · have d19 : (ya == to_) = false := beq_eq_false_iff_ne.2 h19
          have HR : Hid (cnI yk ya yb yf yu at_ fr to_ = false) := Lib.hid (decide_eq_false (by omega))
          clear h10 h11 h12 h19
          go_enter Try.func39, Try.ntmps39
          go_wp2_with (fail)
          go_ret
          rw [HR.out]
          exact ⟨rfl, hab⟩
end Go.Proofs.Ytndidbanbklonaa

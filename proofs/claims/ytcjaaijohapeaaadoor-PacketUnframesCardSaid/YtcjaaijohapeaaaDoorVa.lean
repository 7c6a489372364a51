import Derived.Test.YtcjaaijohapeaaaDoorTh
/-
  Fragments: which are valid. No conditions beyond those that each names.
-/
namespace Go.Proofs.YtcjaaijohapeaaaDoor
open Go.RowKit Go.Sort Go.Lib Go.Shelf
/-- A fragment. -/
structure Fg where
  id : Int
  ix : Int
  ct : Int
  dat : List UInt8
def eF (x : Fg) : List Value := [.int .i64 x.id, .int .i64 x.ix, .int .i64 x.ct, .string (bs x.dat)]
theorem eF_len (x : Fg) : (eF x).length = 4 := rfl
theorem eF_one (x : Fg) (u : Value) (h : u ∈ eF x) : u.oneCell' = true := by
  simp only [eF, List.mem_cons, List.not_mem_nil, or_false] at h
  rcases h with rfl | rfl | rfl | rfl <;> rfl
theorem infoFg : (Tryd.prog.info? 32).map (fun i => (i.zero, i.size, i.bytes)) = some (some (.agg #[.int .i64 0, .int .i64 0, .int .i64 0, .string ByteArray.empty]), 4, 40) := by kernel_rfl
def OwF (B : Nat) (w : World) (v : Value) (l : List Fg) : Prop := w.ownsRow B 32 4 v l.length (tc eF l)
/-- Is a fragment valid? -/
def fvB (x : Fg) : Bool := inB x.id 0 1099511627776 && (inB x.ct 1 64 && (inB x.ix 0 (x.ct - 1) && decide (x.dat.length ≤ 4000)))
def Fg.val (x : Fg) : Value := .agg #[.int .i64 x.id, .int .i64 x.ix, .int .i64 x.ct, .string (bs x.dat)]
set_option maxRecDepth 100000 in
set_option maxHeartbeats 4000000 in
theorem isValid_any (x : Fg) (w : World) (hd : x.dat.length ≤ 1000000000000000) : Calls Tryd.prog 37 #[x.val] w (Ib (.bool (fvB x)) w) := by
  obtain ⟨id, ix, ct, dat⟩ := x
  have hsz : (bs dat).size = dat.length := rfl
  have hb := ab1 w (Obj.cells #[.int .i64 id, .int .i64 ix, .int .i64 ct, .string (bs dat)] 32)
  have HE : Hid (fvB ⟨id, ix, ct, dat⟩ = (inB id 0 1099511627776 && (inB ct 1 64 && (inB ix 0 (ct - 1) && decide (dat.length ≤ 4000))))) := Lib.hid rfl
  have q4 : decide ((dat.length : Int) ≤ 4000) = decide (dat.length ≤ 4000) := decide_eq_decide.2 (by omega)
  show Calls _ _ #[.agg #[.int .i64 id, .int .i64 ix, .int .i64 ct, .string (bs dat)]] w _
  cases b1 : inB id 0 1099511627776
  · rw [HE.out, b1]
    clear HE
    go_enter Tryd.func37, Tryd.ntmps37
    go_wp2_with (go_at_call 39; refine (isIn_any _ _ _ _).mono ?_; (first | (rw [b1])); rintro e w9 ⟨rfl, rfl⟩)
    go_ret
    exact ⟨rfl, hb⟩
  · cases b2 : inB ct 1 64
    · rw [HE.out, b1, b2]
      clear HE
      go_enter Tryd.func37, Tryd.ntmps37
      go_wp2_with (go_at_call 39; refine (isIn_any _ _ _ _).mono ?_; (first | (rw [b1]) | (rw [b2])); rintro e w9 ⟨rfl, rfl⟩)
      go_ret
      exact ⟨rfl, hb⟩
    · cases b3 : inB ix 0 (ct - 1)
      · have hw : IntKind.i64.wrap (ct - 1) = ct - 1 := by have h : 1 ≤ ct ∧ ct ≤ 64 := of_decide_eq_true b2; exact IntWalk.i64_in _ (by omega)
        rw [HE.out, b1, b2, b3]
        clear HE
        go_enter Tryd.func37, Tryd.ntmps37
        go_wp2_with (go_at_call 39; refine (isIn_any _ _ _ _).mono ?_; (first | (rw [b1]) | (rw [b2]) | (rw [b3])); rintro e w9 ⟨rfl, rfl⟩)
        go_ret
        exact ⟨rfl, hb⟩
      · cases b4 : decide (dat.length ≤ 4000)
        · have hw : IntKind.i64.wrap (ct - 1) = ct - 1 := by have h : 1 ≤ ct ∧ ct ≤ 64 := of_decide_eq_true b2; exact IntWalk.i64_in _ (by omega)
          rw [b4] at q4
          rw [HE.out, b1, b2, b3, b4]
          clear HE
          go_enter Tryd.func37, Tryd.ntmps37
          go_wp2_with (go_at_call 39; refine (isIn_any _ _ _ _).mono ?_; (first | (rw [b1]) | (rw [b2]) | (rw [b3])); rintro e w9 ⟨rfl, rfl⟩)
          go_ret
          exact ⟨rfl, hb⟩
        · have hw : IntKind.i64.wrap (ct - 1) = ct - 1 := by have h : 1 ≤ ct ∧ ct ≤ 64 := of_decide_eq_true b2; exact IntWalk.i64_in _ (by omega)
          rw [b4] at q4
          rw [HE.out, b1, b2, b3, b4]
          clear HE
          go_enter Tryd.func37, Tryd.ntmps37
          go_wp2_with (go_at_call 39; refine (isIn_any _ _ _ _).mono ?_; (first | (rw [b1]) | (rw [b2]) | (rw [b3])); rintro e w9 ⟨rfl, rfl⟩)
          go_ret
          exact ⟨rfl, hb⟩
set_option maxRecDepth 100000 in
set_option maxHeartbeats 4000000 in
theorem refValid_any (x : Fg) (w : World) (hd : x.dat.length ≤ 1000000000000000) : Calls Tryd.prog 16 #[x.val] w (Ib (.bool (fvB x)) w) := by
  obtain ⟨id, ix, ct, dat⟩ := x
  have hsz : (bs dat).size = dat.length := rfl
  have hb := ab1 w (Obj.cells #[.int .i64 id, .int .i64 ix, .int .i64 ct, .string (bs dat)] 32)
  have HE : Hid (fvB ⟨id, ix, ct, dat⟩ = (decide (0 ≤ id) && (decide (id ≤ 1099511627776) && (decide (1 ≤ ct) && (decide (ct ≤ 64) && (decide (0 ≤ ix) && (decide (ix < ct) && decide (dat.length ≤ 4000)))))))) := Lib.hid (by
    unfold fvB inB
    rw [Bool.eq_iff_iff]
    simp only [Bool.and_eq_true, decide_eq_true_eq]
    constructor <;> (intro h; omega))
  have q4 : decide ((dat.length : Int) ≤ 4000) = decide (dat.length ≤ 4000) := decide_eq_decide.2 (by omega)
  show Calls _ _ #[.agg #[.int .i64 id, .int .i64 ix, .int .i64 ct, .string (bs dat)]] w _
  cases b1 : decide (0 ≤ id)
  · rw [HE.out, b1]
    clear HE
    go_enter Tryd.func16, Tryd.ntmps16
    go_wp2_with fail
    go_ret
    exact ⟨rfl, hb⟩
  · cases b2 : decide (id ≤ 1099511627776)
    · rw [HE.out, b1, b2]
      clear HE
      go_enter Tryd.func16, Tryd.ntmps16
      go_wp2_with fail
      go_ret
      exact ⟨rfl, hb⟩
    · cases b3 : decide (1 ≤ ct)
      · rw [HE.out, b1, b2, b3]
        clear HE
        go_enter Tryd.func16, Tryd.ntmps16
        go_wp2_with fail
        go_ret
        exact ⟨rfl, hb⟩
      · cases b4 : decide (ct ≤ 64)
        · rw [HE.out, b1, b2, b3, b4]
          clear HE
          go_enter Tryd.func16, Tryd.ntmps16
          go_wp2_with fail
          go_ret
          exact ⟨rfl, hb⟩
        · cases b5 : decide (0 ≤ ix)
          · rw [HE.out, b1, b2, b3, b4, b5]
            clear HE
            go_enter Tryd.func16, Tryd.ntmps16
            go_wp2_with fail
            go_ret
            exact ⟨rfl, hb⟩
          · cases b6 : decide (ix < ct)
            · rw [HE.out, b1, b2, b3, b4, b5, b6]
              clear HE
              go_enter Tryd.func16, Tryd.ntmps16
              go_wp2_with fail
              go_ret
              exact ⟨rfl, hb⟩
            · cases b7 : decide (dat.length ≤ 4000)
              · rw [b7] at q4
                rw [HE.out, b1, b2, b3, b4, b5, b6, b7]
                clear HE
                go_enter Tryd.func16, Tryd.ntmps16
                go_wp2_with fail
                go_ret
                exact ⟨rfl, hb⟩
              · rw [b7] at q4
                rw [HE.out, b1, b2, b3, b4, b5, b6, b7]
                clear HE
                go_enter Tryd.func16, Tryd.ntmps16
                go_wp2_with fail
                go_ret
                exact ⟨rfl, hb⟩
end Go.Proofs.YtcjaaijohapeaaaDoor

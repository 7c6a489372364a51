/-
  The law of the order: it returns true. No conditions.
-/
import Derived.Test.YtaiceebhifecbaaDoorOb3
namespace Go.Proofs.YtaiceebhifecbaaDoor
open Go.RowKit
/-- What is known of the slots of the last region. -/
def ordF (a : Int) (s : Bool) (xs ys zs : List Nat) (t : Nat) : Fact := (([(3, Fact.var xs), (4, Fact.var ys), (5, Fact.var zs), (6, Fact.eq (.bool true)), (7, Fact.eq (.int .i64 a)), (10, Fact.eq (.bool s)), (74, Fact.eq (.bool s)), (75, Fact.eq (.int .i64 a)), (76, Fact.eq (.bool s)), (77, Fact.eq (.bool true)), (78, Fact.eq (.bool true)), (79, Fact.num xs), (80, Fact.num zs), (81, Fact.num (Nm.nat (Nm.val xs + Nm.val zs))), (82, Fact.num ys), (83, Fact.num zs), (84, Fact.num (Nm.nat (Nm.val ys + Nm.val zs))), (85, Fact.eq (.int .i64 a)), (86, Fact.eq (.int .i64 a)), (87, Fact.eq (.bool true)), (88, Fact.eq (.bool true)), (89, Fact.eq (.bool true)), (90, Fact.eq (.bool true)), (91, Fact.eq (.bool true))] : List (Nat × Fact)).lookup t).getD Fact.any
theorem cmpI_is {x y a : Int} (h : cmpI x y = a) : a = -1 ∨ a = 0 ∨ a = 1 := by
  unfold cmpI at h
  split at h
  · exact .inl h.symm
  · split at h
    · exact .inr (.inr h.symm)
    · exact .inr (.inl h.symm)
theorem cmpI_cases (x y : Int) : (x < y ∧ cmpI x y = -1) ∨ (y < x ∧ cmpI x y = 1) ∨ (x = y ∧ cmpI x y = 0) := by
  unfold cmpI
  split
  · exact .inl ⟨by assumption, rfl⟩
  · split
    · exact .inr (.inl ⟨by assumption, rfl⟩)
    · exact .inr (.inr ⟨by omega, rfl⟩)
theorem cmpI_neg {x y a b : Int} (h : cmpI x y = a) (hb : b = -a := by decide) : cmpI y x = b := by
  subst hb
  rcases cmpI_cases x y with h1 | h1 | h1 <;> rcases cmpI_cases y x with h2 | h2 | h2 <;> omega
theorem cmpI_lt {x y : Nat} (h : cmpI x y = -1) : x < y := by
  rcases cmpI_cases x y with h1 | h1 | h1 <;> omega
theorem cmpI_le {x y : Nat} {a : Int} (h : cmpI x y = a) (ha : 0 ≤ a) : y ≤ x := by
  rcases cmpI_cases x y with h1 | h1 | h1 <;> omega
theorem cmpI_eq {xs ys : List Nat} (ex : Nm.nat (Nm.val xs) = xs) (ey : Nm.nat (Nm.val ys) = ys) (h : cmpI (Nm.val xs) (Nm.val ys) = 0) : xs = ys := by
  have : Nm.val xs = Nm.val ys := by
    rcases cmpI_cases (Nm.val xs) (Nm.val ys) with h1 | h1 | h1 <;> omega
  rw [← ex, ← ey, this]
theorem cmpI_ne {xs ys : List Nat} {a : Int} (h : cmpI (Nm.val xs) (Nm.val ys) = a) (ha : a ≠ 0) : ¬ xs = ys := fun e => by
  subst e
  rcases cmpI_cases (Nm.val xs) (Nm.val xs) with h1 | h1 | h1 <;> omega
theorem cmpI_trans {x y z a b c : Int} (h : cmpI x y = a) (h' : cmpI y z = b) (ha : a ≤ 0) (hb : b ≤ 0) (hc : c = min a b := by decide) : cmpI x z = c := by
  rcases cmpI_cases x y with h1 | h1 | h1 <;> rcases cmpI_cases y z with h2 | h2 | h2 <;> rcases cmpI_cases x z with h3 | h3 | h3 <;> omega
theorem cmpI_add (x y z : Nat) : cmpI ((x + z : Nat) : Int) ((y + z : Nat) : Int) = cmpI x y := by
  rcases cmpI_cases x y with h1 | h1 | h1 <;> rcases cmpI_cases ((x + z : Nat) : Int) ((y + z : Nat) : Int) with h2 | h2 | h2 <;> omega
set_option maxRecDepth 100000 in
set_option maxHeartbeats 1000000 in
theorem orders_any (A B C : Option Addr) (a b c : Nat) (xs ys zs : List Nat) (w : World) (hx : Rd w A xs) (hy : Rd w B ys) (hz : Rd w C zs) (cx : xs.length ≤ a) (cy : ys.length ≤ b) (cz : zs.length ≤ c) (dx : Nm.Dig xs) (dy : Nm.Dig ys) (dz : Nm.Dig zs) :
    Calls Tryd.prog 8 #[nt A (xs.length) a, nt B (ys.length) b, nt C (zs.length) c] w fun e w' => e = .returned (.bool true) ∧ Below w.heap.size w w' := by
  go_enter Tryd.func8, Tryd.ntmps8
  go_wp2_with fail
  have vx : Arg _ w.heap.size A (xs.length) a xs := Arg.at_ (c := a) (n := (xs.length)) (w := w) hx (by simp)
  have vy : Arg _ (w.heap.size + 1) B (ys.length) b ys := Arg.at_ (c := b) (n := (ys.length)) (w := (w.alloc (Obj.cells #[Value.slice A (xs.length) a] 24))) (hy.below (one _ (Obj.cells #[Value.slice A (xs.length) a] 24))) (by simp)
  have vx := vx.below (one _ (Obj.cells #[Value.slice B (ys.length) b] 24))
  have vz : Arg _ (w.heap.size + 1 + 1) C (zs.length) c zs := Arg.at_ (c := c) (n := (zs.length)) (w := ((w.alloc (Obj.cells #[Value.slice A (xs.length) a] 24)).alloc (Obj.cells #[Value.slice B (ys.length) b] 24))) ((hz.below (one _ (Obj.cells #[Value.slice A (xs.length) a] 24))).below (one _ (Obj.cells #[Value.slice B (ys.length) b] 24))) (by simp)
  have vx := vx.below (one _ (Obj.cells #[Value.slice C (zs.length) c] 24))
  have vy := vy.below (one _ (Obj.cells #[Value.slice C (zs.length) c] 24))
  have hb := (have h := (have h := one w (Obj.cells #[Value.slice A (xs.length) a] 24); h.alloc h.size (Obj.cells #[Value.slice B (ys.length) b] 24)); h.alloc h.size (Obj.cells #[Value.slice C (zs.length) c] 24))
  clear hx hy hz
  cases hfx : decide (xs.length ≤ 12 ∧ Nm.tlen xs = xs.length) with
  | false =>
    refine (few_is a vx.rd rfl hfx).mono ?_
    rintro e w1 ⟨rfl, hs1⟩
    have vx := vx.below hs1
    have vy := vy.below hs1
    have vz := vz.below hs1
    have hb := up hb hs1
    clear hs1
    have kvx := vx.cell
    have kvy := vy.cell
    have kvz := vz.cell
    go_wp2_with fail
    clear kvx kvy kvz
    refine (awake_any _).mono ?_
    rintro e wa ⟨rfl, hsa⟩
    go_wp2_with fail
    exact bodyPost_ret (v := .bool true) (by first | rfl | kernel_rfl) rfl ⟨rfl, up hb hsa⟩
  | true =>
    refine (few_is a vx.rd rfl hfx).mono ?_
    rintro e w1 ⟨rfl, hs1⟩
    have vx := vx.below hs1
    have vy := vy.below hs1
    have vz := vz.below hs1
    have hb := up hb hs1
    clear hs1
    have kvx := vx.cell
    have kvy := vy.cell
    have kvz := vz.cell
    go_wp2_with fail
    clear kvx kvy kvz
    cases hfy : decide (ys.length ≤ 12 ∧ Nm.tlen ys = ys.length) with
    | false =>
      refine (few_is b vy.rd rfl hfy).mono ?_
      rintro e w2 ⟨rfl, hs2⟩
      have vx := vx.below hs2
      have vy := vy.below hs2
      have vz := vz.below hs2
      have hb := up hb hs2
      clear hs2
      have kvx := vx.cell
      have kvy := vy.cell
      have kvz := vz.cell
      go_wp2_with fail
      clear kvx kvy kvz
      refine (awake_any _).mono ?_
      rintro e wa ⟨rfl, hsa⟩
      go_wp2_with fail
      exact bodyPost_ret (v := .bool true) (by first | rfl | kernel_rfl) rfl ⟨rfl, up hb hsa⟩
    | true =>
      refine (few_is b vy.rd rfl hfy).mono ?_
      rintro e w2 ⟨rfl, hs2⟩
      have vx := vx.below hs2
      have vy := vy.below hs2
      have vz := vz.below hs2
      have hb := up hb hs2
      clear hs2
      have kvx := vx.cell
      have kvy := vy.cell
      have kvz := vz.cell
      go_wp2_with fail
      clear kvx kvy kvz
      cases hfz : decide (zs.length ≤ 12 ∧ Nm.tlen zs = zs.length) with
      | false =>
        refine (few_is c vz.rd rfl hfz).mono ?_
        rintro e w3 ⟨rfl, hs3⟩
        have vx := vx.below hs3
        have vy := vy.below hs3
        have vz := vz.below hs3
        have hb := up hb hs3
        clear hs3
        have kvx := vx.cell
        have kvy := vy.cell
        have kvz := vz.cell
        go_wp2_with fail
        clear kvx kvy kvz
        refine (awake_any _).mono ?_
        rintro e wa ⟨rfl, hsa⟩
        go_wp2_with fail
        exact bodyPost_ret (v := .bool true) (by first | rfl | kernel_rfl) rfl ⟨rfl, up hb hsa⟩
      | true =>
        refine (few_is c vz.rd rfl hfz).mono ?_
        rintro e w3 ⟨rfl, hs3⟩
        have vx := vx.below hs3
        have vy := vy.below hs3
        have vz := vz.below hs3
        have hb := up hb hs3
        clear hs3
        have kvx := vx.cell
        have kvy := vy.cell
        have kvz := vz.cell
        go_wp2_with fail
        clear kvx kvy kvz
        have vx := vx.var rfl cx dx hfx
        have sx := Nm.Sz.val dx hfx
        have ex := Nm.canon dx hfx
        have vy := vy.var rfl cy dy hfy
        have sy := Nm.Sz.val dy hfy
        have ey := Nm.canon dy hfy
        have vz := vz.var rfl cz dz hfz
        have sz := Nm.Sz.val dz hfz
        have ez := Nm.canon dz hfz
        clear hfx cx dx
        clear hfy cy dy
        clear hfz cz dz
        obtain ⟨a, ha⟩ : ∃ a, cmpI (Nm.val xs) (Nm.val ys) = a := ⟨_, rfl⟩
        obtain ⟨b, hc⟩ : ∃ b, cmpI (Nm.val ys) (Nm.val zs) = b := ⟨_, rfl⟩
        refine (ha ▸ cmp_n vx.num vy.num).mono ?_
        rintro e w4 ⟨rfl, hs⟩
        have vx := vx.below hs
        have vy := vy.below hs
        have vz := vz.below hs
        have hb := up hb hs
        clear hs
        have kvx := vx.cell
        have kvy := vy.cell
        have kvz := vz.cell
        go_wp2_with fail
        clear kvx kvy kvz
        refine (hc ▸ cmp_n vy.num vz.num).mono ?_
        rintro e w5 ⟨rfl, hs⟩
        have vx := vx.below hs
        have vy := vy.below hs
        have vz := vz.below hs
        have hb := up hb hs
        clear hs
        rcases cmpI_is ha with rfl | rfl | rfl
        · skip
          have kvx := vx.cell
          have kvy := vy.cell
          have kvz := vz.cell
          go_wp2_with fail
          clear kvx kvy kvz
          refine ((cmpI_neg ha : cmpI (Nm.val ys) (Nm.val xs) = 1) ▸ cmp_n vy.num vx.num).mono ?_
          rintro e w6 ⟨rfl, hs⟩
          have vx := vx.below hs
          have vy := vy.below hs
          have vz := vz.below hs
          have hb := up hb hs
          clear hs
          have kvx := vx.cell
          have kvy := vy.cell
          have kvz := vz.cell
          go_wp2_with fail
          clear kvx kvy kvz
          refine (same_n vx.num vy.num false (by first | exact decide_eq_true (cmpI_eq ex ey ha) | exact decide_eq_false (cmpI_ne ha (by decide)))).mono ?_
          rintro e w7 ⟨rfl, hs⟩
          have vx := vx.below hs
          have vy := vy.below hs
          have vz := vz.below hs
          have hb := up hb hs
          clear hs
          rcases cmpI_is hc with rfl | rfl | rfl
          · skip
            have kvx := vx.cell
            have kvy := vy.cell
            have kvz := vz.cell
            go_wp2_with fail
            clear kvx kvy kvz
            refine ((cmpI_trans ha hc (by decide) (by decide) : cmpI (Nm.val xs) (Nm.val zs) = -1) ▸ cmp_n vx.num vz.num).mono ?_
            rintro e w8 ⟨rfl, hs⟩
            have vx := vx.below hs
            have vy := vy.below hs
            have vz := vz.below hs
            have hb := up hb hs
            clear hs
            have kvx := vx.cell
            have kvy := vy.cell
            have kvz := vz.cell
            go_wp2_with fail
            clear kvx kvy kvz
            refine (sub_n vx.num vy.num (Nm.nat (Nm.val xs - Nm.val ys)) false rfl (decide_eq_false (by first | exact Nat.not_le.2 (cmpI_lt ha) | exact cmpI_le ha (by decide)))).mono ?_
            rintro e w9 ⟨Ad, cd, rfl, hc, hf, hs⟩
            have vx := vx.below hs
            have vy := vy.below hs
            have vz := vz.below hs
            have hb := up hb hs
            have nd := hf.num hc (Nm.dig_nat _) ((sx.mono (Nat.sub_le _ _)).len (by decide))
            clear hc hf hs
            have vx := vx.below (one _ (Obj.cells #[Value.slice Ad (Nm.nat (Nm.val xs - Nm.val ys)).length cd] 24))
            have vy := vy.below (one _ (Obj.cells #[Value.slice Ad (Nm.nat (Nm.val xs - Nm.val ys)).length cd] 24))
            have vz := vz.below (one _ (Obj.cells #[Value.slice Ad (Nm.nat (Nm.val xs - Nm.val ys)).length cd] 24))
            have vd := Var.new nd
            have hb := hb.alloc hb.size (Obj.cells #[Value.slice Ad (Nm.nat (Nm.val xs - Nm.val ys)).length cd] 24)
            clear nd
            have kvx := vx.cell
            have kvy := vy.cell
            have kvz := vz.cell
            have kvd := vd.cell
            go_wp2_with fail
            clear kvx kvy kvz kvd
            refine wp_region_stable (by kernel_rfl) (ordF (-1) false xs ys zs) [3, 4, 5, 7, 10] 92 rfl (by kernel_rfl) ?_ ?_ ?_
            · intro t ht
              simp only [List.mem_cons, List.not_mem_nil, or_false] at ht
              rcases ht with rfl | rfl | rfl | rfl | rfl
              · exact ⟨_, _, _, rfl, vx⟩
              · exact ⟨_, _, _, rfl, vy⟩
              · exact ⟨_, _, _, rfl, vz⟩
              · rfl
              · rfl
            · refine List.forall_mem_cons.2 ⟨ob_copy 10 74 (.inl rfl) rfl (by first | exact .inl rfl | exact .inr ⟨_, _, _, rfl, rfl, by kernel_rfl, by decide, rfl⟩) (by kernel_rfl) rfl, ?_⟩
              refine List.forall_mem_cons.2 ⟨ob_copy 7 75 (.inl rfl) rfl (by first | exact .inl rfl | exact .inr ⟨_, _, _, rfl, rfl, by kernel_rfl, by decide, rfl⟩) (by kernel_rfl) rfl, ?_⟩
              refine List.forall_mem_cons.2 ⟨ob_one 75 76 _ (.bool false) rfl (by first | exact .inl rfl | exact .inr ⟨_, _, _, rfl, rfl, by kernel_rfl, by decide, rfl⟩) (by kernel_rfl) rfl rfl (fun a w h1 => go_geq_int (-1) (0) a w 75 .i64 _ rfl h1), ?_⟩
              refine List.forall_mem_cons.2 ⟨ob_two 74 76 77 _ _ (.bool true) rfl (by first | exact .inl rfl | exact .inr ⟨_, _, _, rfl, rfl, by kernel_rfl, by decide, rfl⟩) (by kernel_rfl) (by kernel_rfl) rfl rfl rfl (fun a w h1 h2 => go_eql_bool _ _ a w 74 76 _ rfl h1 h2), ?_⟩
              refine List.forall_mem_cons.2 ⟨ob_copy 77 78 (.inl rfl) rfl (by first | exact .inl rfl | exact .inr ⟨_, _, _, rfl, rfl, by kernel_rfl, by decide, rfl⟩) (by kernel_rfl) rfl, ?_⟩
              refine List.forall_mem_cons.2 ⟨ob_load 3 79 xs rfl rfl (by first | exact .inl rfl | exact .inr ⟨_, _, _, rfl, rfl, by kernel_rfl, by decide, rfl⟩) (by kernel_rfl) rfl rfl, ?_⟩
              refine List.forall_mem_cons.2 ⟨ob_load 5 80 zs rfl rfl (by first | exact .inl rfl | exact .inr ⟨_, _, _, rfl, rfl, by kernel_rfl, by decide, rfl⟩) (by kernel_rfl) rfl rfl, ?_⟩
              refine List.forall_mem_cons.2 ⟨ob_call2 19 79 80 81 _ rfl rfl (by first | exact .inl rfl | exact .inr ⟨_, _, _, rfl, rfl, by kernel_rfl, by decide, rfl⟩) (by kernel_rfl) (by kernel_rfl) (by kernel_rfl) (c_add xs zs (Nm.nat (Nm.val xs + Nm.val zs)) rfl ((sx.add sz (by decide)).len (by decide))), ?_⟩
              refine List.forall_mem_cons.2 ⟨ob_load 4 82 ys rfl rfl (by first | exact .inl rfl | exact .inr ⟨_, _, _, rfl, rfl, by kernel_rfl, by decide, rfl⟩) (by kernel_rfl) rfl rfl, ?_⟩
              refine List.forall_mem_cons.2 ⟨ob_load 5 83 zs rfl rfl (by first | exact .inl rfl | exact .inr ⟨_, _, _, rfl, rfl, by kernel_rfl, by decide, rfl⟩) (by kernel_rfl) rfl rfl, ?_⟩
              refine List.forall_mem_cons.2 ⟨ob_call2 19 82 83 84 _ rfl rfl (by first | exact .inl rfl | exact .inr ⟨_, _, _, rfl, rfl, by kernel_rfl, by decide, rfl⟩) (by kernel_rfl) (by kernel_rfl) (by kernel_rfl) (c_add ys zs (Nm.nat (Nm.val ys + Nm.val zs)) rfl ((sy.add sz (by decide)).len (by decide))), ?_⟩
              refine List.forall_mem_cons.2 ⟨ob_call2 16 81 84 85 _ rfl rfl (by first | exact .inl rfl | exact .inr ⟨_, _, _, rfl, rfl, by kernel_rfl, by decide, rfl⟩) (by kernel_rfl) (by kernel_rfl) (by kernel_rfl) (c_cmp (Nm.nat (Nm.val xs + Nm.val zs)) (Nm.nat (Nm.val ys + Nm.val zs)) (-1) (by rw [Nm.val_nat, Nm.val_nat, cmpI_add]; exact ha)), ?_⟩
              refine List.forall_mem_cons.2 ⟨ob_copy 7 86 (.inl rfl) rfl (by first | exact .inl rfl | exact .inr ⟨_, _, _, rfl, rfl, by kernel_rfl, by decide, rfl⟩) (by kernel_rfl) rfl, ?_⟩
              refine List.forall_mem_cons.2 ⟨ob_two 85 86 87 _ _ (.bool true) rfl (by first | exact .inl rfl | exact .inr ⟨_, _, _, rfl, rfl, by kernel_rfl, by decide, rfl⟩) (by kernel_rfl) (by kernel_rfl) rfl rfl rfl (fun a w h1 h2 => (go_eql_int _ _ a w 85 86 _ _ _ _ rfl h1 h2).trans (by rw [beq_self_eq_true])), ?_⟩
              refine List.forall_mem_cons.2 ⟨ob_pick 78 87 88 _ rfl rfl (by first | exact .inl rfl | exact .inr ⟨_, _, _, rfl, rfl, by kernel_rfl, by decide, rfl⟩) (by kernel_rfl) (by kernel_rfl) rfl rfl, ?_⟩
              refine List.forall_mem_cons.2 ⟨ob_copy 88 89 (.inl rfl) rfl (by first | exact .inl rfl | exact .inr ⟨_, _, _, rfl, rfl, by kernel_rfl, by decide, rfl⟩) (by kernel_rfl) rfl, ?_⟩
              refine List.forall_mem_cons.2 ⟨ob_call0 13 90 _ rfl rfl (by first | exact .inl rfl | exact .inr ⟨_, _, _, rfl, rfl, by kernel_rfl, by decide, rfl⟩) (by kernel_rfl) c_awake, ?_⟩
              refine List.forall_mem_cons.2 ⟨ob_pick 89 90 91 _ rfl rfl (by first | exact .inl rfl | exact .inr ⟨_, _, _, rfl, rfl, by kernel_rfl, by decide, rfl⟩) (by kernel_rfl) (by kernel_rfl) rfl rfl, ?_⟩
              refine List.forall_mem_cons.2 ⟨ob_copy 91 6 (.inr rfl) rfl (by first | exact .inl rfl | exact .inr ⟨_, _, _, rfl, rfl, by kernel_rfl, by decide, rfl⟩) (by kernel_rfl) rfl, ?_⟩
              exact fun _ h => absurd h List.not_mem_nil
            · intro a' w' hdef hsz hbs hall hoth hbel
              have hres : a'.tmps.getD 6 undef = .bool true := hall 18 6 rfl
              rename_i hK
              refine hK _ _ ?_
              apply wp_ret
              exact bodyPost_ret (v := .bool true) (by rw [results_tmp (t := 6) rfl, hres]) hdef ⟨rfl, up hb hbel⟩
          · skip
            have kvx := vx.cell
            have kvy := vy.cell
            have kvz := vz.cell
            go_wp2_with fail
            clear kvx kvy kvz
            refine ((cmpI_trans ha hc (by decide) (by decide) : cmpI (Nm.val xs) (Nm.val zs) = -1) ▸ cmp_n vx.num vz.num).mono ?_
            rintro e w8 ⟨rfl, hs⟩
            have vx := vx.below hs
            have vy := vy.below hs
            have vz := vz.below hs
            have hb := up hb hs
            clear hs
            have kvx := vx.cell
            have kvy := vy.cell
            have kvz := vz.cell
            go_wp2_with fail
            clear kvx kvy kvz
            refine (sub_n vx.num vy.num (Nm.nat (Nm.val xs - Nm.val ys)) false rfl (decide_eq_false (by first | exact Nat.not_le.2 (cmpI_lt ha) | exact cmpI_le ha (by decide)))).mono ?_
            rintro e w9 ⟨Ad, cd, rfl, hc, hf, hs⟩
            have vx := vx.below hs
            have vy := vy.below hs
            have vz := vz.below hs
            have hb := up hb hs
            have nd := hf.num hc (Nm.dig_nat _) ((sx.mono (Nat.sub_le _ _)).len (by decide))
            clear hc hf hs
            have vx := vx.below (one _ (Obj.cells #[Value.slice Ad (Nm.nat (Nm.val xs - Nm.val ys)).length cd] 24))
            have vy := vy.below (one _ (Obj.cells #[Value.slice Ad (Nm.nat (Nm.val xs - Nm.val ys)).length cd] 24))
            have vz := vz.below (one _ (Obj.cells #[Value.slice Ad (Nm.nat (Nm.val xs - Nm.val ys)).length cd] 24))
            have vd := Var.new nd
            have hb := hb.alloc hb.size (Obj.cells #[Value.slice Ad (Nm.nat (Nm.val xs - Nm.val ys)).length cd] 24)
            clear nd
            have kvx := vx.cell
            have kvy := vy.cell
            have kvz := vz.cell
            have kvd := vd.cell
            go_wp2_with fail
            clear kvx kvy kvz kvd
            refine wp_region_stable (by kernel_rfl) (ordF (-1) false xs ys zs) [3, 4, 5, 7, 10] 92 rfl (by kernel_rfl) ?_ ?_ ?_
            · intro t ht
              simp only [List.mem_cons, List.not_mem_nil, or_false] at ht
              rcases ht with rfl | rfl | rfl | rfl | rfl
              · exact ⟨_, _, _, rfl, vx⟩
              · exact ⟨_, _, _, rfl, vy⟩
              · exact ⟨_, _, _, rfl, vz⟩
              · rfl
              · rfl
            · refine List.forall_mem_cons.2 ⟨ob_copy 10 74 (.inl rfl) rfl (by first | exact .inl rfl | exact .inr ⟨_, _, _, rfl, rfl, by kernel_rfl, by decide, rfl⟩) (by kernel_rfl) rfl, ?_⟩
              refine List.forall_mem_cons.2 ⟨ob_copy 7 75 (.inl rfl) rfl (by first | exact .inl rfl | exact .inr ⟨_, _, _, rfl, rfl, by kernel_rfl, by decide, rfl⟩) (by kernel_rfl) rfl, ?_⟩
              refine List.forall_mem_cons.2 ⟨ob_one 75 76 _ (.bool false) rfl (by first | exact .inl rfl | exact .inr ⟨_, _, _, rfl, rfl, by kernel_rfl, by decide, rfl⟩) (by kernel_rfl) rfl rfl (fun a w h1 => go_geq_int (-1) (0) a w 75 .i64 _ rfl h1), ?_⟩
              refine List.forall_mem_cons.2 ⟨ob_two 74 76 77 _ _ (.bool true) rfl (by first | exact .inl rfl | exact .inr ⟨_, _, _, rfl, rfl, by kernel_rfl, by decide, rfl⟩) (by kernel_rfl) (by kernel_rfl) rfl rfl rfl (fun a w h1 h2 => go_eql_bool _ _ a w 74 76 _ rfl h1 h2), ?_⟩
              refine List.forall_mem_cons.2 ⟨ob_copy 77 78 (.inl rfl) rfl (by first | exact .inl rfl | exact .inr ⟨_, _, _, rfl, rfl, by kernel_rfl, by decide, rfl⟩) (by kernel_rfl) rfl, ?_⟩
              refine List.forall_mem_cons.2 ⟨ob_load 3 79 xs rfl rfl (by first | exact .inl rfl | exact .inr ⟨_, _, _, rfl, rfl, by kernel_rfl, by decide, rfl⟩) (by kernel_rfl) rfl rfl, ?_⟩
              refine List.forall_mem_cons.2 ⟨ob_load 5 80 zs rfl rfl (by first | exact .inl rfl | exact .inr ⟨_, _, _, rfl, rfl, by kernel_rfl, by decide, rfl⟩) (by kernel_rfl) rfl rfl, ?_⟩
              refine List.forall_mem_cons.2 ⟨ob_call2 19 79 80 81 _ rfl rfl (by first | exact .inl rfl | exact .inr ⟨_, _, _, rfl, rfl, by kernel_rfl, by decide, rfl⟩) (by kernel_rfl) (by kernel_rfl) (by kernel_rfl) (c_add xs zs (Nm.nat (Nm.val xs + Nm.val zs)) rfl ((sx.add sz (by decide)).len (by decide))), ?_⟩
              refine List.forall_mem_cons.2 ⟨ob_load 4 82 ys rfl rfl (by first | exact .inl rfl | exact .inr ⟨_, _, _, rfl, rfl, by kernel_rfl, by decide, rfl⟩) (by kernel_rfl) rfl rfl, ?_⟩
              refine List.forall_mem_cons.2 ⟨ob_load 5 83 zs rfl rfl (by first | exact .inl rfl | exact .inr ⟨_, _, _, rfl, rfl, by kernel_rfl, by decide, rfl⟩) (by kernel_rfl) rfl rfl, ?_⟩
              refine List.forall_mem_cons.2 ⟨ob_call2 19 82 83 84 _ rfl rfl (by first | exact .inl rfl | exact .inr ⟨_, _, _, rfl, rfl, by kernel_rfl, by decide, rfl⟩) (by kernel_rfl) (by kernel_rfl) (by kernel_rfl) (c_add ys zs (Nm.nat (Nm.val ys + Nm.val zs)) rfl ((sy.add sz (by decide)).len (by decide))), ?_⟩
              refine List.forall_mem_cons.2 ⟨ob_call2 16 81 84 85 _ rfl rfl (by first | exact .inl rfl | exact .inr ⟨_, _, _, rfl, rfl, by kernel_rfl, by decide, rfl⟩) (by kernel_rfl) (by kernel_rfl) (by kernel_rfl) (c_cmp (Nm.nat (Nm.val xs + Nm.val zs)) (Nm.nat (Nm.val ys + Nm.val zs)) (-1) (by rw [Nm.val_nat, Nm.val_nat, cmpI_add]; exact ha)), ?_⟩
              refine List.forall_mem_cons.2 ⟨ob_copy 7 86 (.inl rfl) rfl (by first | exact .inl rfl | exact .inr ⟨_, _, _, rfl, rfl, by kernel_rfl, by decide, rfl⟩) (by kernel_rfl) rfl, ?_⟩
              refine List.forall_mem_cons.2 ⟨ob_two 85 86 87 _ _ (.bool true) rfl (by first | exact .inl rfl | exact .inr ⟨_, _, _, rfl, rfl, by kernel_rfl, by decide, rfl⟩) (by kernel_rfl) (by kernel_rfl) rfl rfl rfl (fun a w h1 h2 => (go_eql_int _ _ a w 85 86 _ _ _ _ rfl h1 h2).trans (by rw [beq_self_eq_true])), ?_⟩
              refine List.forall_mem_cons.2 ⟨ob_pick 78 87 88 _ rfl rfl (by first | exact .inl rfl | exact .inr ⟨_, _, _, rfl, rfl, by kernel_rfl, by decide, rfl⟩) (by kernel_rfl) (by kernel_rfl) rfl rfl, ?_⟩
              refine List.forall_mem_cons.2 ⟨ob_copy 88 89 (.inl rfl) rfl (by first | exact .inl rfl | exact .inr ⟨_, _, _, rfl, rfl, by kernel_rfl, by decide, rfl⟩) (by kernel_rfl) rfl, ?_⟩
              refine List.forall_mem_cons.2 ⟨ob_call0 13 90 _ rfl rfl (by first | exact .inl rfl | exact .inr ⟨_, _, _, rfl, rfl, by kernel_rfl, by decide, rfl⟩) (by kernel_rfl) c_awake, ?_⟩
              refine List.forall_mem_cons.2 ⟨ob_pick 89 90 91 _ rfl rfl (by first | exact .inl rfl | exact .inr ⟨_, _, _, rfl, rfl, by kernel_rfl, by decide, rfl⟩) (by kernel_rfl) (by kernel_rfl) rfl rfl, ?_⟩
              refine List.forall_mem_cons.2 ⟨ob_copy 91 6 (.inr rfl) rfl (by first | exact .inl rfl | exact .inr ⟨_, _, _, rfl, rfl, by kernel_rfl, by decide, rfl⟩) (by kernel_rfl) rfl, ?_⟩
              exact fun _ h => absurd h List.not_mem_nil
            · intro a' w' hdef hsz hbs hall hoth hbel
              have hres : a'.tmps.getD 6 undef = .bool true := hall 18 6 rfl
              rename_i hK
              refine hK _ _ ?_
              apply wp_ret
              exact bodyPost_ret (v := .bool true) (by rw [results_tmp (t := 6) rfl, hres]) hdef ⟨rfl, up hb hbel⟩
          · skip
            have kvx := vx.cell
            have kvy := vy.cell
            have kvz := vz.cell
            go_wp2_with fail
            clear kvx kvy kvz
            refine (sub_n vx.num vy.num (Nm.nat (Nm.val xs - Nm.val ys)) false rfl (decide_eq_false (by first | exact Nat.not_le.2 (cmpI_lt ha) | exact cmpI_le ha (by decide)))).mono ?_
            rintro e w8 ⟨Ad, cd, rfl, hc, hf, hs⟩
            have vx := vx.below hs
            have vy := vy.below hs
            have vz := vz.below hs
            have hb := up hb hs
            have nd := hf.num hc (Nm.dig_nat _) ((sx.mono (Nat.sub_le _ _)).len (by decide))
            clear hc hf hs
            have vx := vx.below (one _ (Obj.cells #[Value.slice Ad (Nm.nat (Nm.val xs - Nm.val ys)).length cd] 24))
            have vy := vy.below (one _ (Obj.cells #[Value.slice Ad (Nm.nat (Nm.val xs - Nm.val ys)).length cd] 24))
            have vz := vz.below (one _ (Obj.cells #[Value.slice Ad (Nm.nat (Nm.val xs - Nm.val ys)).length cd] 24))
            have vd := Var.new nd
            have hb := hb.alloc hb.size (Obj.cells #[Value.slice Ad (Nm.nat (Nm.val xs - Nm.val ys)).length cd] 24)
            clear nd
            have kvx := vx.cell
            have kvy := vy.cell
            have kvz := vz.cell
            have kvd := vd.cell
            go_wp2_with fail
            clear kvx kvy kvz kvd
            refine wp_region_stable (by kernel_rfl) (ordF (-1) false xs ys zs) [3, 4, 5, 7, 10] 92 rfl (by kernel_rfl) ?_ ?_ ?_
            · intro t ht
              simp only [List.mem_cons, List.not_mem_nil, or_false] at ht
              rcases ht with rfl | rfl | rfl | rfl | rfl
              · exact ⟨_, _, _, rfl, vx⟩
              · exact ⟨_, _, _, rfl, vy⟩
              · exact ⟨_, _, _, rfl, vz⟩
              · rfl
              · rfl
            · refine List.forall_mem_cons.2 ⟨ob_copy 10 74 (.inl rfl) rfl (by first | exact .inl rfl | exact .inr ⟨_, _, _, rfl, rfl, by kernel_rfl, by decide, rfl⟩) (by kernel_rfl) rfl, ?_⟩
              refine List.forall_mem_cons.2 ⟨ob_copy 7 75 (.inl rfl) rfl (by first | exact .inl rfl | exact .inr ⟨_, _, _, rfl, rfl, by kernel_rfl, by decide, rfl⟩) (by kernel_rfl) rfl, ?_⟩
              refine List.forall_mem_cons.2 ⟨ob_one 75 76 _ (.bool false) rfl (by first | exact .inl rfl | exact .inr ⟨_, _, _, rfl, rfl, by kernel_rfl, by decide, rfl⟩) (by kernel_rfl) rfl rfl (fun a w h1 => go_geq_int (-1) (0) a w 75 .i64 _ rfl h1), ?_⟩
              refine List.forall_mem_cons.2 ⟨ob_two 74 76 77 _ _ (.bool true) rfl (by first | exact .inl rfl | exact .inr ⟨_, _, _, rfl, rfl, by kernel_rfl, by decide, rfl⟩) (by kernel_rfl) (by kernel_rfl) rfl rfl rfl (fun a w h1 h2 => go_eql_bool _ _ a w 74 76 _ rfl h1 h2), ?_⟩
              refine List.forall_mem_cons.2 ⟨ob_copy 77 78 (.inl rfl) rfl (by first | exact .inl rfl | exact .inr ⟨_, _, _, rfl, rfl, by kernel_rfl, by decide, rfl⟩) (by kernel_rfl) rfl, ?_⟩
              refine List.forall_mem_cons.2 ⟨ob_load 3 79 xs rfl rfl (by first | exact .inl rfl | exact .inr ⟨_, _, _, rfl, rfl, by kernel_rfl, by decide, rfl⟩) (by kernel_rfl) rfl rfl, ?_⟩
              refine List.forall_mem_cons.2 ⟨ob_load 5 80 zs rfl rfl (by first | exact .inl rfl | exact .inr ⟨_, _, _, rfl, rfl, by kernel_rfl, by decide, rfl⟩) (by kernel_rfl) rfl rfl, ?_⟩
              refine List.forall_mem_cons.2 ⟨ob_call2 19 79 80 81 _ rfl rfl (by first | exact .inl rfl | exact .inr ⟨_, _, _, rfl, rfl, by kernel_rfl, by decide, rfl⟩) (by kernel_rfl) (by kernel_rfl) (by kernel_rfl) (c_add xs zs (Nm.nat (Nm.val xs + Nm.val zs)) rfl ((sx.add sz (by decide)).len (by decide))), ?_⟩
              refine List.forall_mem_cons.2 ⟨ob_load 4 82 ys rfl rfl (by first | exact .inl rfl | exact .inr ⟨_, _, _, rfl, rfl, by kernel_rfl, by decide, rfl⟩) (by kernel_rfl) rfl rfl, ?_⟩
              refine List.forall_mem_cons.2 ⟨ob_load 5 83 zs rfl rfl (by first | exact .inl rfl | exact .inr ⟨_, _, _, rfl, rfl, by kernel_rfl, by decide, rfl⟩) (by kernel_rfl) rfl rfl, ?_⟩
              refine List.forall_mem_cons.2 ⟨ob_call2 19 82 83 84 _ rfl rfl (by first | exact .inl rfl | exact .inr ⟨_, _, _, rfl, rfl, by kernel_rfl, by decide, rfl⟩) (by kernel_rfl) (by kernel_rfl) (by kernel_rfl) (c_add ys zs (Nm.nat (Nm.val ys + Nm.val zs)) rfl ((sy.add sz (by decide)).len (by decide))), ?_⟩
              refine List.forall_mem_cons.2 ⟨ob_call2 16 81 84 85 _ rfl rfl (by first | exact .inl rfl | exact .inr ⟨_, _, _, rfl, rfl, by kernel_rfl, by decide, rfl⟩) (by kernel_rfl) (by kernel_rfl) (by kernel_rfl) (c_cmp (Nm.nat (Nm.val xs + Nm.val zs)) (Nm.nat (Nm.val ys + Nm.val zs)) (-1) (by rw [Nm.val_nat, Nm.val_nat, cmpI_add]; exact ha)), ?_⟩
              refine List.forall_mem_cons.2 ⟨ob_copy 7 86 (.inl rfl) rfl (by first | exact .inl rfl | exact .inr ⟨_, _, _, rfl, rfl, by kernel_rfl, by decide, rfl⟩) (by kernel_rfl) rfl, ?_⟩
              refine List.forall_mem_cons.2 ⟨ob_two 85 86 87 _ _ (.bool true) rfl (by first | exact .inl rfl | exact .inr ⟨_, _, _, rfl, rfl, by kernel_rfl, by decide, rfl⟩) (by kernel_rfl) (by kernel_rfl) rfl rfl rfl (fun a w h1 h2 => (go_eql_int _ _ a w 85 86 _ _ _ _ rfl h1 h2).trans (by rw [beq_self_eq_true])), ?_⟩
              refine List.forall_mem_cons.2 ⟨ob_pick 78 87 88 _ rfl rfl (by first | exact .inl rfl | exact .inr ⟨_, _, _, rfl, rfl, by kernel_rfl, by decide, rfl⟩) (by kernel_rfl) (by kernel_rfl) rfl rfl, ?_⟩
              refine List.forall_mem_cons.2 ⟨ob_copy 88 89 (.inl rfl) rfl (by first | exact .inl rfl | exact .inr ⟨_, _, _, rfl, rfl, by kernel_rfl, by decide, rfl⟩) (by kernel_rfl) rfl, ?_⟩
              refine List.forall_mem_cons.2 ⟨ob_call0 13 90 _ rfl rfl (by first | exact .inl rfl | exact .inr ⟨_, _, _, rfl, rfl, by kernel_rfl, by decide, rfl⟩) (by kernel_rfl) c_awake, ?_⟩
              refine List.forall_mem_cons.2 ⟨ob_pick 89 90 91 _ rfl rfl (by first | exact .inl rfl | exact .inr ⟨_, _, _, rfl, rfl, by kernel_rfl, by decide, rfl⟩) (by kernel_rfl) (by kernel_rfl) rfl rfl, ?_⟩
              refine List.forall_mem_cons.2 ⟨ob_copy 91 6 (.inr rfl) rfl (by first | exact .inl rfl | exact .inr ⟨_, _, _, rfl, rfl, by kernel_rfl, by decide, rfl⟩) (by kernel_rfl) rfl, ?_⟩
              exact fun _ h => absurd h List.not_mem_nil
            · intro a' w' hdef hsz hbs hall hoth hbel
              have hres : a'.tmps.getD 6 undef = .bool true := hall 18 6 rfl
              rename_i hK
              refine hK _ _ ?_
              apply wp_ret
              exact bodyPost_ret (v := .bool true) (by rw [results_tmp (t := 6) rfl, hres]) hdef ⟨rfl, up hb hbel⟩
        · skip
          have kvx := vx.cell
          have kvy := vy.cell
          have kvz := vz.cell
          go_wp2_with fail
          clear kvx kvy kvz
          refine ((cmpI_neg ha : cmpI (Nm.val ys) (Nm.val xs) = 0) ▸ cmp_n vy.num vx.num).mono ?_
          rintro e w6 ⟨rfl, hs⟩
          have vx := vx.below hs
          have vy := vy.below hs
          have vz := vz.below hs
          have hb := up hb hs
          clear hs
          have kvx := vx.cell
          have kvy := vy.cell
          have kvz := vz.cell
          go_wp2_with fail
          clear kvx kvy kvz
          refine (same_n vx.num vy.num true (by first | exact decide_eq_true (cmpI_eq ex ey ha) | exact decide_eq_false (cmpI_ne ha (by decide)))).mono ?_
          rintro e w7 ⟨rfl, hs⟩
          have vx := vx.below hs
          have vy := vy.below hs
          have vz := vz.below hs
          have hb := up hb hs
          clear hs
          rcases cmpI_is hc with rfl | rfl | rfl
          · skip
            have kvx := vx.cell
            have kvy := vy.cell
            have kvz := vz.cell
            go_wp2_with fail
            clear kvx kvy kvz
            refine ((cmpI_trans ha hc (by decide) (by decide) : cmpI (Nm.val xs) (Nm.val zs) = -1) ▸ cmp_n vx.num vz.num).mono ?_
            rintro e w8 ⟨rfl, hs⟩
            have vx := vx.below hs
            have vy := vy.below hs
            have vz := vz.below hs
            have hb := up hb hs
            clear hs
            have kvx := vx.cell
            have kvy := vy.cell
            have kvz := vz.cell
            go_wp2_with fail
            clear kvx kvy kvz
            refine (sub_n vx.num vy.num (Nm.nat (Nm.val xs - Nm.val ys)) true rfl (decide_eq_true (by first | exact Nat.not_le.2 (cmpI_lt ha) | exact cmpI_le ha (by decide)))).mono ?_
            rintro e w9 ⟨Ad, cd, rfl, hc, hf, hs⟩
            have vx := vx.below hs
            have vy := vy.below hs
            have vz := vz.below hs
            have hb := up hb hs
            have nd := hf.num hc (Nm.dig_nat _) ((sx.mono (Nat.sub_le _ _)).len (by decide))
            clear hc hf hs
            have vx := vx.below (one _ (Obj.cells #[Value.slice Ad (Nm.nat (Nm.val xs - Nm.val ys)).length cd] 24))
            have vy := vy.below (one _ (Obj.cells #[Value.slice Ad (Nm.nat (Nm.val xs - Nm.val ys)).length cd] 24))
            have vz := vz.below (one _ (Obj.cells #[Value.slice Ad (Nm.nat (Nm.val xs - Nm.val ys)).length cd] 24))
            have vd := Var.new nd
            have hb := hb.alloc hb.size (Obj.cells #[Value.slice Ad (Nm.nat (Nm.val xs - Nm.val ys)).length cd] 24)
            clear nd
            have kvx := vx.cell
            have kvy := vy.cell
            have kvz := vz.cell
            have kvd := vd.cell
            go_wp2_with fail
            clear kvx kvy kvz kvd
            refine wp_region_stable (by kernel_rfl) (ordF (0) true xs ys zs) [3, 4, 5, 7, 10] 92 rfl (by kernel_rfl) ?_ ?_ ?_
            · intro t ht
              simp only [List.mem_cons, List.not_mem_nil, or_false] at ht
              rcases ht with rfl | rfl | rfl | rfl | rfl
              · exact ⟨_, _, _, rfl, vx⟩
              · exact ⟨_, _, _, rfl, vy⟩
              · exact ⟨_, _, _, rfl, vz⟩
              · rfl
              · rfl
            · refine List.forall_mem_cons.2 ⟨ob_copy 10 74 (.inl rfl) rfl (by first | exact .inl rfl | exact .inr ⟨_, _, _, rfl, rfl, by kernel_rfl, by decide, rfl⟩) (by kernel_rfl) rfl, ?_⟩
              refine List.forall_mem_cons.2 ⟨ob_copy 7 75 (.inl rfl) rfl (by first | exact .inl rfl | exact .inr ⟨_, _, _, rfl, rfl, by kernel_rfl, by decide, rfl⟩) (by kernel_rfl) rfl, ?_⟩
              refine List.forall_mem_cons.2 ⟨ob_one 75 76 _ (.bool true) rfl (by first | exact .inl rfl | exact .inr ⟨_, _, _, rfl, rfl, by kernel_rfl, by decide, rfl⟩) (by kernel_rfl) rfl rfl (fun a w h1 => go_geq_int (0) (0) a w 75 .i64 _ rfl h1), ?_⟩
              refine List.forall_mem_cons.2 ⟨ob_two 74 76 77 _ _ (.bool true) rfl (by first | exact .inl rfl | exact .inr ⟨_, _, _, rfl, rfl, by kernel_rfl, by decide, rfl⟩) (by kernel_rfl) (by kernel_rfl) rfl rfl rfl (fun a w h1 h2 => go_eql_bool _ _ a w 74 76 _ rfl h1 h2), ?_⟩
              refine List.forall_mem_cons.2 ⟨ob_copy 77 78 (.inl rfl) rfl (by first | exact .inl rfl | exact .inr ⟨_, _, _, rfl, rfl, by kernel_rfl, by decide, rfl⟩) (by kernel_rfl) rfl, ?_⟩
              refine List.forall_mem_cons.2 ⟨ob_load 3 79 xs rfl rfl (by first | exact .inl rfl | exact .inr ⟨_, _, _, rfl, rfl, by kernel_rfl, by decide, rfl⟩) (by kernel_rfl) rfl rfl, ?_⟩
              refine List.forall_mem_cons.2 ⟨ob_load 5 80 zs rfl rfl (by first | exact .inl rfl | exact .inr ⟨_, _, _, rfl, rfl, by kernel_rfl, by decide, rfl⟩) (by kernel_rfl) rfl rfl, ?_⟩
              refine List.forall_mem_cons.2 ⟨ob_call2 19 79 80 81 _ rfl rfl (by first | exact .inl rfl | exact .inr ⟨_, _, _, rfl, rfl, by kernel_rfl, by decide, rfl⟩) (by kernel_rfl) (by kernel_rfl) (by kernel_rfl) (c_add xs zs (Nm.nat (Nm.val xs + Nm.val zs)) rfl ((sx.add sz (by decide)).len (by decide))), ?_⟩
              refine List.forall_mem_cons.2 ⟨ob_load 4 82 ys rfl rfl (by first | exact .inl rfl | exact .inr ⟨_, _, _, rfl, rfl, by kernel_rfl, by decide, rfl⟩) (by kernel_rfl) rfl rfl, ?_⟩
              refine List.forall_mem_cons.2 ⟨ob_load 5 83 zs rfl rfl (by first | exact .inl rfl | exact .inr ⟨_, _, _, rfl, rfl, by kernel_rfl, by decide, rfl⟩) (by kernel_rfl) rfl rfl, ?_⟩
              refine List.forall_mem_cons.2 ⟨ob_call2 19 82 83 84 _ rfl rfl (by first | exact .inl rfl | exact .inr ⟨_, _, _, rfl, rfl, by kernel_rfl, by decide, rfl⟩) (by kernel_rfl) (by kernel_rfl) (by kernel_rfl) (c_add ys zs (Nm.nat (Nm.val ys + Nm.val zs)) rfl ((sy.add sz (by decide)).len (by decide))), ?_⟩
              refine List.forall_mem_cons.2 ⟨ob_call2 16 81 84 85 _ rfl rfl (by first | exact .inl rfl | exact .inr ⟨_, _, _, rfl, rfl, by kernel_rfl, by decide, rfl⟩) (by kernel_rfl) (by kernel_rfl) (by kernel_rfl) (c_cmp (Nm.nat (Nm.val xs + Nm.val zs)) (Nm.nat (Nm.val ys + Nm.val zs)) (0) (by rw [Nm.val_nat, Nm.val_nat, cmpI_add]; exact ha)), ?_⟩
              refine List.forall_mem_cons.2 ⟨ob_copy 7 86 (.inl rfl) rfl (by first | exact .inl rfl | exact .inr ⟨_, _, _, rfl, rfl, by kernel_rfl, by decide, rfl⟩) (by kernel_rfl) rfl, ?_⟩
              refine List.forall_mem_cons.2 ⟨ob_two 85 86 87 _ _ (.bool true) rfl (by first | exact .inl rfl | exact .inr ⟨_, _, _, rfl, rfl, by kernel_rfl, by decide, rfl⟩) (by kernel_rfl) (by kernel_rfl) rfl rfl rfl (fun a w h1 h2 => (go_eql_int _ _ a w 85 86 _ _ _ _ rfl h1 h2).trans (by rw [beq_self_eq_true])), ?_⟩
              refine List.forall_mem_cons.2 ⟨ob_pick 78 87 88 _ rfl rfl (by first | exact .inl rfl | exact .inr ⟨_, _, _, rfl, rfl, by kernel_rfl, by decide, rfl⟩) (by kernel_rfl) (by kernel_rfl) rfl rfl, ?_⟩
              refine List.forall_mem_cons.2 ⟨ob_copy 88 89 (.inl rfl) rfl (by first | exact .inl rfl | exact .inr ⟨_, _, _, rfl, rfl, by kernel_rfl, by decide, rfl⟩) (by kernel_rfl) rfl, ?_⟩
              refine List.forall_mem_cons.2 ⟨ob_call0 13 90 _ rfl rfl (by first | exact .inl rfl | exact .inr ⟨_, _, _, rfl, rfl, by kernel_rfl, by decide, rfl⟩) (by kernel_rfl) c_awake, ?_⟩
              refine List.forall_mem_cons.2 ⟨ob_pick 89 90 91 _ rfl rfl (by first | exact .inl rfl | exact .inr ⟨_, _, _, rfl, rfl, by kernel_rfl, by decide, rfl⟩) (by kernel_rfl) (by kernel_rfl) rfl rfl, ?_⟩
              refine List.forall_mem_cons.2 ⟨ob_copy 91 6 (.inr rfl) rfl (by first | exact .inl rfl | exact .inr ⟨_, _, _, rfl, rfl, by kernel_rfl, by decide, rfl⟩) (by kernel_rfl) rfl, ?_⟩
              exact fun _ h => absurd h List.not_mem_nil
            · intro a' w' hdef hsz hbs hall hoth hbel
              have hres : a'.tmps.getD 6 undef = .bool true := hall 18 6 rfl
              rename_i hK
              refine hK _ _ ?_
              apply wp_ret
              exact bodyPost_ret (v := .bool true) (by rw [results_tmp (t := 6) rfl, hres]) hdef ⟨rfl, up hb hbel⟩
          · skip
            have kvx := vx.cell
            have kvy := vy.cell
            have kvz := vz.cell
            go_wp2_with fail
            clear kvx kvy kvz
            refine ((cmpI_trans ha hc (by decide) (by decide) : cmpI (Nm.val xs) (Nm.val zs) = 0) ▸ cmp_n vx.num vz.num).mono ?_
            rintro e w8 ⟨rfl, hs⟩
            have vx := vx.below hs
            have vy := vy.below hs
            have vz := vz.below hs
            have hb := up hb hs
            clear hs
            have kvx := vx.cell
            have kvy := vy.cell
            have kvz := vz.cell
            go_wp2_with fail
            clear kvx kvy kvz
            refine (sub_n vx.num vy.num (Nm.nat (Nm.val xs - Nm.val ys)) true rfl (decide_eq_true (by first | exact Nat.not_le.2 (cmpI_lt ha) | exact cmpI_le ha (by decide)))).mono ?_
            rintro e w9 ⟨Ad, cd, rfl, hc, hf, hs⟩
            have vx := vx.below hs
            have vy := vy.below hs
            have vz := vz.below hs
            have hb := up hb hs
            have nd := hf.num hc (Nm.dig_nat _) ((sx.mono (Nat.sub_le _ _)).len (by decide))
            clear hc hf hs
            have vx := vx.below (one _ (Obj.cells #[Value.slice Ad (Nm.nat (Nm.val xs - Nm.val ys)).length cd] 24))
            have vy := vy.below (one _ (Obj.cells #[Value.slice Ad (Nm.nat (Nm.val xs - Nm.val ys)).length cd] 24))
            have vz := vz.below (one _ (Obj.cells #[Value.slice Ad (Nm.nat (Nm.val xs - Nm.val ys)).length cd] 24))
            have vd := Var.new nd
            have hb := hb.alloc hb.size (Obj.cells #[Value.slice Ad (Nm.nat (Nm.val xs - Nm.val ys)).length cd] 24)
            clear nd
            have kvx := vx.cell
            have kvy := vy.cell
            have kvz := vz.cell
            have kvd := vd.cell
            go_wp2_with fail
            clear kvx kvy kvz kvd
            refine wp_region_stable (by kernel_rfl) (ordF (0) true xs ys zs) [3, 4, 5, 7, 10] 92 rfl (by kernel_rfl) ?_ ?_ ?_
            · intro t ht
              simp only [List.mem_cons, List.not_mem_nil, or_false] at ht
              rcases ht with rfl | rfl | rfl | rfl | rfl
              · exact ⟨_, _, _, rfl, vx⟩
              · exact ⟨_, _, _, rfl, vy⟩
              · exact ⟨_, _, _, rfl, vz⟩
              · rfl
              · rfl
            · refine List.forall_mem_cons.2 ⟨ob_copy 10 74 (.inl rfl) rfl (by first | exact .inl rfl | exact .inr ⟨_, _, _, rfl, rfl, by kernel_rfl, by decide, rfl⟩) (by kernel_rfl) rfl, ?_⟩
              refine List.forall_mem_cons.2 ⟨ob_copy 7 75 (.inl rfl) rfl (by first | exact .inl rfl | exact .inr ⟨_, _, _, rfl, rfl, by kernel_rfl, by decide, rfl⟩) (by kernel_rfl) rfl, ?_⟩
              refine List.forall_mem_cons.2 ⟨ob_one 75 76 _ (.bool true) rfl (by first | exact .inl rfl | exact .inr ⟨_, _, _, rfl, rfl, by kernel_rfl, by decide, rfl⟩) (by kernel_rfl) rfl rfl (fun a w h1 => go_geq_int (0) (0) a w 75 .i64 _ rfl h1), ?_⟩
              refine List.forall_mem_cons.2 ⟨ob_two 74 76 77 _ _ (.bool true) rfl (by first | exact .inl rfl | exact .inr ⟨_, _, _, rfl, rfl, by kernel_rfl, by decide, rfl⟩) (by kernel_rfl) (by kernel_rfl) rfl rfl rfl (fun a w h1 h2 => go_eql_bool _ _ a w 74 76 _ rfl h1 h2), ?_⟩
              refine List.forall_mem_cons.2 ⟨ob_copy 77 78 (.inl rfl) rfl (by first | exact .inl rfl | exact .inr ⟨_, _, _, rfl, rfl, by kernel_rfl, by decide, rfl⟩) (by kernel_rfl) rfl, ?_⟩
              refine List.forall_mem_cons.2 ⟨ob_load 3 79 xs rfl rfl (by first | exact .inl rfl | exact .inr ⟨_, _, _, rfl, rfl, by kernel_rfl, by decide, rfl⟩) (by kernel_rfl) rfl rfl, ?_⟩
              refine List.forall_mem_cons.2 ⟨ob_load 5 80 zs rfl rfl (by first | exact .inl rfl | exact .inr ⟨_, _, _, rfl, rfl, by kernel_rfl, by decide, rfl⟩) (by kernel_rfl) rfl rfl, ?_⟩
              refine List.forall_mem_cons.2 ⟨ob_call2 19 79 80 81 _ rfl rfl (by first | exact .inl rfl | exact .inr ⟨_, _, _, rfl, rfl, by kernel_rfl, by decide, rfl⟩) (by kernel_rfl) (by kernel_rfl) (by kernel_rfl) (c_add xs zs (Nm.nat (Nm.val xs + Nm.val zs)) rfl ((sx.add sz (by decide)).len (by decide))), ?_⟩
              refine List.forall_mem_cons.2 ⟨ob_load 4 82 ys rfl rfl (by first | exact .inl rfl | exact .inr ⟨_, _, _, rfl, rfl, by kernel_rfl, by decide, rfl⟩) (by kernel_rfl) rfl rfl, ?_⟩
              refine List.forall_mem_cons.2 ⟨ob_load 5 83 zs rfl rfl (by first | exact .inl rfl | exact .inr ⟨_, _, _, rfl, rfl, by kernel_rfl, by decide, rfl⟩) (by kernel_rfl) rfl rfl, ?_⟩
              refine List.forall_mem_cons.2 ⟨ob_call2 19 82 83 84 _ rfl rfl (by first | exact .inl rfl | exact .inr ⟨_, _, _, rfl, rfl, by kernel_rfl, by decide, rfl⟩) (by kernel_rfl) (by kernel_rfl) (by kernel_rfl) (c_add ys zs (Nm.nat (Nm.val ys + Nm.val zs)) rfl ((sy.add sz (by decide)).len (by decide))), ?_⟩
              refine List.forall_mem_cons.2 ⟨ob_call2 16 81 84 85 _ rfl rfl (by first | exact .inl rfl | exact .inr ⟨_, _, _, rfl, rfl, by kernel_rfl, by decide, rfl⟩) (by kernel_rfl) (by kernel_rfl) (by kernel_rfl) (c_cmp (Nm.nat (Nm.val xs + Nm.val zs)) (Nm.nat (Nm.val ys + Nm.val zs)) (0) (by rw [Nm.val_nat, Nm.val_nat, cmpI_add]; exact ha)), ?_⟩
              refine List.forall_mem_cons.2 ⟨ob_copy 7 86 (.inl rfl) rfl (by first | exact .inl rfl | exact .inr ⟨_, _, _, rfl, rfl, by kernel_rfl, by decide, rfl⟩) (by kernel_rfl) rfl, ?_⟩
              refine List.forall_mem_cons.2 ⟨ob_two 85 86 87 _ _ (.bool true) rfl (by first | exact .inl rfl | exact .inr ⟨_, _, _, rfl, rfl, by kernel_rfl, by decide, rfl⟩) (by kernel_rfl) (by kernel_rfl) rfl rfl rfl (fun a w h1 h2 => (go_eql_int _ _ a w 85 86 _ _ _ _ rfl h1 h2).trans (by rw [beq_self_eq_true])), ?_⟩
              refine List.forall_mem_cons.2 ⟨ob_pick 78 87 88 _ rfl rfl (by first | exact .inl rfl | exact .inr ⟨_, _, _, rfl, rfl, by kernel_rfl, by decide, rfl⟩) (by kernel_rfl) (by kernel_rfl) rfl rfl, ?_⟩
              refine List.forall_mem_cons.2 ⟨ob_copy 88 89 (.inl rfl) rfl (by first | exact .inl rfl | exact .inr ⟨_, _, _, rfl, rfl, by kernel_rfl, by decide, rfl⟩) (by kernel_rfl) rfl, ?_⟩
              refine List.forall_mem_cons.2 ⟨ob_call0 13 90 _ rfl rfl (by first | exact .inl rfl | exact .inr ⟨_, _, _, rfl, rfl, by kernel_rfl, by decide, rfl⟩) (by kernel_rfl) c_awake, ?_⟩
              refine List.forall_mem_cons.2 ⟨ob_pick 89 90 91 _ rfl rfl (by first | exact .inl rfl | exact .inr ⟨_, _, _, rfl, rfl, by kernel_rfl, by decide, rfl⟩) (by kernel_rfl) (by kernel_rfl) rfl rfl, ?_⟩
              refine List.forall_mem_cons.2 ⟨ob_copy 91 6 (.inr rfl) rfl (by first | exact .inl rfl | exact .inr ⟨_, _, _, rfl, rfl, by kernel_rfl, by decide, rfl⟩) (by kernel_rfl) rfl, ?_⟩
              exact fun _ h => absurd h List.not_mem_nil
            · intro a' w' hdef hsz hbs hall hoth hbel
              have hres : a'.tmps.getD 6 undef = .bool true := hall 18 6 rfl
              rename_i hK
              refine hK _ _ ?_
              apply wp_ret
              exact bodyPost_ret (v := .bool true) (by rw [results_tmp (t := 6) rfl, hres]) hdef ⟨rfl, up hb hbel⟩
          · skip
            have kvx := vx.cell
            have kvy := vy.cell
            have kvz := vz.cell
            go_wp2_with fail
            clear kvx kvy kvz
            refine (sub_n vx.num vy.num (Nm.nat (Nm.val xs - Nm.val ys)) true rfl (decide_eq_true (by first | exact Nat.not_le.2 (cmpI_lt ha) | exact cmpI_le ha (by decide)))).mono ?_
            rintro e w8 ⟨Ad, cd, rfl, hc, hf, hs⟩
            have vx := vx.below hs
            have vy := vy.below hs
            have vz := vz.below hs
            have hb := up hb hs
            have nd := hf.num hc (Nm.dig_nat _) ((sx.mono (Nat.sub_le _ _)).len (by decide))
            clear hc hf hs
            have vx := vx.below (one _ (Obj.cells #[Value.slice Ad (Nm.nat (Nm.val xs - Nm.val ys)).length cd] 24))
            have vy := vy.below (one _ (Obj.cells #[Value.slice Ad (Nm.nat (Nm.val xs - Nm.val ys)).length cd] 24))
            have vz := vz.below (one _ (Obj.cells #[Value.slice Ad (Nm.nat (Nm.val xs - Nm.val ys)).length cd] 24))
            have vd := Var.new nd
            have hb := hb.alloc hb.size (Obj.cells #[Value.slice Ad (Nm.nat (Nm.val xs - Nm.val ys)).length cd] 24)
            clear nd
            have kvx := vx.cell
            have kvy := vy.cell
            have kvz := vz.cell
            have kvd := vd.cell
            go_wp2_with fail
            clear kvx kvy kvz kvd
            refine wp_region_stable (by kernel_rfl) (ordF (0) true xs ys zs) [3, 4, 5, 7, 10] 92 rfl (by kernel_rfl) ?_ ?_ ?_
            · intro t ht
              simp only [List.mem_cons, List.not_mem_nil, or_false] at ht
              rcases ht with rfl | rfl | rfl | rfl | rfl
              · exact ⟨_, _, _, rfl, vx⟩
              · exact ⟨_, _, _, rfl, vy⟩
              · exact ⟨_, _, _, rfl, vz⟩
              · rfl
              · rfl
            · refine List.forall_mem_cons.2 ⟨ob_copy 10 74 (.inl rfl) rfl (by first | exact .inl rfl | exact .inr ⟨_, _, _, rfl, rfl, by kernel_rfl, by decide, rfl⟩) (by kernel_rfl) rfl, ?_⟩
              refine List.forall_mem_cons.2 ⟨ob_copy 7 75 (.inl rfl) rfl (by first | exact .inl rfl | exact .inr ⟨_, _, _, rfl, rfl, by kernel_rfl, by decide, rfl⟩) (by kernel_rfl) rfl, ?_⟩
              refine List.forall_mem_cons.2 ⟨ob_one 75 76 _ (.bool true) rfl (by first | exact .inl rfl | exact .inr ⟨_, _, _, rfl, rfl, by kernel_rfl, by decide, rfl⟩) (by kernel_rfl) rfl rfl (fun a w h1 => go_geq_int (0) (0) a w 75 .i64 _ rfl h1), ?_⟩
              refine List.forall_mem_cons.2 ⟨ob_two 74 76 77 _ _ (.bool true) rfl (by first | exact .inl rfl | exact .inr ⟨_, _, _, rfl, rfl, by kernel_rfl, by decide, rfl⟩) (by kernel_rfl) (by kernel_rfl) rfl rfl rfl (fun a w h1 h2 => go_eql_bool _ _ a w 74 76 _ rfl h1 h2), ?_⟩
              refine List.forall_mem_cons.2 ⟨ob_copy 77 78 (.inl rfl) rfl (by first | exact .inl rfl | exact .inr ⟨_, _, _, rfl, rfl, by kernel_rfl, by decide, rfl⟩) (by kernel_rfl) rfl, ?_⟩
              refine List.forall_mem_cons.2 ⟨ob_load 3 79 xs rfl rfl (by first | exact .inl rfl | exact .inr ⟨_, _, _, rfl, rfl, by kernel_rfl, by decide, rfl⟩) (by kernel_rfl) rfl rfl, ?_⟩
              refine List.forall_mem_cons.2 ⟨ob_load 5 80 zs rfl rfl (by first | exact .inl rfl | exact .inr ⟨_, _, _, rfl, rfl, by kernel_rfl, by decide, rfl⟩) (by kernel_rfl) rfl rfl, ?_⟩
              refine List.forall_mem_cons.2 ⟨ob_call2 19 79 80 81 _ rfl rfl (by first | exact .inl rfl | exact .inr ⟨_, _, _, rfl, rfl, by kernel_rfl, by decide, rfl⟩) (by kernel_rfl) (by kernel_rfl) (by kernel_rfl) (c_add xs zs (Nm.nat (Nm.val xs + Nm.val zs)) rfl ((sx.add sz (by decide)).len (by decide))), ?_⟩
              refine List.forall_mem_cons.2 ⟨ob_load 4 82 ys rfl rfl (by first | exact .inl rfl | exact .inr ⟨_, _, _, rfl, rfl, by kernel_rfl, by decide, rfl⟩) (by kernel_rfl) rfl rfl, ?_⟩
              refine List.forall_mem_cons.2 ⟨ob_load 5 83 zs rfl rfl (by first | exact .inl rfl | exact .inr ⟨_, _, _, rfl, rfl, by kernel_rfl, by decide, rfl⟩) (by kernel_rfl) rfl rfl, ?_⟩
              refine List.forall_mem_cons.2 ⟨ob_call2 19 82 83 84 _ rfl rfl (by first | exact .inl rfl | exact .inr ⟨_, _, _, rfl, rfl, by kernel_rfl, by decide, rfl⟩) (by kernel_rfl) (by kernel_rfl) (by kernel_rfl) (c_add ys zs (Nm.nat (Nm.val ys + Nm.val zs)) rfl ((sy.add sz (by decide)).len (by decide))), ?_⟩
              refine List.forall_mem_cons.2 ⟨ob_call2 16 81 84 85 _ rfl rfl (by first | exact .inl rfl | exact .inr ⟨_, _, _, rfl, rfl, by kernel_rfl, by decide, rfl⟩) (by kernel_rfl) (by kernel_rfl) (by kernel_rfl) (c_cmp (Nm.nat (Nm.val xs + Nm.val zs)) (Nm.nat (Nm.val ys + Nm.val zs)) (0) (by rw [Nm.val_nat, Nm.val_nat, cmpI_add]; exact ha)), ?_⟩
              refine List.forall_mem_cons.2 ⟨ob_copy 7 86 (.inl rfl) rfl (by first | exact .inl rfl | exact .inr ⟨_, _, _, rfl, rfl, by kernel_rfl, by decide, rfl⟩) (by kernel_rfl) rfl, ?_⟩
              refine List.forall_mem_cons.2 ⟨ob_two 85 86 87 _ _ (.bool true) rfl (by first | exact .inl rfl | exact .inr ⟨_, _, _, rfl, rfl, by kernel_rfl, by decide, rfl⟩) (by kernel_rfl) (by kernel_rfl) rfl rfl rfl (fun a w h1 h2 => (go_eql_int _ _ a w 85 86 _ _ _ _ rfl h1 h2).trans (by rw [beq_self_eq_true])), ?_⟩
              refine List.forall_mem_cons.2 ⟨ob_pick 78 87 88 _ rfl rfl (by first | exact .inl rfl | exact .inr ⟨_, _, _, rfl, rfl, by kernel_rfl, by decide, rfl⟩) (by kernel_rfl) (by kernel_rfl) rfl rfl, ?_⟩
              refine List.forall_mem_cons.2 ⟨ob_copy 88 89 (.inl rfl) rfl (by first | exact .inl rfl | exact .inr ⟨_, _, _, rfl, rfl, by kernel_rfl, by decide, rfl⟩) (by kernel_rfl) rfl, ?_⟩
              refine List.forall_mem_cons.2 ⟨ob_call0 13 90 _ rfl rfl (by first | exact .inl rfl | exact .inr ⟨_, _, _, rfl, rfl, by kernel_rfl, by decide, rfl⟩) (by kernel_rfl) c_awake, ?_⟩
              refine List.forall_mem_cons.2 ⟨ob_pick 89 90 91 _ rfl rfl (by first | exact .inl rfl | exact .inr ⟨_, _, _, rfl, rfl, by kernel_rfl, by decide, rfl⟩) (by kernel_rfl) (by kernel_rfl) rfl rfl, ?_⟩
              refine List.forall_mem_cons.2 ⟨ob_copy 91 6 (.inr rfl) rfl (by first | exact .inl rfl | exact .inr ⟨_, _, _, rfl, rfl, by kernel_rfl, by decide, rfl⟩) (by kernel_rfl) rfl, ?_⟩
              exact fun _ h => absurd h List.not_mem_nil
            · intro a' w' hdef hsz hbs hall hoth hbel
              have hres : a'.tmps.getD 6 undef = .bool true := hall 18 6 rfl
              rename_i hK
              refine hK _ _ ?_
              apply wp_ret
              exact bodyPost_ret (v := .bool true) (by rw [results_tmp (t := 6) rfl, hres]) hdef ⟨rfl, up hb hbel⟩
        · skip
          have kvx := vx.cell
          have kvy := vy.cell
          have kvz := vz.cell
          go_wp2_with fail
          clear kvx kvy kvz
          refine ((cmpI_neg ha : cmpI (Nm.val ys) (Nm.val xs) = -1) ▸ cmp_n vy.num vx.num).mono ?_
          rintro e w6 ⟨rfl, hs⟩
          have vx := vx.below hs
          have vy := vy.below hs
          have vz := vz.below hs
          have hb := up hb hs
          clear hs
          have kvx := vx.cell
          have kvy := vy.cell
          have kvz := vz.cell
          go_wp2_with fail
          clear kvx kvy kvz
          refine (same_n vx.num vy.num false (by first | exact decide_eq_true (cmpI_eq ex ey ha) | exact decide_eq_false (cmpI_ne ha (by decide)))).mono ?_
          rintro e w7 ⟨rfl, hs⟩
          have vx := vx.below hs
          have vy := vy.below hs
          have vz := vz.below hs
          have hb := up hb hs
          clear hs
          have kvx := vx.cell
          have kvy := vy.cell
          have kvz := vz.cell
          go_wp2_with fail
          clear kvx kvy kvz
          refine (sub_n vx.num vy.num (Nm.nat (Nm.val xs - Nm.val ys)) true rfl (decide_eq_true (by first | exact Nat.not_le.2 (cmpI_lt ha) | exact cmpI_le ha (by decide)))).mono ?_
          rintro e w8 ⟨Ad, cd, rfl, hc, hf, hs⟩
          have vx := vx.below hs
          have vy := vy.below hs
          have vz := vz.below hs
          have hb := up hb hs
          have nd := hf.num hc (Nm.dig_nat _) ((sx.mono (Nat.sub_le _ _)).len (by decide))
          clear hc hf hs
          have vx := vx.below (one _ (Obj.cells #[Value.slice Ad (Nm.nat (Nm.val xs - Nm.val ys)).length cd] 24))
          have vy := vy.below (one _ (Obj.cells #[Value.slice Ad (Nm.nat (Nm.val xs - Nm.val ys)).length cd] 24))
          have vz := vz.below (one _ (Obj.cells #[Value.slice Ad (Nm.nat (Nm.val xs - Nm.val ys)).length cd] 24))
          have vd := Var.new nd
          have hb := hb.alloc hb.size (Obj.cells #[Value.slice Ad (Nm.nat (Nm.val xs - Nm.val ys)).length cd] 24)
          clear nd
          have kvx := vx.cell
          have kvy := vy.cell
          have kvz := vz.cell
          have kvd := vd.cell
          go_wp2_with fail
          clear kvx kvy kvz kvd
          refine wp_region_stable (by kernel_rfl) (ordF (1) true xs ys zs) [3, 4, 5, 7, 10] 92 rfl (by kernel_rfl) ?_ ?_ ?_
          · intro t ht
            simp only [List.mem_cons, List.not_mem_nil, or_false] at ht
            rcases ht with rfl | rfl | rfl | rfl | rfl
            · exact ⟨_, _, _, rfl, vx⟩
            · exact ⟨_, _, _, rfl, vy⟩
            · exact ⟨_, _, _, rfl, vz⟩
            · rfl
            · rfl
          · refine List.forall_mem_cons.2 ⟨ob_copy 10 74 (.inl rfl) rfl (by first | exact .inl rfl | exact .inr ⟨_, _, _, rfl, rfl, by kernel_rfl, by decide, rfl⟩) (by kernel_rfl) rfl, ?_⟩
            refine List.forall_mem_cons.2 ⟨ob_copy 7 75 (.inl rfl) rfl (by first | exact .inl rfl | exact .inr ⟨_, _, _, rfl, rfl, by kernel_rfl, by decide, rfl⟩) (by kernel_rfl) rfl, ?_⟩
            refine List.forall_mem_cons.2 ⟨ob_one 75 76 _ (.bool true) rfl (by first | exact .inl rfl | exact .inr ⟨_, _, _, rfl, rfl, by kernel_rfl, by decide, rfl⟩) (by kernel_rfl) rfl rfl (fun a w h1 => go_geq_int (1) (0) a w 75 .i64 _ rfl h1), ?_⟩
            refine List.forall_mem_cons.2 ⟨ob_two 74 76 77 _ _ (.bool true) rfl (by first | exact .inl rfl | exact .inr ⟨_, _, _, rfl, rfl, by kernel_rfl, by decide, rfl⟩) (by kernel_rfl) (by kernel_rfl) rfl rfl rfl (fun a w h1 h2 => go_eql_bool _ _ a w 74 76 _ rfl h1 h2), ?_⟩
            refine List.forall_mem_cons.2 ⟨ob_copy 77 78 (.inl rfl) rfl (by first | exact .inl rfl | exact .inr ⟨_, _, _, rfl, rfl, by kernel_rfl, by decide, rfl⟩) (by kernel_rfl) rfl, ?_⟩
            refine List.forall_mem_cons.2 ⟨ob_load 3 79 xs rfl rfl (by first | exact .inl rfl | exact .inr ⟨_, _, _, rfl, rfl, by kernel_rfl, by decide, rfl⟩) (by kernel_rfl) rfl rfl, ?_⟩
            refine List.forall_mem_cons.2 ⟨ob_load 5 80 zs rfl rfl (by first | exact .inl rfl | exact .inr ⟨_, _, _, rfl, rfl, by kernel_rfl, by decide, rfl⟩) (by kernel_rfl) rfl rfl, ?_⟩
            refine List.forall_mem_cons.2 ⟨ob_call2 19 79 80 81 _ rfl rfl (by first | exact .inl rfl | exact .inr ⟨_, _, _, rfl, rfl, by kernel_rfl, by decide, rfl⟩) (by kernel_rfl) (by kernel_rfl) (by kernel_rfl) (c_add xs zs (Nm.nat (Nm.val xs + Nm.val zs)) rfl ((sx.add sz (by decide)).len (by decide))), ?_⟩
            refine List.forall_mem_cons.2 ⟨ob_load 4 82 ys rfl rfl (by first | exact .inl rfl | exact .inr ⟨_, _, _, rfl, rfl, by kernel_rfl, by decide, rfl⟩) (by kernel_rfl) rfl rfl, ?_⟩
            refine List.forall_mem_cons.2 ⟨ob_load 5 83 zs rfl rfl (by first | exact .inl rfl | exact .inr ⟨_, _, _, rfl, rfl, by kernel_rfl, by decide, rfl⟩) (by kernel_rfl) rfl rfl, ?_⟩
            refine List.forall_mem_cons.2 ⟨ob_call2 19 82 83 84 _ rfl rfl (by first | exact .inl rfl | exact .inr ⟨_, _, _, rfl, rfl, by kernel_rfl, by decide, rfl⟩) (by kernel_rfl) (by kernel_rfl) (by kernel_rfl) (c_add ys zs (Nm.nat (Nm.val ys + Nm.val zs)) rfl ((sy.add sz (by decide)).len (by decide))), ?_⟩
            refine List.forall_mem_cons.2 ⟨ob_call2 16 81 84 85 _ rfl rfl (by first | exact .inl rfl | exact .inr ⟨_, _, _, rfl, rfl, by kernel_rfl, by decide, rfl⟩) (by kernel_rfl) (by kernel_rfl) (by kernel_rfl) (c_cmp (Nm.nat (Nm.val xs + Nm.val zs)) (Nm.nat (Nm.val ys + Nm.val zs)) (1) (by rw [Nm.val_nat, Nm.val_nat, cmpI_add]; exact ha)), ?_⟩
            refine List.forall_mem_cons.2 ⟨ob_copy 7 86 (.inl rfl) rfl (by first | exact .inl rfl | exact .inr ⟨_, _, _, rfl, rfl, by kernel_rfl, by decide, rfl⟩) (by kernel_rfl) rfl, ?_⟩
            refine List.forall_mem_cons.2 ⟨ob_two 85 86 87 _ _ (.bool true) rfl (by first | exact .inl rfl | exact .inr ⟨_, _, _, rfl, rfl, by kernel_rfl, by decide, rfl⟩) (by kernel_rfl) (by kernel_rfl) rfl rfl rfl (fun a w h1 h2 => (go_eql_int _ _ a w 85 86 _ _ _ _ rfl h1 h2).trans (by rw [beq_self_eq_true])), ?_⟩
            refine List.forall_mem_cons.2 ⟨ob_pick 78 87 88 _ rfl rfl (by first | exact .inl rfl | exact .inr ⟨_, _, _, rfl, rfl, by kernel_rfl, by decide, rfl⟩) (by kernel_rfl) (by kernel_rfl) rfl rfl, ?_⟩
            refine List.forall_mem_cons.2 ⟨ob_copy 88 89 (.inl rfl) rfl (by first | exact .inl rfl | exact .inr ⟨_, _, _, rfl, rfl, by kernel_rfl, by decide, rfl⟩) (by kernel_rfl) rfl, ?_⟩
            refine List.forall_mem_cons.2 ⟨ob_call0 13 90 _ rfl rfl (by first | exact .inl rfl | exact .inr ⟨_, _, _, rfl, rfl, by kernel_rfl, by decide, rfl⟩) (by kernel_rfl) c_awake, ?_⟩
            refine List.forall_mem_cons.2 ⟨ob_pick 89 90 91 _ rfl rfl (by first | exact .inl rfl | exact .inr ⟨_, _, _, rfl, rfl, by kernel_rfl, by decide, rfl⟩) (by kernel_rfl) (by kernel_rfl) rfl rfl, ?_⟩
            refine List.forall_mem_cons.2 ⟨ob_copy 91 6 (.inr rfl) rfl (by first | exact .inl rfl | exact .inr ⟨_, _, _, rfl, rfl, by kernel_rfl, by decide, rfl⟩) (by kernel_rfl) rfl, ?_⟩
            exact fun _ h => absurd h List.not_mem_nil
          · intro a' w' hdef hsz hbs hall hoth hbel
            have hres : a'.tmps.getD 6 undef = .bool true := hall 18 6 rfl
            rename_i hK
            refine hK _ _ ?_
            apply wp_ret
            exact bodyPost_ret (v := .bool true) (by rw [results_tmp (t := 6) rfl, hres]) hdef ⟨rfl, up hb hbel⟩
end Go.Proofs.YtaiceebhifecbaaDoor

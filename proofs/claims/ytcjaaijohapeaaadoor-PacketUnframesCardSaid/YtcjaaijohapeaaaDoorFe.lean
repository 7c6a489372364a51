import Derived.Test.YtcjaaijohapeaaaDoorFd
/-
  The reference's Unframe. No conditions beyond those that each names.
-/
namespace Go.Proofs.YtcjaaijohapeaaaDoor
open Go.RowKit Go.Sort Go.Lib Go.Shelf
set_option maxRecDepth 100000 in
set_option maxHeartbeats 8000000 in
theorem refUnframe_any (s : List UInt8) (w : World) (hs : s.length ≤ 1000000000000000) :
    Calls Tryd.prog 15 #[.string (bs s)] w (Ib (.tuple #[(unf s).1.val, .int .i64 ((unf s).2 : Nat)]) w) := by
  have hb0 := ab1 w (Obj.cells #[.int .i64 0, .int .i64 0, .int .i64 0, .string ⟨#[]⟩] 32)
  have F0 : Bx (w.alloc (Obj.cells #[.int .i64 0, .int .i64 0, .int .i64 0, .string ⟨#[]⟩] 32)) w.heap.size (eF Fg0) := Bx.newF w 32 Fg0
  have cO := refOpen_any s (w.alloc (Obj.cells #[.int .i64 0, .int .i64 0, .int .i64 0, .string ⟨#[]⟩] 32)) hs
  have hol := opn_len s
  by_cases ho : (opn s).2 = 0
  · have hE : ((opn s).2 : Int) = 0 := by omega
    have HU : Hid (unf s = (if ufE (opn s).1 = 0 then (if fvB (ufF (opn s).1) = true then (ufF (opn s).1, 0) else (Fg0, 4)) else (Fg0, ufE (opn s).1))) := Lib.hid (if_pos ho)
    rw [HU.out]
    rw [hE] at cO
    have HCO := Lib.hid cO
    clear HU cO hE ho
    generalize (opn s).1 = b at *
    have hbl : b.length ≤ 9223372036854775000 := by omega
    have LB := Lib.hid hbl
    have cV := fun W => refValid_any (ufF b) W (by have := uf_len b; omega)
    have Q0 := Rq.start b
    have Q1 := Lib.hid (show Rq b (ur1 b) _ from Q0.small 1099511627776)
    obtain ⟨a1, ha1⟩ : ∃ a1, qS b ⟨b, 0⟩ 0 1099511627776 = a1 := ⟨_, rfl⟩
    rw [ha1] at Q1
    have Q2 := Lib.hid (show Rq b (ur2 b) _ from Q1.out.small 64)
    obtain ⟨a2, ha2⟩ : ∃ a2, qS b (ur1 b) a1 64 = a2 := ⟨_, rfl⟩
    rw [ha2] at Q2
    have Q3 := Lib.hid (show Rq b (ur3 b) _ from Q2.out.small 64)
    obtain ⟨a3, ha3⟩ : ∃ a3, qS b (ur2 b) a2 64 = a3 := ⟨_, rfl⟩
    rw [ha3] at Q3
    have Q4 := Lib.hid (show Rq b (ur4 b) _ from Q3.out.text 4000)
    obtain ⟨a4, ha4⟩ : ∃ a4, qT b (ur3 b) a3 4000 = a4 := ⟨_, rfl⟩
    rw [ha4] at Q4
    have k1 := fun W => Q0.rd 1099511627776 W hbl (by decide) (by decide)
    rw [ha1] at k1
    have C1 : Hid (∀ W, Calls Tryd.prog 44 #[.agg #[.string (bs b), .int .i64 0, .int .i64 0], .int .i64 1099511627776] W (Ib (.tuple #[.agg #[.string (bs b), .int .i64 (a1 : Int), .int .i64 ((ur1 b).e : Int)], .int .i64 (ufF b).id]) W)) := Lib.hid k1
    have k2 := fun W => Q1.out.rd 64 W hbl (by decide) (by decide)
    rw [ha2] at k2
    have C2 : Hid (∀ W, Calls Tryd.prog 44 #[.agg #[.string (bs b), .int .i64 (a1 : Int), .int .i64 ((ur1 b).e : Int)], .int .i64 64] W (Ib (.tuple #[.agg #[.string (bs b), .int .i64 (a2 : Int), .int .i64 ((ur2 b).e : Int)], .int .i64 (ufF b).ix]) W)) := Lib.hid k2
    have k3 := fun W => Q2.out.rd 64 W hbl (by decide) (by decide)
    rw [ha3] at k3
    have C3 : Hid (∀ W, Calls Tryd.prog 44 #[.agg #[.string (bs b), .int .i64 (a2 : Int), .int .i64 ((ur2 b).e : Int)], .int .i64 64] W (Ib (.tuple #[.agg #[.string (bs b), .int .i64 (a3 : Int), .int .i64 ((ur3 b).e : Int)], .int .i64 (ufF b).ct]) W)) := Lib.hid k3
    have k4 := fun W => Q3.out.rdT 4000 W hbl (by decide) (by decide)
    rw [ha4] at k4
    have C4 : Hid (∀ W, Calls Tryd.prog 45 #[.agg #[.string (bs b), .int .i64 (a3 : Int), .int .i64 ((ur3 b).e : Int)], .int .i64 4000] W (Ib (.tuple #[.agg #[.string (bs b), .int .i64 (a4 : Int), .int .i64 ((ur4 b).e : Int)], .string (bs (ufF b).dat)]) W)) := Lib.hid k4
    have C5 : Hid (∀ W, Calls Tryd.prog 46 #[.agg #[.string (bs b), .int .i64 (a4 : Int), .int .i64 ((ur4 b).e : Int)]] W (Ib (.int .i64 (ufE b : Nat)) W)) := Lib.hid fun W => Q4.out.rdE W
    have CV : Hid (∀ W, Calls Tryd.prog 16 #[.agg #[.int .i64 (ufF b).id, .int .i64 (ufF b).ix, .int .i64 (ufF b).ct, .string (bs (ufF b).dat)]] W (Ib (.bool (fvB (ufF b))) W)) := Lib.hid cV
    clear k1 k2 k3 k4 cV Q0 Q1 Q2 Q3 Q4 ha1 ha2 ha3 ha4 hbl hol
    generalize ufF b = X at *
    generalize (ur1 b).e = e1 at *
    generalize (ur2 b).e = e2 at *
    generalize (ur3 b).e = e3 at *
    generalize (ur4 b).e = e4 at *
    generalize ufE b = ue at *
    obtain ⟨id, ix, ct, dat⟩ := X
    simp only at C1 C2 C3 C4 CV
    have US : Hid (∀ w1, Below (w.alloc (Obj.cells #[.int .i64 0, .int .i64 0, .int .i64 0, .string ⟨#[]⟩] 32)).heap.size (w.alloc (Obj.cells #[.int .i64 0, .int .i64 0, .int .i64 0, .string ⟨#[]⟩] 32)) w1 → U3 ((w1.alloc (Obj.cells #[.int .i64 0, .int .i64 0, .int .i64 0, .string ⟨#[]⟩] 32)).alloc (Obj.cells #[.string (bs b), .int .i64 0, .int .i64 0] 93)) (w1.heap.size + 1) w1.heap.size w.heap.size b 0 0 Fg0 ∧ Below w.heap.size w ((w1.alloc (Obj.cells #[.int .i64 0, .int .i64 0, .int .i64 0, .string ⟨#[]⟩] 32)).alloc (Obj.cells #[.string (bs b), .int .i64 0, .int .i64 0] 93)) ∧ w.heap.size ≤ w1.heap.size ∧ w.heap.size ≤ w1.heap.size + 1) := Lib.hid fun w1 hb1 => by
      have hs1 : w.heap.size + 1 ≤ w1.heap.size := by have := hb1.size; simpa using this
      have hbb := Below.next hb0 hb1
      refine ⟨⟨?_, (show Bx _ _ (eF Fg0) from Bx.newF w1 32 Fg0).next (ab1 _ _), F0.next (hb1.trans ((ab2 w1 _ _).mono hb1.size)), by omega, by omega, by omega⟩, hbb.trans ((ab2 w1 _ _).mono hbb.size), by omega, by omega⟩
      have h9 := Bx.new3 (w1.alloc (Obj.cells #[.int .i64 0, .int .i64 0, .int .i64 0, .string ⟨#[]⟩] 32)) 93 (.string (bs b)) (.int .i64 0) (.int .i64 0)
      rw [show (w1.alloc (Obj.cells #[.int .i64 0, .int .i64 0, .int .i64 0, .string ⟨#[]⟩] 32)).heap.size = w1.heap.size + 1 by simp] at h9
      exact h9
    by_cases he : ue = 0
    · have hne : (((ue : Nat) : Int) != 0) = false := by rw [he]; rfl
      rw [if_pos he]
      cases hv : fvB ⟨id, ix, ct, dat⟩
      · rw [hv] at CV
        rw [if_neg (by decide)]
        have HE0 := Lib.hid he
        clear he hv
        go_enter Tryd.func15, Tryd.ntmps15
        go_wp2_with (first
          | (go_at_call 43; refine HCO.out.mono ?_; rintro e w1 ⟨rfl, hb1⟩; obtain ⟨Yq1, B1, s1, s2⟩ := US.out w1 hb1)
          | (go_at_call 46; refine (C5.out _).mono ?_; rintro e w6 ⟨rfl, hb6⟩; have Yq6 := ((Yq5.step a4 e4 3 (.string (bs dat)) ⟨id, ix, ct, dat⟩ rfl).next hb6); have B6 := Below.next (below4 B5 s2 s1 _ _ _ _ _) hb6; have t0 := Yq6.f.c 0 rfl; have t1 := Yq6.f.c 1 rfl; have t2 := Yq6.f.c 2 rfl; have t3 := Yq6.f.c 3 rfl; have tl := Yq6.f.lt; have n3 := Yq6.n3; have n3s := Yq6.n3.symm)
          | (go_at_call 45; refine (C4.out _).mono ?_; rintro e w5 ⟨rfl, hb5⟩; have Yq5 := ((Yq4.step a3 e3 2 (.int .i64 ct) ⟨id, ix, ct, []⟩ rfl).next hb5); have B5 := Below.next (below4 B4 s2 s1 _ _ _ _ _) hb5; have x0 := Yq5.r.c 0 rfl; have x1 := Yq5.r.c 1 rfl; have x2 := Yq5.r.c 2 rfl; have y0 := Yq5.r.f 0 rfl; have y1 := Yq5.r.f 1 rfl; have y2 := Yq5.r.f 2 rfl; have v3 := Yq5.f.c 3 rfl; have u3 := Yq5.f.f 3 rfl; have lr := Yq5.r.lt; have lf := Yq5.f.lt; have nn := Yq5.n1; have nm := Yq5.n1.symm)
          | (go_at_call 44; have zq := Yq3; clear zq; refine (C3.out _).mono ?_; rintro e w4 ⟨rfl, hb4⟩; have Yq4 := ((Yq3.step a2 e2 1 (.int .i64 ix) ⟨id, ix, 0, []⟩ rfl).next hb4); have B4 := Below.next (below4 B3 s2 s1 _ _ _ _ _) hb4; have x0 := Yq4.r.c 0 rfl; have x1 := Yq4.r.c 1 rfl; have x2 := Yq4.r.c 2 rfl; have y0 := Yq4.r.f 0 rfl; have y1 := Yq4.r.f 1 rfl; have y2 := Yq4.r.f 2 rfl; have v2 := Yq4.f.c 2 rfl; have u2 := Yq4.f.f 2 rfl; have lr := Yq4.r.lt; have lf := Yq4.f.lt; have nn := Yq4.n1; have nm := Yq4.n1.symm)
          | (go_at_call 44; have zq := Yq2; clear zq; refine (C2.out _).mono ?_; rintro e w3 ⟨rfl, hb3⟩; have Yq3 := ((Yq2.step a1 e1 0 (.int .i64 id) ⟨id, 0, 0, []⟩ rfl).next hb3); have B3 := Below.next (below4 B2 s2 s1 _ _ _ _ _) hb3; have x0 := Yq3.r.c 0 rfl; have x1 := Yq3.r.c 1 rfl; have x2 := Yq3.r.c 2 rfl; have y0 := Yq3.r.f 0 rfl; have y1 := Yq3.r.f 1 rfl; have y2 := Yq3.r.f 2 rfl; have v1 := Yq3.f.c 1 rfl; have u1 := Yq3.f.f 1 rfl; have lr := Yq3.r.lt; have lf := Yq3.f.lt; have nn := Yq3.n1; have nm := Yq3.n1.symm)
          | (go_at_call 44; refine (C1.out _).mono ?_; rintro e w2 ⟨rfl, hb2⟩; have Yq2 := Yq1.next hb2; have B2 := Below.next B1 hb2; have x0 := Yq2.r.c 0 rfl; have x1 := Yq2.r.c 1 rfl; have x2 := Yq2.r.c 2 rfl; have y0 := Yq2.r.f 0 rfl; have y1 := Yq2.r.f 1 rfl; have y2 := Yq2.r.f 2 rfl; have v0 := Yq2.f.c 0 rfl; have u0 := Yq2.f.f 0 rfl; have lr := Yq2.r.lt; have lf := Yq2.f.lt; have nn := Yq2.n1; have nm := Yq2.n1.symm)
          | (go_at_call 16; refine (CV.out _).mono ?_; rintro e w7 ⟨rfl, hb7⟩; have Yq7 := Yq6.next hb7; have B7 := Below.next B6 hb7; have p0 := Yq7.z.c 0 rfl; have g0 := Yq7.z.f 0 rfl; have p1 := Yq7.z.c 1 rfl; have g1 := Yq7.z.f 1 rfl; have p2 := Yq7.z.c 2 rfl; have g2 := Yq7.z.f 2 rfl; have p3 := Yq7.z.c 3 rfl; have g3 := Yq7.z.f 3 rfl; have pl := Yq7.z.lt; have t0 := Yq7.f.c 0 rfl; have t1 := Yq7.f.c 1 rfl; have t2 := Yq7.f.c 2 rfl; have t3 := Yq7.f.c 3 rfl; have tl := Yq7.f.lt; have n3 := Yq7.n3; have n3s := Yq7.n3.symm))
        refine bp_gen (R := fun W => Bx W w.heap.size (eF (Fg0)) ∧ Below w.heap.size w W) (F4set Yq7.z B7 (Fg0)) ?_
        rintro wz ⟨QB, QW⟩
        have c0 := QB.c 0 rfl
        have c1 := QB.c 1 rfl
        have c2 := QB.c 2 rfl
        have c3 := QB.c 3 rfl
        refine bodyPost_ret (v := .tuple #[.agg #[.int .i64 (Fg0).id, .int .i64 (Fg0).ix, .int .i64 (Fg0).ct, .string (bs (Fg0).dat)], .int .i64 (4 : Nat)]) (by simp [results, Tryd.results15, go_sem, c0, c1, c2, c3]) rfl ⟨rfl, QW⟩
      · rw [hv] at CV
        rw [if_pos rfl]
        have HE0 := Lib.hid he
        clear he hv
        go_enter Tryd.func15, Tryd.ntmps15
        go_wp2_with (first
          | (go_at_call 43; refine HCO.out.mono ?_; rintro e w1 ⟨rfl, hb1⟩; obtain ⟨Yq1, B1, s1, s2⟩ := US.out w1 hb1)
          | (go_at_call 46; refine (C5.out _).mono ?_; rintro e w6 ⟨rfl, hb6⟩; have Yq6 := ((Yq5.step a4 e4 3 (.string (bs dat)) ⟨id, ix, ct, dat⟩ rfl).next hb6); have B6 := Below.next (below4 B5 s2 s1 _ _ _ _ _) hb6; have t0 := Yq6.f.c 0 rfl; have t1 := Yq6.f.c 1 rfl; have t2 := Yq6.f.c 2 rfl; have t3 := Yq6.f.c 3 rfl; have tl := Yq6.f.lt; have n3 := Yq6.n3; have n3s := Yq6.n3.symm)
          | (go_at_call 45; refine (C4.out _).mono ?_; rintro e w5 ⟨rfl, hb5⟩; have Yq5 := ((Yq4.step a3 e3 2 (.int .i64 ct) ⟨id, ix, ct, []⟩ rfl).next hb5); have B5 := Below.next (below4 B4 s2 s1 _ _ _ _ _) hb5; have x0 := Yq5.r.c 0 rfl; have x1 := Yq5.r.c 1 rfl; have x2 := Yq5.r.c 2 rfl; have y0 := Yq5.r.f 0 rfl; have y1 := Yq5.r.f 1 rfl; have y2 := Yq5.r.f 2 rfl; have v3 := Yq5.f.c 3 rfl; have u3 := Yq5.f.f 3 rfl; have lr := Yq5.r.lt; have lf := Yq5.f.lt; have nn := Yq5.n1; have nm := Yq5.n1.symm)
          | (go_at_call 44; have zq := Yq3; clear zq; refine (C3.out _).mono ?_; rintro e w4 ⟨rfl, hb4⟩; have Yq4 := ((Yq3.step a2 e2 1 (.int .i64 ix) ⟨id, ix, 0, []⟩ rfl).next hb4); have B4 := Below.next (below4 B3 s2 s1 _ _ _ _ _) hb4; have x0 := Yq4.r.c 0 rfl; have x1 := Yq4.r.c 1 rfl; have x2 := Yq4.r.c 2 rfl; have y0 := Yq4.r.f 0 rfl; have y1 := Yq4.r.f 1 rfl; have y2 := Yq4.r.f 2 rfl; have v2 := Yq4.f.c 2 rfl; have u2 := Yq4.f.f 2 rfl; have lr := Yq4.r.lt; have lf := Yq4.f.lt; have nn := Yq4.n1; have nm := Yq4.n1.symm)
          | (go_at_call 44; have zq := Yq2; clear zq; refine (C2.out _).mono ?_; rintro e w3 ⟨rfl, hb3⟩; have Yq3 := ((Yq2.step a1 e1 0 (.int .i64 id) ⟨id, 0, 0, []⟩ rfl).next hb3); have B3 := Below.next (below4 B2 s2 s1 _ _ _ _ _) hb3; have x0 := Yq3.r.c 0 rfl; have x1 := Yq3.r.c 1 rfl; have x2 := Yq3.r.c 2 rfl; have y0 := Yq3.r.f 0 rfl; have y1 := Yq3.r.f 1 rfl; have y2 := Yq3.r.f 2 rfl; have v1 := Yq3.f.c 1 rfl; have u1 := Yq3.f.f 1 rfl; have lr := Yq3.r.lt; have lf := Yq3.f.lt; have nn := Yq3.n1; have nm := Yq3.n1.symm)
          | (go_at_call 44; refine (C1.out _).mono ?_; rintro e w2 ⟨rfl, hb2⟩; have Yq2 := Yq1.next hb2; have B2 := Below.next B1 hb2; have x0 := Yq2.r.c 0 rfl; have x1 := Yq2.r.c 1 rfl; have x2 := Yq2.r.c 2 rfl; have y0 := Yq2.r.f 0 rfl; have y1 := Yq2.r.f 1 rfl; have y2 := Yq2.r.f 2 rfl; have v0 := Yq2.f.c 0 rfl; have u0 := Yq2.f.f 0 rfl; have lr := Yq2.r.lt; have lf := Yq2.f.lt; have nn := Yq2.n1; have nm := Yq2.n1.symm)
          | (go_at_call 16; refine (CV.out _).mono ?_; rintro e w7 ⟨rfl, hb7⟩; have Yq7 := Yq6.next hb7; have B7 := Below.next B6 hb7; have p0 := Yq7.z.c 0 rfl; have g0 := Yq7.z.f 0 rfl; have p1 := Yq7.z.c 1 rfl; have g1 := Yq7.z.f 1 rfl; have p2 := Yq7.z.c 2 rfl; have g2 := Yq7.z.f 2 rfl; have p3 := Yq7.z.c 3 rfl; have g3 := Yq7.z.f 3 rfl; have pl := Yq7.z.lt; have t0 := Yq7.f.c 0 rfl; have t1 := Yq7.f.c 1 rfl; have t2 := Yq7.f.c 2 rfl; have t3 := Yq7.f.c 3 rfl; have tl := Yq7.f.lt; have n3 := Yq7.n3; have n3s := Yq7.n3.symm))
        refine bp_gen (R := fun W => Bx W w.heap.size (eF (Fg.mk id ix ct dat)) ∧ Below w.heap.size w W) (F4set Yq7.z B7 (Fg.mk id ix ct dat)) ?_
        rintro wz ⟨QB, QW⟩
        have c0 := QB.c 0 rfl
        have c1 := QB.c 1 rfl
        have c2 := QB.c 2 rfl
        have c3 := QB.c 3 rfl
        refine bodyPost_ret (v := .tuple #[.agg #[.int .i64 (Fg.mk id ix ct dat).id, .int .i64 (Fg.mk id ix ct dat).ix, .int .i64 (Fg.mk id ix ct dat).ct, .string (bs (Fg.mk id ix ct dat).dat)], .int .i64 (0 : Nat)]) (by simp [results, Tryd.results15, go_sem, c0, c1, c2, c3]) rfl ⟨rfl, QW⟩
    · have hne : (((ue : Nat) : Int) != 0) = true := bne_iff_ne.2 (by omega)
      rw [if_neg he]
      have HE0 := Lib.hid he
      clear he
      go_enter Tryd.func15, Tryd.ntmps15
      go_wp2_with (first
        | (go_at_call 43; refine HCO.out.mono ?_; rintro e w1 ⟨rfl, hb1⟩; obtain ⟨Yq1, B1, s1, s2⟩ := US.out w1 hb1)
        | (go_at_call 46; refine (C5.out _).mono ?_; rintro e w6 ⟨rfl, hb6⟩; have Yq6 := ((Yq5.step a4 e4 3 (.string (bs dat)) ⟨id, ix, ct, dat⟩ rfl).next hb6); have B6 := Below.next (below4 B5 s2 s1 _ _ _ _ _) hb6; have p0 := Yq6.z.c 0 rfl; have g0 := Yq6.z.f 0 rfl; have p1 := Yq6.z.c 1 rfl; have g1 := Yq6.z.f 1 rfl; have p2 := Yq6.z.c 2 rfl; have g2 := Yq6.z.f 2 rfl; have p3 := Yq6.z.c 3 rfl; have g3 := Yq6.z.f 3 rfl; have pl := Yq6.z.lt)
        | (go_at_call 45; refine (C4.out _).mono ?_; rintro e w5 ⟨rfl, hb5⟩; have Yq5 := ((Yq4.step a3 e3 2 (.int .i64 ct) ⟨id, ix, ct, []⟩ rfl).next hb5); have B5 := Below.next (below4 B4 s2 s1 _ _ _ _ _) hb5; have x0 := Yq5.r.c 0 rfl; have x1 := Yq5.r.c 1 rfl; have x2 := Yq5.r.c 2 rfl; have y0 := Yq5.r.f 0 rfl; have y1 := Yq5.r.f 1 rfl; have y2 := Yq5.r.f 2 rfl; have v3 := Yq5.f.c 3 rfl; have u3 := Yq5.f.f 3 rfl; have lr := Yq5.r.lt; have lf := Yq5.f.lt; have nn := Yq5.n1; have nm := Yq5.n1.symm)
        | (go_at_call 44; have zq := Yq3; clear zq; refine (C3.out _).mono ?_; rintro e w4 ⟨rfl, hb4⟩; have Yq4 := ((Yq3.step a2 e2 1 (.int .i64 ix) ⟨id, ix, 0, []⟩ rfl).next hb4); have B4 := Below.next (below4 B3 s2 s1 _ _ _ _ _) hb4; have x0 := Yq4.r.c 0 rfl; have x1 := Yq4.r.c 1 rfl; have x2 := Yq4.r.c 2 rfl; have y0 := Yq4.r.f 0 rfl; have y1 := Yq4.r.f 1 rfl; have y2 := Yq4.r.f 2 rfl; have v2 := Yq4.f.c 2 rfl; have u2 := Yq4.f.f 2 rfl; have lr := Yq4.r.lt; have lf := Yq4.f.lt; have nn := Yq4.n1; have nm := Yq4.n1.symm)
        | (go_at_call 44; have zq := Yq2; clear zq; refine (C2.out _).mono ?_; rintro e w3 ⟨rfl, hb3⟩; have Yq3 := ((Yq2.step a1 e1 0 (.int .i64 id) ⟨id, 0, 0, []⟩ rfl).next hb3); have B3 := Below.next (below4 B2 s2 s1 _ _ _ _ _) hb3; have x0 := Yq3.r.c 0 rfl; have x1 := Yq3.r.c 1 rfl; have x2 := Yq3.r.c 2 rfl; have y0 := Yq3.r.f 0 rfl; have y1 := Yq3.r.f 1 rfl; have y2 := Yq3.r.f 2 rfl; have v1 := Yq3.f.c 1 rfl; have u1 := Yq3.f.f 1 rfl; have lr := Yq3.r.lt; have lf := Yq3.f.lt; have nn := Yq3.n1; have nm := Yq3.n1.symm)
        | (go_at_call 44; refine (C1.out _).mono ?_; rintro e w2 ⟨rfl, hb2⟩; have Yq2 := Yq1.next hb2; have B2 := Below.next B1 hb2; have x0 := Yq2.r.c 0 rfl; have x1 := Yq2.r.c 1 rfl; have x2 := Yq2.r.c 2 rfl; have y0 := Yq2.r.f 0 rfl; have y1 := Yq2.r.f 1 rfl; have y2 := Yq2.r.f 2 rfl; have v0 := Yq2.f.c 0 rfl; have u0 := Yq2.f.f 0 rfl; have lr := Yq2.r.lt; have lf := Yq2.f.lt; have nn := Yq2.n1; have nm := Yq2.n1.symm))
      refine bp_gen (R := fun W => Bx W w.heap.size (eF (Fg0)) ∧ Below w.heap.size w W) (F4set Yq6.z B6 (Fg0)) ?_
      rintro wz ⟨QB, QW⟩
      have c0 := QB.c 0 rfl
      have c1 := QB.c 1 rfl
      have c2 := QB.c 2 rfl
      have c3 := QB.c 3 rfl
      refine bodyPost_ret (v := .tuple #[.agg #[.int .i64 (Fg0).id, .int .i64 (Fg0).ix, .int .i64 (Fg0).ct, .string (bs (Fg0).dat)], .int .i64 (ue : Nat)]) (by simp [results, Tryd.results15, go_sem, c0, c1, c2, c3]) rfl ⟨rfl, QW⟩
  · have HU : Hid (unf s = (Fg0, (opn s).2)) := Lib.hid (if_neg ho)
    have hne : (((opn s).2 : Int) != 0) = true := bne_iff_ne.2 (by omega)
    rw [HU.out]
    generalize (opn s).2 = e0 at *
    generalize (opn s).1 = b at *
    clear ho hol HU
    have HCO := Lib.hid cO
    clear cO
    go_enter Tryd.func15, Tryd.ntmps15
    go_wp2_with (go_at_call 43; refine HCO.out.mono ?_; rintro e w1 ⟨rfl, hb1⟩; have F1 := F0.next hb1; have q0 := F1.c 0 rfl; have q1 := F1.c 1 rfl; have q2 := F1.c 2 rfl; have q3 := F1.c 3 rfl; have f0 := F1.f 0 rfl; have f1 := F1.f 1 rfl; have f2 := F1.f 2 rfl; have f3 := F1.f 3 rfl; have fl := F1.lt)
    refine bp_gen (R := fun W => Bx W w.heap.size (eF (Fg0)) ∧ Below w.heap.size w W) (F4set F1 (Below.next hb0 hb1) (Fg0)) ?_
    rintro wz ⟨QB, QW⟩
    have c0 := QB.c 0 rfl
    have c1 := QB.c 1 rfl
    have c2 := QB.c 2 rfl
    have c3 := QB.c 3 rfl
    refine bodyPost_ret (v := .tuple #[.agg #[.int .i64 (Fg0).id, .int .i64 (Fg0).ix, .int .i64 (Fg0).ct, .string (bs (Fg0).dat)], .int .i64 (e0 : Nat)]) (by simp [results, Tryd.results15, go_sem, c0, c1, c2, c3]) rfl ⟨rfl, QW⟩
end Go.Proofs.YtcjaaijohapeaaaDoor

/-
  The reference's reader, beside the program's; the reference's Unframe. No conditions beyond those that each names.
-/
import Derived.Test.YtcjaaijohapeaaaDoorK18
import Derived.Laws.StructEq
namespace Go.Proofs.YtcjaaijohapeaaaDoor
open Go.RowKit Go.Sort Go.Lib Go.Shelf
/-- The boxes of the reference's Unframe. -/
structure U3 (w : World) (rB fB zB : Nat) (S : List UInt8) (a e : Nat) (f : Fg) : Prop where
  r : Bx w rB [.string (bs S), .int .i64 (a : Int), .int .i64 (e : Int)]
  f : Bx w fB (eF f)
  z : Bx w zB (eF Fg0)
  n1 : rB ≠ fB
  n2 : rB ≠ zB
  n3 : fB ≠ zB
theorem U3.next {w w' : World} {rB fB zB : Nat} {S : List UInt8} {a e : Nat} {f : Fg} (h : U3 w rB fB zB S a e f) (hb : Below w.heap.size w w') : U3 w' rB fB zB S a e f := ⟨h.r.next hb, h.f.next hb, h.z.next hb, h.n1, h.n2, h.n3⟩
theorem Bx.oth {w : World} {b : Nat} {vs : List Value} (h : Bx w b vs) (p : Addr) (u : Value) (hp : p.block ≠ b) : Bx (w.setCell p u) b vs := h.blk (by simp [World.setCell]) (Below.heap_setCell _ _ _ _ (fun e => hp e.symm))
theorem U3.step {w : World} {rB fB zB : Nat} {S : List UInt8} {a e : Nat} {f : Fg} (h : U3 w rB fB zB S a e f) (a' e' j : Nat) (u : Value) (f' : Fg) (hf : (eF f).set j u = eF f') :
    U3 ((((w.setCell ⟨rB, 0, none⟩ (.string (bs S))).setCell ⟨rB, 1, none⟩ (.int .i64 (a' : Int))).setCell ⟨rB, 2, none⟩ (.int .i64 (e' : Int))).setCell ⟨fB, j, none⟩ u) rB fB zB S a' e' f' := by
  refine ⟨(h.r.put3 _ _ _).oth _ _ (fun e => h.n1 e.symm), ?_, (((h.z.oth ⟨rB, 0, none⟩ (.string (bs S)) h.n2).oth ⟨rB, 1, none⟩ (.int .i64 (a' : Int)) h.n2).oth ⟨rB, 2, none⟩ (.int .i64 (e' : Int)) h.n2).oth ⟨fB, j, none⟩ u h.n3, h.n1, h.n2, h.n3⟩
  rw [← hf]
  exact (((h.f.oth ⟨rB, 0, none⟩ (.string (bs S)) h.n1).oth ⟨rB, 1, none⟩ (.int .i64 (a' : Int)) h.n1).oth ⟨rB, 2, none⟩ (.int .i64 (e' : Int)) h.n1).put1 j u
theorem below4 {w0 w : World} {B rB fB : Nat} (h : Below B w0 w) (h1 : B ≤ rB) (h2 : B ≤ fB) (j : Nat) (x y z u : Value) : Below B w0 ((((w.setCell ⟨rB, 0, none⟩ x).setCell ⟨rB, 1, none⟩ y).setCell ⟨rB, 2, none⟩ z).setCell ⟨fB, j, none⟩ u) :=
  (((h.setCell (p := ⟨rB, 0, none⟩) h1 _).setCell (p := ⟨rB, 1, none⟩) h1 _).setCell (p := ⟨rB, 2, none⟩) h1 _).setCell (p := ⟨fB, j, none⟩) h2 _
end Go.Proofs.YtcjaaijohapeaaaDoor
/-
  The reference's Unframe. No conditions beyond those that each names.
-/
namespace Go.Proofs.YtcjaaijohapeaaaDoor
open Go.RowKit Go.Sort Go.Lib Go.Shelf
set_option maxRecDepth 100000 in
set_option maxHeartbeats 8000000 in
theorem refUnframe_any (s : List UInt8) (w : World) (hs : s.length ≤ 1000000000000000) :
    Calls Tryd.prog 15 #[.string (bs s)] w (Ib (.tuple #[(unf s).1.val, .int .i64 ((unf s).2 : Nat)]) w) := by
  have hb0 := ab1 w (Obj.cells #[.int .i64 0, .int .i64 0, .int .i64 0, .string ⟨#[]⟩] 32)
  have F0 : Bx (w.alloc (Obj.cells #[.int .i64 0, .int .i64 0, .int .i64 0, .string ⟨#[]⟩] 32)) w.heap.size (eF Fg0) := Bx.newF w 32 Fg0
  have cO := refOpen_any s (w.alloc (Obj.cells #[.int .i64 0, .int .i64 0, .int .i64 0, .string ⟨#[]⟩] 32)) hs
  have hol := opn_len s
  by_cases ho : (opn s).2 = 0
  · have hE : ((opn s).2 : Int) = 0 := by omega
    have HU : Hid (unf s = (if ufE (opn s).1 = 0 then (if fvB (ufF (opn s).1) = true then (ufF (opn s).1, 0) else (Fg0, 4)) else (Fg0, ufE (opn s).1))) := Lib.hid (if_pos ho)
    rw [HU.out]
    rw [hE] at cO
    have HCO := Lib.hid cO
    clear HU cO hE ho
    generalize (opn s).1 = b at *
    have hbl : b.length ≤ 9223372036854775000 := by omega
    have LB := Lib.hid hbl
    have cV := fun W => refValid_any (ufF b) W (by have := uf_len b; omega)
    have Q0 := Rq.start b
    have Q1 := Lib.hid (show Rq b (ur1 b) _ from Q0.small 1099511627776)
    obtain ⟨a1, ha1⟩ : ∃ a1, qS b ⟨b, 0⟩ 0 1099511627776 = a1 := ⟨_, rfl⟩
    rw [ha1] at Q1
    have Q2 := Lib.hid (show Rq b (ur2 b) _ from Q1.out.small 64)
    obtain ⟨a2, ha2⟩ : ∃ a2, qS b (ur1 b) a1 64 = a2 := ⟨_, rfl⟩
    rw [ha2] at Q2
    have Q3 := Lib.hid (show Rq b (ur3 b) _ from Q2.out.small 64)
    obtain ⟨a3, ha3⟩ : ∃ a3, qS b (ur2 b) a2 64 = a3 := ⟨_, rfl⟩
    rw [ha3] at Q3
    have Q4 := Lib.hid (show Rq b (ur4 b) _ from Q3.out.text 4000)
    obtain ⟨a4, ha4⟩ : ∃ a4, qT b (ur3 b) a3 4000 = a4 := ⟨_, rfl⟩
    rw [ha4] at Q4
    have k1 := fun W => Q0.rd 1099511627776 W hbl (by decide) (by decide)
    rw [ha1] at k1
    have C1 : Hid (∀ W, Calls Tryd.prog 44 #[.agg #[.string (bs b), .int .i64 0, .int .i64 0], .int .i64 1099511627776] W (Ib (.tuple #[.agg #[.string (bs b), .int .i64 (a1 : Int), .int .i64 ((ur1 b).e : Int)], .int .i64 (ufF b).id]) W)) := Lib.hid k1
    have k2 := fun W => Q1.out.rd 64 W hbl (by decide) (by decide)
    rw [ha2] at k2
    have C2 : Hid (∀ W, Calls Tryd.prog 44 #[.agg #[.string (bs b), .int .i64 (a1 : Int), .int .i64 ((ur1 b).e : Int)], .int .i64 64] W (Ib (.tuple #[.agg #[.string (bs b), .int .i64 (a2 : Int), .int .i64 ((ur2 b).e : Int)], .int .i64 (ufF b).ix]) W)) := Lib.hid k2
    have k3 := fun W => Q2.out.rd 64 W hbl (by decide) (by decide)
    rw [ha3] at k3
    have C3 : Hid (∀ W, Calls Tryd.prog 44 #[.agg #[.string (bs b), .int .i64 (a2 : Int), .int .i64 ((ur2 b).e : Int)], .int .i64 64] W (Ib (.tuple #[.agg #[.string (bs b), .int .i64 (a3 : Int), .int .i64 ((ur3 b).e : Int)], .int .i64 (ufF b).ct]) W)) := Lib.hid k3
    have k4 := fun W => Q3.out.rdT 4000 W hbl (by decide) (by decide)
    rw [ha4] at k4
    have C4 : Hid (∀ W, Calls Tryd.prog 45 #[.agg #[.string (bs b), .int .i64 (a3 : Int), .int .i64 ((ur3 b).e : Int)], .int .i64 4000] W (Ib (.tuple #[.agg #[.string (bs b), .int .i64 (a4 : Int), .int .i64 ((ur4 b).e : Int)], .string (bs (ufF b).dat)]) W)) := Lib.hid k4
    have C5 : Hid (∀ W, Calls Tryd.prog 46 #[.agg #[.string (bs b), .int .i64 (a4 : Int), .int .i64 ((ur4 b).e : Int)]] W (Ib (.int .i64 (ufE b : Nat)) W)) := Lib.hid fun W => Q4.out.rdE W
    have CV : Hid (∀ W, Calls Tryd.prog 16 #[.agg #[.int .i64 (ufF b).id, .int .i64 (ufF b).ix, .int .i64 (ufF b).ct, .string (bs (ufF b).dat)]] W (Ib (.bool (fvB (ufF b))) W)) := Lib.hid cV
    clear k1 k2 k3 k4 cV Q0 Q1 Q2 Q3 Q4 ha1 ha2 ha3 ha4 hbl hol
    generalize ufF b = X at *
    generalize (ur1 b).e = e1 at *
    generalize (ur2 b).e = e2 at *
    generalize (ur3 b).e = e3 at *
    generalize (ur4 b).e = e4 at *
    generalize ufE b = ue at *
    obtain ⟨id, ix, ct, dat⟩ := X
    simp only at C1 C2 C3 C4 CV
    have US : Hid (∀ w1, Below (w.alloc (Obj.cells #[.int .i64 0, .int .i64 0, .int .i64 0, .string ⟨#[]⟩] 32)).heap.size (w.alloc (Obj.cells #[.int .i64 0, .int .i64 0, .int .i64 0, .string ⟨#[]⟩] 32)) w1 → U3 ((w1.alloc (Obj.cells #[.int .i64 0, .int .i64 0, .int .i64 0, .string ⟨#[]⟩] 32)).alloc (Obj.cells #[.string (bs b), .int .i64 0, .int .i64 0] 93)) (w1.heap.size + 1) w1.heap.size w.heap.size b 0 0 Fg0 ∧ Below w.heap.size w ((w1.alloc (Obj.cells #[.int .i64 0, .int .i64 0, .int .i64 0, .string ⟨#[]⟩] 32)).alloc (Obj.cells #[.string (bs b), .int .i64 0, .int .i64 0] 93)) ∧ w.heap.size ≤ w1.heap.size ∧ w.heap.size ≤ w1.heap.size + 1) := Lib.hid fun w1 hb1 => by
      have hs1 : w.heap.size + 1 ≤ w1.heap.size := by have := hb1.size; simpa using this
      have hbb := Below.next hb0 hb1
      refine ⟨⟨?_, (show Bx _ _ (eF Fg0) from Bx.newF w1 32 Fg0).next (ab1 _ _), F0.next (hb1.trans ((ab2 w1 _ _).mono hb1.size)), by omega, by omega, by omega⟩, hbb.trans ((ab2 w1 _ _).mono hbb.size), by omega, by omega⟩
      have h9 := Bx.new3 (w1.alloc (Obj.cells #[.int .i64 0, .int .i64 0, .int .i64 0, .string ⟨#[]⟩] 32)) 93 (.string (bs b)) (.int .i64 0) (.int .i64 0)
      rw [show (w1.alloc (Obj.cells #[.int .i64 0, .int .i64 0, .int .i64 0, .string ⟨#[]⟩] 32)).heap.size = w1.heap.size + 1 by simp] at h9
      exact h9
    by_cases he : ue = 0
    · have hne : (((ue : Nat) : Int) != 0) = false := by rw [he]; rfl
      rw [if_pos he]
      cases hv : fvB ⟨id, ix, ct, dat⟩
      · rw [hv] at CV
        rw [if_neg (by decide)]
        have HE0 := Lib.hid he
        clear he hv
        go_enter Tryd.func15, Tryd.ntmps15
        go_wp2_with (first
          | (go_at_call 43; refine HCO.out.mono ?_; rintro e w1 ⟨rfl, hb1⟩; obtain ⟨Yq1, B1, s1, s2⟩ := US.out w1 hb1)
          | (go_at_call 46; refine (C5.out _).mono ?_; rintro e w6 ⟨rfl, hb6⟩; have Yq6 := ((Yq5.step a4 e4 3 (.string (bs dat)) ⟨id, ix, ct, dat⟩ rfl).next hb6); have B6 := Below.next (below4 B5 s2 s1 _ _ _ _ _) hb6; have t0 := Yq6.f.c 0 rfl; have t1 := Yq6.f.c 1 rfl; have t2 := Yq6.f.c 2 rfl; have t3 := Yq6.f.c 3 rfl; have tl := Yq6.f.lt; have n3 := Yq6.n3; have n3s := Yq6.n3.symm)
          | (go_at_call 45; refine (C4.out _).mono ?_; rintro e w5 ⟨rfl, hb5⟩; have Yq5 := ((Yq4.step a3 e3 2 (.int .i64 ct) ⟨id, ix, ct, []⟩ rfl).next hb5); have B5 := Below.next (below4 B4 s2 s1 _ _ _ _ _) hb5; have x0 := Yq5.r.c 0 rfl; have x1 := Yq5.r.c 1 rfl; have x2 := Yq5.r.c 2 rfl; have y0 := Yq5.r.f 0 rfl; have y1 := Yq5.r.f 1 rfl; have y2 := Yq5.r.f 2 rfl; have v3 := Yq5.f.c 3 rfl; have u3 := Yq5.f.f 3 rfl; have lr := Yq5.r.lt; have lf := Yq5.f.lt; have nn := Yq5.n1; have nm := Yq5.n1.symm)
          | (go_at_call 44; have zq := Yq3; clear zq; refine (C3.out _).mono ?_; rintro e w4 ⟨rfl, hb4⟩; have Yq4 := ((Yq3.step a2 e2 1 (.int .i64 ix) ⟨id, ix, 0, []⟩ rfl).next hb4); have B4 := Below.next (below4 B3 s2 s1 _ _ _ _ _) hb4; have x0 := Yq4.r.c 0 rfl; have x1 := Yq4.r.c 1 rfl; have x2 := Yq4.r.c 2 rfl; have y0 := Yq4.r.f 0 rfl; have y1 := Yq4.r.f 1 rfl; have y2 := Yq4.r.f 2 rfl; have v2 := Yq4.f.c 2 rfl; have u2 := Yq4.f.f 2 rfl; have lr := Yq4.r.lt; have lf := Yq4.f.lt; have nn := Yq4.n1; have nm := Yq4.n1.symm)
          | (go_at_call 44; have zq := Yq2; clear zq; refine (C2.out _).mono ?_; rintro e w3 ⟨rfl, hb3⟩; have Yq3 := ((Yq2.step a1 e1 0 (.int .i64 id) ⟨id, 0, 0, []⟩ rfl).next hb3); have B3 := Below.next (below4 B2 s2 s1 _ _ _ _ _) hb3; have x0 := Yq3.r.c 0 rfl; have x1 := Yq3.r.c 1 rfl; have x2 := Yq3.r.c 2 rfl; have y0 := Yq3.r.f 0 rfl; have y1 := Yq3.r.f 1 rfl; have y2 := Yq3.r.f 2 rfl; have v1 := Yq3.f.c 1 rfl; have u1 := Yq3.f.f 1 rfl; have lr := Yq3.r.lt; have lf := Yq3.f.lt; have nn := Yq3.n1; have nm := Yq3.n1.symm)
          | (go_at_call 44; refine (C1.out _).mono ?_; rintro e w2 ⟨rfl, hb2⟩; have Yq2 := Yq1.next hb2; have B2 := Below.next B1 hb2; have x0 := Yq2.r.c 0 rfl; have x1 := Yq2.r.c 1 rfl; have x2 := Yq2.r.c 2 rfl; have y0 := Yq2.r.f 0 rfl; have y1 := Yq2.r.f 1 rfl; have y2 := Yq2.r.f 2 rfl; have v0 := Yq2.f.c 0 rfl; have u0 := Yq2.f.f 0 rfl; have lr := Yq2.r.lt; have lf := Yq2.f.lt; have nn := Yq2.n1; have nm := Yq2.n1.symm)
          | (go_at_call 16; refine (CV.out _).mono ?_; rintro e w7 ⟨rfl, hb7⟩; have Yq7 := Yq6.next hb7; have B7 := Below.next B6 hb7; have p0 := Yq7.z.c 0 rfl; have g0 := Yq7.z.f 0 rfl; have p1 := Yq7.z.c 1 rfl; have g1 := Yq7.z.f 1 rfl; have p2 := Yq7.z.c 2 rfl; have g2 := Yq7.z.f 2 rfl; have p3 := Yq7.z.c 3 rfl; have g3 := Yq7.z.f 3 rfl; have pl := Yq7.z.lt; have t0 := Yq7.f.c 0 rfl; have t1 := Yq7.f.c 1 rfl; have t2 := Yq7.f.c 2 rfl; have t3 := Yq7.f.c 3 rfl; have tl := Yq7.f.lt; have n3 := Yq7.n3; have n3s := Yq7.n3.symm))
        refine bp_gen (R := fun W => Bx W w.heap.size (eF (Fg0)) ∧ Below w.heap.size w W) (F4set Yq7.z B7 (Fg0)) ?_
        rintro wz ⟨QB, QW⟩
        have c0 := QB.c 0 rfl
        have c1 := QB.c 1 rfl
        have c2 := QB.c 2 rfl
        have c3 := QB.c 3 rfl
        refine bodyPost_ret (v := .tuple #[.agg #[.int .i64 (Fg0).id, .int .i64 (Fg0).ix, .int .i64 (Fg0).ct, .string (bs (Fg0).dat)], .int .i64 (4 : Nat)]) (by simp [results, Tryd.results15, go_sem, c0, c1, c2, c3]) rfl ⟨rfl, QW⟩
      · rw [hv] at CV
        rw [if_pos rfl]
        have HE0 := Lib.hid he
        clear he hv
        go_enter Tryd.func15, Tryd.ntmps15
        go_wp2_with (first
          | (go_at_call 43; refine HCO.out.mono ?_; rintro e w1 ⟨rfl, hb1⟩; obtain ⟨Yq1, B1, s1, s2⟩ := US.out w1 hb1)
          | (go_at_call 46; refine (C5.out _).mono ?_; rintro e w6 ⟨rfl, hb6⟩; have Yq6 := ((Yq5.step a4 e4 3 (.string (bs dat)) ⟨id, ix, ct, dat⟩ rfl).next hb6); have B6 := Below.next (below4 B5 s2 s1 _ _ _ _ _) hb6; have t0 := Yq6.f.c 0 rfl; have t1 := Yq6.f.c 1 rfl; have t2 := Yq6.f.c 2 rfl; have t3 := Yq6.f.c 3 rfl; have tl := Yq6.f.lt; have n3 := Yq6.n3; have n3s := Yq6.n3.symm)
          | (go_at_call 45; refine (C4.out _).mono ?_; rintro e w5 ⟨rfl, hb5⟩; have Yq5 := ((Yq4.step a3 e3 2 (.int .i64 ct) ⟨id, ix, ct, []⟩ rfl).next hb5); have B5 := Below.next (below4 B4 s2 s1 _ _ _ _ _) hb5; have x0 := Yq5.r.c 0 rfl; have x1 := Yq5.r.c 1 rfl; have x2 := Yq5.r.c 2 rfl; have y0 := Yq5.r.f 0 rfl; have y1 := Yq5.r.f 1 rfl; have y2 := Yq5.r.f 2 rfl; have v3 := Yq5.f.c 3 rfl; have u3 := Yq5.f.f 3 rfl; have lr := Yq5.r.lt; have lf := Yq5.f.lt; have nn := Yq5.n1; have nm := Yq5.n1.symm)
          | (go_at_call 44; have zq := Yq3; clear zq; refine (C3.out _).mono ?_; rintro e w4 ⟨rfl, hb4⟩; have Yq4 := ((Yq3.step a2 e2 1 (.int .i64 ix) ⟨id, ix, 0, []⟩ rfl).next hb4); have B4 := Below.next (below4 B3 s2 s1 _ _ _ _ _) hb4; have x0 := Yq4.r.c 0 rfl; have x1 := Yq4.r.c 1 rfl; have x2 := Yq4.r.c 2 rfl; have y0 := Yq4.r.f 0 rfl; have y1 := Yq4.r.f 1 rfl; have y2 := Yq4.r.f 2 rfl; have v2 := Yq4.f.c 2 rfl; have u2 := Yq4.f.f 2 rfl; have lr := Yq4.r.lt; have lf := Yq4.f.lt; have nn := Yq4.n1; have nm := Yq4.n1.symm)
          | (go_at_call 44; have zq := Yq2; clear zq; refine (C2.out _).mono ?_; rintro e w3 ⟨rfl, hb3⟩; have Yq3 := ((Yq2.step a1 e1 0 (.int .i64 id) ⟨id, 0, 0, []⟩ rfl).next hb3); have B3 := Below.next (below4 B2 s2 s1 _ _ _ _ _) hb3; have x0 := Yq3.r.c 0 rfl; have x1 := Yq3.r.c 1 rfl; have x2 := Yq3.r.c 2 rfl; have y0 := Yq3.r.f 0 rfl; have y1 := Yq3.r.f 1 rfl; have y2 := Yq3.r.f 2 rfl; have v1 := Yq3.f.c 1 rfl; have u1 := Yq3.f.f 1 rfl; have lr := Yq3.r.lt; have lf := Yq3.f.lt; have nn := Yq3.n1; have nm := Yq3.n1.symm)
          | (go_at_call 44; refine (C1.out _).mono ?_; rintro e w2 ⟨rfl, hb2⟩; have Yq2 := Yq1.next hb2; have B2 := Below.next B1 hb2; have x0 := Yq2.r.c 0 rfl; have x1 := Yq2.r.c 1 rfl; have x2 := Yq2.r.c 2 rfl; have y0 := Yq2.r.f 0 rfl; have y1 := Yq2.r.f 1 rfl; have y2 := Yq2.r.f 2 rfl; have v0 := Yq2.f.c 0 rfl; have u0 := Yq2.f.f 0 rfl; have lr := Yq2.r.lt; have lf := Yq2.f.lt; have nn := Yq2.n1; have nm := Yq2.n1.symm)
          | (go_at_call 16; refine (CV.out _).mono ?_; rintro e w7 ⟨rfl, hb7⟩; have Yq7 := Yq6.next hb7; have B7 := Below.next B6 hb7; have p0 := Yq7.z.c 0 rfl; have g0 := Yq7.z.f 0 rfl; have p1 := Yq7.z.c 1 rfl; have g1 := Yq7.z.f 1 rfl; have p2 := Yq7.z.c 2 rfl; have g2 := Yq7.z.f 2 rfl; have p3 := Yq7.z.c 3 rfl; have g3 := Yq7.z.f 3 rfl; have pl := Yq7.z.lt; have t0 := Yq7.f.c 0 rfl; have t1 := Yq7.f.c 1 rfl; have t2 := Yq7.f.c 2 rfl; have t3 := Yq7.f.c 3 rfl; have tl := Yq7.f.lt; have n3 := Yq7.n3; have n3s := Yq7.n3.symm))
        refine bp_gen (R := fun W => Bx W w.heap.size (eF (Fg.mk id ix ct dat)) ∧ Below w.heap.size w W) (F4set Yq7.z B7 (Fg.mk id ix ct dat)) ?_
        rintro wz ⟨QB, QW⟩
        have c0 := QB.c 0 rfl
        have c1 := QB.c 1 rfl
        have c2 := QB.c 2 rfl
        have c3 := QB.c 3 rfl
        refine bodyPost_ret (v := .tuple #[.agg #[.int .i64 (Fg.mk id ix ct dat).id, .int .i64 (Fg.mk id ix ct dat).ix, .int .i64 (Fg.mk id ix ct dat).ct, .string (bs (Fg.mk id ix ct dat).dat)], .int .i64 (0 : Nat)]) (by simp [results, Tryd.results15, go_sem, c0, c1, c2, c3]) rfl ⟨rfl, QW⟩
    · have hne : (((ue : Nat) : Int) != 0) = true := bne_iff_ne.2 (by omega)
      rw [if_neg he]
      have HE0 := Lib.hid he
      clear he
      go_enter Tryd.func15, Tryd.ntmps15
      go_wp2_with (first
        | (go_at_call 43; refine HCO.out.mono ?_; rintro e w1 ⟨rfl, hb1⟩; obtain ⟨Yq1, B1, s1, s2⟩ := US.out w1 hb1)
        | (go_at_call 46; refine (C5.out _).mono ?_; rintro e w6 ⟨rfl, hb6⟩; have Yq6 := ((Yq5.step a4 e4 3 (.string (bs dat)) ⟨id, ix, ct, dat⟩ rfl).next hb6); have B6 := Below.next (below4 B5 s2 s1 _ _ _ _ _) hb6; have p0 := Yq6.z.c 0 rfl; have g0 := Yq6.z.f 0 rfl; have p1 := Yq6.z.c 1 rfl; have g1 := Yq6.z.f 1 rfl; have p2 := Yq6.z.c 2 rfl; have g2 := Yq6.z.f 2 rfl; have p3 := Yq6.z.c 3 rfl; have g3 := Yq6.z.f 3 rfl; have pl := Yq6.z.lt)
        | (go_at_call 45; refine (C4.out _).mono ?_; rintro e w5 ⟨rfl, hb5⟩; have Yq5 := ((Yq4.step a3 e3 2 (.int .i64 ct) ⟨id, ix, ct, []⟩ rfl).next hb5); have B5 := Below.next (below4 B4 s2 s1 _ _ _ _ _) hb5; have x0 := Yq5.r.c 0 rfl; have x1 := Yq5.r.c 1 rfl; have x2 := Yq5.r.c 2 rfl; have y0 := Yq5.r.f 0 rfl; have y1 := Yq5.r.f 1 rfl; have y2 := Yq5.r.f 2 rfl; have v3 := Yq5.f.c 3 rfl; have u3 := Yq5.f.f 3 rfl; have lr := Yq5.r.lt; have lf := Yq5.f.lt; have nn := Yq5.n1; have nm := Yq5.n1.symm)
        | (go_at_call 44; have zq := Yq3; clear zq; refine (C3.out _).mono ?_; rintro e w4 ⟨rfl, hb4⟩; have Yq4 := ((Yq3.step a2 e2 1 (.int .i64 ix) ⟨id, ix, 0, []⟩ rfl).next hb4); have B4 := Below.next (below4 B3 s2 s1 _ _ _ _ _) hb4; have x0 := Yq4.r.c 0 rfl; have x1 := Yq4.r.c 1 rfl; have x2 := Yq4.r.c 2 rfl; have y0 := Yq4.r.f 0 rfl; have y1 := Yq4.r.f 1 rfl; have y2 := Yq4.r.f 2 rfl; have v2 := Yq4.f.c 2 rfl; have u2 := Yq4.f.f 2 rfl; have lr := Yq4.r.lt; have lf := Yq4.f.lt; have nn := Yq4.n1; have nm := Yq4.n1.symm)
        | (go_at_call 44; have zq := Yq2; clear zq; refine (C2.out _).mono ?_; rintro e w3 ⟨rfl, hb3⟩; have Yq3 := ((Yq2.step a1 e1 0 (.int .i64 id) ⟨id, 0, 0, []⟩ rfl).next hb3); have B3 := Below.next (below4 B2 s2 s1 _ _ _ _ _) hb3; have x0 := Yq3.r.c 0 rfl; have x1 := Yq3.r.c 1 rfl; have x2 := Yq3.r.c 2 rfl; have y0 := Yq3.r.f 0 rfl; have y1 := Yq3.r.f 1 rfl; have y2 := Yq3.r.f 2 rfl; have v1 := Yq3.f.c 1 rfl; have u1 := Yq3.f.f 1 rfl; have lr := Yq3.r.lt; have lf := Yq3.f.lt; have nn := Yq3.n1; have nm := Yq3.n1.symm)
        | (go_at_call 44; refine (C1.out _).mono ?_; rintro e w2 ⟨rfl, hb2⟩; have Yq2 := Yq1.next hb2; have B2 := Below.next B1 hb2; have x0 := Yq2.r.c 0 rfl; have x1 := Yq2.r.c 1 rfl; have x2 := Yq2.r.c 2 rfl; have y0 := Yq2.r.f 0 rfl; have y1 := Yq2.r.f 1 rfl; have y2 := Yq2.r.f 2 rfl; have v0 := Yq2.f.c 0 rfl; have u0 := Yq2.f.f 0 rfl; have lr := Yq2.r.lt; have lf := Yq2.f.lt; have nn := Yq2.n1; have nm := Yq2.n1.symm))
      refine bp_gen (R := fun W => Bx W w.heap.size (eF (Fg0)) ∧ Below w.heap.size w W) (F4set Yq6.z B6 (Fg0)) ?_
      rintro wz ⟨QB, QW⟩
      have c0 := QB.c 0 rfl
      have c1 := QB.c 1 rfl
      have c2 := QB.c 2 rfl
      have c3 := QB.c 3 rfl
      refine bodyPost_ret (v := .tuple #[.agg #[.int .i64 (Fg0).id, .int .i64 (Fg0).ix, .int .i64 (Fg0).ct, .string (bs (Fg0).dat)], .int .i64 (ue : Nat)]) (by simp [results, Tryd.results15, go_sem, c0, c1, c2, c3]) rfl ⟨rfl, QW⟩
  · have HU : Hid (unf s = (Fg0, (opn s).2)) := Lib.hid (if_neg ho)
    have hne : (((opn s).2 : Int) != 0) = true := bne_iff_ne.2 (by omega)
    rw [HU.out]
    generalize (opn s).2 = e0 at *
    generalize (opn s).1 = b at *
    clear ho hol HU
    have HCO := Lib.hid cO
    clear cO
    go_enter Tryd.func15, Tryd.ntmps15
    go_wp2_with (go_at_call 43; refine HCO.out.mono ?_; rintro e w1 ⟨rfl, hb1⟩; have F1 := F0.next hb1; have q0 := F1.c 0 rfl; have q1 := F1.c 1 rfl; have q2 := F1.c 2 rfl; have q3 := F1.c 3 rfl; have f0 := F1.f 0 rfl; have f1 := F1.f 1 rfl; have f2 := F1.f 2 rfl; have f3 := F1.f 3 rfl; have fl := F1.lt)
    refine bp_gen (R := fun W => Bx W w.heap.size (eF (Fg0)) ∧ Below w.heap.size w W) (F4set F1 (Below.next hb0 hb1) (Fg0)) ?_
    rintro wz ⟨QB, QW⟩
    have c0 := QB.c 0 rfl
    have c1 := QB.c 1 rfl
    have c2 := QB.c 2 rfl
    have c3 := QB.c 3 rfl
    refine bodyPost_ret (v := .tuple #[.agg #[.int .i64 (Fg0).id, .int .i64 (Fg0).ix, .int .i64 (Fg0).ct, .string (bs (Fg0).dat)], .int .i64 (e0 : Nat)]) (by simp [results, Tryd.results15, go_sem, c0, c1, c2, c3]) rfl ⟨rfl, QW⟩
end Go.Proofs.YtcjaaijohapeaaaDoor
/-
  The law of unframing. No conditions beyond those that each names.
-/
namespace Go.Proofs.YtcjaaijohapeaaaDoor
open Go.RowKit Go.Sort Go.Lib Go.Shelf
theorem undFg : Tryd.prog.underlying 32 = some (.struct (Tryd.prog.fieldsOf 32)) := by kernel_rfl
theorem stFg : Tryd.prog.stoodInHeld 32 = false := by kernel_rfl
theorem fdFg : (Tryd.prog.fieldsOf 32).toList.map (fun f => (f.name, f.type, f.offset)) = [("Id", 3, 0), ("Index", 3, 1), ("Count", 3, 2), ("Data", 9, 3)] := by kernel_rfl
theorem eqInF (x : Fg) (w : World) : (Op.equalIn 10000 32 (.agg #[.int .i64 x.id, .int .i64 x.ix, .int .i64 x.ct, .string (bs x.dat)]) (.agg #[.int .i64 x.id, .int .i64 x.ix, .int .i64 x.ct, .string (bs x.dat)])).run Tryd.prog w = .ok true w := by
  rw [run_equalIn_struct w 9999 32 _ _ undFg stFg]
  have h := fdFg
  generalize (Tryd.prog.fieldsOf 32).toList = L at h
  rcases L with _ | ⟨f1, _ | ⟨f2, _ | ⟨f3, _ | ⟨f4, _ | ⟨f5, L⟩⟩⟩⟩⟩
  · simp at h
  · simp at h
  · simp at h
  · simp at h
  · simp only [List.map_cons, List.map_nil, List.cons.injEq, Prod.mk.injEq, and_true] at h
    obtain ⟨⟨a1, a2, a3⟩, ⟨b1, b2, b3⟩, ⟨c1, c2, c3⟩, g1, g2, g3⟩ := h
    simp [Op.eqFields, a1, a2, a3, b1, b2, b3, c1, c2, c3, g1, g2, g3, part, go_sem]
  · simp at h
theorem neqF (x : Fg) (w : World) : (binOp .neq 32 (.agg #[.int .i64 x.id, .int .i64 x.ix, .int .i64 x.ct, .string (bs x.dat)]) (.agg #[.int .i64 x.id, .int .i64 x.ix, .int .i64 x.ct, .string (bs x.dat)])).run Tryd.prog w = .ok (.bool false) w := by
  rw [run_neq_struct, eqInF]; rfl
theorem eqlF (x : Fg) (w : World) : (binOp .eql 32 (.agg #[.int .i64 x.id, .int .i64 x.ix, .int .i64 x.ct, .string (bs x.dat)]) (.agg #[.int .i64 x.id, .int .i64 x.ix, .int .i64 x.ct, .string (bs x.dat)])).run Tryd.prog w = .ok (.bool true) w := by
  rw [run_eql_struct, eqInF]; rfl
theorem fr_ne (x : Fg) : (bs (fr x)).toList.isEmpty = !fvB x := by
  rw [toList_bs]
  unfold fr
  cases h : fvB x
  · rfl
  · rw [if_pos rfl]
    have : seal_ (fby x) ≠ [] := fun e => by have := congrArg List.length e; rw [seal_length] at this; simp at this
    simpa using this
set_option maxRecDepth 100000 in
set_option maxHeartbeats 8000000 in
theorem unframes_law (s : ByteArray) (id ix ct : Int) (t : ByteArray) (w : World) (hs : s.size ≤ 9223372036854775807) (ht : t.size ≤ 9223372036854775807) (hT : Tabs w) :
    Calls Tryd.prog 5 #[.string s, .agg #[.int .i64 id, .int .i64 ix, .int .i64 ct, .string t]] w (Ib (.bool true) w) := by
  obtain ⟨l, rfl⟩ : ∃ l, s = bs l := ⟨_, bs_of s⟩
  obtain ⟨dat, rfl⟩ : ∃ l, t = bs l := ⟨_, bs_of t⟩
  rw [bs_size] at hs ht
  have z1 : (bs l).size = l.length := rfl
  have z2 : (bs dat).size = dat.length := rfl
  have hb0 := ab1 w (Obj.cells #[.int .i64 id, .int .i64 ix, .int .i64 ct, .string (bs dat)] 32)
  by_cases h1 : 5000 < l.length
  · have d1 : decide ((5000 : Int) < (l.length : Int)) = true := decide_eq_true (by omega)
    have d1n : decide (5000 < l.length) = true := decide_eq_true h1
    clear hs ht h1
    go_enter Tryd.func5, Tryd.ntmps5
    go_wp2_with (go_at_call 7; refine (awake_any _).mono ?_; rintro e w1 ⟨rfl, hb1⟩)
    go_ret
    exact ⟨rfl, Below.next hb0 hb1⟩
  by_cases h2 : 5000 < dat.length
  · have d1 : decide ((5000 : Int) < (l.length : Int)) = false := decide_eq_false (by omega)
    have d1n : decide (5000 < l.length) = false := decide_eq_false h1
    have d2 : decide ((5000 : Int) < (dat.length : Int)) = true := decide_eq_true (by omega)
    have d2n : decide (5000 < dat.length) = true := decide_eq_true h2
    clear hs ht h1 h2
    go_enter Tryd.func5, Tryd.ntmps5
    go_wp2_with (go_at_call 7; refine (awake_any _).mono ?_; rintro e w1 ⟨rfl, hb1⟩)
    go_ret
    exact ⟨rfl, Below.next hb0 hb1⟩
  have d1 : decide ((5000 : Int) < (l.length : Int)) = false := decide_eq_false (by omega)
  have d1n : decide (5000 < l.length) = false := decide_eq_false h1
  have d2 : decide ((5000 : Int) < (dat.length : Int)) = false := decide_eq_false (by omega)
  have d2n : decide (5000 < dat.length) = false := decide_eq_false h2
  have HL : Hid (l.length ≤ 5000) := Lib.hid (by omega)
  have HD : Hid (dat.length ≤ 5000) := Lib.hid (by omega)
  have F0 : Bx (w.alloc (Obj.cells #[.int .i64 id, .int .i64 ix, .int .i64 ct, .string (bs dat)] 32)) w.heap.size (eF ⟨id, ix, ct, dat⟩) := Bx.newF w 32 ⟨id, ix, ct, dat⟩
  have HT0 := Lib.hid (hT.below hb0)
  have cD : Hid (∀ W, Tabs W → Calls Tryd.prog 10 #[.string (bs l)] W (Ib (.tuple #[.agg #[.int .i64 (unf l).1.id, .int .i64 (unf l).1.ix, .int .i64 (unf l).1.ct, .string (bs (unf l).1.dat)], .int .i64 ((unf l).2 : Nat)]) W)) := Lib.hid fun W hW => unframe_any l W (by have := HL.out; omega) hW
  have cR : Hid (∀ W, Calls Tryd.prog 15 #[.string (bs l)] W (Ib (.tuple #[.agg #[.int .i64 (unf l).1.id, .int .i64 (unf l).1.ix, .int .i64 (unf l).1.ct, .string (bs (unf l).1.dat)], .int .i64 ((unf l).2 : Nat)]) W)) := Lib.hid fun W => refUnframe_any l W (by have := HL.out; omega)
  generalize (unf l).1 = U at *
  generalize (unf l).2 = ue at *
  have hE := eqlF U
  have hue : (((ue : Nat) : Int) == ((ue : Nat) : Int)) = true := by simp
  have hue2 : (ue == ue) = true := by simp
  have hs1 := str_eq (fr ⟨id, ix, ct, dat⟩)
  have hs2 := fr_ne ⟨id, ix, ct, dat⟩
  clear hs ht h1 h2
  go_enter Tryd.func5, Tryd.ntmps5
  go_wp2_with (first
    | (go_at_call 10; refine (cD.out _ HT0.out).mono ?_; rintro e w1 ⟨rfl, hb1'⟩; have hb1 := Below.next hb0 hb1'; have HT1 := Lib.hid (hT.below hb1))
    | (go_at_call 15; refine (cR.out _).mono ?_; rintro e w2 ⟨rfl, hb2⟩))
  have hb3 := Below.next hb2 (ab1 w2 (Obj.cells #[.int .i64 U.id, .int .i64 U.ix, .int .i64 U.ct, .string (bs U.dat)] 32))
  have X7 := Bx.newF w2 32 U
  have X5 := (Bx.newF w1 32 U).next hb3
  have hb4 := Below.next (ab1 w1 _) hb3
  have X3 := F0.next (show Below _ _ _ from hb1'.trans (hb4.mono hb1'.size))
  have HB := Lib.hid (Below.next hb1 hb4)
  have HT := Lib.hid (HT1.out.below hb4)
  generalize w2.alloc (Obj.cells #[.int .i64 U.id, .int .i64 U.ix, .int .i64 U.ct, .string (bs U.dat)] 32) = w3 at *
  have i0 := X3.c 0 rfl
  have i1 := X3.c 1 rfl
  have i2 := X3.c 2 rfl
  have i3 := X3.c 3 rfl
  have u0 := X5.c 0 rfl
  have u1 := X5.c 1 rfl
  have u2 := X5.c 2 rfl
  have u3 := X5.c 3 rfl
  have v0 := X7.c 0 rfl
  have v1 := X7.c 1 rfl
  have v2 := X7.c 2 rfl
  have v3 := X7.c 3 rfl
  have ri0 := fun d os => cell_regrown i0 d os
  have ri1 := fun d os => cell_regrown i1 d os
  have ri2 := fun d os => cell_regrown i2 d os
  have ri3 := fun d os => cell_regrown i3 d os
  have ru0 := fun d os => cell_regrown u0 d os
  have ru1 := fun d os => cell_regrown u1 d os
  have ru2 := fun d os => cell_regrown u2 d os
  have ru3 := fun d os => cell_regrown u3 d os
  have rv0 := fun d os => cell_regrown v0 d os
  have rv1 := fun d os => cell_regrown v1 d os
  have rv2 := fun d os => cell_regrown v2 d os
  have rv3 := fun d os => cell_regrown v3 d os
  have l3 := X3.lt
  have l5 := X5.lt
  have l7 := X7.lt
  have cF := fun d os => Calls.regrown_of (show Calls Tryd.prog 11 #[.agg #[.int .i64 id, .int .i64 ix, .int .i64 ct, .string (bs dat)]] (grow (redrawn w3 d) os) _ from frame_any ⟨id, ix, ct, dat⟩ _ (by have := HD.out; show dat.length ≤ _; omega) (HT.out.below (below_regrown w3 d os)))
  have cG := fun d os => Calls.regrown_of (show Calls Tryd.prog 14 #[.agg #[.int .i64 id, .int .i64 ix, .int .i64 ct, .string (bs dat)]] (grow (redrawn w3 d) os) _ from refFrame_any ⟨id, ix, ct, dat⟩ _ (by have := HD.out; show dat.length ≤ _; omega))
  have cV := fun d os => Calls.regrown_of (show Calls Tryd.prog 16 #[.agg #[.int .i64 id, .int .i64 ix, .int .i64 ct, .string (bs dat)]] (grow (redrawn w3 d) os) _ from refValid_any ⟨id, ix, ct, dat⟩ _ (by have := HD.out; show dat.length ≤ _; omega))
  have cA := fun d os => Calls.regrown_of (awake_any (grow (redrawn w3 d) os))
  generalize fr ⟨id, ix, ct, dat⟩ = FR at *
  generalize fvB ⟨id, ix, ct, dat⟩ = FV at *
  have hfv : (FV == FV) = true := by simp
  clear X3 X5 X7 F0 hb0 hb1 hb2 hb3 hb4 HT0 HT1 cD cR hb1'
  refine wp_region_quiet_below (by kernel_rfl) (by kernel_rfl) ?_
  repeat (go_big_quiet_step (first | (go_at_call 11; exact cF _ _) | (go_at_call 14; exact cG _ _) | (go_at_call 16; exact cV _ _) | (go_at_call 7; exact cA _ _)))
  refine wpQuiet_nil ?_
  intro _ hw'
  obtain ⟨⟨dq, osq⟩, hw''⟩ := hw'
  subst hw''
  have hbq := below_regrown w3 dq osq
  clear ri0 i0 ri1 i1 ri2 i2 ri3 i3 ru0 u0 ru1 u1 ru2 u2 ru3 u3 rv0 v0 rv1 v1 rv2 v2 rv3 v3
  generalize grow (redrawn w3 dq) osq = w4 at *
  go_wp2_with fail
  go_ret
  exact ⟨rfl, Below.next HB.out hbq⟩
end Go.Proofs.YtcjaaijohapeaaaDoor

import Derived.Test.YtcjaaijohapeaaaDoorFb
import Derived.Test.YtcjaaijohapeaaaDoorWk
/-
  A reader's steps as data; Unframe. No conditions beyond those that each names.
-/
namespace Go.Proofs.YtcjaaijohapeaaaDoor
open Go.RowKit Go.Sort Go.Lib Go.Shelf
/-- A reader: what is left, and its first error. -/
structure Rs where
  l : List UInt8
  e : Nat
def Rs.small (r : Rs) (M : Int) : Rs := ⟨aL r.e (eS M 4 r.l) r.l (rS M r.l), aE r.e (eS M 4 r.l)⟩
def Rs.sval (r : Rs) (M : Int) : Nat := if r.e = 0 then nS M r.l else 0
def Rs.text (r : Rs) (M : Int) : Rs := ⟨aL r.e (eT M r.l) r.l (rT M r.l), aE r.e (eT M r.l)⟩
def Rs.tval (r : Rs) (M : Int) : List UInt8 := if r.e = 0 then tT M r.l else []
theorem rS_len (M : Int) (l : List UInt8) : (rS M l).length ≤ l.length := by unfold rS; split; exact rU_len l; simp
theorem rT_len (M : Int) (l : List UInt8) : (rT M l).length ≤ l.length := by unfold rT; split; rw [List.length_drop]; have := rU_len l; omega; simp
theorem Rs.small_len (r : Rs) (M : Int) : (r.small M).l.length ≤ r.l.length := by unfold Rs.small aL; simp only; split; exact rS_len M r.l; exact Nat.le_refl _
theorem Rs.text_len (r : Rs) (M : Int) : (r.text M).l.length ≤ r.l.length := by unfold Rs.text aL; simp only; split; exact rT_len M r.l; exact Nat.le_refl _
theorem rsSmall_any (g : Nat) (r : Rs) (M : Int) (w : World) (hl : r.l.length ≤ 9223372036854775000) (h1 : -9223372036854775808 ≤ M) (h2 : M ≤ 9223372036854775807) (h : Rdr w g r.l r.e) :
    Calls Tryd.prog 34 #[.pointer (some ⟨g, 0, none⟩), .int .i64 M] w (Ir (.int .i64 (r.sval M : Int)) g (r.small M).l (r.small M).e w) := by
  have k := rSmall_any g r.l r.e M w hl h1 h2 h
  have hv : (if r.e = 0 then Value.int .i64 (nS M r.l : Int) else .int .i64 0) = .int .i64 (r.sval M : Int) := by unfold Rs.sval; split <;> rfl
  rw [hv] at k
  exact k
theorem rsText_any (g : Nat) (r : Rs) (M : Int) (w : World) (hl : r.l.length ≤ 9223372036854775000) (h1 : -9223372036854775808 ≤ M) (h2 : M ≤ 9223372036854775807) (h : Rdr w g r.l r.e) :
    Calls Tryd.prog 35 #[.pointer (some ⟨g, 0, none⟩), .int .i64 M] w (Ir (.string (bs (r.tval M))) g (r.text M).l (r.text M).e w) := by
  have k := rText_any g r.l r.e M w hl h1 h2 h
  have hv : (if r.e = 0 then Value.string (bs (tT M r.l)) else .string ⟨#[]⟩) = .string (bs (r.tval M)) := by unfold Rs.tval; split <;> rfl
  rw [hv] at k
  exact k
def Fg0 : Fg := ⟨0, 0, 0, []⟩
/-- The readers of a fragment. -/
def ur1 (b : List UInt8) : Rs := (Rs.mk b 0).small 1099511627776
def ur2 (b : List UInt8) : Rs := (ur1 b).small 64
def ur3 (b : List UInt8) : Rs := (ur2 b).small 64
def ur4 (b : List UInt8) : Rs := (ur3 b).text 4000
def ufF (b : List UInt8) : Fg := ⟨((Rs.mk b 0).sval 1099511627776 : Nat), ((ur1 b).sval 64 : Nat), ((ur2 b).sval 64 : Nat), (ur3 b).tval 4000⟩
def ufE (b : List UInt8) : Nat := eN (ur4 b).l (ur4 b).e
/-- What Unframe returns. -/
def unf (s : List UInt8) : Fg × Nat := if (opn s).2 = 0 then (if ufE (opn s).1 = 0 then (if fvB (ufF (opn s).1) = true then (ufF (opn s).1, 0) else (Fg0, 4)) else (Fg0, ufE (opn s).1)) else (Fg0, (opn s).2)
theorem opn_len (s : List UInt8) : (opn s).1.length ≤ s.length := by unfold opn; split; simp; split; simp; simp
theorem uf_len (b : List UInt8) : (ufF b).dat.length ≤ b.length := by
  have h1 := Rs.small_len (Rs.mk b 0) 1099511627776
  have h2 := Rs.small_len (ur1 b) 64
  have h3 := Rs.small_len (ur2 b) 64
  have h4 : ((ur3 b).tval 4000).length ≤ (ur3 b).l.length := by
    unfold Rs.tval
    split
    · unfold tT; split
      · rw [List.length_take]; have := rU_len (ur3 b).l; omega
      · simp
    · simp
  show ((ur3 b).tval 4000).length ≤ b.length
  unfold ur3 at h4 ⊢
  unfold ur2 at *
  unfold ur1 at *
  simp only at h1
  omega
theorem Bx.off {w w' : World} {b g : Nat} {vs : List Value} (h : Bx w b vs) (hg : w.grownBy w' (some g)) (hne : b ≠ g) : Bx w' b vs := h.blk hg.size (hg.block b h.lt (fun e => hne (Option.some.inj e)))
theorem bp_gen {P : Program} {f : Func} {Q : Ending → World → Prop} {ex : Exit} {a : Act} {R : World → Prop} {W : World} (hW : R W) (h : ∀ W, R W → bodyPost P f Q ex a W) : bodyPost P f Q ex a W := h W hW
theorem F4set {w w0 : World} {b : Nat} {y : Fg} (h : Bx w0 b (eF y)) (hb : Below b w w0) (x : Fg) : Bx ((((w0.setCell ⟨b, 0, none⟩ (.int .i64 x.id)).setCell ⟨b, 1, none⟩ (.int .i64 x.ix)).setCell ⟨b, 2, none⟩ (.int .i64 x.ct)).setCell ⟨b, 3, none⟩ (.string (bs x.dat))) b (eF x) ∧
    Below b w ((((w0.setCell ⟨b, 0, none⟩ (.int .i64 x.id)).setCell ⟨b, 1, none⟩ (.int .i64 x.ix)).setCell ⟨b, 2, none⟩ (.int .i64 x.ct)).setCell ⟨b, 3, none⟩ (.string (bs x.dat))) :=
  ⟨(((h.put1 0 (.int .i64 x.id)).put1 1 (.int .i64 x.ix)).put1 2 (.int .i64 x.ct)).put1 3 (.string (bs x.dat)), (((hb.setCell (p := ⟨b, 0, none⟩) (Nat.le_refl _) _).setCell (p := ⟨b, 1, none⟩) (Nat.le_refl _) _).setCell (p := ⟨b, 2, none⟩) (Nat.le_refl _) _).setCell (p := ⟨b, 3, none⟩) (Nat.le_refl _) _⟩
theorem F4alloc {w w0 : World} {b : Nat} {y : Fg} (h : Bx w0 b (eF y)) (hb : Below b w w0) (x : Fg) (o : Obj) : Bx (((((w0.setCell ⟨b, 0, none⟩ (.int .i64 x.id)).setCell ⟨b, 1, none⟩ (.int .i64 x.ix)).setCell ⟨b, 2, none⟩ (.int .i64 x.ct)).setCell ⟨b, 3, none⟩ (.string (bs x.dat))).alloc o) b (eF x) ∧
    Below b w (((((w0.setCell ⟨b, 0, none⟩ (.int .i64 x.id)).setCell ⟨b, 1, none⟩ (.int .i64 x.ix)).setCell ⟨b, 2, none⟩ (.int .i64 x.ct)).setCell ⟨b, 3, none⟩ (.string (bs x.dat))).alloc o) :=
  ⟨(F4set h hb x).1.next (ab1 _ _), (F4set h hb x).2.alloc (Nat.le_of_lt (F4set h hb x).1.lt) o⟩
set_option maxRecDepth 100000 in
set_option maxHeartbeats 4000000 in
theorem unframe_any (s : List UInt8) (w : World) (hs : s.length ≤ 1000000000000000) (hT : Tabs w) :
    Calls Tryd.prog 10 #[.string (bs s)] w (Ib (.tuple #[(unf s).1.val, .int .i64 ((unf s).2 : Nat)]) w) := by
  have hb0 := ab1 w (Obj.cells #[.int .i64 0, .int .i64 0, .int .i64 0, .string ⟨#[]⟩] 32)
  have F0 : Bx (w.alloc (Obj.cells #[.int .i64 0, .int .i64 0, .int .i64 0, .string ⟨#[]⟩] 32)) w.heap.size (eF Fg0) := Bx.newF w 32 Fg0
  have cO := open_any s (w.alloc (Obj.cells #[.int .i64 0, .int .i64 0, .int .i64 0, .string ⟨#[]⟩] 32)) hs (hT.below hb0)
  have hol := opn_len s
  by_cases ho : (opn s).2 = 0
  · have hE : ((opn s).2 : Int) = 0 := by omega
    have HU : Hid (unf s = (if ufE (opn s).1 = 0 then (if fvB (ufF (opn s).1) = true then (ufF (opn s).1, 0) else (Fg0, 4)) else (Fg0, ufE (opn s).1))) := Lib.hid (if_pos ho)
    rw [HU.out]
    rw [hE] at cO
    have HCO := Lib.hid cO
    clear HU cO hE ho
    generalize (opn s).1 = b at *
    have hbl : b.length ≤ 9223372036854775000 := by omega
    have l1 : (ur1 b).l.length ≤ 9223372036854775000 := Nat.le_trans (Rs.small_len _ _) hbl
    have l2 : (ur2 b).l.length ≤ 9223372036854775000 := Nat.le_trans (Rs.small_len _ _) l1
    have l3 : (ur3 b).l.length ≤ 9223372036854775000 := Nat.le_trans (Rs.small_len _ _) l2
    have L0 := Lib.hid hbl
    have L1 := Lib.hid l1
    have L2 := Lib.hid l2
    have L3 := Lib.hid l3
    have cV := fun W => isValid_any (ufF b) W (by have := uf_len b; omega)
    have HCV := Lib.hid cV
    have HEV : Hid (ufE b = eN (ur4 b).l (ur4 b).e) := Lib.hid rfl
    clear hbl l1 l2 l3 cV hol
    by_cases he : ufE b = 0
    · have hne : (((ufE b : Nat) : Int) != 0) = false := by rw [he]; rfl
      cases hv : fvB (ufF b)
      · rw [hv] at HCV
        have HCV2 : Hid (∀ W, Calls Tryd.prog 37 #[.agg #[.int .i64 (ufF b).id, .int .i64 (ufF b).ix, .int .i64 (ufF b).ct, .string (bs (ufF b).dat)]] W (Ib (.bool false) W)) := HCV
        rw [if_pos he, if_neg (by decide)]
        have HE0 := Lib.hid he
        clear he hv
        go_enter Tryd.func10, Tryd.ntmps10
        go_wp2_with (first
          | (go_at_call 33; refine HCO.out.mono ?_; rintro e w1 ⟨rfl, hb1⟩)
          | (go_at_call 24; refine (new_any b _).mono ?_; rintro e w2 ⟨g, rfl, hg, hb2, R0⟩; have hb2 := Below.next hb1 hb2; have B2 := Lib.hid (Below.next hb0 hb2); have F2 := Lib.hid (F0.next hb2); have hwg : w.heap.size < g := (by have := hb1.size; simp at this; omega))
          | (go_at_call 35; refine (rsText_any g (ur3 b) 4000 _ L3.out (by decide) (by decide) R3).mono ?_; rintro e w6 ⟨rfl, hg6, R4⟩; have B6 := Lib.hid (Below.read B5.out hg6 (Nat.le_of_lt hwg)); have F6 := Lib.hid (F5.out.off hg6 (Nat.ne_of_lt hwg)))
          | (go_at_call 34; refine (rsSmall_any g (ur2 b) 64 _ L2.out (by decide) (by decide) R2).mono ?_; rintro e w5 ⟨rfl, hg5, R3⟩; have B5 := Lib.hid (Below.read B4.out hg5 (Nat.le_of_lt hwg)); have F5 := Lib.hid (F4.out.off hg5 (Nat.ne_of_lt hwg)))
          | (go_at_call 34; refine (rsSmall_any g (ur1 b) 64 _ L1.out (by decide) (by decide) R1).mono ?_; rintro e w4 ⟨rfl, hg4, R2⟩; have B4 := Lib.hid (Below.read B3.out hg4 (Nat.le_of_lt hwg)); have F4 := Lib.hid (F3.out.off hg4 (Nat.ne_of_lt hwg)))
          | (go_at_call 34; refine (rsSmall_any g (Rs.mk b 0) 1099511627776 _ L0.out (by decide) (by decide) R0).mono ?_; rintro e w3 ⟨rfl, hg3, R1⟩; have B3 := Lib.hid (Below.read B2.out hg3 (Nat.le_of_lt hwg)); have F3 := Lib.hid (F2.out.off hg3 (Nat.ne_of_lt hwg)))
          | (go_at_call 36; refine (show Calls _ _ _ _ (Is (.int .i64 (ufE b : Nat)) _) from end_any g _ _ _ (R4.next (ab1 _ _))).mono ?_; rintro e w7 ⟨rfl, rfl⟩; have T7 := (show Bx _ _ (eF (ufF b)) from Bx.newF w6 32 (ufF b)); have F7 := F6.out.next (ab1 w6 (Obj.cells #[.int .i64 (ufF b).id, .int .i64 (ufF b).ix, .int .i64 (ufF b).ct, .string (bs (ufF b).dat)] 32)))
          | (go_at_call 37; refine (HCV2.out _).mono ?_; rintro e w8 ⟨rfl, hb8⟩; have T8 := T7.next hb8; have F7 := F7.next hb8; have p0 := F7.c 0 rfl; have p1 := F7.c 1 rfl; have p2 := F7.c 2 rfl; have p3 := F7.c 3 rfl; have g0 := F7.f 0 rfl; have g1 := F7.f 1 rfl; have g2 := F7.f 2 rfl; have g3 := F7.f 3 rfl; have pl := F7.lt; have t0 := T8.c 0 rfl; have t1 := T8.c 1 rfl; have t2 := T8.c 2 rfl; have t3 := T8.c 3 rfl; have tl := T8.lt; have hnt : w.heap.size ≠ w6.heap.size := (Nat.ne_of_lt F6.out.lt)))
        refine bp_gen (R := fun W => Bx W w.heap.size (eF (Fg0)) ∧ Below w.heap.size w W) (F4set F7 (Below.next (B6.out.alloc B6.out.size _) hb8) (Fg0)) ?_
        rintro wz ⟨QB, QW⟩
        have c0 := QB.c 0 rfl
        have c1 := QB.c 1 rfl
        have c2 := QB.c 2 rfl
        have c3 := QB.c 3 rfl
        refine bodyPost_ret (v := .tuple #[.agg #[.int .i64 (Fg0).id, .int .i64 (Fg0).ix, .int .i64 (Fg0).ct, .string (bs (Fg0).dat)], .int .i64 (4 : Nat)]) (by simp [results, Tryd.results10, go_sem, c0, c1, c2, c3]) rfl ⟨rfl, QW⟩
      · rw [hv] at HCV
        have HCV2 : Hid (∀ W, Calls Tryd.prog 37 #[.agg #[.int .i64 (ufF b).id, .int .i64 (ufF b).ix, .int .i64 (ufF b).ct, .string (bs (ufF b).dat)]] W (Ib (.bool true) W)) := HCV
        rw [if_pos he, if_pos rfl]
        have HE0 := Lib.hid he
        clear he hv
        go_enter Tryd.func10, Tryd.ntmps10
        go_wp2_with (first
          | (go_at_call 33; refine HCO.out.mono ?_; rintro e w1 ⟨rfl, hb1⟩)
          | (go_at_call 24; refine (new_any b _).mono ?_; rintro e w2 ⟨g, rfl, hg, hb2, R0⟩; have hb2 := Below.next hb1 hb2; have B2 := Lib.hid (Below.next hb0 hb2); have F2 := Lib.hid (F0.next hb2); have hwg : w.heap.size < g := (by have := hb1.size; simp at this; omega))
          | (go_at_call 35; refine (rsText_any g (ur3 b) 4000 _ L3.out (by decide) (by decide) R3).mono ?_; rintro e w6 ⟨rfl, hg6, R4⟩; have B6 := Lib.hid (Below.read B5.out hg6 (Nat.le_of_lt hwg)); have F6 := Lib.hid (F5.out.off hg6 (Nat.ne_of_lt hwg)))
          | (go_at_call 34; refine (rsSmall_any g (ur2 b) 64 _ L2.out (by decide) (by decide) R2).mono ?_; rintro e w5 ⟨rfl, hg5, R3⟩; have B5 := Lib.hid (Below.read B4.out hg5 (Nat.le_of_lt hwg)); have F5 := Lib.hid (F4.out.off hg5 (Nat.ne_of_lt hwg)))
          | (go_at_call 34; refine (rsSmall_any g (ur1 b) 64 _ L1.out (by decide) (by decide) R1).mono ?_; rintro e w4 ⟨rfl, hg4, R2⟩; have B4 := Lib.hid (Below.read B3.out hg4 (Nat.le_of_lt hwg)); have F4 := Lib.hid (F3.out.off hg4 (Nat.ne_of_lt hwg)))
          | (go_at_call 34; refine (rsSmall_any g (Rs.mk b 0) 1099511627776 _ L0.out (by decide) (by decide) R0).mono ?_; rintro e w3 ⟨rfl, hg3, R1⟩; have B3 := Lib.hid (Below.read B2.out hg3 (Nat.le_of_lt hwg)); have F3 := Lib.hid (F2.out.off hg3 (Nat.ne_of_lt hwg)))
          | (go_at_call 36; refine (show Calls _ _ _ _ (Is (.int .i64 (ufE b : Nat)) _) from end_any g _ _ _ (R4.next (ab1 _ _))).mono ?_; rintro e w7 ⟨rfl, rfl⟩; have T7 := (show Bx _ _ (eF (ufF b)) from Bx.newF w6 32 (ufF b)); have F7 := F6.out.next (ab1 w6 (Obj.cells #[.int .i64 (ufF b).id, .int .i64 (ufF b).ix, .int .i64 (ufF b).ct, .string (bs (ufF b).dat)] 32)))
          | (go_at_call 37; refine (HCV2.out _).mono ?_; rintro e w8 ⟨rfl, hb8⟩; have T8 := T7.next hb8; have F7 := F7.next hb8; have p0 := F7.c 0 rfl; have p1 := F7.c 1 rfl; have p2 := F7.c 2 rfl; have p3 := F7.c 3 rfl; have g0 := F7.f 0 rfl; have g1 := F7.f 1 rfl; have g2 := F7.f 2 rfl; have g3 := F7.f 3 rfl; have pl := F7.lt; have t0 := T8.c 0 rfl; have t1 := T8.c 1 rfl; have t2 := T8.c 2 rfl; have t3 := T8.c 3 rfl; have tl := T8.lt; have hnt : w.heap.size ≠ w6.heap.size := (Nat.ne_of_lt F6.out.lt)))
        refine bp_gen (R := fun W => Bx W w.heap.size (eF (ufF b)) ∧ Below w.heap.size w W) (F4set F7 (Below.next (B6.out.alloc B6.out.size _) hb8) (ufF b)) ?_
        rintro wz ⟨QB, QW⟩
        have c0 := QB.c 0 rfl
        have c1 := QB.c 1 rfl
        have c2 := QB.c 2 rfl
        have c3 := QB.c 3 rfl
        refine bodyPost_ret (v := .tuple #[.agg #[.int .i64 (ufF b).id, .int .i64 (ufF b).ix, .int .i64 (ufF b).ct, .string (bs (ufF b).dat)], .int .i64 (0 : Nat)]) (by simp [results, Tryd.results10, go_sem, c0, c1, c2, c3]) rfl ⟨rfl, QW⟩
    · have hne : (((ufE b : Nat) : Int) != 0) = true := bne_iff_ne.2 (by omega)
      rw [if_neg he]
      have HE0 := Lib.hid he
      clear he
      go_enter Tryd.func10, Tryd.ntmps10
      go_wp2_with (first
        | (go_at_call 33; refine HCO.out.mono ?_; rintro e w1 ⟨rfl, hb1⟩)
        | (go_at_call 24; refine (new_any b _).mono ?_; rintro e w2 ⟨g, rfl, hg, hb2, R0⟩; have hb2 := Below.next hb1 hb2; have B2 := Lib.hid (Below.next hb0 hb2); have F2 := Lib.hid (F0.next hb2); have hwg : w.heap.size < g := (by have := hb1.size; simp at this; omega))
        | (go_at_call 35; refine (rsText_any g (ur3 b) 4000 _ L3.out (by decide) (by decide) R3).mono ?_; rintro e w6 ⟨rfl, hg6, R4⟩; have B6 := Lib.hid (Below.read B5.out hg6 (Nat.le_of_lt hwg)); have F6 := Lib.hid (F5.out.off hg6 (Nat.ne_of_lt hwg)))
        | (go_at_call 34; refine (rsSmall_any g (ur2 b) 64 _ L2.out (by decide) (by decide) R2).mono ?_; rintro e w5 ⟨rfl, hg5, R3⟩; have B5 := Lib.hid (Below.read B4.out hg5 (Nat.le_of_lt hwg)); have F5 := Lib.hid (F4.out.off hg5 (Nat.ne_of_lt hwg)))
        | (go_at_call 34; refine (rsSmall_any g (ur1 b) 64 _ L1.out (by decide) (by decide) R1).mono ?_; rintro e w4 ⟨rfl, hg4, R2⟩; have B4 := Lib.hid (Below.read B3.out hg4 (Nat.le_of_lt hwg)); have F4 := Lib.hid (F3.out.off hg4 (Nat.ne_of_lt hwg)))
        | (go_at_call 34; refine (rsSmall_any g (Rs.mk b 0) 1099511627776 _ L0.out (by decide) (by decide) R0).mono ?_; rintro e w3 ⟨rfl, hg3, R1⟩; have B3 := Lib.hid (Below.read B2.out hg3 (Nat.le_of_lt hwg)); have F3 := Lib.hid (F2.out.off hg3 (Nat.ne_of_lt hwg)))
        | (go_at_call 36; refine (show Calls _ _ _ _ (Is (.int .i64 (ufE b : Nat)) _) from end_any g _ _ _ (R4.next (ab1 _ _))).mono ?_; rintro e w7 ⟨rfl, rfl⟩; have T7 := (show Bx _ _ (eF (ufF b)) from Bx.newF w6 32 (ufF b)); have F7 := F6.out.next (ab1 w6 (Obj.cells #[.int .i64 (ufF b).id, .int .i64 (ufF b).ix, .int .i64 (ufF b).ct, .string (bs (ufF b).dat)] 32)); have p0 := F6.out.c 0 rfl; have p1 := F6.out.c 1 rfl; have p2 := F6.out.c 2 rfl; have p3 := F6.out.c 3 rfl; have g0 := F6.out.f 0 rfl; have g1 := F6.out.f 1 rfl; have g2 := F6.out.f 2 rfl; have g3 := F6.out.f 3 rfl; have pl := F6.out.lt))
      refine bp_gen (R := fun W => Bx W w.heap.size (eF (Fg0)) ∧ Below w.heap.size w W) (F4alloc F6.out B6.out (Fg0) _) ?_
      rintro wz ⟨QB, QW⟩
      have c0 := QB.c 0 rfl
      have c1 := QB.c 1 rfl
      have c2 := QB.c 2 rfl
      have c3 := QB.c 3 rfl
      refine bodyPost_ret (v := .tuple #[.agg #[.int .i64 (Fg0).id, .int .i64 (Fg0).ix, .int .i64 (Fg0).ct, .string (bs (Fg0).dat)], .int .i64 (ufE b : Nat)]) (by simp [results, Tryd.results10, go_sem, c0, c1, c2, c3]) rfl ⟨rfl, QW⟩
  · have HU : Hid (unf s = (Fg0, (opn s).2)) := Lib.hid (if_neg ho)
    have hne : (((opn s).2 : Int) != 0) = true := bne_iff_ne.2 (by omega)
    rw [HU.out]
    generalize (opn s).2 = e0 at *
    generalize (opn s).1 = b at *
    clear ho hol HU
    have HCO := Lib.hid cO
    clear cO
    go_enter Tryd.func10, Tryd.ntmps10
    go_wp2_with (go_at_call 33; refine HCO.out.mono ?_; rintro e w1 ⟨rfl, hb1⟩; have F1 := F0.next hb1; have q0 := F1.c 0 rfl; have q1 := F1.c 1 rfl; have q2 := F1.c 2 rfl; have q3 := F1.c 3 rfl; have f0 := F1.f 0 rfl; have f1 := F1.f 1 rfl; have f2 := F1.f 2 rfl; have f3 := F1.f 3 rfl; have fl := F1.lt)
    refine bp_gen (R := fun W => Bx W w.heap.size (eF (Fg0)) ∧ Below w.heap.size w W) (F4set F1 (Below.next hb0 hb1) (Fg0)) ?_
    rintro wz ⟨QB, QW⟩
    have c0 := QB.c 0 rfl
    have c1 := QB.c 1 rfl
    have c2 := QB.c 2 rfl
    have c3 := QB.c 3 rfl
    refine bodyPost_ret (v := .tuple #[.agg #[.int .i64 (Fg0).id, .int .i64 (Fg0).ix, .int .i64 (Fg0).ct, .string (bs (Fg0).dat)], .int .i64 (e0 : Nat)]) (by simp [results, Tryd.results10, go_sem, c0, c1, c2, c3]) rfl ⟨rfl, QW⟩
end Go.Proofs.YtcjaaijohapeaaaDoor

import Derived.Test.YtiooilkbbfflaaaHq
/-
  A clock: Add, Every, Cancel. No conditions beyond those that each names.
-/
namespace Go.Proofs.Ytiooilkbbfflaaa
open Go.RowKit Go.Sort Go.Lib Go.Shelf
set_option maxRecDepth 100000 in
set_option maxHeartbeats 1000000 in
theorem add_any (c : Nat) (v : Value) (S : Cs) (t : Int) (w : World) (h : Ck c w v S) (hl : S.last < 999999) :
    Calls Try.prog 15 #[(.pointer (some ⟨c, 0, none⟩)), .int .i64 t] w (CkM c v (addS S t 0).1 (.tuple #[.int .i64 ((addS S t 0).2.1 : Int), .int .i64 (addS S t 0).2.2]) w) := by
  have cA : Calls Try.prog 29 #[(.pointer (some ⟨c, 0, none⟩)), .int .i64 t, .int .i64 0] w _ := cadd_any c v S t 0 w h hl (Nat.zero_le _)
  generalize addS S t 0 = R at *
  clear h
  go_enter Try.func15, Try.ntmps15
  go_wp2_with (refine cA.mono ?_; intro e w1 k1; obtain rfl := k1.1; have H1 := Lib.hid k1; clear k1)
  go_ret2
  exact H1.out
/-- What adding a periodic timer comes to. -/
def evS (S : Cs) (t per : Int) : Cs × Nat × Int := if per < 1 ∨ 1099511627776 < per then (S, 0, 4) else addS S t per.toNat
set_option maxRecDepth 100000 in
set_option maxHeartbeats 1000000 in
theorem every_any (c : Nat) (v : Value) (S : Cs) (t per : Int) (w : World) (h : Ck c w v S) (hl : S.last < 999999) :
    Calls Try.prog 18 #[(.pointer (some ⟨c, 0, none⟩)), .int .i64 t, .int .i64 per] w (CkM c v (evS S t per).1 (.tuple #[.int .i64 ((evS S t per).2.1 : Int), .int .i64 (evS S t per).2.2]) w) := by
  have lc := h.lt
  have H := Lib.hid h
  by_cases h1 : per < 1
  · have d1 : decide (per < 1) = true := decide_eq_true h1
    have HR := Lib.hid (show evS S t per = (S, 0, 4) by unfold evS; rw [if_pos (.inl h1)])
    clear h h1
    go_enter Try.func18, Try.ntmps18
    go_wp2_with (fail)
    go_ret2
    rw [HR.out]
    exact CkM.same H.out ⟨rfl, Below.refl _ _⟩
  · have d1 : decide (per < 1) = false := decide_eq_false h1
    by_cases h2 : 1099511627776 < per
    · have d2 : decide (1099511627776 < per) = true := decide_eq_true h2
      have HR := Lib.hid (show evS S t per = (S, 0, 4) by unfold evS; rw [if_pos (.inr h2)])
      clear h h1 h2
      go_enter Try.func18, Try.ntmps18
      go_wp2_with (fail)
      go_ret2
      rw [HR.out]
      exact CkM.same H.out ⟨rfl, Below.refl _ _⟩
    · have d2 : decide (1099511627776 < per) = false := decide_eq_false h2
      have HR := Lib.hid (show evS S t per = addS S t per.toNat by unfold evS; rw [if_neg (by omega)])
      have cA := cadd_any c v S t per.toNat w h hl (by omega)
      rw [Int.toNat_of_nonneg (by omega)] at cA
      rw [HR.out]
      generalize addS S t per.toNat = R at *
      clear h h1 h2 HR
      go_enter Try.func18, Try.ntmps18
      go_wp2_with (refine cA.mono ?_; intro e w1 k1; obtain rfl := k1.1; have H1 := Lib.hid k1; clear k1)
      go_ret2
      exact H1.out
/-- What canceling comes to. -/
def caS (S : Cs) (id : Int) : Cs × Int := if ix id S.l 0 = -1 then (S, 6) else (⟨S.now, S.last, S.l.eraseIdx (ix id S.l 0).toNat⟩, 0)
theorem ix_cases (id : Int) : ∀ (l : List Tm) (k : Nat), ix id l k = -1 ∨ ∃ i, i < l.length ∧ ix id l k = ((k + i : Nat) : Int)
  | [], _ => .inl rfl
  | x :: l, k => by
    unfold ix
    by_cases h : (x.id : Int) = id
    · rw [if_pos h]; exact .inr ⟨0, Nat.succ_pos _, rfl⟩
    · rw [if_neg h]
      rcases ix_cases id l (k + 1) with h1 | ⟨i, h1, h2⟩
      · exact .inl h1
      · exact .inr ⟨i + 1, by simpa using h1, by rw [h2, show k + 1 + i = k + (i + 1) by omega]⟩
theorem Iv.erase {l : List Tm} (h : Iv l) (i : Nat) : Iv (l.eraseIdx i) := by
  have hs := List.eraseIdx_sublist l i
  exact ⟨h.sq.sublist hs, h.nd.sublist (hs.map Tm.id), fun x hx => h.hat x (hs.subset hx), fun x hx => h.hper x (hs.subset hx), fun x hx => h.hid x (hs.subset hx)⟩
theorem Okc.erase {S : Cs} (h : Okc S) (i : Nat) : Okc ⟨S.now, S.last, S.l.eraseIdx i⟩ := by
  have hs := List.eraseIdx_sublist S.l i
  exact ⟨h.iv.erase i, h.nw, Nat.le_trans hs.length_le h.len, fun x hx => h.ids x (hs.subset hx), fun x hx => h.ge x (hs.subset hx)⟩
set_option maxRecDepth 100000 in
set_option maxHeartbeats 2000000 in
theorem cancel_any (c : Nat) (v : Value) (S : Cs) (id : Int) (w : World) (h : Ck c w v S) :
    Calls Try.prog 16 #[(.pointer (some ⟨c, 0, none⟩)), .int .i64 id] w (CkM c v (caS S id).1 (.int .i64 (caS S id).2) w) := by
  have lc := h.lt
  have hab := ab1 w (Obj.cells #[.int .i64 id] 3)
  have B1 := Bx.new1 w 3 (.int .i64 id)
  have H1 := Lib.hid (h.next hab)
  have lc1 := H1.out.lt
  have hl9 : S.l.length ≤ 1000000 := by have := h.ok.len; omega
  rcases ix_cases id S.l 0 with hx | ⟨i, hi, hx⟩
  · have HR := Lib.hid (show caS S id = (S, 6) by unfold caS; rw [if_pos hx])
    have cR := removeNone_any c c 2 v S.l id w.heap.size _ hl9 H1.out.sd (B1.c 0 rfl) hx
    have H := Lib.hid h
    clear h hx
    go_enter Try.func16, Try.ntmps16
    go_wp2_with (refine cR.mono ?_; rintro e w1 ⟨rfl, hb1⟩)
    go_ret
    rw [HR.out]
    exact CkM.same H.out ⟨rfl, Below.next hab hb1⟩
  · rw [Nat.zero_add] at hx
    have HR := Lib.hid (show caS S id = (⟨S.now, S.last, S.l.eraseIdx i⟩, 0) by unfold caS; rw [if_neg (by omega), hx]; rfl)
    have cR := removeAt_any c c 2 v S.l id w.heap.size i _ hl9 H1.out.sd (B1.c 0 rfl) hi hx
    have H := Lib.hid h
    have HA := Lib.hid hab
    have HB := Lib.hid B1
    clear h hx hi
    have HZ : ∀ w6, MvP c c 2 v (S.l.eraseIdx i) (.bool true) (w.alloc (Obj.cells #[.int .i64 id] 3)) (.returned (.bool true)) w6 → Hid (CkM c v (caS S id).1 (.int .i64 (caS S id).2) w (.returned (.int .i64 0)) w6) := by
      rintro w6 ⟨-, v6, M6⟩
      rw [HR.out]
      have K := H1.out
      exact Lib.hid ⟨rfl, v6, ⟨(M6.cl 0 (by decide)).trans K.c0, (M6.fr 0).trans K.f0, (M6.cl 1 (by decide)).trans K.c1, (M6.fr 1).trans K.f1, M6.sd, K.ok.erase i⟩, M6.nb.w HA.out.size, (Fm.of _ HA.out).trans M6.fm fun i _ e => e⟩
    have HZ2 := Lib.hid HZ
    clear HZ hab B1
    go_enter Try.func16, Try.ntmps16
    go_upto_region 3 with (fail)
    generalize w.alloc (Obj.cells #[.int .i64 id] 3) = w0 at *
    go_wp2_with (refine cR.mono ?_; intro e w1 k1; obtain rfl := k1.1; have HK := HZ2.out w1 k1; clear k1)
    go_ret
    exact HK.out
end Go.Proofs.Ytiooilkbbfflaaa

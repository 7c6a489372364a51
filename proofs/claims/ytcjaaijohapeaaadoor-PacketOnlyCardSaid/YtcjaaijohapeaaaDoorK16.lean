/-
  Decoding a packet. No conditions beyond those that each names.
-/
import Derived.Test.YtcjaaijohapeaaaDoorK15
namespace Go.Proofs.YtcjaaijohapeaaaDoor
open Go.RowKit Go.Sort Go.Lib Go.Shelf
theorem st11_bl {w0 w : World} {B b : Nat} (h : Below B w0 w) (hb : B ≤ b) (p : Pc) (mv : Value) : Below B w0 (st11 w b p mv) := (((((((((((h.setCell (p := ⟨b, 0, none⟩) hb _).setCell (p := ⟨b, 1, none⟩) hb _).setCell (p := ⟨b, 2, none⟩) hb _).setCell (p := ⟨b, 3, none⟩) hb _).setCell (p := ⟨b, 4, none⟩) hb _).setCell (p := ⟨b, 5, none⟩) hb _).setCell (p := ⟨b, 6, none⟩) hb _).setCell (p := ⟨b, 7, none⟩) hb _).setCell (p := ⟨b, 8, none⟩) hb _).setCell (p := ⟨b, 9, none⟩) hb _).setCell (p := ⟨b, 10, none⟩) hb _)
theorem tval_len (r : Rs) (M : Int) : (r.tval M).length ≤ r.l.length := by
  unfold Rs.tval tT
  split
  · split
    · rw [List.length_take]; exact Nat.le_trans (Nat.min_le_right _ _) (rU_len r.l)
    · exact Nat.zero_le _
  · exact Nat.zero_le _
theorem rd_len {b : List UInt8} (hb : b.length ≤ 1000000) : (rdP b).mis.length ≤ 1000000 ∧ (rdP b).pay.length ≤ 1000000 := by
  have h1 : (kr1 b).l.length ≤ 1000000 := Nat.le_trans (Rs.small_len _ _) hb
  have h2 : (kN b).2.l.length ≤ 1000000 := Nat.le_trans (rdN_len _ _) h1
  have h3 : (kM b).2.l.length ≤ 1000000 ∧ (kM b).1.length ≤ 1000000 := by
    unfold kM
    split
    · have h4 := rdM_len ((kN b).2.sval 32) ([], (kN b).2.small 32)
      have h5 : ((kN b).2.sval 32 : Int) ≤ 32 := small_le (by decide)
      have h6 := Rs.small_len (kN b).2 32
      have h7 := h4.2
      rw [List.length_nil] at h7
      exact ⟨Nat.le_trans h4.1 (Nat.le_trans h6 h2), by omega⟩
    · exact ⟨h2, Nat.zero_le _⟩
  refine ⟨h3.2, ?_⟩
  show (kP b).1.length ≤ _
  unfold kP
  split
  · exact Nat.le_trans (tval_len _ _) h3.1
  · exact Nat.zero_le _
/-- What Decode returns, where its list lies. -/
def DcQ (b : List UInt8) (w : World) (e : Ending) (w' : World) : Prop := Below w.heap.size w w' ∧ ∃ mv, e = .returned (.tuple #[(dec b).1.val mv, .int .i64 (dec b).2]) ∧ Mis w' mv (dec b).1.mis
set_option maxRecDepth 100000 in
set_option maxHeartbeats 8000000 in
theorem decode_any (b : List UInt8) (w : World) (hb : b.length ≤ 1000000) :
    Calls Tryd.prog 8 #[.string (bs b)] w (DcQ b w) := by
  have Z0 : Bx (w.alloc (Obj.cells #[.int .i64 0, .int .i64 0, .int .i64 0, .int .i64 0, .int .i64 0, .int .i64 0, .int .i64 0, .int .i64 0, .int .i64 0, .slice none 0 0, .string ⟨#[]⟩] 25)) w.heap.size ((P0 0).cells (.slice none 0 0)) := Bx.newP w 25 (P0 0) (.slice none 0 0)
  have hb0 := ab1 w (Obj.cells #[.int .i64 0, .int .i64 0, .int .i64 0, .int .i64 0, .int .i64 0, .int .i64 0, .int .i64 0, .int .i64 0, .int .i64 0, .slice none 0 0, .string ⟨#[]⟩] 25)
  have hMN : ∀ W, Mis W (.slice none 0 0) [] := fun W => ⟨none, 0, rfl, .inl rfl⟩
  by_cases he : rdE b = 0
  · have HE := Lib.hid he
    obtain ⟨P, hP⟩ : ∃ p, rdP b = p := ⟨_, rfl⟩
    have HP := Lib.hid hP
    have hlen := rd_len hb
    rw [hP] at hlen
    by_cases hc : chk P = 0
    · have HD : Hid (dec b = (P, 0)) := Lib.hid (by unfold dec; rw [if_pos he, hP, if_pos hc])
      have HC := Lib.hid hc
      clear he hP hc
      unfold DcQ
      rw [HD.out]
      go_enter Tryd.func8, Tryd.ntmps8
      go_wp2_with (first
        | (go_at_call 25; refine (cK _ (Below.refl _ _)).mono ?_; rw [HC.out]; rintro e w5 ⟨rfl, hb5⟩; have T5 := T4.next hb5; have Z5 := (Z3.out.next ab4).next hb5; have t0 := T5.c 0 rfl; have t1 := T5.c 1 rfl; have t2 := T5.c 2 rfl; have t3 := T5.c 3 rfl; have t4 := T5.c 4 rfl; have t5 := T5.c 5 rfl; have t6 := T5.c 6 rfl; have t7 := T5.c 7 rfl; have t8 := T5.c 8 rfl; have t9 := T5.c 9 rfl; have t10 := T5.c 10 rfl; have tl := T5.lt; have z0 := Z5.c 0 rfl; have zf0 := Z5.f 0 rfl; have z1 := Z5.c 1 rfl; have zf1 := Z5.f 1 rfl; have z2 := Z5.c 2 rfl; have zf2 := Z5.f 2 rfl; have z3 := Z5.c 3 rfl; have zf3 := Z5.f 3 rfl; have z4 := Z5.c 4 rfl; have zf4 := Z5.f 4 rfl; have z5 := Z5.c 5 rfl; have zf5 := Z5.f 5 rfl; have z6 := Z5.c 6 rfl; have zf6 := Z5.f 6 rfl; have z7 := Z5.c 7 rfl; have zf7 := Z5.f 7 rfl; have z8 := Z5.c 8 rfl; have zf8 := Z5.f 8 rfl; have z9 := Z5.c 9 rfl; have zf9 := Z5.f 9 rfl; have z10 := Z5.c 10 rfl; have zf10 := Z5.f 10 rfl; have zl := Z5.lt; have nz := Nat.ne_of_lt Z3.out.lt; have nz2 := nz.symm; have B5 := Lib.hid (Below.next (Below.next B3.out ab4) hb5); have Y5 := Lib.hid Z5; have M5 : Hid (Mis (st11 w5 w.heap.size P (.slice A P.mis.length cc)) (.slice A P.mis.length cc) P.mis) := Lib.hid ((show OwM w2.heap.size _ _ P.mis from own_st11 (own_next (own_next hM ab4) hb5) P _ (Nat.lt_of_lt_of_le hwg hgs)).mis))
        | (go_at_call 23; refine (read_any b g _ hb R0).mono ?_; rintro e w3 ⟨hg3, h3⟩; obtain ⟨-, mv, h3, hM⟩ := h3.resolve_right (fun h => h.1 HE.out); rw [HP.out] at h3 hM; obtain ⟨A, cc, rfl, -⟩ := own_nil_or hM; have hM : OwM w2.heap.size w3 (.slice A P.mis.length cc) P.mis := hM; have h4 : e = .returned (.tuple #[.agg #[.int .i64 (P).kind, .int .i64 (P).fr, .int .i64 (P).to_, .int .i64 (P).wr, .int .i64 (P).rd, .int .i64 (P).sq, .int .i64 (P).fi, .int .i64 (P).la, .int .i64 (P).at_, (.slice A P.mis.length cc), .string (bs (P).pay)], .int .i64 (0 : Int)]) := h3; subst h4; clear h3; have Z3 := Lib.hid (Z2.out.offD hg3 (Nat.ne_of_lt hwg)); have B3 := Lib.hid (Below.read B2.out hg3 (Nat.le_of_lt hwg)); have T4 := Bx.newP w3 25 P (.slice A P.mis.length cc); have ab4 := ab1 w3 (Obj.cells #[.int .i64 (P).kind, .int .i64 (P).fr, .int .i64 (P).to_, .int .i64 (P).wr, .int .i64 (P).rd, .int .i64 (P).sq, .int .i64 (P).fi, .int .i64 (P).la, .int .i64 (P).at_, (.slice A P.mis.length cc), .string (bs (P).pay)] 25); have t0 := T4.c 0 rfl; have t1 := T4.c 1 rfl; have t2 := T4.c 2 rfl; have t3 := T4.c 3 rfl; have t4 := T4.c 4 rfl; have t5 := T4.c 5 rfl; have t6 := T4.c 6 rfl; have t7 := T4.c 7 rfl; have t8 := T4.c 8 rfl; have t9 := T4.c 9 rfl; have t10 := T4.c 10 rfl; have tl := T4.lt; have cK : ∀ W, Below (w3.alloc (Obj.cells #[.int .i64 (P).kind, .int .i64 (P).fr, .int .i64 (P).to_, .int .i64 (P).wr, .int .i64 (P).rd, .int .i64 (P).sq, .int .i64 (P).fi, .int .i64 (P).la, .int .i64 (P).at_, (.slice A P.mis.length cc), .string (bs (P).pay)] 25)).heap.size (w3.alloc (Obj.cells #[.int .i64 (P).kind, .int .i64 (P).fr, .int .i64 (P).to_, .int .i64 (P).wr, .int .i64 (P).rd, .int .i64 (P).sq, .int .i64 (P).fi, .int .i64 (P).la, .int .i64 (P).at_, (.slice A P.mis.length cc), .string (bs (P).pay)] 25)) W → Calls Tryd.prog 25 #[.agg #[.int .i64 (P).kind, .int .i64 (P).fr, .int .i64 (P).to_, .int .i64 (P).wr, .int .i64 (P).rd, .int .i64 (P).sq, .int .i64 (P).fi, .int .i64 (P).la, .int .i64 (P).at_, (.slice A P.mis.length cc), .string (bs (P).pay)]] W (Ib (.int .i64 (chk P)) W) := fun W hW => check_any P _ W (((show OwM w2.heap.size _ _ P.mis from own_next hM ab4).mis).next hW) hlen.1 hlen.2)
        | (go_at_call 24; refine (new_any b _).mono ?_; rintro e w2 ⟨g, rfl, hg, hb2, R0⟩; have Z2 := Lib.hid (Z0.next hb2); have B2 := Lib.hid (Below.next hb0 hb2); have hwg : w.heap.size < g := (by simp at hg; omega); have hgs : g ≤ w2.heap.size := Nat.le_of_lt R0.lt))
      refine bp_genD (R := fun W => Bx W w.heap.size ((P).cells (.slice A P.mis.length cc)) ∧ Below w.heap.size w W ∧ Mis W (.slice A P.mis.length cc) (P).mis) ⟨st11_bx Y5.out P _, st11_bl B5.out (Nat.le_refl _) P _, M5.out⟩ ?_
      rintro wz ⟨QB, QW, QM⟩
      have c0 := QB.c 0 rfl
      have c1 := QB.c 1 rfl
      have c2 := QB.c 2 rfl
      have c3 := QB.c 3 rfl
      have c4 := QB.c 4 rfl
      have c5 := QB.c 5 rfl
      have c6 := QB.c 6 rfl
      have c7 := QB.c 7 rfl
      have c8 := QB.c 8 rfl
      have c9 := QB.c 9 rfl
      have c10 := QB.c 10 rfl
      exact bodyPost_ret (v := .tuple #[.agg #[.int .i64 (P).kind, .int .i64 (P).fr, .int .i64 (P).to_, .int .i64 (P).wr, .int .i64 (P).rd, .int .i64 (P).sq, .int .i64 (P).fi, .int .i64 (P).la, .int .i64 (P).at_, (.slice A P.mis.length cc), .string (bs (P).pay)], .int .i64 0]) (by simp [results, Tryd.results8, go_sem, c0, c1, c2, c3, c4, c5, c6, c7, c8, c9, c10]) rfl ⟨QW, _, rfl, QM⟩
    · have HD : Hid (dec b = (P0 0, chk P)) := Lib.hid (by unfold dec; rw [if_pos he, hP, if_neg hc])
      have hne : (chk P != 0) = true := bne_iff_ne.2 hc
      have HC : Hid (chk P = chk P) := Lib.hid rfl
      clear he hP hc
      unfold DcQ
      rw [HD.out]
      go_enter Tryd.func8, Tryd.ntmps8
      go_wp2_with (first
        | (go_at_call 25; refine (cK _ (Below.refl _ _)).mono ?_; rintro e w5 ⟨rfl, hb5⟩; have T5 := T4.next hb5; have Z5 := (Z3.out.next ab4).next hb5; have t0 := T5.c 0 rfl; have t1 := T5.c 1 rfl; have t2 := T5.c 2 rfl; have t3 := T5.c 3 rfl; have t4 := T5.c 4 rfl; have t5 := T5.c 5 rfl; have t6 := T5.c 6 rfl; have t7 := T5.c 7 rfl; have t8 := T5.c 8 rfl; have t9 := T5.c 9 rfl; have t10 := T5.c 10 rfl; have tl := T5.lt; have z0 := Z5.c 0 rfl; have zf0 := Z5.f 0 rfl; have z1 := Z5.c 1 rfl; have zf1 := Z5.f 1 rfl; have z2 := Z5.c 2 rfl; have zf2 := Z5.f 2 rfl; have z3 := Z5.c 3 rfl; have zf3 := Z5.f 3 rfl; have z4 := Z5.c 4 rfl; have zf4 := Z5.f 4 rfl; have z5 := Z5.c 5 rfl; have zf5 := Z5.f 5 rfl; have z6 := Z5.c 6 rfl; have zf6 := Z5.f 6 rfl; have z7 := Z5.c 7 rfl; have zf7 := Z5.f 7 rfl; have z8 := Z5.c 8 rfl; have zf8 := Z5.f 8 rfl; have z9 := Z5.c 9 rfl; have zf9 := Z5.f 9 rfl; have z10 := Z5.c 10 rfl; have zf10 := Z5.f 10 rfl; have zl := Z5.lt; have nz := Nat.ne_of_lt Z3.out.lt; have nz2 := nz.symm; have B5 := Lib.hid (Below.next (Below.next B3.out ab4) hb5); have Y5 := Lib.hid Z5)
        | (go_at_call 23; refine (read_any b g _ hb R0).mono ?_; rintro e w3 ⟨hg3, h3⟩; obtain ⟨-, mv, h3, hM⟩ := h3.resolve_right (fun h => h.1 HE.out); rw [HP.out] at h3 hM; obtain ⟨A, cc, rfl, -⟩ := own_nil_or hM; have hM : OwM w2.heap.size w3 (.slice A P.mis.length cc) P.mis := hM; have h4 : e = .returned (.tuple #[.agg #[.int .i64 (P).kind, .int .i64 (P).fr, .int .i64 (P).to_, .int .i64 (P).wr, .int .i64 (P).rd, .int .i64 (P).sq, .int .i64 (P).fi, .int .i64 (P).la, .int .i64 (P).at_, (.slice A P.mis.length cc), .string (bs (P).pay)], .int .i64 (0 : Int)]) := h3; subst h4; clear h3; have Z3 := Lib.hid (Z2.out.offD hg3 (Nat.ne_of_lt hwg)); have B3 := Lib.hid (Below.read B2.out hg3 (Nat.le_of_lt hwg)); have T4 := Bx.newP w3 25 P (.slice A P.mis.length cc); have ab4 := ab1 w3 (Obj.cells #[.int .i64 (P).kind, .int .i64 (P).fr, .int .i64 (P).to_, .int .i64 (P).wr, .int .i64 (P).rd, .int .i64 (P).sq, .int .i64 (P).fi, .int .i64 (P).la, .int .i64 (P).at_, (.slice A P.mis.length cc), .string (bs (P).pay)] 25); have t0 := T4.c 0 rfl; have t1 := T4.c 1 rfl; have t2 := T4.c 2 rfl; have t3 := T4.c 3 rfl; have t4 := T4.c 4 rfl; have t5 := T4.c 5 rfl; have t6 := T4.c 6 rfl; have t7 := T4.c 7 rfl; have t8 := T4.c 8 rfl; have t9 := T4.c 9 rfl; have t10 := T4.c 10 rfl; have tl := T4.lt; have cK : ∀ W, Below (w3.alloc (Obj.cells #[.int .i64 (P).kind, .int .i64 (P).fr, .int .i64 (P).to_, .int .i64 (P).wr, .int .i64 (P).rd, .int .i64 (P).sq, .int .i64 (P).fi, .int .i64 (P).la, .int .i64 (P).at_, (.slice A P.mis.length cc), .string (bs (P).pay)] 25)).heap.size (w3.alloc (Obj.cells #[.int .i64 (P).kind, .int .i64 (P).fr, .int .i64 (P).to_, .int .i64 (P).wr, .int .i64 (P).rd, .int .i64 (P).sq, .int .i64 (P).fi, .int .i64 (P).la, .int .i64 (P).at_, (.slice A P.mis.length cc), .string (bs (P).pay)] 25)) W → Calls Tryd.prog 25 #[.agg #[.int .i64 (P).kind, .int .i64 (P).fr, .int .i64 (P).to_, .int .i64 (P).wr, .int .i64 (P).rd, .int .i64 (P).sq, .int .i64 (P).fi, .int .i64 (P).la, .int .i64 (P).at_, (.slice A P.mis.length cc), .string (bs (P).pay)]] W (Ib (.int .i64 (chk P)) W) := fun W hW => check_any P _ W (((show OwM w2.heap.size _ _ P.mis from own_next hM ab4).mis).next hW) hlen.1 hlen.2)
        | (go_at_call 24; refine (new_any b _).mono ?_; rintro e w2 ⟨g, rfl, hg, hb2, R0⟩; have Z2 := Lib.hid (Z0.next hb2); have B2 := Lib.hid (Below.next hb0 hb2); have hwg : w.heap.size < g := (by simp at hg; omega); have hgs : g ≤ w2.heap.size := Nat.le_of_lt R0.lt))
      refine bp_genD (R := fun W => Bx W w.heap.size ((P0 0).cells (.slice none 0 0)) ∧ Below w.heap.size w W) ⟨st11_bx Y5.out (P0 0) (.slice none 0 0), st11_bl B5.out (Nat.le_refl _) (P0 0) (.slice none 0 0)⟩ ?_
      rintro wz ⟨QB, QW⟩
      have c0 := QB.c 0 rfl
      have c1 := QB.c 1 rfl
      have c2 := QB.c 2 rfl
      have c3 := QB.c 3 rfl
      have c4 := QB.c 4 rfl
      have c5 := QB.c 5 rfl
      have c6 := QB.c 6 rfl
      have c7 := QB.c 7 rfl
      have c8 := QB.c 8 rfl
      have c9 := QB.c 9 rfl
      have c10 := QB.c 10 rfl
      exact bodyPost_ret (v := .tuple #[.agg #[.int .i64 (P0 0).kind, .int .i64 (P0 0).fr, .int .i64 (P0 0).to_, .int .i64 (P0 0).wr, .int .i64 (P0 0).rd, .int .i64 (P0 0).sq, .int .i64 (P0 0).fi, .int .i64 (P0 0).la, .int .i64 (P0 0).at_, (.slice none 0 0), .string (bs (P0 0).pay)], .int .i64 (chk P)]) (by simp [results, Tryd.results8, go_sem, c0, c1, c2, c3, c4, c5, c6, c7, c8, c9, c10]) rfl ⟨QW, .slice none 0 0, rfl, hMN _⟩
  · have HE := Lib.hid he
    have HD : Hid (dec b = (P0 0, ((rdE b : Nat) : Int))) := Lib.hid (by unfold dec; rw [if_neg he])
    have hne : ((rdE b : Int) != 0) = true := bne_iff_ne.2 (by omega)
    obtain ⟨e1, hV⟩ : ∃ e, rdE b = e := ⟨_, rfl⟩
    have HV := Lib.hid hV
    rw [hV] at hne HD
    clear he hV
    unfold DcQ
    rw [HD.out]
    go_enter Tryd.func8, Tryd.ntmps8
    go_wp2_with (first
      | (go_at_call 23; refine (read_any b g _ hb R0).mono ?_; rintro e w3 ⟨hg3, h3⟩; obtain ⟨-, P, A, n, cc, h3⟩ := h3.resolve_left (fun h => HE.out h.1); rw [HV.out] at h3; have h4 : e = .returned (.tuple #[.agg #[.int .i64 (P).kind, .int .i64 (P).fr, .int .i64 (P).to_, .int .i64 (P).wr, .int .i64 (P).rd, .int .i64 (P).sq, .int .i64 (P).fi, .int .i64 (P).la, .int .i64 (P).at_, (.slice A n cc), .string (bs (P).pay)], .int .i64 (e1 : Nat)]) := h3; subst h4; clear h3; have Z3 := Lib.hid (Z2.out.offD hg3 (Nat.ne_of_lt hwg)); have B3 := Lib.hid (Below.read B2.out hg3 (Nat.le_of_lt hwg)); have T4 := Bx.newP w3 25 P (.slice A n cc); have ab4 := ab1 w3 (Obj.cells #[.int .i64 (P).kind, .int .i64 (P).fr, .int .i64 (P).to_, .int .i64 (P).wr, .int .i64 (P).rd, .int .i64 (P).sq, .int .i64 (P).fi, .int .i64 (P).la, .int .i64 (P).at_, (.slice A n cc), .string (bs (P).pay)] 25); have Z5 := Z3.out.next ab4; have z0 := Z5.c 0 rfl; have zf0 := Z5.f 0 rfl; have z1 := Z5.c 1 rfl; have zf1 := Z5.f 1 rfl; have z2 := Z5.c 2 rfl; have zf2 := Z5.f 2 rfl; have z3 := Z5.c 3 rfl; have zf3 := Z5.f 3 rfl; have z4 := Z5.c 4 rfl; have zf4 := Z5.f 4 rfl; have z5 := Z5.c 5 rfl; have zf5 := Z5.f 5 rfl; have z6 := Z5.c 6 rfl; have zf6 := Z5.f 6 rfl; have z7 := Z5.c 7 rfl; have zf7 := Z5.f 7 rfl; have z8 := Z5.c 8 rfl; have zf8 := Z5.f 8 rfl; have z9 := Z5.c 9 rfl; have zf9 := Z5.f 9 rfl; have z10 := Z5.c 10 rfl; have zf10 := Z5.f 10 rfl; have zl := Z5.lt; have nz := Nat.ne_of_lt Z3.out.lt; have nz2 := nz.symm; have B5 := Lib.hid (Below.next B3.out ab4); have Y5 := Lib.hid Z5)
      | (go_at_call 24; refine (new_any b _).mono ?_; rintro e w2 ⟨g, rfl, hg, hb2, R0⟩; have Z2 := Lib.hid (Z0.next hb2); have B2 := Lib.hid (Below.next hb0 hb2); have hwg : w.heap.size < g := (by simp at hg; omega); have hgs : g ≤ w2.heap.size := Nat.le_of_lt R0.lt))
    refine bp_genD (R := fun W => Bx W w.heap.size ((P0 0).cells (.slice none 0 0)) ∧ Below w.heap.size w W) ⟨st11_bx Y5.out (P0 0) (.slice none 0 0), st11_bl B5.out (Nat.le_refl _) (P0 0) (.slice none 0 0)⟩ ?_
    rintro wz ⟨QB, QW⟩
    have c0 := QB.c 0 rfl
    have c1 := QB.c 1 rfl
    have c2 := QB.c 2 rfl
    have c3 := QB.c 3 rfl
    have c4 := QB.c 4 rfl
    have c5 := QB.c 5 rfl
    have c6 := QB.c 6 rfl
    have c7 := QB.c 7 rfl
    have c8 := QB.c 8 rfl
    have c9 := QB.c 9 rfl
    have c10 := QB.c 10 rfl
    exact bodyPost_ret (v := .tuple #[.agg #[.int .i64 (P0 0).kind, .int .i64 (P0 0).fr, .int .i64 (P0 0).to_, .int .i64 (P0 0).wr, .int .i64 (P0 0).rd, .int .i64 (P0 0).sq, .int .i64 (P0 0).fi, .int .i64 (P0 0).la, .int .i64 (P0 0).at_, (.slice none 0 0), .string (bs (P0 0).pay)], .int .i64 (e1 : Nat)]) (by simp [results, Tryd.results8, go_sem, c0, c1, c2, c3, c4, c5, c6, c7, c8, c9, c10]) rfl ⟨QW, .slice none 0 0, rfl, hMN _⟩
end Go.Proofs.YtcjaaijohapeaaaDoor
/-
  What is decoded was encoded so. No conditions.
-/
namespace Go.Proofs.YtcjaaijohapeaaaDoor
open Go.RowKit Go.Sort Go.Lib Go.Shelf
theorem setN_num (p : Pc) {o o' : Nat} (v : Int) (h : 1 ≤ o ∧ o ≤ 8) (h' : 1 ≤ o' ∧ o' ≤ 8) : (p.setN o v).num o' = if o' = o then v else p.num o' := by
  have a : o = 1 ∨ o = 2 ∨ o = 3 ∨ o = 4 ∨ o = 5 ∨ o = 6 ∨ o = 7 ∨ o = 8 := by omega
  have b : o' = 1 ∨ o' = 2 ∨ o' = 3 ∨ o' = 4 ∨ o' = 5 ∨ o' = 6 ∨ o' = 7 ∨ o' = 8 := by omega
  rcases a with rfl | rfl | rfl | rfl | rfl | rfl | rfl | rfl <;> rcases b with rfl | rfl | rfl | rfl | rfl | rfl | rfl | rfl <;> rfl
theorem nrs_nodup (k : Int) : ((nrs k).map (·.off)).Nodup := by
  unfold nrs nrB nrS nrF
  simp only [List.map_append, List.map_cons, List.map_nil]
  split <;> (try split) <;> (try split) <;> (try split) <;> simp
theorem rdN_num (l : List Nr) (hl : ∀ x ∈ l, 1 ≤ x.off ∧ x.off ≤ 8) {o : Nat} (ho : 1 ≤ o ∧ o ≤ 8) (hn : o ∉ l.map (·.off)) : ∀ q : Pc × Rs, (rdN l q).1.num o = q.1.num o := by
  induction l with
  | nil => intro q; rfl
  | cons x l ih =>
    intro q
    rw [List.map_cons, List.mem_cons, not_or] at hn
    have h := ih (fun y hy => hl y (List.mem_cons_of_mem _ hy)) hn.2 (q.1.setN x.off (q.2.sval 1099511627776 : Nat), q.2.small 1099511627776)
    have h2 := setN_num q.1 (q.2.sval 1099511627776 : Nat) (hl x (List.mem_cons_self ..)) ho
    rw [if_neg hn.1] at h2
    exact h.trans h2
theorem rdN_back (l : List Nr) (hl : ∀ x ∈ l, 1 ≤ x.off ∧ x.off ≤ 8) (hd : (l.map (·.off)).Nodup) : ∀ q : Pc × Rs, (rdN l q).2.e = 0 → q.2.e = 0 ∧ q.2.l = nb (rdN l q).1 l ++ (rdN l q).2.l := by
  induction l with
  | nil => intro q h; exact ⟨h, rfl⟩
  | cons x l ih =>
    intro q h
    rw [List.map_cons, List.nodup_cons] at hd
    have hx := hl x (List.mem_cons_self ..)
    have hl' := fun y hy => hl y (List.mem_cons_of_mem x hy)
    obtain ⟨h1, h2⟩ := ih hl' hd.2 (q.1.setN x.off (q.2.sval 1099511627776 : Nat), q.2.small 1099511627776) h
    obtain ⟨h3, h4⟩ := Rs.small_back (r := q.2) (M := 1099511627776) h1
    refine ⟨h3, ?_⟩
    have hv : (rdN (x :: l) q).1.num x.off = (q.2.sval 1099511627776 : Nat) := by
      have k := rdN_num l hl' hx hd.1 (q.1.setN x.off (q.2.sval 1099511627776 : Nat), q.2.small 1099511627776)
      have k2 := setN_num q.1 (q.2.sval 1099511627776 : Nat) hx hx
      rw [if_pos rfl] at k2
      exact k.trans k2
    have hnb : nb (rdN (x :: l) q).1 (x :: l) = uv (q.2.sval 1099511627776) ++ nb (rdN (x :: l) q).1 l := by
      unfold nb
      rw [List.flatMap_cons, hv, Int.toNat_natCast]
    rw [hnb, List.append_assoc, h4]
    congr 1
theorem rdM_back (n : Nat) (q : List Int × Rs) : (rdM n q).2.e = 0 → q.2.e = 0 ∧ ∃ ms, (rdM n q).1 = q.1 ++ ms ∧ q.2.l = mb ms ++ (rdM n q).2.l ∧ ms.length = n := by
  induction n with
  | zero => intro h; exact ⟨h, [], (List.append_nil _).symm, rfl, rfl⟩
  | succ n ih =>
    intro h
    obtain ⟨h1, h2⟩ := Rs.small_back (r := (rdM n q).2) (M := 1099511627776) h
    obtain ⟨h3, ms, h4, h5, h6⟩ := ih h1
    refine ⟨h3, ms ++ [(((rdM n q).2.sval 1099511627776 : Nat) : Int)], ?_, ?_, by rw [List.length_append, h6]; rfl⟩
    · show (rdM n q).1 ++ _ = _
      rw [h4, List.append_assoc]
    · rw [mb_snoc, Int.toNat_natCast, List.append_assoc, h5, h2]
      rfl
theorem nb_same {p p' : Pc} (l : List Nr) (h : ∀ o, p.num o = p'.num o ∨ o = 0) (hl : ∀ x ∈ l, 1 ≤ x.off ∧ x.off ≤ 8) : nb p l = nb p' l := by
  unfold nb
  induction l with
  | nil => rfl
  | cons x l ih =>
    rw [List.flatMap_cons, List.flatMap_cons, ih (fun y hy => hl y (List.mem_cons_of_mem _ hy))]
    have hx := hl x (List.mem_cons_self ..)
    rcases h x.off with e | e
    · rw [e]
    · omega
theorem num_with (p : Pc) (m : List Int) (t : List UInt8) (o : Nat) : ({ p with mis := m, pay := t } : Pc).num o = p.num o := by
  unfold Pc.num; split <;> rfl
theorem rd_only {b : List UInt8} (h : rdE b = 0) : enc (rdP b) = b := by
  unfold rdE at h
  by_cases h1 : (kr1 b).e = 0
  · rw [if_neg (by omega)] at h
    by_cases h2 : k0 b = 0
    · rw [if_pos h2] at h; cases h
    rw [if_neg h2] at h
    have hr : (kP b).2.e = 0 ∧ (kP b).2.l = [] := by
      unfold eN at h
      by_cases e : (kP b).2.e = 0
      · rw [if_neg (by omega)] at h
        by_cases e2 : (kP b).2.l.isEmpty = true
        · exact ⟨e, by simpa using e2⟩
        · rw [if_neg e2] at h; cases h
      · rw [if_pos e] at h; exact absurd h e
    obtain ⟨-, L0⟩ := Rs.small_back (r := Rs.mk b 0) (M := 5) h1
    have L0' : b = uv (k0 b) ++ (kr1 b).l := L0
    obtain ⟨⟨P, r⟩, hq⟩ : ∃ q, kN b = q := ⟨_, rfl⟩
    have hkd := (rdN_kind (nrs (k0 b : Nat)) (P0 (k0 b : Nat), kr1 b)).1
    have hkd' : P.kind = ((k0 b : Nat) : Int) := by
      have : (kN b).1.kind = ((k0 b : Nat) : Int) := hkd
      rw [hq] at this; exact this
    have LN : r.e = 0 → (kr1 b).l = nb P (nrs ((k0 b : Nat) : Int)) ++ r.l := by
      intro he
      have k := rdN_back (nrs ((k0 b : Nat) : Int)) (nrs_off _) (nrs_nodup _) (P0 (k0 b : Nat), kr1 b)
      have hq' : rdN (nrs ((k0 b : Nat) : Int)) (P0 (k0 b : Nat), kr1 b) = (P, r) := hq
      rw [hq'] at k
      exact (k he).2
    have hnb : ∀ m t, nb ({ P with kind := ((k0 b : Nat) : Int), mis := m, pay := t } : Pc) (nrs ((k0 b : Nat) : Int)) = nb P (nrs ((k0 b : Nat) : Int)) := fun m t => by
      rw [← hkd']
      exact nb_same _ (fun o => .inl (num_with P m t o)) (by rw [hkd']; exact nrs_off _)
    by_cases h3 : k0 b = 3
    · obtain ⟨e1, e2⟩ := rd_C hq h3
      rw [e1] at hr
      rw [e2]
      obtain ⟨g1, ms, g2, g3, g4⟩ := rdM_back _ _ hr.1
      obtain ⟨g5, g6⟩ := Rs.small_back (r := r) (M := 32) g1
      have hL := LN g5
      rw [hr.2, List.append_nil] at g3
      have g2' : (rdM (r.sval 32) ([], r.small 32)).1 = ms := g2
      have g3' : (r.small 32).l = mb ms := g3
      rw [g2']
      unfold enc
      show (uv P.kind.toNat ++ nb _ (nrs P.kind)) ++ ((if (P.kind == 3) = true then uv ms.length ++ mb ms else []) ++ (if (P.kind == 1 || P.kind == 5) = true then tv [] else [])) = b
      rw [hkd', hnb, Int.toNat_natCast, g4]
      rw [if_pos (by rw [h3]; rfl), if_neg (by rw [h3]; decide), List.append_nil]
      conv => rhs; rw [L0', hL, g6, g3']
      simp [List.append_assoc]
    · by_cases hp : k0 b = 1 ∨ k0 b = 5
      · obtain ⟨e1, e2⟩ := rd_B hq h3 hp
        rw [e1] at hr
        rw [e2]
        obtain ⟨g5, g6⟩ := Rs.text_back (r := r) (M := 2000) hr.1
        have hL := LN g5
        have hrl : (r.text 2000).l = [] := hr.2
        rw [hrl, List.append_nil] at g6
        unfold enc
        show (uv P.kind.toNat ++ nb _ (nrs P.kind)) ++ ((if (P.kind == 3) = true then _ else []) ++ (if (P.kind == 1 || P.kind == 5) = true then tv (r.tval 2000) else [])) = b
        rw [hkd', hnb, Int.toNat_natCast]
        rw [if_neg (by simp; omega), if_pos (by simp; omega), List.nil_append]
        conv => rhs; rw [L0', hL, g6]
        simp [List.append_assoc]
      · obtain ⟨e1, e2⟩ := rd_A hq h3 hp
        rw [e1] at hr
        rw [e2]
        have hL := LN hr.1
        have hrl : r.l = [] := hr.2
        rw [hrl, List.append_nil] at hL
        unfold enc
        show (uv P.kind.toNat ++ nb _ (nrs P.kind)) ++ ((if (P.kind == 3) = true then _ else []) ++ (if (P.kind == 1 || P.kind == 5) = true then _ else [])) = b
        rw [hkd', hnb, Int.toNat_natCast]
        rw [if_neg (by simp; omega), if_neg (by simp; omega), List.nil_append, List.append_nil]
        conv => rhs; rw [L0', hL]
  · rw [if_pos h1] at h; exact absurd h h1
/-- What is decoded is encoded so, and alone so. -/
theorem dec_only {b : List UInt8} (h : (dec b).2 = 0) : encP (dec b).1 = (b, 0) ∧ chk (dec b).1 = 0 := by
  unfold dec at h ⊢
  by_cases h1 : rdE b = 0
  · rw [if_pos h1] at h ⊢
    by_cases h2 : chk (rdP b) = 0
    · rw [if_pos h2] at h ⊢
      exact ⟨by unfold encP; rw [if_pos h2, rd_only h1], h2⟩
    · rw [if_neg h2] at h; exact absurd h h2
  · rw [if_neg h1] at h
    exact absurd (show ((rdE b : Nat) : Int) = 0 from h) (by omega)
theorem dec_len {b : List UInt8} (hb : b.length ≤ 1000000) : (dec b).1.mis.length ≤ 1000000 ∧ (dec b).1.pay.length ≤ 1000000 := by
  have h := rd_len hb
  unfold dec
  split
  · split
    · exact h
    · exact ⟨Nat.zero_le _, Nat.zero_le _⟩
  · exact ⟨Nat.zero_le _, Nat.zero_le _⟩
end Go.Proofs.YtcjaaijohapeaaaDoor

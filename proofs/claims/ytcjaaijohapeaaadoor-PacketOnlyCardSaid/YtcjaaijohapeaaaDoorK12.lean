/-
  Which packets are valid: the program's checks. No conditions beyond those that each names.
-/
import Derived.Test.YtcjaaijohapeaaaDoorK11
namespace Go.Proofs.YtcjaaijohapeaaaDoor
open Go.RowKit Go.Sort Go.Lib Go.Shelf
def inB (n lo hi : Int) : Bool := decide (lo ≤ n ∧ n ≤ hi)
set_option maxRecDepth 100000 in
theorem isIn_any (n lo hi : Int) (w : World) : Calls Tryd.prog 39 #[.int .i64 n, .int .i64 lo, .int .i64 hi] w (Is (.bool (inB n lo hi)) w) := by
  by_cases h1 : lo ≤ n
  · have d1 : decide (lo ≤ n) = true := decide_eq_true h1
    have hr : inB n lo hi = decide (n ≤ hi) := by unfold inB; simp [h1]
    rw [hr]
    clear h1 hr
    go_enter Tryd.func39, Tryd.ntmps39
    go_wp2_with fail
    go_ret
    exact ⟨rfl, rfl⟩
  · have d1 : decide (lo ≤ n) = false := decide_eq_false h1
    have hr : inB n lo hi = false := by unfold inB; simp [h1]
    rw [hr]
    clear h1 hr
    go_enter Tryd.func39, Tryd.ntmps39
    go_wp2_with fail
    go_ret
    exact ⟨rfl, rfl⟩
set_option maxRecDepth 100000 in
theorem usesMis_any (k : Int) (w : World) : Calls Tryd.prog 29 #[.int .i64 k] w (Is (.bool (k == 3)) w) := by
  go_enter Tryd.func29, Tryd.ntmps29
  go_wp2_with fail
  go_ret
  exact ⟨rfl, rfl⟩
set_option maxRecDepth 100000 in
theorem usesPay_any (k : Int) (w : World) : Calls Tryd.prog 30 #[.int .i64 k] w (Is (.bool (k == 1 || k == 5)) w) := by
  cases h1 : k == 1
  · go_enter Tryd.func30, Tryd.ntmps30
    go_wp2_with fail
    go_ret
    exact ⟨by simp, rfl⟩
  · go_enter Tryd.func30, Tryd.ntmps30
    go_wp2_with fail
    go_ret
    exact ⟨by simp, rfl⟩
/-- The list ascends, from lo to hi. -/
def ascB (lo hi : Int) : List Int → Bool
  | [] => true
  | x :: l => inB x lo hi && ascB (x + 1) hi l
/-- The slice v holds the numbers l. -/
def Mis (w : World) (v : Value) (l : List Int) : Prop := ∃ A c, v = .slice A l.length c ∧ (l = [] ∨ ∃ ab ao, A = some ⟨ab, ao, none⟩ ∧ ab < w.heap.size ∧ ∀ i (h : i < l.length), w.cell? ⟨ab, ao + i, none⟩ = some (.int .i64 (l[i]'h)))
theorem Mis.next {w w' : World} {v : Value} {l : List Int} (h : Mis w v l) (hb : Below w.heap.size w w') : Mis w' v l := by
  obtain ⟨A, c, rfl, h⟩ := h
  refine ⟨A, c, rfl, h.imp id ?_⟩
  rintro ⟨ab, ao, rfl, h1, h2⟩
  exact ⟨ab, ao, rfl, Nat.lt_of_lt_of_le h1 hb.size, fun i hi => cell_next hb (h2 i hi)⟩
theorem ascB_cons (lo hi x : Int) (l : List Int) : ascB lo hi (x :: l) = (inB x lo hi && ascB (x + 1) hi l) := rfl
set_option maxRecDepth 100000 in
set_option maxHeartbeats 4000000 in
theorem ascends_any (v : Value) (l : List Int) (lo up : Int) (w : World) (h : Mis w v l) (hlen : l.length ≤ 1000000) (hhi : up ≤ 1099511627776) (hlo : -9223372036854775808 ≤ lo) :
    Calls Tryd.prog 64 #[v, .int .i64 lo, .int .i64 up] w (Ib (.bool (ascB lo up l)) w) := by
  obtain ⟨A, c, rfl, hA⟩ := h
  obtain ⟨n, hn⟩ : ∃ n, l.length = n := ⟨_, rfl⟩
  obtain ⟨R, hR⟩ : ∃ R, ascB lo up l = R := ⟨_, rfl⟩
  have HN := Lib.hid hn
  have HR0 := Lib.hid hR
  have HA := Lib.hid hA
  have HLO := Lib.hid hlo
  have HHI := Lib.hid hhi
  rw [hn] at hlen
  rw [hn, hR]
  clear hA hn hR hlo hhi
  go_enter Tryd.func64, Tryd.ntmps64
  go_wp2_with fail
  go_loopg [11, 1] n (fun kx s11 s1 wr => ∃ i : Nat, s11 = .int .i64 (i : Int) ∧ i ≤ n ∧ n - i ≤ kx ∧ ∃ q : Int, s1 = .int .i64 q ∧ Hid (-9223372036854775808 ≤ q ∧ ascB q up (l.drop i) = R) ∧ Hid (Below w.heap.size w wr))
  case atStart => exact ⟨0, rfl, Nat.zero_le _, Nat.le_refl _, lo, rfl, Lib.hid ⟨HLO.out, HR0.out⟩, Lib.hid (Below.refl _ _)⟩
  case round =>
    obtain ⟨i, rfl, hin, hkx, q, rfl, HQ, HB⟩ := hrel
    by_cases hi : i < n
    · have di : decide (i < n) = true := decide_eq_true hi
      have hil : i < l.length := by rw [HN.out]; exact hi
      obtain ⟨ab, ao, rfl, hab, hc⟩ : ∃ ab ao, A = some ⟨ab, ao, none⟩ ∧ ab < w.heap.size ∧ ∀ i (h : i < l.length), w.cell? ⟨ab, ao + i, none⟩ = some (.int .i64 (l[i]'h)) := by
        rcases HA.out with h | h
        · rw [h] at hil; cases hil
        · exact h
      have ci := cell_next HB.out (hc i hil)
      have hq := HQ.out.2
      rw [List.drop_eq_getElem_cons hil, ascB_cons] at hq
      generalize l[i]'hil = x at *
      cases hx : inB x q up
      · rw [hx] at hq
        have HR : Hid (R = false) := Lib.hid (by rw [← hq]; rfl)
        clear hq hc hil
        go_wp2_with (go_at_call 39; refine (isIn_any _ _ _ _).mono ?_; rintro e w9 ⟨rfl, rfl⟩)
        go_ret
        rw [HR.out]
        exact ⟨rfl, HB.out⟩
      · rw [hx] at hq
        have hx2 : q ≤ x ∧ x ≤ up := of_decide_eq_true hx
        have hw : IntKind.i64.wrap (x + 1) = x + 1 := by
          have := HHI.out
          have := HQ.out.1
          exact IntWalk.i64_in _ (by omega)
        have HQ2 : Hid (-9223372036854775808 ≤ x + 1 ∧ ascB (x + 1) up (l.drop (i + 1)) = R) := Lib.hid ⟨by have := HQ.out.1; omega, hq⟩
        have hi1 : i + 1 ≤ n := by omega
        clear hq hc hil hx2
        go_wp2_with (go_at_call 39; refine (isIn_any _ _ _ _).mono ?_; rintro e w9 ⟨rfl, rfl⟩)
        go_roundg (n - (i + 1))
        case measure => omega
        case rel => exact ⟨i + 1, rfl, hi1, Nat.le_refl _, x + 1, rfl, HQ2, HB⟩
    · obtain rfl : i = n := by omega
      have di : decide (i < i) = false := decide_eq_false hi
      have HR : Hid (R = true) := Lib.hid (by have := HQ.out.2; rw [List.drop_eq_nil_of_le (by rw [HN.out]; exact Nat.le_refl _)] at this; exact this.symm)
      clear hi
      go_wp2_with fail
      go_ret
      rw [HR.out]
      exact ⟨rfl, HB.out⟩
end Go.Proofs.YtcjaaijohapeaaaDoor
/-
  The fields that a kind does not use. No conditions beyond those that each names.
-/
namespace Go.Proofs.YtcjaaijohapeaaaDoor
open Go.RowKit Go.Sort Go.Lib Go.Shelf
def Pc.setN (p : Pc) (o : Nat) (v : Int) : Pc := match o with
  | 1 => { p with fr := v }
  | 2 => { p with to_ := v }
  | 3 => { p with wr := v }
  | 4 => { p with rd := v }
  | 5 => { p with sq := v }
  | 6 => { p with fi := v }
  | 7 => { p with la := v }
  | _ => { p with at_ := v }
theorem off_cases {o : Nat} (h : 1 ≤ o ∧ o ≤ 8) : o = 1 ∨ o = 2 ∨ o = 3 ∨ o = 4 ∨ o = 5 ∨ o = 6 ∨ o = 7 ∨ o = 8 := by omega
theorem cells_set (p : Pc) (mv : Value) {o : Nat} (h : 1 ≤ o ∧ o ≤ 8) (v : Int) : (p.cells mv).set o (.int .i64 v) = (p.setN o v).cells mv := by
  rcases off_cases h with rfl | rfl | rfl | rfl | rfl | rfl | rfl | rfl <;> rfl
theorem cells_num (p : Pc) (mv : Value) {o : Nat} (h : 1 ≤ o ∧ o ≤ 8) : (p.cells mv)[o]? = some (.int .i64 (p.num o)) := by
  rcases off_cases h with rfl | rfl | rfl | rfl | rfl | rfl | rfl | rfl <;> rfl
theorem nrs_off (k : Int) : ∀ x ∈ nrs k, 1 ≤ x.off ∧ x.off ≤ 8 := by
  intro x hx
  unfold nrs nrB nrS nrF at hx
  simp only [List.mem_append, List.mem_cons, List.not_mem_nil, or_false] at hx
  rcases hx with ((h | h) | h) | h
  · rcases h with rfl | rfl | rfl | rfl <;> simp
  · split at h
    · simp at h; subst h; decide
    · split at h
      · simp at h; subst h; decide
      · split at h
        · simp at h; subst h; decide
        · simp at h
  · split at h
    · simp at h; rcases h with rfl | rfl <;> decide
    · simp at h
  · subst h; decide
theorem nrs_len (k : Int) : (nrs k).length ≤ 20 := by
  unfold nrs nrB nrS nrF
  simp only [List.length_append, List.length_cons, List.length_nil]
  split <;> split <;> (try split) <;> (try split) <;> simp
theorem Bx.newP (w : World) (t : TypeId) (p : Pc) (mv : Value) : Bx (w.alloc (Obj.cells #[.int .i64 p.kind, .int .i64 p.fr, .int .i64 p.to_, .int .i64 p.wr, .int .i64 p.rd, .int .i64 p.sq, .int .i64 p.fi, .int .i64 p.la, .int .i64 p.at_, mv, .string (bs p.pay)] t)) w.heap.size (p.cells mv) :=
  ⟨by simp, fun j v hj => ⟨by rw [cell_lit (heap_newI w _), ← Array.getElem?_toList]; exact hj, frozen_lit (heap_newI w _)⟩⟩
theorem own_blk {w w' : World} {B : Nat} {e : TypeId} {z n : Nat} {v : Value} {xs : List Value} (h : w.ownsRow B e z v n xs) (hb : ∀ g, v.ownBlock = some g → w'.heap[g]? = w.heap[g]?) : w'.ownsRow B e z v n xs := by
  refine ⟨h.1, h.2.imp id ?_⟩
  rintro ⟨g, cap, cur, rfl, h2, h3, h4⟩
  exact ⟨g, cap, cur, rfl, h2, (hb g rfl).trans h3, h4⟩
theorem own_lo {w : World} {B : Nat} {e : TypeId} {z n c g o : Nat} {xs : List Value} (h : w.ownsRow B e z (.slice (some ⟨g, o, none⟩) n c) n xs) : B ≤ g := (h.lt g rfl).1
/-- A number of a row of numbers. -/
theorem OwN.cell {b B : Nat} {w : World} {g c n : Nat} {l : List Nr} (h : OwN b B w (.slice (some ⟨g, 0, none⟩) n c) l) (hn : l.length = n) (i : Nat) (hi : i < l.length) (j : Nat) (v : Value) (hv : (eNr b (l[i]'hi))[j]? = some v) : w.cell? ⟨g, i * 3 + j, none⟩ = some v := by
  subst hn
  exact own_cells (eNr_len b) h i hi j v hv
theorem OwN.pos {b B : Nat} {w : World} {A : Option Addr} {c n : Nat} {l : List Nr} (h : OwN b B w (.slice A n c) l) (hn : 0 < n) (hl : l.length = n) : ∃ g, A = some ⟨g, 0, none⟩ ∧ B ≤ g ∧ g < w.heap.size := by
  subst hl
  obtain ⟨A', c', e, h1⟩ := own_nil_or h
  injection e with e1 e2 e3
  subst e1 e3
  rcases h1 with ⟨-, -, h0⟩ | ⟨g, rfl, h2, h3, -⟩
  · omega
  · exact ⟨g, rfl, h2, h3⟩
/-- Some numbers made zero. -/
def zr (p : Pc) (l : List Nr) : Pc := l.foldl (fun p x => p.setN x.off 0) p
theorem zr_snoc (p : Pc) (l : List Nr) (x : Nr) : zr p (l ++ [x]) = (zr p l).setN x.off 0 := by unfold zr; rw [List.foldl_append]; rfl
theorem setN_kind (p : Pc) (o : Nat) (v : Int) : (p.setN o v).kind = p.kind ∧ (p.setN o v).mis = p.mis ∧ (p.setN o v).pay = p.pay := by unfold Pc.setN; split <;> exact ⟨rfl, rfl, rfl⟩
theorem zr_kind (l : List Nr) : ∀ p : Pc, (zr p l).kind = p.kind ∧ (zr p l).mis = p.mis ∧ (zr p l).pay = p.pay := by
  induction l with
  | nil => intro p; exact ⟨rfl, rfl, rfl⟩
  | cons x l ih =>
    intro p
    obtain ⟨h1, h2, h3⟩ := ih (p.setN x.off 0)
    obtain ⟨k1, k2, k3⟩ := setN_kind p x.off 0
    exact ⟨h1.trans k1, h2.trans k2, h3.trans k3⟩
def usS (k : Int) : Bool := k == 1 || k == 4 || k == 5
def usF (k : Int) : Bool := k == 2 || k == 3 || k == 4
def usM (k : Int) : Bool := k == 3
def usP (k : Int) : Bool := k == 1 || k == 5
/-- Are the fields zero that the kind doesn't use? -/
def ozB (p : Pc) : Bool := (usS p.kind || p.sq == 0) && (usF p.kind || p.fi == 0) && (usF p.kind || p.la == 0) && (usM p.kind || p.mis.isEmpty) && (usP p.kind || p.pay.isEmpty)
theorem zr_all (p : Pc) : (zr p (nrs p.kind)).sq = (if usS p.kind then 0 else p.sq) ∧ (zr p (nrs p.kind)).fi = (if usF p.kind then 0 else p.fi) ∧ (zr p (nrs p.kind)).la = (if usF p.kind then 0 else p.la) := by
  obtain ⟨k, _, _, _, _, _, _, _, _, _, _⟩ := p
  unfold nrs nrS nrF usS usF
  by_cases k1 : k = 1
  · subst k1; exact ⟨rfl, rfl, rfl⟩
  by_cases k2 : k = 2
  · subst k2; exact ⟨rfl, rfl, rfl⟩
  by_cases k3 : k = 3
  · subst k3; exact ⟨rfl, rfl, rfl⟩
  by_cases k4 : k = 4
  · subst k4; exact ⟨rfl, rfl, rfl⟩
  by_cases k5 : k = 5
  · subst k5; exact ⟨rfl, rfl, rfl⟩
  rw [if_neg k1, if_neg k4, if_neg k5, if_neg (by rintro (h | h | h); exact k2 h; exact k3 h; exact k4 h)]
  have e : ∀ j : Int, k ≠ j → (k == j) = false := fun j h => by simpa using h
  simp only [e 1 k1, e 2 k2, e 3 k3, e 4 k4, e 5 k5]
  exact ⟨rfl, rfl, rfl⟩
set_option maxRecDepth 100000 in
set_option maxHeartbeats 4000000 in
theorem others_any (p : Pc) (A : Option Addr) (n c : Nat) (w : World) (hn : p.mis.length = n) :
    Calls Tryd.prog 63 #[p.val (.slice A n c)] w (Ib (.bool (ozB p)) w) := by
  have B0 := Bx.newP w 25 p (.slice A n c)
  have hb0 := ab1 w (Obj.cells #[.int .i64 p.kind, .int .i64 p.fr, .int .i64 p.to_, .int .i64 p.wr, .int .i64 p.rd, .int .i64 p.sq, .int .i64 p.fi, .int .i64 p.la, .int .i64 p.at_, .slice A n c, .string (bs p.pay)] 25)
  have cN := numbers_any _ _ _ (B0.c 0 rfl)
  show Calls _ _ #[.agg #[.int .i64 p.kind, .int .i64 p.fr, .int .i64 p.to_, .int .i64 p.wr, .int .i64 p.rd, .int .i64 p.sq, .int .i64 p.fi, .int .i64 p.la, .int .i64 p.at_, .slice A n c, .string (bs p.pay)]] w _
  have hle := nrs_len p.kind
  have HOF := Lib.hid (nrs_off p.kind)
  obtain ⟨L, hL⟩ : ∃ L, nrs p.kind = L := ⟨_, rfl⟩
  obtain ⟨m, hm⟩ : ∃ m, L.length = m := ⟨_, rfl⟩
  have cN2 := cN
  unfold NsP at cN2
  rw [hL, hm] at cN2
  rw [hL] at HOF
  rw [hL, hm] at hle
  have HL := Lib.hid hL
  have HM := Lib.hid hm
  have HMN := Lib.hid hn
  clear hL hm cN hn
  go_enter Tryd.func63, Tryd.ntmps63
  go_wp2_with (go_at_call 28; refine cN2.mono ?_; rintro e w1 ⟨hb1, A1, c1, rfl, ho⟩)
  have HO := Lib.hid ho
  have HB1 := Lib.hid (B0.next hb1)
  have Hb1 := Lib.hid (Below.next hb0 hb1)
  clear ho B0 hb1 hb0 cN2
  go_loopg [7] m (fun kx s7 wr => ∃ i : Nat, s7 = .int .i64 (i : Int) ∧ i ≤ m ∧ m - i ≤ kx ∧ Hid (Below w.heap.size w wr ∧ Bx wr w.heap.size ((zr p (L.take i)).cells (.slice A n c)) ∧ OwN w.heap.size (w.heap.size + 1) wr (.slice A1 m c1) L))
  case atStart => exact ⟨0, rfl, Nat.zero_le _, Nat.le_refl _, Lib.hid ⟨Hb1.out, HB1.out, by have := HO.out; simpa using this⟩⟩
  case round =>
    obtain ⟨i, rfl, hin, hkx, HI⟩ := hrel
    by_cases hi : i < m
    · have di : decide (i < m) = true := decide_eq_true hi
      have hil : i < L.length := by rw [HM.out]; exact hi
      obtain ⟨g, rfl, hgB, hgl⟩ := OwN.pos HI.out.2.2 (by omega) HM.out
      have cx := fun j v hv => OwN.cell HI.out.2.2 HM.out i hil j v hv
      have x0 := cx 0 _ rfl
      have x1 := cx 1 _ rfl
      have x2 := cx 2 _ rfl
      have hof := HOF.out _ (List.getElem_mem hil)
      have HS : Hid (L.take (i + 1) = L.take i ++ [L[i]'hil]) := Lib.hid (by rw [List.take_succ_eq_append_getElem hil])
      obtain ⟨⟨of, lo, up⟩, hx⟩ : ∃ x, L[i]'hil = x := ⟨_, rfl⟩
      rw [hx] at x0 x1 x2 hof HS
      simp only [Nat.add_zero] at x0 x1 x2
      have y0 := HI.out.2.1.c of (cells_num _ _ hof)
      have f0 := HI.out.2.1.f of (cells_num _ _ hof)
      have hwl := HI.out.2.1.lt
      have hi1 : i + 1 ≤ m := by omega
      have HOF2 := Lib.hid hof
      have hbx : Bx (wr.setCell ⟨w.heap.size, of, none⟩ (.int .i64 0)) w.heap.size ((zr p (L.take (i + 1))).cells (.slice A n c)) := by
        have h9 := HI.out.2.1.put1 of (.int .i64 0)
        rw [cells_set _ _ HOF2.out] at h9
        rw [HS.out, zr_snoc]
        exact h9
      have HI2 : ∀ o, Hid (Below w.heap.size w ((wr.setCell ⟨w.heap.size, of, none⟩ (.int .i64 0)).alloc o) ∧ Bx ((wr.setCell ⟨w.heap.size, of, none⟩ (.int .i64 0)).alloc o) w.heap.size ((zr p (L.take (i + 1))).cells (.slice A n c)) ∧ OwN w.heap.size (w.heap.size + 1) ((wr.setCell ⟨w.heap.size, of, none⟩ (.int .i64 0)).alloc o) (.slice (some ⟨g, 0, none⟩) m c1) L) := fun o => Lib.hid ⟨(HI.out.1.setCell (p := ⟨w.heap.size, of, none⟩) (Nat.le_refl _) _).alloc (by have := HI.out.1.size; simpa [World.setCell] using this) o, hbx.next (ab1 _ _), own_next (own_blk HI.out.2.2 (fun g' e => Below.heap_setCell _ _ _ _ (fun e2 => by
        injection e with e
        have e : g = g' := e
        have e2 : g' = w.heap.size := e2
        omega))) (ab1 _ _)⟩
      clear cx hx hil hof hbx
      go_wp2_with fail
      go_roundg (m - (i + 1))
      case measure => omega
      case rel => exact ⟨i + 1, rfl, hi1, Nat.le_refl _, HI2 _⟩
    · obtain rfl : i = m := by omega
      have di : decide (i < i) = false := decide_eq_false hi
      have hbx := HI.out.2.1
      have HB := HI.out.1
      rw [List.take_of_length_le (Nat.le_of_eq HM.out)] at hbx
      obtain ⟨z1, z2, z3⟩ := zr_kind L p
      obtain ⟨q1, q2, q3⟩ := zr_all p
      rw [HL.out] at q1 q2 q3
      have k0 : wr.cell? ⟨w.heap.size, 0, none⟩ = some (.int .i64 p.kind) := by rw [← z1]; exact hbx.c 0 rfl
      have k5 := hbx.c 5 rfl
      have k6 := hbx.c 6 rfl
      have k7 := hbx.c 7 rfl
      have k9 := hbx.c 9 rfl
      have k10 : wr.cell? ⟨w.heap.size, 10, none⟩ = some (.string (bs p.pay)) := by rw [← z3]; exact hbx.c 10 rfl
      have HZ : Hid (ozB p = (!(((zr p L).sq != 0) || ((zr p L).fi != 0) || ((zr p L).la != 0)) && (!decide (0 < n) || p.kind == 3) && (decide (p.pay = []) || (p.kind == 1 || p.kind == 5)))) := Lib.hid (by
        rw [q1, q2, q3]
        unfold ozB usM usP
        have e1 : decide (0 < n) = !p.mis.isEmpty := by rw [← HMN.out]; cases p.mis <;> simp
        have e2 : decide (p.pay = []) = p.pay.isEmpty := by cases p.pay <;> simp
        rw [e1, e2]
        cases usS p.kind <;> cases usF p.kind <;> cases (p.kind == 3) <;> cases p.mis.isEmpty <;> cases p.pay.isEmpty <;> cases (p.kind == 1 || p.kind == 5) <;> simp [bne])
      generalize (zr p L).sq = zs at *
      generalize (zr p L).fi = zf at *
      generalize (zr p L).la = zl at *
      have hpe : ((bs p.pay).toList == []) = decide (p.pay = []) := by rw [toList_bs]; cases p.pay <;> simp
      clear hbx z1 z2 z3 q1 q2 q3 HI hi hkx
      cases b1 : zs != 0
      · cases b2 : zf != 0
        · cases b3 : zl != 0
          · cases b4 : decide (0 < n)
            · cases b5 : p.kind == 3
              · cases b6 : decide (p.pay = [])
                · go_wp2_with (first | (go_at_call 29; refine (usesMis_any _ _).mono ?_; rintro e w9 ⟨rfl, rfl⟩) | (go_at_call 30; refine (usesPay_any _ _).mono ?_; rintro e w9 ⟨rfl, rfl⟩))
                  go_ret
                  refine ⟨?_, HB⟩
                  rw [HZ.out, b1, b2, b3, b4, b5, b6]
                  cases (p.kind == 1 || p.kind == 5) <;> rfl
                · go_wp2_with (first | (go_at_call 29; refine (usesMis_any _ _).mono ?_; rintro e w9 ⟨rfl, rfl⟩) | (go_at_call 30; refine (usesPay_any _ _).mono ?_; rintro e w9 ⟨rfl, rfl⟩))
                  go_ret
                  refine ⟨?_, HB⟩
                  rw [HZ.out, b1, b2, b3, b4, b5, b6]
                  cases (p.kind == 1 || p.kind == 5) <;> rfl
              · cases b6 : decide (p.pay = [])
                · go_wp2_with (first | (go_at_call 29; refine (usesMis_any _ _).mono ?_; rintro e w9 ⟨rfl, rfl⟩) | (go_at_call 30; refine (usesPay_any _ _).mono ?_; rintro e w9 ⟨rfl, rfl⟩))
                  go_ret
                  refine ⟨?_, HB⟩
                  rw [HZ.out, b1, b2, b3, b4, b5, b6]
                  cases (p.kind == 1 || p.kind == 5) <;> rfl
                · go_wp2_with (first | (go_at_call 29; refine (usesMis_any _ _).mono ?_; rintro e w9 ⟨rfl, rfl⟩) | (go_at_call 30; refine (usesPay_any _ _).mono ?_; rintro e w9 ⟨rfl, rfl⟩))
                  go_ret
                  refine ⟨?_, HB⟩
                  rw [HZ.out, b1, b2, b3, b4, b5, b6]
                  cases (p.kind == 1 || p.kind == 5) <;> rfl
            · cases b5 : p.kind == 3
              · go_wp2_with (first | (go_at_call 29; refine (usesMis_any _ _).mono ?_; rintro e w9 ⟨rfl, rfl⟩) | (go_at_call 30; refine (usesPay_any _ _).mono ?_; rintro e w9 ⟨rfl, rfl⟩))
                go_ret
                refine ⟨?_, HB⟩
                rw [HZ.out, b1, b2, b3, b4, b5]
                cases (p.kind == 1 || p.kind == 5) <;> rfl
              · cases b6 : decide (p.pay = [])
                · go_wp2_with (first | (go_at_call 29; refine (usesMis_any _ _).mono ?_; rintro e w9 ⟨rfl, rfl⟩) | (go_at_call 30; refine (usesPay_any _ _).mono ?_; rintro e w9 ⟨rfl, rfl⟩))
                  go_ret
                  refine ⟨?_, HB⟩
                  rw [HZ.out, b1, b2, b3, b4, b5, b6]
                  cases (p.kind == 1 || p.kind == 5) <;> rfl
                · go_wp2_with (first | (go_at_call 29; refine (usesMis_any _ _).mono ?_; rintro e w9 ⟨rfl, rfl⟩) | (go_at_call 30; refine (usesPay_any _ _).mono ?_; rintro e w9 ⟨rfl, rfl⟩))
                  go_ret
                  refine ⟨?_, HB⟩
                  rw [HZ.out, b1, b2, b3, b4, b5, b6]
                  cases (p.kind == 1 || p.kind == 5) <;> rfl
          · go_wp2_with (first | (go_at_call 29; refine (usesMis_any _ _).mono ?_; rintro e w9 ⟨rfl, rfl⟩) | (go_at_call 30; refine (usesPay_any _ _).mono ?_; rintro e w9 ⟨rfl, rfl⟩))
            go_ret
            refine ⟨?_, HB⟩
            rw [HZ.out, b1, b2, b3]
            cases (p.kind == 1 || p.kind == 5) <;> rfl
        · go_wp2_with (first | (go_at_call 29; refine (usesMis_any _ _).mono ?_; rintro e w9 ⟨rfl, rfl⟩) | (go_at_call 30; refine (usesPay_any _ _).mono ?_; rintro e w9 ⟨rfl, rfl⟩))
          go_ret
          refine ⟨?_, HB⟩
          rw [HZ.out, b1, b2]
          cases (p.kind == 1 || p.kind == 5) <;> rfl
      · go_wp2_with (first | (go_at_call 29; refine (usesMis_any _ _).mono ?_; rintro e w9 ⟨rfl, rfl⟩) | (go_at_call 30; refine (usesPay_any _ _).mono ?_; rintro e w9 ⟨rfl, rfl⟩))
        go_ret
        refine ⟨?_, HB⟩
        rw [HZ.out, b1]
        cases (p.kind == 1 || p.kind == 5) <;> rfl
end Go.Proofs.YtcjaaijohapeaaaDoor
/-
  Which packets are valid: Check. No conditions beyond those that each names.
-/
namespace Go.Proofs.YtcjaaijohapeaaaDoor
open Go.RowKit Go.Sort Go.Lib Go.Shelf
/-- Are the numbers in their ranges that the kind uses? -/
def rgB (p : Pc) (l : List Nr) : Bool := l.all fun x => inB (p.num x.off) x.lo x.hi
/-- The error of a packet. -/
def chk (p : Pc) : Int :=
  if inB p.kind 1 5 = true then (if rgB p (nrs p.kind) = true then (if (decide (2000 < p.pay.length) || decide (32 < p.mis.length)) = true then 3 else if (ozB p && ascB p.fi p.la p.mis) = true then 0 else 2) else 4) else 4
theorem rg_la (p : Pc) (h : rgB p (nrs p.kind) = true) (h2 : ozB p = true) (h5 : inB p.kind 1 5 = true) : p.la ≤ 1099511627776 ∧ 0 ≤ p.fi := by
  have h5 : 1 ≤ p.kind ∧ p.kind ≤ 5 := of_decide_eq_true h5
  by_cases hf : p.kind = 2 ∨ p.kind = 3 ∨ p.kind = 4
  · have hm : ∀ x ∈ nrF p.kind, inB (p.num x.off) x.lo x.hi = true := fun x hx => (List.all_eq_true.1 h) x (by unfold nrs; exact List.mem_append_left _ (List.mem_append_right _ hx))
    unfold nrF at hm
    rw [if_pos hf] at hm
    have a1 : 1 ≤ p.fi ∧ p.fi ≤ 1099511627776 := of_decide_eq_true (hm ⟨6, 1, 1099511627776⟩ (by simp))
    have a2 : 0 ≤ p.la ∧ p.la ≤ 1099511627776 := of_decide_eq_true (hm ⟨7, 0, 1099511627776⟩ (by simp))
    omega
  · have e : usF p.kind = false := by
      unfold usF
      have e1 : p.kind ≠ 2 := fun e => hf (.inl e)
      have e2 : p.kind ≠ 3 := fun e => hf (.inr (.inl e))
      have e3 : p.kind ≠ 4 := fun e => hf (.inr (.inr e))
      simp [e1, e2, e3]
    unfold ozB at h2
    rw [e] at h2
    simp at h2
    omega
set_option maxRecDepth 100000 in
set_option maxHeartbeats 4000000 in
theorem check_any (p : Pc) (mv : Value) (w : World) (hm : Mis w mv p.mis) (hml : p.mis.length ≤ 1000000) (hpl : p.pay.length ≤ 1000000) :
    Calls Tryd.prog 25 #[p.val mv] w (Ib (.int .i64 (chk p)) w) := by
  obtain ⟨A, c, rfl, hA⟩ := hm
  have hM : Mis w (.slice A p.mis.length c) p.mis := ⟨A, c, rfl, hA⟩
  obtain ⟨n, hn⟩ : ∃ n, p.mis.length = n := ⟨_, rfl⟩
  have B0 := Bx.newP w 25 p (.slice A p.mis.length c)
  have hb0 := ab1 w (Obj.cells #[.int .i64 p.kind, .int .i64 p.fr, .int .i64 p.to_, .int .i64 p.wr, .int .i64 p.rd, .int .i64 p.sq, .int .i64 p.fi, .int .i64 p.la, .int .i64 p.at_, .slice A p.mis.length c, .string (bs p.pay)] 25)
  have cN := numbers_any _ _ _ (B0.c 0 rfl)
  have cO := fun W => others_any p A n c W hn
  have HMl := Lib.hid hml
  have hsz : (bs p.pay).size = p.pay.length := rfl
  rw [hn] at hM B0 hb0 cN hml ⊢
  have HN := Lib.hid hn
  have HM0 := Lib.hid hM
  clear hn hM hA
  show Calls _ _ #[.agg #[.int .i64 p.kind, .int .i64 p.fr, .int .i64 p.to_, .int .i64 p.wr, .int .i64 p.rd, .int .i64 p.sq, .int .i64 p.fi, .int .i64 p.la, .int .i64 p.at_, .slice A n c, .string (bs p.pay)]] w _
  have hle := nrs_len p.kind
  have HOF := Lib.hid (nrs_off p.kind)
  cases hk : inB p.kind 1 5
  · have HR : Hid (chk p = 4) := Lib.hid (by unfold chk; rw [hk]; rfl)
    clear cN cO hle
    go_enter Tryd.func25, Tryd.ntmps25
    go_wp2_with (go_at_call 39; refine (isIn_any _ _ _ _).mono ?_; rintro e w9 ⟨rfl, rfl⟩)
    go_ret
    rw [HR.out]
    exact ⟨rfl, hb0⟩
  have HK := Lib.hid hk
  obtain ⟨L, hL⟩ : ∃ L, nrs p.kind = L := ⟨_, rfl⟩
  obtain ⟨m, hm⟩ : ∃ m, L.length = m := ⟨_, rfl⟩
  unfold NsP at cN
  rw [hL, hm] at cN
  rw [hL] at HOF
  rw [hL, hm] at hle
  have HL := Lib.hid hL
  have HM := Lib.hid hm
  clear hL hm
  go_enter Tryd.func25, Tryd.ntmps25
  go_wp2_with (first | (go_at_call 39; refine (isIn_any _ _ _ _).mono ?_; rintro e w9 ⟨rfl, rfl⟩) | (go_at_call 28; refine cN.mono ?_; rintro e w1 ⟨hb1, A1, c1, rfl, ho⟩))
  have HO := Lib.hid ho
  have HB1 := Lib.hid (B0.next hb1)
  have Hb1 := Lib.hid (Below.next hb0 hb1)
  clear ho B0 hb1 hb0 cN
  go_loopg [11] m (fun kx s11 wr => ∃ i : Nat, s11 = .int .i64 (i : Int) ∧ i ≤ m ∧ m - i ≤ kx ∧ Hid (Below w.heap.size w wr ∧ Bx wr w.heap.size (p.cells (.slice A n c)) ∧ OwN w.heap.size (w.heap.size + 1) wr (.slice A1 m c1) L) ∧ Hid (rgB p (L.take i) = true))
  case atStart => exact ⟨0, rfl, Nat.zero_le _, Nat.le_refl _, Lib.hid ⟨Hb1.out, HB1.out, by have := HO.out; simpa using this⟩, Lib.hid rfl⟩
  case round =>
    obtain ⟨i, rfl, hin, hkx, HI, HG⟩ := hrel
    by_cases hi : i < m
    · have di : decide (i < m) = true := decide_eq_true hi
      have hil : i < L.length := by rw [HM.out]; exact hi
      obtain ⟨g, rfl, hgB, hgl⟩ := OwN.pos HI.out.2.2 (by omega) HM.out
      have cx := fun j v hv => OwN.cell HI.out.2.2 HM.out i hil j v hv
      have x0 := cx 0 _ rfl
      have x1 := cx 1 _ rfl
      have x2 := cx 2 _ rfl
      have hof := HOF.out _ (List.getElem_mem hil)
      have HS : Hid (L.take (i + 1) = L.take i ++ [L[i]'hil]) := Lib.hid (by rw [List.take_succ_eq_append_getElem hil])
      have HE : Hid (L[i]'hil ∈ L) := Lib.hid (List.getElem_mem hil)
      obtain ⟨⟨of, lo, up⟩, hx⟩ : ∃ x, L[i]'hil = x := ⟨_, rfl⟩
      rw [hx] at x0 x1 x2 hof HS HE
      simp only [Nat.add_zero] at x0 x1 x2
      have y0 := HI.out.2.1.c of (cells_num _ _ hof)
      have hwl := HI.out.2.1.lt
      have hi1 : i + 1 ≤ m := by omega
      have hcI := fun W => isIn_any (p.num of) lo up W
      have HI2 : Hid (Below w.heap.size w (wr.alloc (Obj.cells #[.pointer (some ⟨w.heap.size, of, none⟩), .int .i64 lo, .int .i64 up] 82)) ∧ Bx (wr.alloc (Obj.cells #[.pointer (some ⟨w.heap.size, of, none⟩), .int .i64 lo, .int .i64 up] 82)) w.heap.size (p.cells (.slice A n c)) ∧ OwN w.heap.size (w.heap.size + 1) (wr.alloc (Obj.cells #[.pointer (some ⟨w.heap.size, of, none⟩), .int .i64 lo, .int .i64 up] 82)) (.slice (some ⟨g, 0, none⟩) m c1) L) := Lib.hid ⟨HI.out.1.alloc HI.out.1.size _, HI.out.2.1.next (ab1 _ _), own_next HI.out.2.2 (ab1 _ _)⟩
      have T0 := Bx.new3 wr 82 (.pointer (some ⟨w.heap.size, of, none⟩)) (.int .i64 lo) (.int .i64 up)
      have yy := HI2.out.2.1.c of (cells_num _ _ hof)
      cases hb : inB (p.num of) lo up
      · have HR : Hid (chk p = 4) := Lib.hid (by
          unfold chk
          rw [HK.out, if_pos rfl, if_neg]
          rw [HL.out]
          intro h9
          have := List.all_eq_true.1 h9 _ HE.out
          rw [hb] at this
          cases this)
        have HBx := Lib.hid HI2.out.1
        rw [hb] at hcI
        clear cx hx hil hof HI2
        go_wp2_with fail
        generalize (wr.alloc (Obj.cells #[.pointer (some ⟨w.heap.size, of, none⟩), .int .i64 lo, .int .i64 up] 82)) = W1 at *
        have t0 := T0.c 0 rfl
        have t1 := T0.c 1 rfl
        have t2 := T0.c 2 rfl
        go_quiet ((go_at_call 39; exact Calls.quiet_of_same ((hcI _).mono fun _ _ h => ⟨h.1, h.2.symm⟩)))
        go_wp2_with fail
        go_ret
        rw [HR.out]
        exact ⟨rfl, below_drewN HBx.out _⟩
      · have HG2 : Hid (rgB p (L.take (i + 1)) = true) := Lib.hid (by rw [HS.out]; unfold rgB; rw [List.all_append, Bool.and_eq_true]; exact ⟨HG.out, by simp [hb]⟩)
        rw [hb] at hcI
        clear cx hx hil hof
        go_wp2_with fail
        generalize (wr.alloc (Obj.cells #[.pointer (some ⟨w.heap.size, of, none⟩), .int .i64 lo, .int .i64 up] 82)) = W1 at *
        have t0 := T0.c 0 rfl
        have t1 := T0.c 1 rfl
        have t2 := T0.c 2 rfl
        go_quiet ((go_at_call 39; exact Calls.quiet_of_same ((hcI _).mono fun _ _ h => ⟨h.1, h.2.symm⟩)))
        go_wp2_with fail
        go_roundg (m - (i + 1))
        case measure => omega
        case rel => exact ⟨i + 1, rfl, hi1, Nat.le_refl _, Lib.hid ⟨below_drewN HI2.out.1 _, HI2.out.2.1.next (below_drewN (Below.refl _ _) _), own_next HI2.out.2.2 (below_drewN (Below.refl _ _) _)⟩, HG2⟩
    · obtain rfl : i = m := by omega
      have di : decide (i < i) = false := decide_eq_false hi
      have hbx := HI.out.2.1
      have HB := Lib.hid HI.out.1
      have hG := HG.out
      rw [List.take_of_length_le (Nat.le_of_eq HM.out)] at hG
      have HG2 := Lib.hid hG
      have k6 := hbx.c 6 rfl
      have k7 := hbx.c 7 rfl
      have k9 := hbx.c 9 rfl
      have k10 := hbx.c 10 rfl
      have k0 := hbx.c 0 rfl
      have k1 := hbx.c 1 rfl
      have k2 := hbx.c 2 rfl
      have k3 := hbx.c 3 rfl
      have k4 := hbx.c 4 rfl
      have k5 := hbx.c 5 rfl
      have k8 := hbx.c 8 rfl
      have hwl := hbx.lt
      have HRX : Hid (chk p = if (decide (2000 < p.pay.length) || decide (32 < n)) = true then 3 else if (ozB p && ascB p.fi p.la p.mis) = true then 0 else 2) := Lib.hid (by unfold chk; rw [HK.out, if_pos rfl, HL.out, hG, if_pos rfl, HN.out])
      have HAS : Hid (∀ W, Below w.heap.size w W → ozB p = true → Calls Tryd.prog 64 #[.slice A n c, .int .i64 p.fi, .int .i64 p.la] W (Ib (.bool (ascB p.fi p.la p.mis)) W)) := Lib.hid fun W hW ho => by
        have h9 := rg_la p (by rw [HL.out]; exact HG2.out) ho HK.out
        exact ascends_any _ _ _ _ W (HM0.out.next hW) HMl.out h9.1 (by omega)
      clear hbx HI hi hkx hG
      cases b1 : decide (2000 < p.pay.length)
      · cases b2 : decide (32 < n)
        · cases b3 : ozB p
          · have b1i : decide ((2000 : Int) < (p.pay.length : Int)) = false := by rw [← b1]; exact decide_eq_decide.2 (by omega)
            have b2i : decide ((32 : Int) < (n : Int)) = false := by rw [← b2]; exact decide_eq_decide.2 (by omega)
            rw [b1, b2, b3] at HRX
            go_wp2_with (first | (go_at_call 63; refine (cO _).mono ?_; rw [b3]; rintro e w8 ⟨rfl, hb8⟩; have hb8 := Lib.hid hb8; have q6 := cell_next hb8.out k6; have q7 := cell_next hb8.out k7; have q9 := cell_next hb8.out k9) | (go_at_call 64; refine (HAS.out _ (Below.next HB.out hb8.out) b3).mono ?_; rw [b4]; rintro e w7 ⟨rfl, hb7⟩))
            go_ret
            rw [HRX.out]
            exact ⟨rfl, Below.next HB.out hb8.out⟩
          · cases b4 : ascB p.fi p.la p.mis
            · have b1i : decide ((2000 : Int) < (p.pay.length : Int)) = false := by rw [← b1]; exact decide_eq_decide.2 (by omega)
              have b2i : decide ((32 : Int) < (n : Int)) = false := by rw [← b2]; exact decide_eq_decide.2 (by omega)
              rw [b1, b2, b3, b4] at HRX
              go_wp2_with (first | (go_at_call 63; refine (cO _).mono ?_; rw [b3]; rintro e w8 ⟨rfl, hb8⟩; have hb8 := Lib.hid hb8; have q6 := cell_next hb8.out k6; have q7 := cell_next hb8.out k7; have q9 := cell_next hb8.out k9) | (go_at_call 64; refine (HAS.out _ (Below.next HB.out hb8.out) b3).mono ?_; rw [b4]; rintro e w7 ⟨rfl, hb7⟩))
              go_ret
              rw [HRX.out]
              exact ⟨rfl, Below.next (Below.next HB.out hb8.out) hb7⟩
            · have b1i : decide ((2000 : Int) < (p.pay.length : Int)) = false := by rw [← b1]; exact decide_eq_decide.2 (by omega)
              have b2i : decide ((32 : Int) < (n : Int)) = false := by rw [← b2]; exact decide_eq_decide.2 (by omega)
              rw [b1, b2, b3, b4] at HRX
              go_wp2_with (first | (go_at_call 63; refine (cO _).mono ?_; rw [b3]; rintro e w8 ⟨rfl, hb8⟩; have hb8 := Lib.hid hb8; have q6 := cell_next hb8.out k6; have q7 := cell_next hb8.out k7; have q9 := cell_next hb8.out k9) | (go_at_call 64; refine (HAS.out _ (Below.next HB.out hb8.out) b3).mono ?_; rw [b4]; rintro e w7 ⟨rfl, hb7⟩))
              go_ret
              rw [HRX.out]
              exact ⟨rfl, Below.next (Below.next HB.out hb8.out) hb7⟩
        · have b1i : decide ((2000 : Int) < (p.pay.length : Int)) = false := by rw [← b1]; exact decide_eq_decide.2 (by omega)
          have b2i : decide ((32 : Int) < (n : Int)) = true := by rw [← b2]; exact decide_eq_decide.2 (by omega)
          rw [b1, b2] at HRX
          go_wp2_with (first | (go_at_call 63; refine (cO _).mono ?_; rw [b3]; rintro e w8 ⟨rfl, hb8⟩; have hb8 := Lib.hid hb8; have q6 := cell_next hb8.out k6; have q7 := cell_next hb8.out k7; have q9 := cell_next hb8.out k9) | (go_at_call 64; refine (HAS.out _ (Below.next HB.out hb8.out) b3).mono ?_; rw [b4]; rintro e w7 ⟨rfl, hb7⟩))
          go_ret
          rw [HRX.out]
          exact ⟨rfl, HB.out⟩
      · have b1i : decide ((2000 : Int) < (p.pay.length : Int)) = true := by rw [← b1]; exact decide_eq_decide.2 (by omega)
        rw [b1] at HRX
        go_wp2_with (first | (go_at_call 63; refine (cO _).mono ?_; rw [b3]; rintro e w8 ⟨rfl, hb8⟩; have hb8 := Lib.hid hb8; have q6 := cell_next hb8.out k6; have q7 := cell_next hb8.out k7; have q9 := cell_next hb8.out k9) | (go_at_call 64; refine (HAS.out _ (Below.next HB.out hb8.out) b3).mono ?_; rw [b4]; rintro e w7 ⟨rfl, hb7⟩))
        go_ret
        rw [HRX.out]
        exact ⟨rfl, HB.out⟩
end Go.Proofs.YtcjaaijohapeaaaDoor

import Derived.Test.YtcjaaijohapeaaaDoorTe
/-
  Which packets are valid: Check. No conditions beyond those that each names.
-/
namespace Go.Proofs.YtcjaaijohapeaaaDoor
open Go.RowKit Go.Sort Go.Lib Go.Shelf
/-- Are the numbers in their ranges that the kind uses? -/
def rgB (p : Pc) (l : List Nr) : Bool := l.all fun x => inB (p.num x.off) x.lo x.hi
/-- The error of a packet. -/
def chk (p : Pc) : Int :=
  if inB p.kind 1 5 = true then (if rgB p (nrs p.kind) = true then (if (decide (2000 < p.pay.length) || decide (32 < p.mis.length)) = true then 3 else if (ozB p && ascB p.fi p.la p.mis) = true then 0 else 2) else 4) else 4
theorem rg_la (p : Pc) (h : rgB p (nrs p.kind) = true) (h2 : ozB p = true) (h5 : inB p.kind 1 5 = true) : p.la ≤ 1099511627776 ∧ 0 ≤ p.fi := by
  have h5 : 1 ≤ p.kind ∧ p.kind ≤ 5 := of_decide_eq_true h5
  by_cases hf : p.kind = 2 ∨ p.kind = 3 ∨ p.kind = 4
  · have hm : ∀ x ∈ nrF p.kind, inB (p.num x.off) x.lo x.hi = true := fun x hx => (List.all_eq_true.1 h) x (by unfold nrs; exact List.mem_append_left _ (List.mem_append_right _ hx))
    unfold nrF at hm
    rw [if_pos hf] at hm
    have a1 : 1 ≤ p.fi ∧ p.fi ≤ 1099511627776 := of_decide_eq_true (hm ⟨6, 1, 1099511627776⟩ (by simp))
    have a2 : 0 ≤ p.la ∧ p.la ≤ 1099511627776 := of_decide_eq_true (hm ⟨7, 0, 1099511627776⟩ (by simp))
    omega
  · have e : usF p.kind = false := by
      unfold usF
      have e1 : p.kind ≠ 2 := fun e => hf (.inl e)
      have e2 : p.kind ≠ 3 := fun e => hf (.inr (.inl e))
      have e3 : p.kind ≠ 4 := fun e => hf (.inr (.inr e))
      simp [e1, e2, e3]
    unfold ozB at h2
    rw [e] at h2
    simp at h2
    omega
set_option maxRecDepth 100000 in
set_option maxHeartbeats 4000000 in
theorem check_any (p : Pc) (mv : Value) (w : World) (hm : Mis w mv p.mis) (hml : p.mis.length ≤ 1000000) (hpl : p.pay.length ≤ 1000000) :
    Calls Tryd.prog 25 #[p.val mv] w (Ib (.int .i64 (chk p)) w) := by
  obtain ⟨A, c, rfl, hA⟩ := hm
  have hM : Mis w (.slice A p.mis.length c) p.mis := ⟨A, c, rfl, hA⟩
  obtain ⟨n, hn⟩ : ∃ n, p.mis.length = n := ⟨_, rfl⟩
  have B0 := Bx.newP w 25 p (.slice A p.mis.length c)
  have hb0 := ab1 w (Obj.cells #[.int .i64 p.kind, .int .i64 p.fr, .int .i64 p.to_, .int .i64 p.wr, .int .i64 p.rd, .int .i64 p.sq, .int .i64 p.fi, .int .i64 p.la, .int .i64 p.at_, .slice A p.mis.length c, .string (bs p.pay)] 25)
  have cN := numbers_any _ _ _ (B0.c 0 rfl)
  have cO := fun W => others_any p A n c W hn
  have HMl := Lib.hid hml
  have hsz : (bs p.pay).size = p.pay.length := rfl
  rw [hn] at hM B0 hb0 cN hml ⊢
  have HN := Lib.hid hn
  have HM0 := Lib.hid hM
  clear hn hM hA
  show Calls _ _ #[.agg #[.int .i64 p.kind, .int .i64 p.fr, .int .i64 p.to_, .int .i64 p.wr, .int .i64 p.rd, .int .i64 p.sq, .int .i64 p.fi, .int .i64 p.la, .int .i64 p.at_, .slice A n c, .string (bs p.pay)]] w _
  have hle := nrs_len p.kind
  have HOF := Lib.hid (nrs_off p.kind)
  cases hk : inB p.kind 1 5
  · have HR : Hid (chk p = 4) := Lib.hid (by unfold chk; rw [hk]; rfl)
    clear cN cO hle
    go_enter Tryd.func25, Tryd.ntmps25
    go_wp2_with (go_at_call 39; refine (isIn_any _ _ _ _).mono ?_; rintro e w9 ⟨rfl, rfl⟩)
    go_ret
    rw [HR.out]
    exact ⟨rfl, hb0⟩
  have HK := Lib.hid hk
  obtain ⟨L, hL⟩ : ∃ L, nrs p.kind = L := ⟨_, rfl⟩
  obtain ⟨m, hm⟩ : ∃ m, L.length = m := ⟨_, rfl⟩
  unfold NsP at cN
  rw [hL, hm] at cN
  rw [hL] at HOF
  rw [hL, hm] at hle
  have HL := Lib.hid hL
  have HM := Lib.hid hm
  clear hL hm
  go_enter Tryd.func25, Tryd.ntmps25
  go_wp2_with (first | (go_at_call 39; refine (isIn_any _ _ _ _).mono ?_; rintro e w9 ⟨rfl, rfl⟩) | (go_at_call 28; refine cN.mono ?_; rintro e w1 ⟨hb1, A1, c1, rfl, ho⟩))
  have HO := Lib.hid ho
  have HB1 := Lib.hid (B0.next hb1)
  have Hb1 := Lib.hid (Below.next hb0 hb1)
  clear ho B0 hb1 hb0 cN
  go_loopg [11] m (fun kx s11 wr => ∃ i : Nat, s11 = .int .i64 (i : Int) ∧ i ≤ m ∧ m - i ≤ kx ∧ Hid (Below w.heap.size w wr ∧ Bx wr w.heap.size (p.cells (.slice A n c)) ∧ OwN w.heap.size (w.heap.size + 1) wr (.slice A1 m c1) L) ∧ Hid (rgB p (L.take i) = true))
  case atStart => exact ⟨0, rfl, Nat.zero_le _, Nat.le_refl _, Lib.hid ⟨Hb1.out, HB1.out, by have := HO.out; simpa using this⟩, Lib.hid rfl⟩
  case round =>
    obtain ⟨i, rfl, hin, hkx, HI, HG⟩ := hrel
    by_cases hi : i < m
    · have di : decide (i < m) = true := decide_eq_true hi
      have hil : i < L.length := by rw [HM.out]; exact hi
      obtain ⟨g, rfl, hgB, hgl⟩ := OwN.pos HI.out.2.2 (by omega) HM.out
      have cx := fun j v hv => OwN.cell HI.out.2.2 HM.out i hil j v hv
      have x0 := cx 0 _ rfl
      have x1 := cx 1 _ rfl
      have x2 := cx 2 _ rfl
      have hof := HOF.out _ (List.getElem_mem hil)
      have HS : Hid (L.take (i + 1) = L.take i ++ [L[i]'hil]) := Lib.hid (by rw [List.take_succ_eq_append_getElem hil])
      have HE : Hid (L[i]'hil ∈ L) := Lib.hid (List.getElem_mem hil)
      obtain ⟨⟨of, lo, up⟩, hx⟩ : ∃ x, L[i]'hil = x := ⟨_, rfl⟩
      rw [hx] at x0 x1 x2 hof HS HE
      simp only [Nat.add_zero] at x0 x1 x2
      have y0 := HI.out.2.1.c of (cells_num _ _ hof)
      have hwl := HI.out.2.1.lt
      have hi1 : i + 1 ≤ m := by omega
      have hcI := fun W => isIn_any (p.num of) lo up W
      have HI2 : Hid (Below w.heap.size w (wr.alloc (Obj.cells #[.pointer (some ⟨w.heap.size, of, none⟩), .int .i64 lo, .int .i64 up] 82)) ∧ Bx (wr.alloc (Obj.cells #[.pointer (some ⟨w.heap.size, of, none⟩), .int .i64 lo, .int .i64 up] 82)) w.heap.size (p.cells (.slice A n c)) ∧ OwN w.heap.size (w.heap.size + 1) (wr.alloc (Obj.cells #[.pointer (some ⟨w.heap.size, of, none⟩), .int .i64 lo, .int .i64 up] 82)) (.slice (some ⟨g, 0, none⟩) m c1) L) := Lib.hid ⟨HI.out.1.alloc HI.out.1.size _, HI.out.2.1.next (ab1 _ _), own_next HI.out.2.2 (ab1 _ _)⟩
      have T0 := Bx.new3 wr 82 (.pointer (some ⟨w.heap.size, of, none⟩)) (.int .i64 lo) (.int .i64 up)
      have yy := HI2.out.2.1.c of (cells_num _ _ hof)
      cases hb : inB (p.num of) lo up
      · have HR : Hid (chk p = 4) := Lib.hid (by
          unfold chk
          rw [HK.out, if_pos rfl, if_neg]
          rw [HL.out]
          intro h9
          have := List.all_eq_true.1 h9 _ HE.out
          rw [hb] at this
          cases this)
        have HBx := Lib.hid HI2.out.1
        rw [hb] at hcI
        clear cx hx hil hof HI2
        go_wp2_with fail
        generalize (wr.alloc (Obj.cells #[.pointer (some ⟨w.heap.size, of, none⟩), .int .i64 lo, .int .i64 up] 82)) = W1 at *
        have t0 := T0.c 0 rfl
        have t1 := T0.c 1 rfl
        have t2 := T0.c 2 rfl
        go_quiet ((go_at_call 39; exact Calls.quiet_of_same ((hcI _).mono fun _ _ h => ⟨h.1, h.2.symm⟩)))
        go_wp2_with fail
        go_ret
        rw [HR.out]
        exact ⟨rfl, below_drewN HBx.out _⟩
      · have HG2 : Hid (rgB p (L.take (i + 1)) = true) := Lib.hid (by rw [HS.out]; unfold rgB; rw [List.all_append, Bool.and_eq_true]; exact ⟨HG.out, by simp [hb]⟩)
        rw [hb] at hcI
        clear cx hx hil hof
        go_wp2_with fail
        generalize (wr.alloc (Obj.cells #[.pointer (some ⟨w.heap.size, of, none⟩), .int .i64 lo, .int .i64 up] 82)) = W1 at *
        have t0 := T0.c 0 rfl
        have t1 := T0.c 1 rfl
        have t2 := T0.c 2 rfl
        go_quiet ((go_at_call 39; exact Calls.quiet_of_same ((hcI _).mono fun _ _ h => ⟨h.1, h.2.symm⟩)))
        go_wp2_with fail
        go_roundg (m - (i + 1))
        case measure => omega
        case rel => exact ⟨i + 1, rfl, hi1, Nat.le_refl _, Lib.hid ⟨below_drewN HI2.out.1 _, HI2.out.2.1.next (below_drewN (Below.refl _ _) _), own_next HI2.out.2.2 (below_drewN (Below.refl _ _) _)⟩, HG2⟩
    · obtain rfl : i = m := by omega
      have di : decide (i < i) = false := decide_eq_false hi
      have hbx := HI.out.2.1
      have HB := Lib.hid HI.out.1
      have hG := HG.out
      rw [List.take_of_length_le (Nat.le_of_eq HM.out)] at hG
      have HG2 := Lib.hid hG
      have k6 := hbx.c 6 rfl
      have k7 := hbx.c 7 rfl
      have k9 := hbx.c 9 rfl
      have k10 := hbx.c 10 rfl
      have k0 := hbx.c 0 rfl
      have k1 := hbx.c 1 rfl
      have k2 := hbx.c 2 rfl
      have k3 := hbx.c 3 rfl
      have k4 := hbx.c 4 rfl
      have k5 := hbx.c 5 rfl
      have k8 := hbx.c 8 rfl
      have hwl := hbx.lt
      have HRX : Hid (chk p = if (decide (2000 < p.pay.length) || decide (32 < n)) = true then 3 else if (ozB p && ascB p.fi p.la p.mis) = true then 0 else 2) := Lib.hid (by unfold chk; rw [HK.out, if_pos rfl, HL.out, hG, if_pos rfl, HN.out])
      have HAS : Hid (∀ W, Below w.heap.size w W → ozB p = true → Calls Tryd.prog 64 #[.slice A n c, .int .i64 p.fi, .int .i64 p.la] W (Ib (.bool (ascB p.fi p.la p.mis)) W)) := Lib.hid fun W hW ho => by
        have h9 := rg_la p (by rw [HL.out]; exact HG2.out) ho HK.out
        exact ascends_any _ _ _ _ W (HM0.out.next hW) HMl.out h9.1 (by omega)
      clear hbx HI hi hkx hG
      cases b1 : decide (2000 < p.pay.length)
      · cases b2 : decide (32 < n)
        · cases b3 : ozB p
          · have b1i : decide ((2000 : Int) < (p.pay.length : Int)) = false := by rw [← b1]; exact decide_eq_decide.2 (by omega)
            have b2i : decide ((32 : Int) < (n : Int)) = false := by rw [← b2]; exact decide_eq_decide.2 (by omega)
            rw [b1, b2, b3] at HRX
            go_wp2_with (first | (go_at_call 63; refine (cO _).mono ?_; rw [b3]; rintro e w8 ⟨rfl, hb8⟩; have hb8 := Lib.hid hb8; have q6 := cell_next hb8.out k6; have q7 := cell_next hb8.out k7; have q9 := cell_next hb8.out k9) | (go_at_call 64; refine (HAS.out _ (Below.next HB.out hb8.out) b3).mono ?_; rw [b4]; rintro e w7 ⟨rfl, hb7⟩))
            go_ret
            rw [HRX.out]
            exact ⟨rfl, Below.next HB.out hb8.out⟩
          · cases b4 : ascB p.fi p.la p.mis
            · have b1i : decide ((2000 : Int) < (p.pay.length : Int)) = false := by rw [← b1]; exact decide_eq_decide.2 (by omega)
              have b2i : decide ((32 : Int) < (n : Int)) = false := by rw [← b2]; exact decide_eq_decide.2 (by omega)
              rw [b1, b2, b3, b4] at HRX
              go_wp2_with (first | (go_at_call 63; refine (cO _).mono ?_; rw [b3]; rintro e w8 ⟨rfl, hb8⟩; have hb8 := Lib.hid hb8; have q6 := cell_next hb8.out k6; have q7 := cell_next hb8.out k7; have q9 := cell_next hb8.out k9) | (go_at_call 64; refine (HAS.out _ (Below.next HB.out hb8.out) b3).mono ?_; rw [b4]; rintro e w7 ⟨rfl, hb7⟩))
              go_ret
              rw [HRX.out]
              exact ⟨rfl, Below.next (Below.next HB.out hb8.out) hb7⟩
            · have b1i : decide ((2000 : Int) < (p.pay.length : Int)) = false := by rw [← b1]; exact decide_eq_decide.2 (by omega)
              have b2i : decide ((32 : Int) < (n : Int)) = false := by rw [← b2]; exact decide_eq_decide.2 (by omega)
              rw [b1, b2, b3, b4] at HRX
              go_wp2_with (first | (go_at_call 63; refine (cO _).mono ?_; rw [b3]; rintro e w8 ⟨rfl, hb8⟩; have hb8 := Lib.hid hb8; have q6 := cell_next hb8.out k6; have q7 := cell_next hb8.out k7; have q9 := cell_next hb8.out k9) | (go_at_call 64; refine (HAS.out _ (Below.next HB.out hb8.out) b3).mono ?_; rw [b4]; rintro e w7 ⟨rfl, hb7⟩))
              go_ret
              rw [HRX.out]
              exact ⟨rfl, Below.next (Below.next HB.out hb8.out) hb7⟩
        · have b1i : decide ((2000 : Int) < (p.pay.length : Int)) = false := by rw [← b1]; exact decide_eq_decide.2 (by omega)
          have b2i : decide ((32 : Int) < (n : Int)) = true := by rw [← b2]; exact decide_eq_decide.2 (by omega)
          rw [b1, b2] at HRX
          go_wp2_with (first | (go_at_call 63; refine (cO _).mono ?_; rw [b3]; rintro e w8 ⟨rfl, hb8⟩; have hb8 := Lib.hid hb8; have q6 := cell_next hb8.out k6; have q7 := cell_next hb8.out k7; have q9 := cell_next hb8.out k9) | (go_at_call 64; refine (HAS.out _ (Below.next HB.out hb8.out) b3).mono ?_; rw [b4]; rintro e w7 ⟨rfl, hb7⟩))
          go_ret
          rw [HRX.out]
          exact ⟨rfl, HB.out⟩
      · have b1i : decide ((2000 : Int) < (p.pay.length : Int)) = true := by rw [← b1]; exact decide_eq_decide.2 (by omega)
        rw [b1] at HRX
        go_wp2_with (first | (go_at_call 63; refine (cO _).mono ?_; rw [b3]; rintro e w8 ⟨rfl, hb8⟩; have hb8 := Lib.hid hb8; have q6 := cell_next hb8.out k6; have q7 := cell_next hb8.out k7; have q9 := cell_next hb8.out k9) | (go_at_call 64; refine (HAS.out _ (Below.next HB.out hb8.out) b3).mono ?_; rw [b4]; rintro e w7 ⟨rfl, hb7⟩))
        go_ret
        rw [HRX.out]
        exact ⟨rfl, HB.out⟩
end Go.Proofs.YtcjaaijohapeaaaDoor

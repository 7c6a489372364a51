/-
  Which packets are valid: Check. No conditions beyond those that each names.
-/
import Derived.Test.YtcjaaijohapeaaaDoorM09
import Derived.Test.YtcjaaijohapeaaaDoorM04
import Derived.Test.YtcjaaijohapeaaaDoorM01
import Derived.Laws.BitsAllLaws
import Derived.Laws.DeepNot64
import Derived.WalkSmall
namespace Go.Proofs.YtcjaaijohapeaaaDoor
open Go.RowKit Go.Sort Go.Lib Go.Shelf
/-- Are the numbers in their ranges that the kind uses? -/
def rgB (p : Pc) (l : List Nr) : Bool := l.all fun x => inB (p.num x.off) x.lo x.hi
/-- The error of a packet. -/
def chk (p : Pc) : Int :=
  if inB p.kind 1 5 = true then (if rgB p (nrs p.kind) = true then (if (decide (2000 < p.pay.length) || decide (32 < p.mis.length)) = true then 3 else if (ozB p && ascB p.fi p.la p.mis) = true then 0 else 2) else 4) else 4
theorem rg_la (p : Pc) (h : rgB p (nrs p.kind) = true) (h2 : ozB p = true) (h5 : inB p.kind 1 5 = true) : p.la ≤ 1099511627776 ∧ 0 ≤ p.fi := by
  have h5 : 1 ≤ p.kind ∧ p.kind ≤ 5 := of_decide_eq_true h5
  by_cases hf : p.kind = 2 ∨ p.kind = 3 ∨ p.kind = 4
  · have hm : ∀ x ∈ nrF p.kind, inB (p.num x.off) x.lo x.hi = true := fun x hx => (List.all_eq_true.1 h) x (by unfold nrs; exact List.mem_append_left _ (List.mem_append_right _ hx))
    unfold nrF at hm
    rw [if_pos hf] at hm
    have a1 : 1 ≤ p.fi ∧ p.fi ≤ 1099511627776 := of_decide_eq_true (hm ⟨6, 1, 1099511627776⟩ (by simp))
    have a2 : 0 ≤ p.la ∧ p.la ≤ 1099511627776 := of_decide_eq_true (hm ⟨7, 0, 1099511627776⟩ (by simp))
    omega
  · have e : usF p.kind = false := by
      unfold usF
      have e1 : p.kind ≠ 2 := fun e => hf (.inl e)
      have e2 : p.kind ≠ 3 := fun e => hf (.inr (.inl e))
      have e3 : p.kind ≠ 4 := fun e => hf (.inr (.inr e))
      simp [e1, e2, e3]
    unfold ozB at h2
    rw [e] at h2
    simp at h2
    omega
set_option maxRecDepth 100000 in
set_option maxHeartbeats 4000000 in
theorem check_any (p : Pc) (mv : Value) (w : World) (hm : Mis w mv p.mis) (hml : p.mis.length ≤ 1000000) (hpl : p.pay.length ≤ 1000000) :
    Calls Tryd.prog 25 #[p.val mv] w (Ib (.int .i64 (chk p)) w) := by
  obtain ⟨A, c, rfl, hA⟩ := hm
  have hM : Mis w (.slice A p.mis.length c) p.mis := ⟨A, c, rfl, hA⟩
  obtain ⟨n, hn⟩ : ∃ n, p.mis.length = n := ⟨_, rfl⟩
  have B0 := Bx.newP w 25 p (.slice A p.mis.length c)
  have hb0 := ab1 w (Obj.cells #[.int .i64 p.kind, .int .i64 p.fr, .int .i64 p.to_, .int .i64 p.wr, .int .i64 p.rd, .int .i64 p.sq, .int .i64 p.fi, .int .i64 p.la, .int .i64 p.at_, .slice A p.mis.length c, .string (bs p.pay)] 25)
  have cN := numbers_any _ _ _ (B0.c 0 rfl)
  have cO := fun W => others_any p A n c W hn
  have HMl := Lib.hid hml
  have hsz : (bs p.pay).size = p.pay.length := rfl
  rw [hn] at hM B0 hb0 cN hml ⊢
  have HN := Lib.hid hn
  have HM0 := Lib.hid hM
  clear hn hM hA
  show Calls _ _ #[.agg #[.int .i64 p.kind, .int .i64 p.fr, .int .i64 p.to_, .int .i64 p.wr, .int .i64 p.rd, .int .i64 p.sq, .int .i64 p.fi, .int .i64 p.la, .int .i64 p.at_, .slice A n c, .string (bs p.pay)]] w _
  have hle := nrs_len p.kind
  have HOF := Lib.hid (nrs_off p.kind)
  cases hk : inB p.kind 1 5
  · have HR : Hid (chk p = 4) := Lib.hid (by unfold chk; rw [hk]; rfl)
    clear cN cO hle
    go_enter Tryd.func25, Tryd.ntmps25
    go_wp2_with (go_at_call 39; refine (isIn_any _ _ _ _).mono ?_; rintro e w9 ⟨rfl, rfl⟩)
    go_ret
    rw [HR.out]
    exact ⟨rfl, hb0⟩
  have HK := Lib.hid hk
  obtain ⟨L, hL⟩ : ∃ L, nrs p.kind = L := ⟨_, rfl⟩
  obtain ⟨m, hm⟩ : ∃ m, L.length = m := ⟨_, rfl⟩
  unfold NsP at cN
  rw [hL, hm] at cN
  rw [hL] at HOF
  rw [hL, hm] at hle
  have HL := Lib.hid hL
  have HM := Lib.hid hm
  clear hL hm
  go_enter Tryd.func25, Tryd.ntmps25
  go_wp2_with (first | (go_at_call 39; refine (isIn_any _ _ _ _).mono ?_; rintro e w9 ⟨rfl, rfl⟩) | (go_at_call 28; refine cN.mono ?_; rintro e w1 ⟨hb1, A1, c1, rfl, ho⟩))
  have HO := Lib.hid ho
  have HB1 := Lib.hid (B0.next hb1)
  have Hb1 := Lib.hid (Below.next hb0 hb1)
  clear ho B0 hb1 hb0 cN
  go_loopg [11] m (fun kx s11 wr => ∃ i : Nat, s11 = .int .i64 (i : Int) ∧ i ≤ m ∧ m - i ≤ kx ∧ Hid (Below w.heap.size w wr ∧ Bx wr w.heap.size (p.cells (.slice A n c)) ∧ OwN w.heap.size (w.heap.size + 1) wr (.slice A1 m c1) L) ∧ Hid (rgB p (L.take i) = true))
  case atStart => exact ⟨0, rfl, Nat.zero_le _, Nat.le_refl _, Lib.hid ⟨Hb1.out, HB1.out, by have := HO.out; simpa using this⟩, Lib.hid rfl⟩
  case round =>
    obtain ⟨i, rfl, hin, hkx, HI, HG⟩ := hrel
    by_cases hi : i < m
    · have di : decide (i < m) = true := decide_eq_true hi
      have hil : i < L.length := by rw [HM.out]; exact hi
      obtain ⟨g, rfl, hgB, hgl⟩ := OwN.pos HI.out.2.2 (by omega) HM.out
      have cx := fun j v hv => OwN.cell HI.out.2.2 HM.out i hil j v hv
      have x0 := cx 0 _ rfl
      have x1 := cx 1 _ rfl
      have x2 := cx 2 _ rfl
      have hof := HOF.out _ (List.getElem_mem hil)
      have HS : Hid (L.take (i + 1) = L.take i ++ [L[i]'hil]) := Lib.hid (by rw [List.take_succ_eq_append_getElem hil])
      have HE : Hid (L[i]'hil ∈ L) := Lib.hid (List.getElem_mem hil)
      obtain ⟨⟨of, lo, up⟩, hx⟩ : ∃ x, L[i]'hil = x := ⟨_, rfl⟩
      rw [hx] at x0 x1 x2 hof HS HE
      simp only [Nat.add_zero] at x0 x1 x2
      have y0 := HI.out.2.1.c of (cells_num _ _ hof)
      have hwl := HI.out.2.1.lt
      have hi1 : i + 1 ≤ m := by omega
      have hcI := fun W => isIn_any (p.num of) lo up W
      have HI2 : Hid (Below w.heap.size w (wr.alloc (Obj.cells #[.pointer (some ⟨w.heap.size, of, none⟩), .int .i64 lo, .int .i64 up] 82)) ∧ Bx (wr.alloc (Obj.cells #[.pointer (some ⟨w.heap.size, of, none⟩), .int .i64 lo, .int .i64 up] 82)) w.heap.size (p.cells (.slice A n c)) ∧ OwN w.heap.size (w.heap.size + 1) (wr.alloc (Obj.cells #[.pointer (some ⟨w.heap.size, of, none⟩), .int .i64 lo, .int .i64 up] 82)) (.slice (some ⟨g, 0, none⟩) m c1) L) := Lib.hid ⟨HI.out.1.alloc HI.out.1.size _, HI.out.2.1.next (ab1 _ _), own_next HI.out.2.2 (ab1 _ _)⟩
      have T0 := Bx.new3 wr 82 (.pointer (some ⟨w.heap.size, of, none⟩)) (.int .i64 lo) (.int .i64 up)
      have yy := HI2.out.2.1.c of (cells_num _ _ hof)
      cases hb : inB (p.num of) lo up
      · have HR : Hid (chk p = 4) := Lib.hid (by
          unfold chk
          rw [HK.out, if_pos rfl, if_neg]
          rw [HL.out]
          intro h9
          have := List.all_eq_true.1 h9 _ HE.out
          rw [hb] at this
          cases this)
        have HBx := Lib.hid HI2.out.1
        rw [hb] at hcI
        clear cx hx hil hof HI2
        go_wp2_with fail
        generalize (wr.alloc (Obj.cells #[.pointer (some ⟨w.heap.size, of, none⟩), .int .i64 lo, .int .i64 up] 82)) = W1 at *
        have t0 := T0.c 0 rfl
        have t1 := T0.c 1 rfl
        have t2 := T0.c 2 rfl
        go_quiet ((go_at_call 39; exact Calls.quiet_of_same ((hcI _).mono fun _ _ h => ⟨h.1, h.2.symm⟩)))
        go_wp2_with fail
        go_ret
        rw [HR.out]
        exact ⟨rfl, below_drewN HBx.out _⟩
      · have HG2 : Hid (rgB p (L.take (i + 1)) = true) := Lib.hid (by rw [HS.out]; unfold rgB; rw [List.all_append, Bool.and_eq_true]; exact ⟨HG.out, by simp [hb]⟩)
        rw [hb] at hcI
        clear cx hx hil hof
        go_wp2_with fail
        generalize (wr.alloc (Obj.cells #[.pointer (some ⟨w.heap.size, of, none⟩), .int .i64 lo, .int .i64 up] 82)) = W1 at *
        have t0 := T0.c 0 rfl
        have t1 := T0.c 1 rfl
        have t2 := T0.c 2 rfl
        go_quiet ((go_at_call 39; exact Calls.quiet_of_same ((hcI _).mono fun _ _ h => ⟨h.1, h.2.symm⟩)))
        go_wp2_with fail
        go_roundg (m - (i + 1))
        case measure => omega
        case rel => exact ⟨i + 1, rfl, hi1, Nat.le_refl _, Lib.hid ⟨below_drewN HI2.out.1 _, HI2.out.2.1.next (below_drewN (Below.refl _ _) _), own_next HI2.out.2.2 (below_drewN (Below.refl _ _) _)⟩, HG2⟩
    · obtain rfl : i = m := by omega
      have di : decide (i < i) = false := decide_eq_false hi
      have hbx := HI.out.2.1
      have HB := Lib.hid HI.out.1
      have hG := HG.out
      rw [List.take_of_length_le (Nat.le_of_eq HM.out)] at hG
      have HG2 := Lib.hid hG
      have k6 := hbx.c 6 rfl
      have k7 := hbx.c 7 rfl
      have k9 := hbx.c 9 rfl
      have k10 := hbx.c 10 rfl
      have k0 := hbx.c 0 rfl
      have k1 := hbx.c 1 rfl
      have k2 := hbx.c 2 rfl
      have k3 := hbx.c 3 rfl
      have k4 := hbx.c 4 rfl
      have k5 := hbx.c 5 rfl
      have k8 := hbx.c 8 rfl
      have hwl := hbx.lt
      have HRX : Hid (chk p = if (decide (2000 < p.pay.length) || decide (32 < n)) = true then 3 else if (ozB p && ascB p.fi p.la p.mis) = true then 0 else 2) := Lib.hid (by unfold chk; rw [HK.out, if_pos rfl, HL.out, hG, if_pos rfl, HN.out])
      have HAS : Hid (∀ W, Below w.heap.size w W → ozB p = true → Calls Tryd.prog 64 #[.slice A n c, .int .i64 p.fi, .int .i64 p.la] W (Ib (.bool (ascB p.fi p.la p.mis)) W)) := Lib.hid fun W hW ho => by
        have h9 := rg_la p (by rw [HL.out]; exact HG2.out) ho HK.out
        exact ascends_any _ _ _ _ W (HM0.out.next hW) HMl.out h9.1 (by omega)
      clear hbx HI hi hkx hG
      cases b1 : decide (2000 < p.pay.length)
      · cases b2 : decide (32 < n)
        · cases b3 : ozB p
          · have b1i : decide ((2000 : Int) < (p.pay.length : Int)) = false := by rw [← b1]; exact decide_eq_decide.2 (by omega)
            have b2i : decide ((32 : Int) < (n : Int)) = false := by rw [← b2]; exact decide_eq_decide.2 (by omega)
            rw [b1, b2, b3] at HRX
            go_wp2_with (first | (go_at_call 63; refine (cO _).mono ?_; rw [b3]; rintro e w8 ⟨rfl, hb8⟩; have hb8 := Lib.hid hb8; have q6 := cell_next hb8.out k6; have q7 := cell_next hb8.out k7; have q9 := cell_next hb8.out k9) | (go_at_call 64; refine (HAS.out _ (Below.next HB.out hb8.out) b3).mono ?_; rw [b4]; rintro e w7 ⟨rfl, hb7⟩))
            go_ret
            rw [HRX.out]
            exact ⟨rfl, Below.next HB.out hb8.out⟩
          · cases b4 : ascB p.fi p.la p.mis
            · have b1i : decide ((2000 : Int) < (p.pay.length : Int)) = false := by rw [← b1]; exact decide_eq_decide.2 (by omega)
              have b2i : decide ((32 : Int) < (n : Int)) = false := by rw [← b2]; exact decide_eq_decide.2 (by omega)
              rw [b1, b2, b3, b4] at HRX
              go_wp2_with (first | (go_at_call 63; refine (cO _).mono ?_; rw [b3]; rintro e w8 ⟨rfl, hb8⟩; have hb8 := Lib.hid hb8; have q6 := cell_next hb8.out k6; have q7 := cell_next hb8.out k7; have q9 := cell_next hb8.out k9) | (go_at_call 64; refine (HAS.out _ (Below.next HB.out hb8.out) b3).mono ?_; rw [b4]; rintro e w7 ⟨rfl, hb7⟩))
              go_ret
              rw [HRX.out]
              exact ⟨rfl, Below.next (Below.next HB.out hb8.out) hb7⟩
            · have b1i : decide ((2000 : Int) < (p.pay.length : Int)) = false := by rw [← b1]; exact decide_eq_decide.2 (by omega)
              have b2i : decide ((32 : Int) < (n : Int)) = false := by rw [← b2]; exact decide_eq_decide.2 (by omega)
              rw [b1, b2, b3, b4] at HRX
              go_wp2_with (first | (go_at_call 63; refine (cO _).mono ?_; rw [b3]; rintro e w8 ⟨rfl, hb8⟩; have hb8 := Lib.hid hb8; have q6 := cell_next hb8.out k6; have q7 := cell_next hb8.out k7; have q9 := cell_next hb8.out k9) | (go_at_call 64; refine (HAS.out _ (Below.next HB.out hb8.out) b3).mono ?_; rw [b4]; rintro e w7 ⟨rfl, hb7⟩))
              go_ret
              rw [HRX.out]
              exact ⟨rfl, Below.next (Below.next HB.out hb8.out) hb7⟩
        · have b1i : decide ((2000 : Int) < (p.pay.length : Int)) = false := by rw [← b1]; exact decide_eq_decide.2 (by omega)
          have b2i : decide ((32 : Int) < (n : Int)) = true := by rw [← b2]; exact decide_eq_decide.2 (by omega)
          rw [b1, b2] at HRX
          go_wp2_with (first | (go_at_call 63; refine (cO _).mono ?_; rw [b3]; rintro e w8 ⟨rfl, hb8⟩; have hb8 := Lib.hid hb8; have q6 := cell_next hb8.out k6; have q7 := cell_next hb8.out k7; have q9 := cell_next hb8.out k9) | (go_at_call 64; refine (HAS.out _ (Below.next HB.out hb8.out) b3).mono ?_; rw [b4]; rintro e w7 ⟨rfl, hb7⟩))
          go_ret
          rw [HRX.out]
          exact ⟨rfl, HB.out⟩
      · have b1i : decide ((2000 : Int) < (p.pay.length : Int)) = true := by rw [← b1]; exact decide_eq_decide.2 (by omega)
        rw [b1] at HRX
        go_wp2_with (first | (go_at_call 63; refine (cO _).mono ?_; rw [b3]; rintro e w8 ⟨rfl, hb8⟩; have hb8 := Lib.hid hb8; have q6 := cell_next hb8.out k6; have q7 := cell_next hb8.out k7; have q9 := cell_next hb8.out k9) | (go_at_call 64; refine (HAS.out _ (Below.next HB.out hb8.out) b3).mono ?_; rw [b4]; rintro e w7 ⟨rfl, hb7⟩))
        go_ret
        rw [HRX.out]
        exact ⟨rfl, HB.out⟩
end Go.Proofs.YtcjaaijohapeaaaDoor
/-
  Contracts of the functions that write: varints and zigzag numbers, the program's and the reference's. No conditions but Go's own bounds of a number and of a string's length.
-/
namespace Go.Proofs.YtcjaaijohapeaaaDoor
open Go.RowKit
theorem uv_len (k n : Nat) (h : n < 128 ^ (k + 1)) : (uv n).length ≤ k + 1 := by
  induction k generalizing n with
  | zero => rw [uv_small (by omega)]; exact Nat.le_refl _
  | succ k ih =>
    by_cases h1 : n < 128
    · rw [uv_small h1]; simp
    · rw [uv_big h1, List.length_cons]
      have := ih (n / 128) (by rw [Nat.pow_succ] at h; omega)
      omega
theorem uv_len10 {n : Nat} (h : n ≤ 18446744073709551615) : (uv n).length ≤ 10 := uv_len 9 n (by omega)
theorem uv_snoc_small {n m : Nat} {l : List UInt8} (h : uv n = l ++ uv m) (hm : m < 128) : uv n = l ++ [UInt8.ofNat m] := by rw [h, uv_small hm]
theorem uv_snoc_big {n m : Nat} {l : List UInt8} (h : uv n = l ++ uv m) (hm : ¬ m < 128) : uv n = (l ++ [UInt8.ofNat (128 + m % 128)]) ++ uv (m / 128) := by rw [h, uv_big hm]; simp
theorem uv_pre_len {n m : Nat} {l : List UInt8} (hn : n ≤ 18446744073709551615) (h : uv n = l ++ uv m) : l.length ≤ 9 := by
  have h1 := uv_len10 hn
  rw [h, List.length_append] at h1
  have h2 := List.length_pos_iff.2 (uv_ne m)
  omega
set_option maxRecDepth 100000 in
theorem or128 (m : Nat) : bits BinOp.or IntKind.u8 ((m : Int) % 256) 128 = ((128 + m % 128 : Nat) : Int) := by
  have key : ∀ b : Fin 256, bits BinOp.or IntKind.u8 ((b.val : Nat) : Int) 128 = ((128 + b.val % 128 : Nat) : Int) := by decide
  have := key ⟨m % 256, by omega⟩
  rw [show ((m : Int) % 256) = ((m % 256 : Nat) : Int) by omega, this]
  simp only
  congr 2
  omega
set_option maxRecDepth 100000 in
set_option maxHeartbeats 1000000 in
theorem uint_any (n : Nat) (w : World)  (h1 : n ≤ 18446744073709551615) :
    Calls Tryd.prog 27 #[.int .u64 (n : Int)] w (Ib (.string (bs (uv n))) w) := by
  go_enter Tryd.func27, Tryd.ntmps27
  go_wp2_with fail
  have HN := Lib.hid h1
  go_loopw [0, 3] (fun u v wr => ∃ (m : Nat) (l : List UInt8), m ≤ 18446744073709551615 ∧ u = .int .u64 (m : Int) ∧ Ow w.heap.size wr v l ∧ Below w.heap.size w wr ∧ Hid (uv n = l ++ uv m)) (fun u _ _ => (intOf u).toNat)
  case atStart => exact ⟨n, [], h1, rfl, Ow.nil _ _, Below.refl _ _, Lib.hid rfl⟩
  case round =>
    obtain ⟨m, l, hm, rfl, ho, hb, hI⟩ := hrel
    have hll := uv_pre_len HN.out hI.out
    have hbs := hb.size
    clear h1
    by_cases h : m < 128
    · have E := Lib.hid (uv_snoc_small hI.out h)
      have e : (UInt8.ofNat m).toNat = m := of_toNat (by omega)
      go_wp2_with (at_builtin; refine wpList_push rfl (.tmp 14) (.tmp 17) rfl w.heap.size u3 l (UInt8.ofNat m) _ 1 rfl rfl (ho.other (one _ _)) (by rw [e]; simp) (by omega) (by simp; omega) ?_; intro v' w' ho' hg'; have hs' := ho'.str (by simp))
      go_ret
      refine ⟨congrArg (fun l => Ending.returned (.string (bs l))) E.out.symm, (hb.alloc hbs _).grown hg' (by simp; omega) ?_⟩
      intro k hk
      exact (ho.lt k hk).1
    · have E := Lib.hid (uv_snoc_big hI.out h)
      obtain ⟨d, hd⟩ : ∃ d, 128 + m % 128 = d := ⟨_, rfl⟩
      obtain ⟨q, hq⟩ : ∃ q, m / 128 = q := ⟨_, rfl⟩
      have e : (UInt8.ofNat d).toNat = d := of_toNat (by omega)
      have k1 := or128 m
      rw [hd] at k1 E
      rw [hq] at E
      have k2 : (m : Int) / 128 = (q : Int) := by omega
      have hql : q < m := by omega
      clear hd hq hI
      go_wp2_with (at_builtin; refine wpList_push rfl (.tmp 6) (.tmp 10) rfl w.heap.size u3 l (UInt8.ofNat d) _ 1 rfl rfl (ho.other (one _ _)) (by rw [e]; simp) (by omega) (by simp; omega) ?_; intro v' w' ho' hg')
      go_roundw
      case rel => exact ⟨q, _, by omega, rfl, ho', (hb.alloc hbs _).grown hg' (by simp; omega) (fun k hk => (ho.lt k hk).1), E⟩
      case measure => simp [intOf]; omega
set_option maxRecDepth 100000 in
set_option maxHeartbeats 1000000 in
theorem refUint_any (n : Nat) (w : World)  (h1 : n ≤ 18446744073709551615) :
    Calls Tryd.prog 75 #[.int .u64 (n : Int)] w (Ib (.string (bs (uv n))) w) := by
  have hn0 : (⟨#[]⟩ : ByteArray) = bs [] := rfl
  go_enter Tryd.func75, Tryd.ntmps75
  go_wp2_with fail
  clear hn0
  have HN := Lib.hid h1
  go_loopw [0, 3] (fun u v wr => ∃ (m : Nat) (l : List UInt8), m ≤ 18446744073709551615 ∧ u = .int .u64 (m : Int) ∧ v = .string (bs l) ∧ Below w.heap.size w wr ∧ Hid (uv n = l ++ uv m)) (fun u _ _ => (intOf u).toNat)
  case atStart => exact ⟨n, [], h1, rfl, rfl, Below.refl _ _, Lib.hid rfl⟩
  case round =>
    obtain ⟨m, l, hm, rfl, rfl, hb, hI⟩ := hrel
    have hll := uv_pre_len HN.out hI.out
    have hbs := hb.size
    have hsz : (bs l).size ≤ 9 := hll
    clear h1
    by_cases h : m < 128
    · have E := Lib.hid (uv_snoc_small hI.out h)
      have k1 := str1 wr m (by omega)
      have k2 : bs l ++ bs [UInt8.ofNat m] = bs (l ++ [UInt8.ofNat m]) := bs_append _ _
      have k3 : (bs [UInt8.ofNat m]).size = 1 := rfl
      go_wp2_with fail
      go_ret
      exact ⟨congrArg (fun l => Ending.returned (.string l)) (k2.trans (congrArg bs E.out.symm)), hb.alloc hbs _⟩
    · have E := Lib.hid (uv_snoc_big hI.out h)
      obtain ⟨d, hd⟩ : ∃ d, 128 + m % 128 = d := ⟨_, rfl⟩
      obtain ⟨q, hq⟩ : ∃ q, m / 128 = q := ⟨_, rfl⟩
      rw [hd] at E
      rw [hq] at E
      have k0 : (128 : Int) + (m : Int) % 128 = (d : Int) := by omega
      have k2 : (m : Int) / 128 = (q : Int) := by omega
      have hql : q < m := by omega
      have hd2 : d < 256 := by omega
      have k1 := str1 wr d hd2
      have k4 : IntKind.u8.wrap (d : Int) = (d : Int) := by rw [IntKind.wrap_u8']; omega
      have k3 : (bs [UInt8.ofNat d]).size = 1 := rfl
      clear hd hq hI
      go_wp2_with fail
      go_roundw
      case rel => exact ⟨q, _, by omega, rfl, congrArg Value.string (bs_append _ _), hb.alloc hbs _, E⟩
      case measure => simp [intOf]; omega
/-- The zigzag number. -/
def zz (n : Int) : Nat := if n < 0 then (-2 * n - 1).toNat else (2 * n).toNat
theorem zz_le {n : Int} (h1 : -9223372036854775808 ≤ n) (h2 : n ≤ 9223372036854775807) : zz n ≤ 18446744073709551615 := by unfold zz; split <;> omega
theorem xor_ones (x : Nat) (h : x < 18446744073709551616) : x ^^^ 18446744073709551615 = 18446744073709551615 - x := by
  have e : (BitVec.ofNat 64 x ^^^ BitVec.allOnes 64).toNat = (~~~ BitVec.ofNat 64 x).toNat := by rw [BitVec.xor_allOnes]
  rw [BitVec.toNat_xor, BitVec.toNat_not, BitVec.toNat_ofNat, BitVec.toNat_allOnes, Nat.mod_eq_of_lt h] at e
  exact e
theorem zig_bits (n : Int) (h1 : -9223372036854775808 ≤ n) (h2 : n ≤ 9223372036854775807) :
    bits BinOp.xor IntKind.u64 (IntKind.u64.wrap (IntKind.u64.wrap n * 2)) (IntKind.u64.wrap (n / 9223372036854775808)) = (zz n : Int) := by
  unfold zz
  by_cases h : n < 0
  · rw [if_pos h, show n / 9223372036854775808 = -1 by omega, show IntKind.u64.wrap (-1) = ((18446744073709551615 : Nat) : Int) by rfl]
    rw [show IntKind.u64.wrap (IntKind.u64.wrap n * 2) = (((2 * n + 18446744073709551616).toNat : Nat) : Int) by simp only [IntKind.wrap_u64]; omega]
    rw [u64_xor_nat _ _ (by omega) (by omega), xor_ones _ (by omega)]
    omega
  · rw [if_neg h, show n / 9223372036854775808 = 0 by omega, show IntKind.u64.wrap 0 = ((0 : Nat) : Int) by rfl]
    rw [show IntKind.u64.wrap (IntKind.u64.wrap n * 2) = (((2 * n).toNat : Nat) : Int) by simp only [IntKind.wrap_u64]; omega]
    rw [u64_xor_nat _ _ (by omega) (by omega), Nat.xor_zero]
/-- The integer with a zigzag number. -/
def uz (n : Nat) : Int := if n % 2 = 1 then -1 - (n / 2 : Nat) else (n / 2 : Nat)
theorem uz_zz (n : Int) : uz (zz n) = n := by unfold uz zz; split <;> split <;> omega
theorem zz_uz (n : Nat) : zz (uz n) = n := by unfold uz zz; split <;> split <;> omega
/-- The bytes of a string with its length in front. -/
def tv (l : List UInt8) : List UInt8 := uv l.length ++ l
set_option maxRecDepth 100000 in
theorem textW_any (l : List UInt8) (w : World) (h : l.length ≤ 100000) :
    Calls Tryd.prog 31 #[.string (bs l)] w (Ib (.string (bs (tv l))) w) := by
  have c2 := fun w => uint_any l.length w (by omega)
  have k1 : bs (uv l.length) ++ bs l = bs (tv l) := bs_append _ _
  have k2 : (bs (uv l.length)).size ≤ 10 := uv_len10 (by omega)
  have k3 : (bs l).size = l.length := rfl
  go_enter Tryd.func31, Tryd.ntmps31
  go_wp2_with fail
  refine (c2 _).mono ?_
  rintro e w' ⟨rfl, hb⟩
  go_wp2_with fail
  go_ret
  exact ⟨rfl, hb⟩
set_option maxRecDepth 100000 in
theorem refText_any (l : List UInt8) (w : World) (h : l.length ≤ 100000) :
    Calls Tryd.prog 42 #[.string (bs l)] w (Ib (.string (bs (tv l))) w) := by
  have c2 := fun w => refUint_any l.length w (by omega)
  have k1 : bs (uv l.length) ++ bs l = bs (tv l) := bs_append _ _
  have k2 : (bs (uv l.length)).size ≤ 10 := uv_len10 (by omega)
  have k3 : (bs l).size = l.length := rfl
  go_enter Tryd.func42, Tryd.ntmps42
  go_wp2_with fail
  refine (c2 _).mono ?_
  rintro e w' ⟨rfl, hb⟩
  go_wp2_with fail
  go_ret
  exact ⟨rfl, hb⟩
end Go.Proofs.YtcjaaijohapeaaaDoor

/-
  The encoding of a packet: Encode. No conditions beyond those that each names.
-/
import Derived.Test.YtcjaaijohapeaaaDoorK12
import Derived.Test.YtcjaaijohapeaaaDoorK06
namespace Go.Proofs.YtcjaaijohapeaaaDoor
open Go.RowKit Go.Sort Go.Lib Go.Shelf
/-- The encodings of numbers. -/
def nb (p : Pc) (l : List Nr) : List UInt8 := l.flatMap fun x => uv (p.num x.off).toNat
def mb (l : List Int) : List UInt8 := l.flatMap fun n => uv n.toNat
/-- The encoding of a packet. -/
def enc (p : Pc) : List UInt8 := (uv p.kind.toNat ++ nb p (nrs p.kind)) ++ ((if (p.kind == 3) = true then uv p.mis.length ++ mb p.mis else []) ++ (if (p.kind == 1 || p.kind == 5) = true then tv p.pay else []))
theorem Mis.at_ {w : World} {A : Option Addr} {n c : Nat} {l : List Int} (h : Mis w (.slice A n c) l) (i : Nat) (hi : i < l.length) : ∃ ab ao, A = some ⟨ab, ao, none⟩ ∧ ab < w.heap.size ∧ w.cell? ⟨ab, ao + i, none⟩ = some (.int .i64 (l[i]'hi)) := by
  obtain ⟨A', c', e, h⟩ := h
  injection e with e1 _ _
  subst e1
  rcases h with h | ⟨ab, ao, rfl, h1, h2⟩
  · rw [h] at hi; cases hi
  · exact ⟨ab, ao, rfl, h1, h2 i hi⟩
theorem nb_snoc (p : Pc) (l : List Nr) (x : Nr) : nb p (l ++ [x]) = nb p l ++ uv (p.num x.off).toNat := by simp [nb]
theorem mb_snoc (l : List Int) (n : Int) : mb (l ++ [n]) = mb l ++ uv n.toNat := by simp [mb]
theorem own_oth {w w' : World} {B b : Nat} {e : TypeId} {z n : Nat} {v : Value} {xs : List Value} (h : w.ownsRow B e z v n xs) (he : e ≠ 5) (k : Lib.OthersKept 5 (some b) w w') (hb : b < B) : w'.ownsRow B e z v n xs := by
  refine ⟨h.1, h.2.imp id ?_⟩
  rintro ⟨g, cap, cur, rfl, h2, h3, h4⟩
  exact ⟨g, cap, cur, rfl, h2, k g _ h3 (by intro e; injection e with e; omega) (fun c fz e2 => by injection e2 with _ e3; exact he e3), h4⟩
theorem Bd.next {B b : Nat} {l : List UInt8} {w w' : World} (h : Bd B b l w) (hb : Below w.heap.size w w') : Bd B b l w' := by
  refine h.imp ?_ ?_ <;> (rintro ⟨h1, v, h2, h3, h4⟩; exact ⟨h1, v, (hb.block b (Array.getElem?_eq_some_iff.1 h2).1).trans h2, own_next h3 hb, h4⟩)
theorem Bd.lt {B b : Nat} {l : List UInt8} {w : World} (h : Bd B b l w) : b < w.heap.size := by
  rcases h with ⟨_, v, h2, _⟩ | ⟨_, v, h2, _⟩ <;> exact (Array.getElem?_eq_some_iff.1 h2).1
/-- In the midst of an encoding: what is written; the packet's box. -/
structure EI (p : Pc) (mv : Value) (b : Nat) (w wr : World) (l : List UInt8) : Prop where
  bl : Below w.heap.size w wr
  bx : Bx wr w.heap.size (p.cells mv)
  bd : Bd b b l wr
  lo : w.heap.size < b
theorem EI.next {p : Pc} {mv : Value} {b : Nat} {w wr w2 : World} {l : List UInt8} (h : EI p mv b w wr l) (hb : Below wr.heap.size wr w2) : EI p mv b w w2 l := ⟨Below.next h.bl hb, h.bx.next hb, h.bd.next hb, h.lo⟩
theorem EI.ws {p : Pc} {mv : Value} {b : Nat} {w wr w2 : World} {l m : List UInt8} (h : EI p mv b w wr l) (hd : Bd b b m w2) (hb : Below b wr w2) : EI p mv b w w2 m := by
  have hl := h.lo
  refine ⟨h.bl.trans (hb.mono (Nat.le_of_lt hl)), ⟨Nat.lt_of_lt_of_le h.bx.lt hb.size, fun j v e => ?_⟩, hd, hl⟩
  exact ⟨(hb.cell (p := ⟨w.heap.size, j, none⟩) hl).trans (h.bx.at_ j v e).1, (hb.frozen (p := ⟨w.heap.size, j, none⟩) hl).trans (h.bx.at_ j v e).2⟩
/-- The writing of a string. -/
theorem EI.wr {p : Pc} {mv : Value} {b : Nat} {w wr : World} {l s : List UInt8} (h : EI p mv b w wr l) (h1 : l.length ≤ 1000000000) (h2 : s.length ≤ 1000000000) :
    Calls Tryd.prog 26 #[.pointer (some ⟨b, 0, none⟩), .string (bs s)] wr (fun e w2 => e = .returned (.tuple #[.int .i64 (s.length : Int), .nilIface]) ∧ Hid (EI p mv b w w2 (l ++ s)) ∧ Lib.OthersKept 5 (some b) wr w2) := by
  refine (wstr_any b b l s wr h.bd (by omega) (Nat.le_of_lt h.bd.lt)).mono ?_
  rintro e w2 ⟨rfl, k1, k2, k3⟩
  exact ⟨rfl, Lib.hid (h.ws k1 k2), k3⟩
theorem nb_len (p : Pc) (l : List Nr) (h : ∀ x ∈ l, inB (p.num x.off) x.lo x.hi = true) (hhi : ∀ x ∈ l, x.hi ≤ 1099511627776) : (nb p l).length ≤ 10 * l.length := by
  induction l with
  | nil => exact Nat.le_refl _
  | cons x l ih =>
    have := ih (fun y hy => h y (List.mem_cons_of_mem _ hy)) (fun y hy => hhi y (List.mem_cons_of_mem _ hy))
    have h1 : x.lo ≤ p.num x.off ∧ p.num x.off ≤ x.hi := of_decide_eq_true (h x (List.mem_cons_self ..))
    have h2 := hhi x (List.mem_cons_self ..)
    have h3 := uv_len10 (n := (p.num x.off).toNat) (by omega)
    have e : nb p (x :: l) = uv (p.num x.off).toNat ++ nb p l := rfl
    rw [e, List.length_append, List.length_cons]
    omega
theorem nrs_rng (k : Int) : ∀ x ∈ nrs k, 0 ≤ x.lo ∧ x.hi ≤ 1099511627776 := by
  intro x hx
  have hl : 0 ≤ lid k := by unfold lid; split <;> decide
  unfold nrs nrB nrS nrF at hx
  simp only [List.mem_append, List.mem_cons, List.not_mem_nil, or_false] at hx
  rcases hx with ((h | h) | h) | h
  · rcases h with rfl | rfl | rfl | rfl
    · exact ⟨by decide, by decide⟩
    · exact ⟨by decide, by decide⟩
    · exact ⟨hl, (by decide : (1073741824 : Int) ≤ 1099511627776)⟩
    · exact ⟨hl, (by decide : (1073741824 : Int) ≤ 1099511627776)⟩
  · split at h
    · simp at h; subst h; decide
    · split at h
      · simp at h; subst h; decide
      · split at h
        · simp at h; subst h; decide
        · simp at h
  · split at h
    · simp at h; rcases h with rfl | rfl <;> decide
    · simp at h
  · subst h; decide
/-- What a valid packet is. -/
theorem chk_ok {p : Pc} (h : chk p = 0) : (1 ≤ p.kind ∧ p.kind ≤ 5) ∧ (∀ x ∈ nrs p.kind, inB (p.num x.off) x.lo x.hi = true) ∧ p.pay.length ≤ 2000 ∧ p.mis.length ≤ 32 ∧ ozB p = true ∧ ascB p.fi p.la p.mis = true := by
  unfold chk at h
  by_cases h1 : inB p.kind 1 5 = true
  · rw [if_pos h1] at h
    by_cases h2 : rgB p (nrs p.kind) = true
    · rw [if_pos h2] at h
      by_cases h3 : (decide (2000 < p.pay.length) || decide (32 < p.mis.length)) = true
      · rw [if_pos h3] at h; cases h
      · rw [if_neg h3] at h
        by_cases h4 : (ozB p && ascB p.fi p.la p.mis) = true
        · rw [Bool.or_eq_true, not_or, decide_eq_true_iff, decide_eq_true_iff] at h3
          rw [Bool.and_eq_true] at h4
          exact ⟨of_decide_eq_true h1, fun x hx => (List.all_eq_true.1 h2) x hx, by omega, by omega, h4.1, h4.2⟩
        · rw [if_neg h4] at h; cases h
    · rw [if_neg h2] at h; cases h
  · rw [if_neg h1] at h; cases h
theorem asc_rng {hi : Int} : ∀ (l : List Int) (lo : Int), ascB lo hi l = true → ∀ x ∈ l, lo ≤ x ∧ x ≤ hi := by
  intro l
  induction l with
  | nil => intro lo _ x hx; cases hx
  | cons y l ih =>
    intro lo h x hx
    rw [ascB_cons, Bool.and_eq_true] at h
    have h1 : lo ≤ y ∧ y ≤ hi := of_decide_eq_true h.1
    rcases List.mem_cons.1 hx with rfl | hx
    · exact h1
    · have := ih _ h.2 x hx; omega
theorem mb_len (l : List Int) (h : ∀ x ∈ l, 0 ≤ x ∧ x ≤ 1099511627776) : (mb l).length ≤ 10 * l.length := by
  induction l with
  | nil => exact Nat.le_refl _
  | cons x l ih =>
    have := ih (fun y hy => h y (List.mem_cons_of_mem _ hy))
    have h1 := h x (List.mem_cons_self ..)
    have h3 := uv_len10 (n := x.toNat) (by omega)
    have e : mb (x :: l) = uv x.toNat ++ mb l := rfl
    rw [e, List.length_append, List.length_cons]
    omega
end Go.Proofs.YtcjaaijohapeaaaDoor
/-
  Encode. No conditions beyond those that each names.
-/
namespace Go.Proofs.YtcjaaijohapeaaaDoor
open Go.RowKit Go.Sort Go.Lib Go.Shelf
/-- What Encode returns. -/
def encP (p : Pc) : List UInt8 × Int := if chk p = 0 then (enc p, 0) else ([], chk p)
set_option maxRecDepth 100000 in
set_option maxHeartbeats 8000000 in
theorem encode_any (p : Pc) (mv : Value) (w : World) (hm : Mis w mv p.mis) (hml : p.mis.length ≤ 1000000) (hpl : p.pay.length ≤ 1000000) :
    Calls Tryd.prog 9 #[p.val mv] w (Ib (.tuple #[.string (bs (encP p).1), .int .i64 (encP p).2]) w) := by
  obtain ⟨A, c, rfl, hA⟩ := hm
  have hM : Mis w (.slice A p.mis.length c) p.mis := ⟨A, c, rfl, hA⟩
  have cC := fun W (hb : Below w.heap.size w W) => check_any p _ W (hM.next hb) hml hpl
  obtain ⟨n, hn⟩ : ∃ n, p.mis.length = n := ⟨_, rfl⟩
  have B0 := Bx.newP w 25 p (.slice A p.mis.length c)
  have hb0 := ab1 w (Obj.cells #[.int .i64 p.kind, .int .i64 p.fr, .int .i64 p.to_, .int .i64 p.wr, .int .i64 p.rd, .int .i64 p.sq, .int .i64 p.fi, .int .i64 p.la, .int .i64 p.at_, .slice A p.mis.length c, .string (bs p.pay)] 25)
  have cC0 : Calls Tryd.prog 25 #[.agg #[.int .i64 p.kind, .int .i64 p.fr, .int .i64 p.to_, .int .i64 p.wr, .int .i64 p.rd, .int .i64 p.sq, .int .i64 p.fi, .int .i64 p.la, .int .i64 p.at_, .slice A p.mis.length c, .string (bs p.pay)]] _ _ := cC _ hb0
  rw [hn] at hM B0 hb0 cC0 ⊢
  have HN := Lib.hid hn
  have HM0 := Lib.hid hM
  clear hM hA cC hn
  show Calls _ _ #[.agg #[.int .i64 p.kind, .int .i64 p.fr, .int .i64 p.to_, .int .i64 p.wr, .int .i64 p.rd, .int .i64 p.sq, .int .i64 p.fi, .int .i64 p.la, .int .i64 p.at_, .slice A n c, .string (bs p.pay)]] w _
  by_cases hc : chk p = 0
  · have HK := Lib.hid (chk_ok hc)
    have HR : Hid (encP p = (enc p, 0)) := Lib.hid (if_pos hc)
    have HFL := Lib.hid (rg_la p (List.all_eq_true.2 (fun x hx => HK.out.2.1 x hx)) HK.out.2.2.2.2.1 (decide_eq_true HK.out.1))
    rw [HR.out]
    rw [hc] at cC0
    have HCC := Lib.hid cC0
    have cU0 := fun W => uint_any p.kind.toNat W (by have := HK.out.1; omega)
    have hw0 : IntKind.u64.wrap p.kind = ((p.kind.toNat : Nat) : Int) := by have := HK.out.1; rw [IntKind.wrap_u64]; omega
    have HU0 : Hid ((uv p.kind.toNat).length ≤ 1000000000) := Lib.hid (by have := uv_len10 (n := p.kind.toNat) (by have := HK.out.1; omega); omega)
    have HKN : Hid (enc p = (uv p.kind.toNat ++ nb p (nrs p.kind)) ++ ((if (p.kind == 3) = true then uv p.mis.length ++ mb p.mis else []) ++ (if (p.kind == 1 || p.kind == 5) = true then tv p.pay else []))) := Lib.hid rfl
    generalize p.kind.toNat = kn at *
    have D0 : Hid (∀ w9, Below w.heap.size w w9 → Bx w9 w.heap.size (p.cells (.slice A n c)) → EI p (.slice A n c) w9.heap.size w (w9.alloc (Obj.cells #[.pointer none, .slice none 0 0] 70)) []) := Lib.hid fun w9 h1 h2 => ⟨h1.alloc h1.size _, h2.next (ab1 _ _), Bd.fresh w9, h2.lt⟩
    clear hc cC0
    go_enter Tryd.func9, Tryd.ntmps9
    go_wp2_with (first
      | (go_at_call 25; refine HCC.out.mono ?_; rintro e w9 ⟨rfl, hb9⟩; have B9 := B0.next hb9; have l9 := B9.lt; have k0 := B9.c 0 rfl; have E0 := Lib.hid (D0.out _ (Below.next hb0 hb9) B9))
      | (go_at_call 27; refine (cU0 _).mono ?_; clear cU0; rintro e w8 ⟨rfl, hb8⟩; have E1 := Lib.hid (E0.out.next hb8))
      | (go_at_call 26; refine (E1.out.wr (Nat.zero_le _) HU0.out).mono ?_; clear E0 E1 k0 l9 B9 B0; rintro e w7 ⟨rfl, E2, -⟩; have cN := Lib.hid (numbers_any w.heap.size p.kind w7 (E2.out.bx.c 0 rfl)))
      | (go_at_call 28; refine cN.out.mono ?_; rintro e w6 ⟨hb6, A1, c1, rfl, ho⟩; have E3 := Lib.hid (E2.out.next hb6)))
    have hb2 := E2.out.bd.lt
    have ho2 : OwN w.heap.size (w9.heap.size + 1) w6 (.slice A1 (nrs p.kind).length c1) (nrs p.kind) := own_mono ho hb2
    have HOF := Lib.hid (nrs_off p.kind)
    have HRG := Lib.hid (nrs_rng p.kind)
    have HIN := Lib.hid HK.out.2.1
    have hle := nrs_len p.kind
    generalize w9.heap.size = b at *
    generalize nrs p.kind = L at *
    obtain ⟨m, hm⟩ : ∃ m, L.length = m := ⟨_, rfl⟩
    rw [hm] at ho2 hle ⊢
    have HM := Lib.hid hm
    have HO := Lib.hid ho2
    clear ho ho2 hm E2 cN hb6 hb8 hb9 D0 HCC hb0 hb2
    go_loopg [22] m (fun kx s22 wr => ∃ i : Nat, s22 = .int .i64 (i : Int) ∧ i ≤ m ∧ m - i ≤ kx ∧ Hid (EI p (.slice A n c) b w wr (uv kn ++ nb p (L.take i)) ∧ OwN w.heap.size (b + 1) wr (.slice A1 m c1) L))
    case atStart => exact ⟨0, rfl, Nat.zero_le _, Nat.le_refl _, Lib.hid ⟨by have := E3.out; simpa [nb] using this, HO.out⟩⟩
    case round =>
      obtain ⟨i, rfl, hin, hkx, HI⟩ := hrel
      by_cases hi : i < m
      · have di : decide (i < m) = true := decide_eq_true hi
        have hil : i < L.length := by rw [HM.out]; exact hi
        obtain ⟨g, rfl, hgB, hgl⟩ := OwN.pos HI.out.2 (by omega) HM.out
        have cx := fun j v hv => OwN.cell HI.out.2 HM.out i hil j v hv
        have x0 := cx 0 _ rfl
        have x1 := cx 1 _ rfl
        have x2 := cx 2 _ rfl
        have hme := List.getElem_mem hil
        have hof := HOF.out _ hme
        have hrg := HRG.out _ hme
        have hxi : _ ≤ _ ∧ _ ≤ _ := of_decide_eq_true (HIN.out _ hme)
        have HS : Hid (L.take (i + 1) = L.take i ++ [L[i]'hil]) := Lib.hid (by rw [List.take_succ_eq_append_getElem hil])
        have hln := nb_len p (L.take i) (fun y hy => HIN.out y (List.mem_of_mem_take hy)) (fun y hy => (HRG.out y (List.mem_of_mem_take hy)).2)
        have hlt : (L.take i).length ≤ 20 := by rw [List.length_take]; omega
        have hun := uv_len10 (n := kn) (by have := HU0.out; have := HK.out.1; rw [IntKind.wrap_u64] at hw0; omega)
        have HLN : Hid ((uv kn ++ nb p (L.take i)).length ≤ 1000000000) := Lib.hid (by rw [List.length_append]; omega)
        obtain ⟨⟨of, lo, up⟩, hx⟩ : ∃ x, L[i]'hil = x := ⟨_, rfl⟩
        rw [hx] at x0 x1 x2 hof HS hrg hxi
        simp only [Nat.add_zero] at x0 x1 x2
        have y0 := HI.out.1.bx.c of (cells_num _ _ hof)
        have hwl := HI.out.1.bx.lt
        have hi1 : i + 1 ≤ m := by omega
        have hw1 : IntKind.u64.wrap (p.num of) = (((p.num of).toNat : Nat) : Int) := by rw [IntKind.wrap_u64]; simp only at hrg hxi; omega
        have hx9 : (p.num of).toNat ≤ 18446744073709551615 := by simp only at hrg hxi; omega
        have HX : Hid (nb p (L.take (i + 1)) = nb p (L.take i) ++ uv (p.num of).toNat) := Lib.hid (by rw [HS.out, nb_snoc])
        generalize p.num of = px at *
        have hux := uv_len10 hx9
        have cU := fun W => uint_any px.toNat W hx9
        have HUX : Hid ((uv px.toNat).length ≤ 1000000000) := Lib.hid (by omega)
        generalize px.toNat = xn at *
        have E4 := Lib.hid (HI.out.1.next (ab1 wr (Obj.cells #[.pointer (some ⟨w.heap.size, of, none⟩), .int .i64 lo, .int .i64 up] 82)))
        have O4 := Lib.hid (own_next HI.out.2 (ab1 wr (Obj.cells #[.pointer (some ⟨w.heap.size, of, none⟩), .int .i64 lo, .int .i64 up] 82)))
        clear cx hx hil hof hme hrg hxi hln hlt hun hx9 hux
        go_wp2_with (first
          | (go_at_call 27; refine (cU _).mono ?_; clear cU; rintro e w4 ⟨rfl, hb4⟩; have E5 := Lib.hid (E4.out.next hb4); have O5 := Lib.hid (own_next O4.out hb4))
          | (go_at_call 26; refine (E5.out.wr HLN.out HUX.out).mono ?_; rintro e w5 ⟨rfl, E6, hk6⟩; have O6 := Lib.hid (own_oth O5.out (by decide) hk6 (Nat.lt_succ_self b))))
        go_roundg (m - (i + 1))
        case measure => omega
        case rel => exact ⟨i + 1, rfl, hi1, Nat.le_refl _, Lib.hid ⟨by rw [HX.out, ← List.append_assoc]; exact E6.out, O6.out⟩⟩
      · obtain rfl : i = m := by omega
        have di : decide (i < i) = false := decide_eq_false hi
        have hI := HI.out.1
        rw [List.take_of_length_le (Nat.le_of_eq HM.out)] at hI
        have hln := nb_len p L (fun y hy => HIN.out y hy) (fun y hy => (HRG.out y hy).2)
        rw [HM.out] at hln
        have hun := uv_len10 (n := kn) (by have := HU0.out; have := HK.out.1; rw [IntKind.wrap_u64] at hw0; omega)
        have hbl : (uv kn ++ nb p L).length ≤ 1000 := by rw [List.length_append]; omega
        have HKN2 := HKN
        generalize uv kn ++ nb p L = base at *
        have HBL := Lib.hid hbl
        have E7 := Lib.hid hI
        have k0 := hI.bx.c 0 rfl
        have hpay := HK.out.2.2.1
        have hmis := HK.out.2.2.2.1
        rw [HN.out] at hmis
        clear hI hln hun hbl HKN hi hkx HI HOF HRG HIN
        cases h3 : p.kind == 3
        · cases hP : (p.kind == 1 || p.kind == 5)
          · have HE9 : Hid (enc p = base) := Lib.hid (by rw [HKN2.out, h3, hP]; simp)
            go_wp2_with (first | (go_at_call 29; refine (usesMis_any _ _).mono ?_; rw [h3]; rintro e w8 ⟨rfl, rfl⟩) | (go_at_call 30; refine (usesPay_any _ _).mono ?_; rw [hP]; rintro e w8 ⟨rfl, rfl⟩) | (go_at_call 32; refine (bstr_any b b _ _ E7.out.bd (Nat.le_of_lt E7.out.bd.lt)).mono ?_; rintro e w2 ⟨rfl, hb1⟩))
            go_ret2
            exact ⟨by rw [HE9.out]; rfl, Below.trans E7.out.bl (hb1.mono (Nat.le_of_lt E7.out.lo))⟩
          · have HE9 : Hid (enc p = base ++ tv p.pay) := Lib.hid (by rw [HKN2.out, h3, hP]; simp)
            have k10 := E7.out.bx.c 10 rfl
            have cT := fun W => textW_any p.pay W (by omega)
            have hut := uv_len10 (n := p.pay.length) (by omega)
            have HTL : Hid ((tv p.pay).length ≤ 1000000000) := Lib.hid (by unfold tv; rw [List.length_append]; omega)
            have HBL2 : Hid (base.length ≤ 1000000000) := Lib.hid (by have := HBL.out; omega)
            clear hut
            go_wp2_with (first | (go_at_call 29; refine (usesMis_any _ _).mono ?_; rw [h3]; rintro e w8 ⟨rfl, rfl⟩) | (go_at_call 30; refine (usesPay_any _ _).mono ?_; rw [hP]; rintro e w8 ⟨rfl, rfl⟩) | (go_at_call 31; refine (cT _).mono ?_; clear cT; rintro e w3 ⟨rfl, hb3⟩; have E8 := Lib.hid (E7.out.next hb3)) | (go_at_call 26; refine (E8.out.wr HBL2.out HTL.out).mono ?_; rintro e w4 ⟨rfl, E9, -⟩) | (go_at_call 32; refine (bstr_any b b _ _ E9.out.bd (Nat.le_of_lt E9.out.bd.lt)).mono ?_; rintro e w2 ⟨rfl, hb1⟩))
            go_ret2
            exact ⟨by rw [HE9.out]; rfl, Below.trans E9.out.bl (hb1.mono (Nat.le_of_lt E9.out.lo))⟩
        · have hk3 : p.kind = 3 := by simpa using h3
          have hP : (p.kind == 1 || p.kind == 5) = false := by rw [hk3]; rfl
          have HE9 : Hid (enc p = (base ++ uv n) ++ mb p.mis) := Lib.hid (by rw [HKN2.out, h3, hP, HN.out]; simp)
          have HAS := Lib.hid HK.out.2.2.2.2.2
          have k9 := E7.out.bx.c 9 rfl
          have cU := fun W => uint_any n W (by omega)
          have hwn : IntKind.u64.wrap (n : Int) = (n : Int) := by rw [IntKind.wrap_u64]; omega
          have hut := uv_len10 (n := n) (by omega)
          have HTL : Hid ((uv n).length ≤ 1000000000) := Lib.hid (by omega)
          have HBL2 : Hid (base.length ≤ 1000000000) := Lib.hid (by have := HBL.out; omega)
          have HBL3 : Hid ((base ++ uv n).length ≤ 2000) := Lib.hid (by have := HBL.out; rw [List.length_append]; omega)
          clear hut hk3
          go_wp2_with (first | (go_at_call 29; refine (usesMis_any _ _).mono ?_; rw [h3]; rintro e w8 ⟨rfl, rfl⟩) | (go_at_call 30; refine (usesPay_any _ _).mono ?_; rw [hP]; rintro e w8 ⟨rfl, rfl⟩) | (go_at_call 27; refine (cU _).mono ?_; clear cU; rintro e w3 ⟨rfl, hb3⟩; have E8 := Lib.hid (E7.out.next hb3)) | (go_at_call 26; refine (E8.out.wr HBL2.out HTL.out).mono ?_; clear k0 k9; rintro e w4 ⟨rfl, E9, -⟩; have k9 := E9.out.bx.c 9 rfl))
          generalize base ++ uv n = base2 at *
          clear E7 E8
          go_loopg [46] n (fun kx s46 wr => ∃ i : Nat, s46 = .int .i64 (i : Int) ∧ i ≤ n ∧ n - i ≤ kx ∧ Hid (EI p (.slice A n c) b w wr (base2 ++ mb (p.mis.take i))))
          case atStart => exact ⟨0, rfl, Nat.zero_le _, Nat.le_refl _, Lib.hid (by have := E9.out; simpa [mb] using this)⟩
          case round =>
            obtain ⟨i, rfl, hin, hkx, HI⟩ := hrel
            by_cases hi : i < n
            · have di : decide (i < n) = true := decide_eq_true hi
              have hil : i < p.mis.length := by rw [HN.out]; exact hi
              obtain ⟨ab, ao, rfl, hab, ci⟩ := (HM0.out.next HI.out.bl).at_ i hil
              have hrg := asc_rng p.mis p.fi HAS.out _ (List.getElem_mem hil)
              have hfl := HFL.out
              have HS : Hid (p.mis.take (i + 1) = p.mis.take i ++ [p.mis[i]'hil]) := Lib.hid (by rw [List.take_succ_eq_append_getElem hil])
              have hlm := mb_len (p.mis.take i) (fun y hy => by have := asc_rng p.mis p.fi HAS.out y (List.mem_of_mem_take hy); omega)
              have hlt : (p.mis.take i).length ≤ 32 := by rw [List.length_take]; omega
              have HLN : Hid ((base2 ++ mb (p.mis.take i)).length ≤ 1000000000) := Lib.hid (by have := HBL3.out; rw [List.length_append]; omega)
              have hi1 : i + 1 ≤ n := by omega
              generalize p.mis[i]'hil = x at *
              have hw1 : IntKind.u64.wrap x = ((x.toNat : Nat) : Int) := by rw [IntKind.wrap_u64]; omega
              have hx9 : x.toNat ≤ 18446744073709551615 := by omega
              have HX : Hid (mb (p.mis.take (i + 1)) = mb (p.mis.take i) ++ uv x.toNat) := Lib.hid (by rw [HS.out, mb_snoc])
              have hux := uv_len10 hx9
              have cU2 := fun W => uint_any x.toNat W hx9
              have HUX : Hid ((uv x.toNat).length ≤ 1000000000) := Lib.hid (by omega)
              generalize x.toNat = xn at *
              clear hil hrg hfl hlm hlt hx9 hux
              go_wp2_with (first
                | (go_at_call 27; refine (cU2 _).mono ?_; clear cU2; rintro e w5 ⟨rfl, hb5⟩; have E10 := Lib.hid (HI.out.next hb5))
                | (go_at_call 26; refine (E10.out.wr HLN.out HUX.out).mono ?_; rintro e w6 ⟨rfl, E11, hk6⟩))
              go_roundg (n - (i + 1))
              case measure => omega
              case rel => exact ⟨i + 1, rfl, hi1, Nat.le_refl _, Lib.hid (by rw [HX.out, ← List.append_assoc]; exact E11.out)⟩
            · obtain rfl : i = n := by omega
              have di : decide (i < i) = false := decide_eq_false hi
              have hI := HI.out
              rw [List.take_of_length_le (Nat.le_of_eq HN.out)] at hI
              have k0 := hI.bx.c 0 rfl
              have E12 := Lib.hid hI
              clear hI hi hkx HI
              go_wp2_with (first | (go_at_call 30; refine (usesPay_any _ _).mono ?_; rw [hP]; rintro e w8 ⟨rfl, rfl⟩) | (go_at_call 32; refine (bstr_any b b _ _ E12.out.bd (Nat.le_of_lt E12.out.bd.lt)).mono ?_; rintro e w2 ⟨rfl, hb1⟩))
              go_ret2
              exact ⟨by rw [HE9.out]; rfl, Below.trans E12.out.bl (hb1.mono (Nat.le_of_lt E12.out.lo))⟩
  · have HR : Hid ((encP p).1 = [] ∧ (encP p).2 = chk p) := Lib.hid (by unfold encP; rw [if_neg hc]; exact ⟨rfl, rfl⟩)
    have hne : (chk p != 0) = true := bne_iff_ne.2 hc
    rw [HR.out.1, HR.out.2]
    generalize chk p = e0 at *
    have HCC := Lib.hid cC0
    clear hc cC0
    go_enter Tryd.func9, Tryd.ntmps9
    go_wp2_with (go_at_call 25; refine HCC.out.mono ?_; rintro e w9 ⟨rfl, hb9⟩)
    go_ret2
    exact ⟨rfl, Below.next hb0 hb9⟩
end Go.Proofs.YtcjaaijohapeaaaDoor

/-
  The reference's ranged for every permitted type; numbers that an int64 can be. No conditions beyond those that each names.
-/
import Derived.Test.YtlebppjldoodgaaM15
import Derived.Test.YtlebppjldoodgaaM19
namespace Go.Proofs.Ytlebppjldoodgaa
open Go.RowKit
/-- The numbers of a value are int64s. -/
def vrk : Vl → Prop
  | .mk _ n _ l f => (-9223372036854775808 ≤ n ∧ n ≤ 9223372036854775807) ∧ vrks l ∧ frks f
where
  vrks : List Vl → Prop
  | [] => True
  | t :: ts => vrk t ∧ vrks ts
  frks : List (Int × Vl) → Prop
  | [] => True
  | (_, v) :: ts => vrk v ∧ frks ts
theorem vrks_iff : ∀ {l : List Vl}, vrk.vrks l ↔ ∀ x ∈ l, vrk x
  | [] => by rw [vrk.vrks]; simp
  | t :: ts => by rw [vrk.vrks, vrks_iff (l := ts)]; simp
theorem frks_iff : ∀ {l : List (Int × Vl)}, vrk.frks l ↔ ∀ x ∈ l, vrk x.2
  | [] => by rw [vrk.frks]; simp
  | (n, t) :: ts => by rw [vrk.frks, frks_iff (l := ts)]; simp
theorem vrk_iff {t : Vl} : vrk t ↔ (-9223372036854775808 ≤ t.n ∧ t.n ≤ 9223372036854775807) ∧ (∀ x ∈ t.l, vrk x) ∧ ∀ x ∈ t.f, vrk x.2 := by
  obtain ⟨k, n, s, l, f⟩ := t
  rw [vrk, vrks_iff, frks_iff]
  rfl
theorem right_zero {S : Sch} {k s : Int} {nm : List UInt8} {e : List Ty} (h : right S (.mk k s nm e) = true) (hk : k = 1 ∨ k = 6 ∨ k = 7) : s = 0 := by
  rw [right_eq] at h
  rcases hk with rfl | rfl | rfl <;> simp [szOk] at h <;> omega
theorem few_en {S : Sch} (h : Few9 S) (nm : List UInt8) : ((fst_ En.name S.enums nm).getD en0).nums.length ≤ 1000 := by
  cases e : fst_ En.name S.enums nm with
  | none => decide
  | some x => exact (h.en _ (fst_mem e).1).2
set_option maxRecDepth 100000 in
theorem ranged_all (S : Sch) (A : Option Addr) (c : Nat) (A2 : Option Addr) (c2 : Nat) (k s : Int) (nm : List UInt8) (e : List Ty) (G : Option Addr) (g1 g2 : Nat) (q n : Int) (st : List UInt8) (B1 : Option Addr) (b1 b2 : Nat) (B3 : Option Addr) (b3 b4 : Nat) (w : World)
    (hr : right S (.mk k s nm e) = true) (hf : Few9 S) (hS : Sc w S A A2) (hn : -9223372036854775808 ≤ n ∧ n ≤ 9223372036854775807) :
    Calls Try.prog 62 #[.agg #[.int .i64 S.ver, .slice A S.enums.length c, .slice A2 S.structs.length c2], .agg #[.int .i64 k, .int .i64 s, .string (bs nm), .slice G g1 g2], .agg #[.int .i64 q, .int .i64 n, .string (bs st), .slice B1 b1 b2, .slice B3 b3 b4]] w (Ib (.bool (rgd S (.mk k s nm e) n)) w) := by
  by_cases k1 : k = 1
  · subst k1
    have h := ranged1_any S A c A2 c2 s nm G g1 g2 q n st B1 b1 b2 B3 b3 b4 w
    rwa [show rgd S (.mk 1 s nm e) n = decide (n = 0 ∨ n = 1) by unfold rgd; rw [if_pos (by rfl)]]
  by_cases k2 : k = 2
  · subst k2
    have e0 : ∀ s, rgd S (.mk 2 s nm e) n = decide (-(2 ^ (s.toNat - 1)) ≤ n ∧ n < 2 ^ (s.toNat - 1)) := fun s => by unfold rgd; rw [if_neg (by show ¬ (2 : Int) = 1; decide), if_pos (by rfl)]; rfl
    rw [e0]
    rcases right_two hr with rfl | rfl | rfl | rfl
    · exact ranged2_any S A c A2 c2 7 8 nm G g1 g2 q n st B1 b1 b2 B3 b3 b4 w (by decide) (by decide)
    · exact ranged2_any S A c A2 c2 15 16 nm G g1 g2 q n st B1 b1 b2 B3 b3 b4 w (by decide) (by decide)
    · exact ranged2_any S A c A2 c2 31 32 nm G g1 g2 q n st B1 b1 b2 B3 b3 b4 w (by decide) (by decide)
    · have h := ranged264_any S A c A2 c2 nm G g1 g2 q n st B1 b1 b2 B3 b3 b4 w
      rw [show (2 : Int) ^ ((64 : Int).toNat - 1) = 9223372036854775808 from rfl, decide_eq_true (by omega)]
      exact h
  by_cases k3 : k = 3
  · subst k3
    have e0 : ∀ s, rgd S (.mk 3 s nm e) n = decide (0 ≤ n ∧ n < 2 ^ s.toNat) := fun s => by unfold rgd; rw [if_neg (by show ¬ (3 : Int) = 1; decide), if_neg (by show ¬ (3 : Int) = 2; decide), if_pos (by rfl)]; rfl
    rw [e0]
    rcases right_three hr with rfl | rfl | rfl
    · exact ranged3_any S A c A2 c2 7 8 nm G g1 g2 q n st B1 b1 b2 B3 b3 b4 w (by decide) (by decide)
    · exact ranged3_any S A c A2 c2 15 16 nm G g1 g2 q n st B1 b1 b2 B3 b3 b4 w (by decide) (by decide)
    · exact ranged3_any S A c A2 c2 31 32 nm G g1 g2 q n st B1 b1 b2 B3 b3 b4 w (by decide) (by decide)
  by_cases k4 : k = 4
  · subst k4
    rw [rgd_no (t := .mk 4 s nm e) (show (4 : Int) ≠ 1 by decide) (show (4 : Int) ≠ 2 by decide) (show (4 : Int) ≠ 3 by decide) (show (4 : Int) ≠ 7 by decide)]
    exact ranged4_any S A c A2 c2 s nm G g1 g2 q n st B1 b1 b2 B3 b3 b4 w
  by_cases k5 : k = 5
  · subst k5
    rw [rgd_no (t := .mk 5 s nm e) (show (5 : Int) ≠ 1 by decide) (show (5 : Int) ≠ 2 by decide) (show (5 : Int) ≠ 3 by decide) (show (5 : Int) ≠ 7 by decide)]
    exact ranged5_any S A c A2 c2 s nm G g1 g2 q n st B1 b1 b2 B3 b3 b4 w
  by_cases k6 : k = 6
  · subst k6
    rw [rgd_no (t := .mk 6 s nm e) (show (6 : Int) ≠ 1 by decide) (show (6 : Int) ≠ 2 by decide) (show (6 : Int) ≠ 3 by decide) (show (6 : Int) ≠ 7 by decide)]
    exact ranged6_any S A c A2 c2 s nm G g1 g2 q n st B1 b1 b2 B3 b3 b4 w
  by_cases k7 : k = 7
  · subst k7
    obtain rfl := right_zero hr (.inr (.inr rfl))
    have h := ranged7_any S A c A2 c2 nm G g1 g2 q n st B1 b1 b2 B3 b3 b4 w hS hf.el (few_en hf nm)
    rwa [show rgd S (.mk 7 0 nm e) n = ((fst_ En.name S.enums nm).getD en0).nums.contains n by unfold rgd; rw [if_neg (by show ¬ (7 : Int) = 1; decide), if_neg (by show ¬ (7 : Int) = 2; decide), if_neg (by show ¬ (7 : Int) = 3; decide), if_pos (by rfl)]; rfl]
  rw [right_none k1 k2 k3 k4 k5 k6 k7] at hr
  cases hr
end Go.Proofs.Ytlebppjldoodgaa
/-
  The reference's check of a value, but for its levels. No conditions beyond those that each names.
-/
namespace Go.Proofs.Ytlebppjldoodgaa
open Go.RowKit
/-- What the reference answers of a value of at most a size. -/
def WiI (S : Sch) (N : Nat) : Prop := ∀ (t : Ty) (v : Vl) (A : Option Addr) (c : Nat) (A2 : Option Addr) (c2 : Nat) (G : Option Addr) (g : Nat) (u : Value) (w : World), SizeOf.sizeOf v < N → lok t → vok v → vrk v → Sc w S A A2 → Rw TyA 4 w t.elem G → VlV w v u →
  Calls Try.prog 30 #[.agg #[.int .i64 S.ver, .slice A S.enums.length c, .slice A2 S.structs.length c2], .agg #[.int .i64 t.kind, .int .i64 t.size, .string (bs t.name), .slice G t.elem.length g], u] w (Ib (.int .i64 (vck S t v)) w)
set_option maxRecDepth 100000 in
set_option maxHeartbeats 16000000 in
theorem within_walk (S : Sch) (N : Nat) (ih : WiI S N) (hf : Few9 S) (hlk : lok9 S) (A : Option Addr) (c : Nat) (A2 : Option Addr) (c2 : Nat) (k s : Int) (nm : List UInt8) (e : List Ty) (G : Option Addr) (g : Nat) (q n : Int) (st : List UInt8) (l : List Vl) (f : List (Int × Vl)) (B : Option Addr) (b : Nat) (B2 : Option Addr) (b2 : Nat) (w : World) (ty rg : Bool) (r : Int)
    (hlo : lok (.mk k s nm e)) (hll : l.length ≤ 9223372036854775807) (hfl : f.length ≤ 9223372036854775807) (hel : ty = true → ∀ kk : Nat, kk < l.length → ∃ u, e = [u])
    (hlL : ∀ i (h : i < l.length), SizeOf.sizeOf (l[i]'h) < N ∧ vok (l[i]'h) ∧ vrk (l[i]'h)) (hfF : ∀ i (h : i < f.length), SizeOf.sizeOf (f[i]'h).2 < N ∧ vok (f[i]'h).2 ∧ vrk (f[i]'h).2)
    (hS : Sc w S A A2) (hG : Rw TyA 4 w e G) (hL : Rw VlA 5 w l B) (hF : Rw EtA 6 w f B2)
    (cT : ∀ W, Below w.heap.size w W → Calls Try.prog 61 #[.agg #[.int .i64 S.ver, .slice A S.enums.length c, .slice A2 S.structs.length c2], .agg #[.int .i64 k, .int .i64 s, .string (bs nm), .slice G e.length g], .agg #[.int .i64 q, .int .i64 n, .string (bs st), .slice B l.length b, .slice B2 f.length b2]] W (Ib (.bool ty) W))
    (cG : ty = true → ∀ W, Below w.heap.size w W → Calls Try.prog 62 #[.agg #[.int .i64 S.ver, .slice A S.enums.length c, .slice A2 S.structs.length c2], .agg #[.int .i64 k, .int .i64 s, .string (bs nm), .slice G e.length g], .agg #[.int .i64 q, .int .i64 n, .string (bs st), .slice B l.length b, .slice B2 f.length b2]] W (Ib (.bool rg) W))
    (hr : (if ty = false then 13 else if rg = false then 4 else if fits (.mk k s nm e) st.length l.length = false then 3 else fex (vck.vckl S (e.headD (.mk 0 0 [] [])) l) (vck.vckf S (fds S (.mk k s nm e)) f)) = r) :
    Calls Try.prog 30 #[.agg #[.int .i64 S.ver, .slice A S.enums.length c, .slice A2 S.structs.length c2], .agg #[.int .i64 k, .int .i64 s, .string (bs nm), .slice G e.length g], .agg #[.int .i64 q, .int .i64 n, .string (bs st), .slice B l.length b, .slice B2 f.length b2]] w (Ib (.int .i64 r) w) := by
  obtain ⟨lm, hlm⟩ : ∃ lm, l.length = lm := ⟨_, rfl⟩
  obtain ⟨fm, hfm⟩ : ∃ fm, f.length = fm := ⟨_, rfl⟩
  have HLM := Lib.hid hlm
  have HFM := Lib.hid hfm
  have HLl := Lib.hid hlL
  have HFf := Lib.hid hfF
  have HLo := Lib.hid hlo
  rw [hlm] at hll cT cG hr ⊢
  rw [hfm] at hfl cT cG ⊢
  have HR0 := Lib.hid hr
  have HTl := Lib.hid hel
  clear hlm hfm hlL hfF hlo hr hel
  have D1 := (Bx.new3 w 33 (.int .i64 S.ver) (.slice A S.enums.length c) (.slice A2 S.structs.length c2)).next (ab2 _ (Obj.cells #[.int .i64 k, .int .i64 s, .string (bs nm), .slice G e.length g] 37) (Obj.cells #[.int .i64 q, .int .i64 n, .string (bs st), .slice B lm b, .slice B2 fm b2] 25))
  have D2 := (Bx.new4 (w.alloc (Obj.cells #[.int .i64 S.ver, .slice A S.enums.length c, .slice A2 S.structs.length c2] 33)) 37 (.int .i64 k) (.int .i64 s) (.string (bs nm)) (.slice G e.length g)).next (ab1 _ (Obj.cells #[.int .i64 q, .int .i64 n, .string (bs st), .slice B lm b, .slice B2 fm b2] 25))
  have D3 := Bx.new5 ((w.alloc (Obj.cells #[.int .i64 S.ver, .slice A S.enums.length c, .slice A2 S.structs.length c2] 33)).alloc (Obj.cells #[.int .i64 k, .int .i64 s, .string (bs nm), .slice G e.length g] 37)) 25 (.int .i64 q) (.int .i64 n) (.string (bs st)) (.slice B lm b) (.slice B2 fm b2)
  rw [show (w.alloc (Obj.cells #[.int .i64 S.ver, .slice A S.enums.length c, .slice A2 S.structs.length c2] 33)).heap.size = w.heap.size + 1 by simp] at D2
  rw [show ((w.alloc (Obj.cells #[.int .i64 S.ver, .slice A S.enums.length c, .slice A2 S.structs.length c2] 33)).alloc (Obj.cells #[.int .i64 k, .int .i64 s, .string (bs nm), .slice G e.length g] 37)).heap.size = w.heap.size + 1 + 1 by simp] at D3
  have hab := ab3 w (Obj.cells #[.int .i64 S.ver, .slice A S.enums.length c, .slice A2 S.structs.length c2] 33) (Obj.cells #[.int .i64 k, .int .i64 s, .string (bs nm), .slice G e.length g] 37) (Obj.cells #[.int .i64 q, .int .i64 n, .string (bs st), .slice B lm b, .slice B2 fm b2] 25)
  go_enter Try.func30, Try.ntmps30
  go_wp2_with fail
  refine (cT _ hab).mono ?_
  rintro _ w1 ⟨rfl, hb1⟩
  replace D1 := D1.next hb1
  replace D2 := D2.next hb1
  replace D3 := D3.next hb1
  replace hab := Below.next hab hb1
  clear cT hb1
  cases ty
  case false =>
    have hr : (13 : Int) = r := by have := HR0.out; simpa using this
    subst hr
    go_wp2_with fail
    go_ret
    exact ⟨rfl, hab⟩
  case true =>
  have HEl := Lib.hid (HTl.out rfl)
  replace cG := cG rfl _ hab
  have a0 := D1.c 0 rfl
  have a1 := D1.c 1 rfl
  have a2 := D1.c 2 rfl
  have c0 := D2.c 0 rfl
  have c1 := D2.c 1 rfl
  have c2' := D2.c 2 rfl
  have c3 := D2.c 3 rfl
  have v0 := D3.c 0 rfl
  have v1 := D3.c 1 rfl
  have v2 := D3.c 2 rfl
  have v3 := D3.c 3 rfl
  have v4 := D3.c 4 rfl
  clear HTl
  go_wp2_with fail
  refine cG.mono ?_
  rintro _ w2 ⟨rfl, hb2⟩
  replace D1 := D1.next hb2
  replace D2 := D2.next hb2
  replace D3 := D3.next hb2
  replace hab := Below.next hab hb2
  clear cG hb2 a0 a1 a2 c0 c1 c2' c3 v0 v1 v2 v3 v4
  cases rg
  case false =>
    have hr : (4 : Int) = r := by have := HR0.out; simpa using this
    subst hr
    go_wp2_with fail
    go_ret
    exact ⟨rfl, hab⟩
  case true =>
  have c0 := D2.c 0 rfl
  have c1 := D2.c 1 rfl
  have v2 := D3.c 2 rfl
  have v3 := D3.c 3 rfl
  have HD1 := Lib.hid D1
  have HD2 := Lib.hid D2
  have HD3 := Lib.hid D3
  clear D1 D2 D3
  obtain ⟨sm, hsm⟩ : ∃ sm, st.length = sm := ⟨_, rfl⟩
  have hsz : (bs st).size = sm := by rw [bs_size, hsm]
  have HSM := Lib.hid hsm
  clear hsm
  by_cases k4 : k = 4
  · subst k4
    by_cases h1 : s < (sm : Int)
    · have d1 : decide (s < (sm : Int)) = true := decide_eq_true h1
      have hfi : fits (.mk 4 s nm e) st.length lm = false := by unfold fits; rw [decide_eq_false]; intro h; have := h.1 rfl; rw [HSM.out] at this; exact absurd this (by show ¬ ((sm : Int) ≤ s); omega)
      have hr : (3 : Int) = r := by have := HR0.out; rw [hfi] at this; simpa using this
      subst hr
      clear h1 hfi
      go_wp2_with fail
      go_ret
      exact ⟨rfl, hab⟩
    · have d1 : decide (s < (sm : Int)) = false := decide_eq_false h1
      have hfi : fits (.mk 4 s nm e) st.length lm = true := by unfold fits; rw [decide_eq_true]; refine ⟨fun _ => ?_, fun h => absurd h (by show ¬ (4 : Int) = 5; decide)⟩; rw [HSM.out]; show (sm : Int) ≤ s; omega
      have HR : Hid (fex (vck.vckl S (e.headD (.mk 0 0 [] [])) l) (vck.vckf S (fds S (.mk 4 s nm e)) f) = r) := Lib.hid (by have := HR0.out; rw [hfi] at this; simpa using this)
      clear h1 hfi HR0
      go_wp2_with fail
      go_loopw [7] (fun i wr => ∃ kk : Nat, kk ≤ lm ∧ i = .int .i64 (kk : Int) ∧ Hid (vck.vckl S (e.headD (.mk 0 0 [] [])) (l.take kk) = 0) ∧ Hid (Bx wr w.heap.size [.int .i64 S.ver, .slice A S.enums.length c, .slice A2 S.structs.length c2]) ∧ Hid (Bx wr (w.heap.size + 1) [.int .i64 4, .int .i64 s, .string (bs nm), .slice G e.length g]) ∧ Hid (Bx wr (w.heap.size + 1 + 1) [.int .i64 q, .int .i64 n, .string (bs st), .slice B lm b, .slice B2 fm b2]) ∧ Below w.heap.size w wr) (fun i _ => lm - (intOf i).toNat)
      case atStart => exact ⟨0, by omega, rfl, Lib.hid (by rw [List.take_zero, vck.vckl]), HD1, HD2, HD3, hab⟩
      case round =>
        clear HD1 HD2 HD3 hab
        obtain ⟨kk, hkk, rfl, HK, HD1, HD2, HD3, hb⟩ := hrel
        have v3 := HD3.out.c 3 rfl
        by_cases hlt : kk < lm
        · have hk1 := Lib.hid hlt
          have hkl : kk < l.length := by rw [HLM.out]; exact hlt
          obtain ⟨u, rfl⟩ := HEl.out kk hkl
          obtain ⟨aG, rfl, hTy⟩ := hG.get (i := 0) (by show 0 < 1; omega)
          rw [Nat.zero_mul] at hTy
          have hTy : TyA w u aG := hTy
          obtain ⟨aB, rfl, hE⟩ := hL.get hkl
          obtain ⟨s', x0, x1, x2, x3, x4, hrd⟩ := (VlA.next hb _ _ hE).sb
          obtain ⟨u0, u1, u2, G4, g4, u3, hUe⟩ := (TyA.next hb _ _ hTy).cells
          have hblk : (aB.add (kk * 5)).block < wr.heap.size := blk_lt x0
          have hblkG : aG.block < wr.heap.size := blk_lt u0
          obtain ⟨hs1, hs2, hs3⟩ := HLl.out kk hkl
          have hu : lok u := lok_get (t := .mk 4 s nm [u]) HLo.out (i := 0) (by show 0 < 1; omega)
          have cR0 := fun W (h : Below wr.heap.size wr W) => ih u (l[kk]'hkl) A c A2 c2 G4 g4 (.agg (encV (l[kk]'hkl) s').toArray) W hs1 hu hs2 hs3 (Sc.next (Below.next hb h) hS) (hUe.next fun x p => TyA.next h x p) (rdV_iff.2 ⟨s', rfl, hrd.next h⟩)
          have HN := Lib.hid (fun (h0 : vck S u (l[kk]'hkl) = 0) => show vck.vckl S ([u].headD (.mk 0 0 [] [])) (l.take (kk + 1)) = 0 by rw [vckl_at hkl HK.out]; exact h0)
          have HE := Lib.hid (fun (h0 : vck S u (l[kk]'hkl) ≠ 0) => show vck S u (l[kk]'hkl) = r by
            have e1 := vckl_stop (S := S) (u := [u].headD (.mk 0 0 [] [])) hkl HK.out h0
            rw [← HR.out, e1]
            exact (fex_ne h0).symm)
          obtain ⟨z, hz⟩ : ∃ z, vck S u (l[kk]'hkl) = z := ⟨_, rfl⟩
          rw [hz] at cR0 HN HE
          generalize l[kk]'hkl = x at *
          have cR : ∀ W, Below wr.heap.size wr W → Calls Try.prog 30 #[.agg #[.int .i64 S.ver, .slice A S.enums.length c, .slice A2 S.structs.length c2], .agg #[.int .i64 u.kind, .int .i64 u.size, .string (bs u.name), .slice G4 u.elem.length g4], (.agg #[.int .i64 x.kind, .int .i64 x.n, .string (bs x.s), .slice s'.A x.l.length s'.c, .slice s'.B x.f.length s'.d])] W (Ib (.int .i64 z) W) := cR0
          have hbw := Lib.hid hb
          have a0 := HD1.out.c 0 rfl
          have a1 := HD1.out.c 1 rfl
          have a2 := HD1.out.c 2 rfl
          have c3 : wr.cell? ⟨w.heap.size + 1, 3, none⟩ = some (.slice (some aG) 1 g) := HD2.out.c 3 rfl
          have he1 : (0 : Nat) < [u].length := by show 0 < 1; omega
          clear cR0 hz hrd hs1 hs2 hs3 hu hUe hE hTy
          go_upto_region 10 with (fail)
          have hlt := hk1.out
          refine wp_region_on (by kernel_rfl) (FF [(3, Fact.at_ wr (.pointer (some ⟨w.heap.size, 0, none⟩))), (4, Fact.at_ wr (.pointer (some ⟨w.heap.size + 1, 0, none⟩))), (5, Fact.at_ wr (.pointer (some ⟨w.heap.size + 1 + 1, 0, none⟩))), (7, Fact.at_ wr (.int .i64 (kk : Int))), (56, Fact.at_ wr (.agg #[.int .i64 S.ver, .slice A S.enums.length c, .slice A2 S.structs.length c2])), (57, Fact.at_ wr (.pointer (some ⟨w.heap.size + 1, 3, none⟩))), (58, Fact.at_ wr (.slice (some aG) 1 g)), (59, Fact.at_ wr (.pointer (some aG))), (60, Fact.at_ wr (.agg #[.int .i64 u.kind, .int .i64 u.size, .string (bs u.name), .slice G4 u.elem.length g4])), (61, Fact.at_ wr (.pointer (some ⟨w.heap.size + 1 + 1, 3, none⟩))), (62, Fact.at_ wr (.slice (some aB) lm b)), (63, Fact.at_ wr (.int .i64 (kk : Int))), (64, Fact.at_ wr (.pointer (some (aB.add (kk * 5))))), (65, Fact.at_ wr (.agg #[.int .i64 x.kind, .int .i64 x.n, .string (bs x.s), .slice s'.A x.l.length s'.c, .slice s'.B x.f.length s'.d])), (66, Fact.at_ wr (.int .i64 z)), (8, Fact.at_ wr (.int .i64 z))]) [3, 4, 5, 7] 108 [56, 57, 58, 59, 60, 61, 62, 63, 64, 65, 66, 8] rfl (by kernel_rfl) (by kernel_rfl) ?_ ?_ ?_
          · intro t9 ht9
            simp only [List.mem_cons, List.not_mem_nil, or_false] at ht9
            rcases ht9 with rfl | rfl | rfl | rfl
            · exact ⟨rfl, Below.refl _ _⟩
            · exact ⟨rfl, Below.refl _ _⟩
            · exact ⟨rfl, Below.refl _ _⟩
            · exact ⟨rfl, Below.refl _ _⟩
          · refine fcs ⟨at1 3 56 (.pointer (some ⟨w.heap.size, 0, none⟩)) (.agg #[.int .i64 S.ver, .slice A S.enums.length c, .slice A2 S.structs.length c2]) rfl (by first | exact .inl rfl | exact .inr ⟨_, _, _, rfl, rfl, by kernel_rfl, by decide, rfl⟩) (by kernel_rfl) rfl rfl (fun a9 W9 hb9 h9 => by have g0 := cell_next hb9 a0; have g1 := cell_next hb9 a1; have g2 := cell_next hb9 a2; simp [execOp, h9] <;> go_simp), ?_⟩
            refine fcs ⟨at1 4 57 (.pointer (some ⟨w.heap.size + 1, 0, none⟩)) (.pointer (some ⟨w.heap.size + 1, 3, none⟩)) rfl (by first | exact .inl rfl | exact .inr ⟨_, _, _, rfl, rfl, by kernel_rfl, by decide, rfl⟩) (by kernel_rfl) rfl rfl (fun a9 W9 hb9 h9 => by simp [execOp, h9] <;> go_simp), ?_⟩
            refine fcs ⟨at1 57 58 (.pointer (some ⟨w.heap.size + 1, 3, none⟩)) (.slice (some aG) 1 g) rfl (by first | exact .inl rfl | exact .inr ⟨_, _, _, rfl, rfl, by kernel_rfl, by decide, rfl⟩) (by kernel_rfl) rfl rfl (fun a9 W9 hb9 h9 => by have g0 := cell_next hb9 c3; simp [execOp, h9] <;> go_simp), ?_⟩
            refine fcs ⟨at1 58 59 (.slice (some aG) 1 g) (.pointer (some aG)) rfl (by first | exact .inl rfl | exact .inr ⟨_, _, _, rfl, rfl, by kernel_rfl, by decide, rfl⟩) (by kernel_rfl) rfl rfl (fun a9 W9 hb9 h9 => by simp [execOp, h9] <;> go_simp), ?_⟩
            refine fcs ⟨at1 59 60 (.pointer (some aG)) (.agg #[.int .i64 u.kind, .int .i64 u.size, .string (bs u.name), .slice G4 u.elem.length g4]) rfl (by first | exact .inl rfl | exact .inr ⟨_, _, _, rfl, rfl, by kernel_rfl, by decide, rfl⟩) (by kernel_rfl) rfl rfl (fun a9 W9 hb9 h9 => by have g0 := cell_next hb9 u0; have g1 := cell_next hb9 u1; have g2 := cell_next hb9 u2; have g3 := cell_next hb9 u3; simp [execOp, h9] <;> go_simp), ?_⟩
            refine fcs ⟨at1 5 61 (.pointer (some ⟨w.heap.size + 1 + 1, 0, none⟩)) (.pointer (some ⟨w.heap.size + 1 + 1, 3, none⟩)) rfl (by first | exact .inl rfl | exact .inr ⟨_, _, _, rfl, rfl, by kernel_rfl, by decide, rfl⟩) (by kernel_rfl) rfl rfl (fun a9 W9 hb9 h9 => by simp [execOp, h9] <;> go_simp), ?_⟩
            refine fcs ⟨at1 61 62 (.pointer (some ⟨w.heap.size + 1 + 1, 3, none⟩)) (.slice (some aB) lm b) rfl (by first | exact .inl rfl | exact .inr ⟨_, _, _, rfl, rfl, by kernel_rfl, by decide, rfl⟩) (by kernel_rfl) rfl rfl (fun a9 W9 hb9 h9 => by have g0 := cell_next hb9 v3; simp [execOp, h9] <;> go_simp), ?_⟩
            refine fcs ⟨atcopy 7 63 (.int .i64 (kk : Int)) (.inl rfl) rfl (by first | exact .inl rfl | exact .inr ⟨_, _, _, rfl, rfl, by kernel_rfl, by decide, rfl⟩) (by kernel_rfl) rfl rfl, ?_⟩
            refine fcs ⟨at2 62 63 64 (.slice (some aB) lm b) (.int .i64 (kk : Int)) (.pointer (some (aB.add (kk * 5)))) rfl (by first | exact .inl rfl | exact .inr ⟨_, _, _, rfl, rfl, by kernel_rfl, by decide, rfl⟩) (by kernel_rfl) (by kernel_rfl) rfl rfl rfl (fun a9 W9 hb9 h9 h8 => by simp [execOp, h9, h8] <;> go_simp), ?_⟩
            refine fcs ⟨at1 64 65 (.pointer (some (aB.add (kk * 5)))) (.agg #[.int .i64 x.kind, .int .i64 x.n, .string (bs x.s), .slice s'.A x.l.length s'.c, .slice s'.B x.f.length s'.d]) rfl (by first | exact .inl rfl | exact .inr ⟨_, _, _, rfl, rfl, by kernel_rfl, by decide, rfl⟩) (by kernel_rfl) rfl rfl (fun a9 W9 hb9 h9 => by have g0 := cell_next hb9 x0; have g1 := cell_next hb9 x1; have g2 := cell_next hb9 x2; have g3 := cell_next hb9 x3; have g4 := cell_next hb9 x4; simp [execOp, h9] <;> go_simp), ?_⟩
            refine fcs ⟨atc3 30 56 60 65 66 (.agg #[.int .i64 S.ver, .slice A S.enums.length c, .slice A2 S.structs.length c2]) (.agg #[.int .i64 u.kind, .int .i64 u.size, .string (bs u.name), .slice G4 u.elem.length g4]) (.agg #[.int .i64 x.kind, .int .i64 x.n, .string (bs x.s), .slice s'.A x.l.length s'.c, .slice s'.B x.f.length s'.d]) (.int .i64 z) _ rfl rfl (by first | exact .inl rfl | exact .inr ⟨_, _, _, rfl, rfl, by kernel_rfl, by decide, rfl⟩) (by kernel_rfl) (by kernel_rfl) (by kernel_rfl) rfl rfl rfl (by kernel_rfl) rfl (fun W9 hb9 => cR W9 hb9), ?_⟩
            refine fcs ⟨atcopy 66 8 (.int .i64 z) (.inr rfl) rfl (by first | exact .inl rfl | exact .inr ⟨_, _, _, rfl, rfl, by kernel_rfl, by decide, rfl⟩) (by kernel_rfl) rfl rfl, ?_⟩
            exact fnl
          intro vv wv hvv hbv
          have hv8 : vv 8 = (.int .i64 z) := (hvv 8 (by decide)).1
          simp only [lay, List.foldl_cons, List.foldl_nil, List.setIfInBounds_toArray, List.set_cons_succ, List.set_cons_zero, hv8]
          have E1 := Lib.hid (HD1.out.next hbv)
          have E2 := Lib.hid (HD2.out.next hbv)
          have E3 := Lib.hid (HD3.out.next hbv)
          have hb5 := Below.next hb hbv
          clear hvv a0 a1 a2 c3 v3 u0 u1 u2 u3 x0 x1 x2 x3 x4 cR hlt
          by_cases h0 : z = 0
          · have HN2 := Lib.hid (HN.out h0)
            subst h0
            clear HN HE
            go_wp2_with fail
            go_roundw
            case rel => exact ⟨kk + 1, hk1.out, by go_num, HN2, E1, E2, E3, hb5⟩
            case measure => have := hk1.out; simp [intOf]; omega
          · have HE2 := HE.out h0
            have qz : (z != 0) = true := by simpa using h0
            subst HE2
            clear HN HE h0
            go_wp2_with fail
            go_ret
            exact ⟨rfl, hb5⟩
        · obtain rfl : lm = kk := by omega
          have HR2 : Hid (vck.vckf S (fds S (.mk 4 s nm e)) f = r) := Lib.hid (by
            have := HK.out
            rw [← HLM.out, List.take_length] at this
            have e1 := HR.out
            rwa [this, fex_l] at e1)
          have a0 := HD1.out.c 0 rfl
          have a1 := HD1.out.c 1 rfl
          have a2 := HD1.out.c 2 rfl
          have c2' := HD2.out.c 2 rfl
          have cS := r9Struct_any S nm (.agg #[.int .i64 S.ver, .slice A S.enums.length c, .slice A2 S.structs.length c2]) wr ⟨A, c, A2, c2, rfl, Sc.next hb hS⟩ hf.sl
          unfold StO at cS
          obtain ⟨sd, hsd⟩ : ∃ sd, (fst_ St.name S.structs nm).getD st0 = sd := ⟨_, rfl⟩
          obtain ⟨os, hos⟩ : ∃ os, (fst_ St.name S.structs nm).isSome = os := ⟨_, rfl⟩
          have hW := few_st hf nm
          have hLk := lok_fd hlk nm
          rw [hsd, hos] at cS
          rw [hsd] at hW hLk
          have HSD := Lib.hid hsd
          clear hsd hos HK
          go_wp2_with fail
          refine cS.mono ?_
          rintro _ w2 ⟨v2, rfl, hV2, hb2⟩
          obtain ⟨A5, c5, rfl, hD5⟩ := hV2
          have hbx := ab1 w2 (Obj.cells #[.string (bs sd.name), .slice A5 sd.fields.length c5] 64)
          have B5 := Bx.new2 w2 64 (.string (bs sd.name)) (.slice A5 sd.fields.length c5)
          obtain ⟨gs, hgs⟩ : ∃ gs, w2.heap.size = gs := ⟨_, rfl⟩
          rw [hgs] at B5
          have E1 := Lib.hid ((HD1.out.next hb2).next hbx)
          have E3 := Lib.hid ((HD3.out.next hb2).next hbx)
          have hD6 := hD5.next fun x p => FdA.next hbx (f := x) (p := p)
          have hb3 := Below.next hb (Below.next hb2 hbx)
          clear a0 a1 a2 c2' v3 HD1 HD2 HD3 cS hD5 hb2
          go_wp2_with fail
          try rw [hgs]
          have HB5 := Lib.hid B5
          clear B5 hbx hgs
          generalize w2.alloc (Obj.cells #[.string (bs sd.name), .slice A5 sd.fields.length c5] 64) = W3 at *
          have cF0 := fun nb W h => r9field_el sd nb (.agg #[.string (bs sd.name), .slice A5 sd.fields.length c5]) W3 W h ⟨A5, c5, rfl, hD6⟩ hW
          unfold FdE at cF0
          go_loopw [11] (fun i wr => ∃ kk : Nat, kk ≤ fm ∧ i = .int .i64 (kk : Int) ∧ Hid (vck.vckf S (fds S (.mk 4 s nm e)) (f.take kk) = 0) ∧ Hid (Bx wr w.heap.size [.int .i64 S.ver, .slice A S.enums.length c, .slice A2 S.structs.length c2]) ∧ Hid (Bx wr gs [.string (bs sd.name), .slice A5 sd.fields.length c5]) ∧ Hid (Bx wr (w.heap.size + 1 + 1) [.int .i64 q, .int .i64 n, .string (bs st), .slice B lm b, .slice B2 fm b2]) ∧ Below W3.heap.size W3 wr) (fun i _ => fm - (intOf i).toNat)
          case atStart => exact ⟨0, by omega, rfl, Lib.hid (by rw [List.take_zero, vck.vckf]), E1, HB5, E3, Below.refl _ _⟩
          case round =>
            clear E1 HB5 E3
            obtain ⟨kk, hkk, rfl, HK, HD1, HB5, HD3, hbb⟩ := hrel
            rename World => wr
            have hbw := Below.next hb3 hbb
            have v4 := HD3.out.c 4 rfl
            by_cases hlt : kk < fm
            · have hk1 := Lib.hid hlt
              have hkl : kk < f.length := by rw [HFM.out]; exact hlt
              obtain ⟨aF, rfl, hE⟩ := hF.get hkl
              obtain ⟨s', y0, x0, x1, x2, x3, x4, hrd⟩ := (EtA.next hbw _ _ hE).sb
              have hblk : (aF.add (kk * 6)).block < wr.heap.size := blk_lt y0
              obtain ⟨hs1, hs2, hs3⟩ := HFf.out kk hkl
              have hu := hLk (f[kk]'hkl).1
              have cF := fun W (h : Below wr.heap.size wr W) => cF0 (f[kk]'hkl).1 W (Below.next hbb h)
              have e9 : fds S (.mk 4 s nm e) = sd.fields := by unfold fds; show ((fst_ St.name S.structs nm).getD st0).fields = _; rw [HSD.out]
              have HN := Lib.hid (fun (h0 : vck S ((fst_ Fd.num sd.fields (f[kk]'hkl).1).getD fd0).type (f[kk]'hkl).2 = 0) => show vck.vckf S (fds S (.mk 4 s nm e)) (f.take (kk + 1)) = 0 by rw [vckf_at hkl HK.out, e9]; exact h0)
              have HE := Lib.hid (fun (h0 : vck S ((fst_ Fd.num sd.fields (f[kk]'hkl).1).getD fd0).type (f[kk]'hkl).2 ≠ 0) => show vck S ((fst_ Fd.num sd.fields (f[kk]'hkl).1).getD fd0).type (f[kk]'hkl).2 = r by
                rw [← HR2.out, vckf_stop hkl HK.out (by rw [e9]; exact h0), e9])
              generalize (f[kk]'hkl).2 = x at *
              generalize (f[kk]'hkl).1 = y at *
              obtain ⟨f8, hf8⟩ : ∃ f8, (fst_ Fd.num sd.fields y).getD fd0 = f8 := ⟨_, rfl⟩
              obtain ⟨o, ho⟩ : ∃ o, (fst_ Fd.num sd.fields y).isSome = o := ⟨_, rfl⟩
              rw [hf8, ho] at cF
              rw [hf8] at hu HN HE
              obtain ⟨z, hz⟩ : ∃ z, vck S f8.type x = z := ⟨_, rfl⟩
              rw [hz] at HN HE
              have d0 := HB5.out.c 0 rfl
              have d1 := HB5.out.c 1 rfl
              have HZ := Lib.hid hz
              clear hf8 ho hE e9 hz
              go_upto_region 17 with (fail)
              have hlt := hk1.out
              refine wp_region_boxd (by kernel_rfl) (FF [(9, Fact.at_ wr (.pointer (some ⟨gs, 0, none⟩))), (5, Fact.at_ wr (.pointer (some ⟨w.heap.size + 1 + 1, 0, none⟩))), (11, Fact.at_ wr (.int .i64 (kk : Int))), (85, Fact.at_ wr (.agg #[.string (bs sd.name), .slice A5 sd.fields.length c5])), (86, Fact.at_ wr (.pointer (some ⟨w.heap.size + 1 + 1, 4, none⟩))), (87, Fact.at_ wr (.slice (some aF) fm b2)), (88, Fact.at_ wr (.int .i64 (kk : Int))), (89, Fact.at_ wr (.pointer (some (aF.add (kk * 6))))), (90, Fact.at_ wr (.pointer (some (aF.add (kk * 6))))), (91, Fact.at_ wr (.int .i64 y)), (92, FP (T2 (PF W3 f8) o) wr), (84, FP (T2 (PF W3 f8) o) wr), (93, FP (PF W3 f8) wr), (94, Fact.at_ wr (.bool o)), (13, Fact.at_ wr (.bool o))]) [9, 5, 11] 108 12 12 93 [.int .i64 0, .string ⟨#[]⟩, .int .i64 0, .int .i64 0, .string ⟨#[]⟩, .slice none 0 0, .bool false] (fun vs => ∃ A8 c8, vs = [.int .i64 f8.num, .string (bs f8.name), .int .i64 f8.type.kind, .int .i64 f8.type.size, .string (bs f8.type.name), .slice A8 f8.type.elem.length c8, .bool f8.opt] ∧ Rw TyA 4 W3 f8.type.elem A8) [85, 86, 87, 88, 89, 90, 91, 92, 84, 93, 94, 13, 12] rfl (by kernel_rfl) (by kernel_rfl) (by kernel_rfl) (by kernel_rfl) (FF_soft (fcs ⟨at_soft wr (.pointer (some ⟨gs, 0, none⟩)), fcs ⟨at_soft wr (.pointer (some ⟨w.heap.size + 1 + 1, 0, none⟩)), fcs ⟨at_soft wr (.int .i64 (kk : Int)), fcs ⟨at_soft wr (.agg #[.string (bs sd.name), .slice A5 sd.fields.length c5]), fcs ⟨at_soft wr (.pointer (some ⟨w.heap.size + 1 + 1, 4, none⟩)), fcs ⟨at_soft wr (.slice (some aF) fm b2), fcs ⟨at_soft wr (.int .i64 (kk : Int)), fcs ⟨at_soft wr (.pointer (some (aF.add (kk * 6)))), fcs ⟨at_soft wr (.pointer (some (aF.add (kk * 6)))), fcs ⟨at_soft wr (.int .i64 y), fcs ⟨fp_soft (T2 (PF W3 f8) o) wr, fcs ⟨fp_soft (T2 (PF W3 f8) o) wr, fcs ⟨fp_soft (PF W3 f8) wr, fcs ⟨at_soft wr (.bool o), fcs ⟨at_soft wr (.bool o), fnl⟩⟩⟩⟩⟩⟩⟩⟩⟩⟩⟩⟩⟩⟩⟩)) ?_ ?_ ?_
              · intro t9 ht9
                simp only [List.mem_cons, List.not_mem_nil, or_false] at ht9
                rcases ht9 with rfl | rfl | rfl
                · exact ⟨rfl, Below.refl _ _⟩
                · exact ⟨rfl, Below.refl _ _⟩
                · exact ⟨rfl, Below.refl _ _⟩
              · refine fcs ⟨.plain (at1 9 85 (.pointer (some ⟨gs, 0, none⟩)) (.agg #[.string (bs sd.name), .slice A5 sd.fields.length c5]) rfl (by first | exact .inl rfl | exact .inr ⟨_, _, _, rfl, rfl, by kernel_rfl, by decide, rfl⟩) (by kernel_rfl) rfl rfl (fun a9 W9 hb9 h9 => by have g0 := cell_next hb9 d0; have g1 := cell_next hb9 d1; simp [execOp, h9] <;> go_simp)) (by decide) (by decide), ?_⟩
                refine fcs ⟨.plain (at1 5 86 (.pointer (some ⟨w.heap.size + 1 + 1, 0, none⟩)) (.pointer (some ⟨w.heap.size + 1 + 1, 4, none⟩)) rfl (by first | exact .inl rfl | exact .inr ⟨_, _, _, rfl, rfl, by kernel_rfl, by decide, rfl⟩) (by kernel_rfl) rfl rfl (fun a9 W9 hb9 h9 => by simp [execOp, h9] <;> go_simp)) (by decide) (by decide), ?_⟩
                refine fcs ⟨.plain (at1 86 87 (.pointer (some ⟨w.heap.size + 1 + 1, 4, none⟩)) (.slice (some aF) fm b2) rfl (by first | exact .inl rfl | exact .inr ⟨_, _, _, rfl, rfl, by kernel_rfl, by decide, rfl⟩) (by kernel_rfl) rfl rfl (fun a9 W9 hb9 h9 => by have g0 := cell_next hb9 v4; simp [execOp, h9] <;> go_simp)) (by decide) (by decide), ?_⟩
                refine fcs ⟨.plain (atcopy 11 88 (.int .i64 (kk : Int)) (.inl rfl) rfl (by first | exact .inl rfl | exact .inr ⟨_, _, _, rfl, rfl, by kernel_rfl, by decide, rfl⟩) (by kernel_rfl) rfl rfl) (by decide) (by decide), ?_⟩
                refine fcs ⟨.plain (at2 87 88 89 (.slice (some aF) fm b2) (.int .i64 (kk : Int)) (.pointer (some (aF.add (kk * 6)))) rfl (by first | exact .inl rfl | exact .inr ⟨_, _, _, rfl, rfl, by kernel_rfl, by decide, rfl⟩) (by kernel_rfl) (by kernel_rfl) rfl rfl rfl (fun a9 W9 hb9 h9 h8 => by simp [execOp, h9, h8] <;> go_simp)) (by decide) (by decide), ?_⟩
                refine fcs ⟨.plain (at1 89 90 (.pointer (some (aF.add (kk * 6)))) (.pointer (some (aF.add (kk * 6)))) rfl (by first | exact .inl rfl | exact .inr ⟨_, _, _, rfl, rfl, by kernel_rfl, by decide, rfl⟩) (by kernel_rfl) rfl rfl (fun a9 W9 hb9 h9 => by simp [execOp, h9] <;> go_simp)) (by decide) (by decide), ?_⟩
                refine fcs ⟨.plain (at1 90 91 (.pointer (some (aF.add (kk * 6)))) (.int .i64 y) rfl (by first | exact .inl rfl | exact .inr ⟨_, _, _, rfl, rfl, by kernel_rfl, by decide, rfl⟩) (by kernel_rfl) rfl rfl (fun a9 W9 hb9 h9 => by have g0 := cell_next hb9 y0; simp [execOp, h9] <;> go_simp)) (by decide) (by decide), ?_⟩
                refine fcs ⟨.plain (at_enter (W0 := wr) (by first | exact .inl rfl | exact .inr ⟨_, _, _, rfl, rfl, by kernel_rfl, by decide, rfl⟩) (fun a9 W9 hf9 => by have p85 := hf9 85 (by kernel_rfl); have q85 : a9.tmps.getD 85 undef = (.agg #[.string (bs sd.name), .slice A5 sd.fields.length c5]) := p85.1; have p91 := hf9 91 (by kernel_rfl); have q91 : a9.tmps.getD 91 undef = (.int .i64 y) := p91.1; have hb9 := p85.2; exact ⟨64, #[(.agg #[.string (bs sd.name), .slice A5 sd.fields.length c5]), (.int .i64 y)], by rw [← q85, ← q91]; simpa [execOp, resolve, Act.eval] using run_invoke (by kernel_rfl) _ W9, (cF W9 p85.2).mono fun e w' ⟨A8, c8, e1, h8r, e3⟩ => ⟨_, e1, e3, fun s hs => by injection hs with hs; subst hs; exact ⟨⟨_, ⟨A8, c8, rfl, h8r⟩, rfl⟩, upG hb9 e3⟩⟩⟩)) (by decide) (by decide), ?_⟩
                refine fcs ⟨.plain (ob_copy 92 84 (.inl rfl) rfl (.inl rfl) (by kernel_rfl) rfl) (by decide) (by decide), ?_⟩
                refine fcs ⟨.plain (atP 84 93 (T2 (PF W3 f8) o) (PF W3 f8) rfl (by first | exact .inl rfl | exact .inr ⟨_, _, _, rfl, rfl, by kernel_rfl, by decide, rfl⟩) (by kernel_rfl) rfl rfl (fun a9 W9 u9 h8 h9 => by obtain ⟨x8, hx8, rfl⟩ := h8; exact ⟨x8, by simp [execOp, h9] <;> go_simp, hx8⟩)) (by decide) (by decide), ?_⟩
                refine fcs ⟨.plain (atP 84 94 (T2 (PF W3 f8) o) (· = .bool o) rfl (by first | exact .inl rfl | exact .inr ⟨_, _, _, rfl, rfl, by kernel_rfl, by decide, rfl⟩) (by kernel_rfl) rfl rfl (fun a9 W9 u9 h8 h9 => by obtain ⟨x8, hx8, rfl⟩ := h8; exact ⟨_, by simp [execOp, h9] <;> go_simp, rfl⟩)) (by decide) (by decide), ?_⟩
                refine fcs ⟨.alloc rfl rfl rfl (by decide) (fun a9 w9 => ⟨_, by simp [execOp, ptr0] <;> go_simp, ab1 _ (Obj.cells #[.int .i64 0, .string ⟨#[]⟩, .int .i64 0, .int .i64 0, .string ⟨#[]⟩, .slice none 0 0, .bool false] 61), Bx.new7 _ _ _ _ _ _ _ _ _⟩), ?_⟩
                refine fcs ⟨.store rfl rfl rfl (by kernel_rfl) (by kernel_rfl) (fun a9 w9 b9 h9 hx9 hf9 => (by have k1 : a9.eval (.tmp 12) = .pointer (some ⟨b9, 0, none⟩) := h9; obtain ⟨A8, c8, e8, h8r⟩ : PF W3 f8 (a9.tmps.getD 93 undef) := hf9.1; have k2 : a9.eval (.tmp 93) = _ := e8; have g0 := hx9.c 0 rfl; have f0 := hx9.f 0 rfl; have g1 := hx9.c 1 rfl; have f1 := hx9.f 1 rfl; have g2 := hx9.c 2 rfl; have f2 := hx9.f 2 rfl; have g3 := hx9.c 3 rfl; have f3 := hx9.f 3 rfl; have g4 := hx9.c 4 rfl; have f4 := hx9.f 4 rfl; have g5 := hx9.c 5 rfl; have f5 := hx9.f 5 rfl; have g6 := hx9.c 6 rfl; have f6 := hx9.f 6 rfl; have l9 := hx9.lt; exact ⟨_, by simp [execOp, k1, k2] <;> go_simp, gb_set7 _ _ (.int .i64 f8.num) (.string (bs f8.name)) (.int .i64 f8.type.kind) (.int .i64 f8.type.size) (.string (bs f8.type.name)) (.slice A8 f8.type.elem.length c8) (.bool f8.opt), ⟨[.int .i64 f8.num, .string (bs f8.name), .int .i64 f8.type.kind, .int .i64 f8.type.size, .string (bs f8.type.name), .slice A8 f8.type.elem.length c8, .bool f8.opt], ⟨A8, c8, rfl, h8r⟩, hx9.put7 (.int .i64 f8.num) (.string (bs f8.name)) (.int .i64 f8.type.kind) (.int .i64 f8.type.size) (.string (bs f8.type.name)) (.slice A8 f8.type.elem.length c8) (.bool f8.opt)⟩⟩)), ?_⟩
                refine fcs ⟨.plain (atcopy 94 13 (.bool o) (.inr rfl) rfl (by first | exact .inl rfl | exact .inr ⟨_, _, _, rfl, rfl, by kernel_rfl, by decide, rfl⟩) (by kernel_rfl) rfl rfl) (by decide) (by decide), ?_⟩
                exact fnl
              rintro vv wv hvv ⟨gx, hgx, hgl, hX⟩ hbv
              have hv13 : vv 13 = (.bool o) := (hvv 13 (by decide)).1
              unfold ptr0 at hgx
              simp only [lay, List.foldl_cons, List.foldl_nil, List.setIfInBounds_toArray, List.set_cons_succ, List.set_cons_zero, hgx, hv13]
              obtain ⟨_, ⟨A8, c8, rfl, hR8⟩, hX⟩ := hX
              have cR0 := fun W (h : Below wv.heap.size wv W) => ih f8.type x A c A2 c2 A8 c8 (.agg (encV x s').toArray) W hs1 hu hs2 hs3 (Sc.next (Below.next hbw (Below.next hbv h)) hS) (hR8.next fun x p => TyA.next (Below.next hbb (Below.next hbv h)) x p) (rdV_iff.2 ⟨s', rfl, (hrd.next hbv).next h⟩)
              rw [HZ.out] at cR0
              have cR : ∀ W, Below wv.heap.size wv W → Calls Try.prog 30 #[.agg #[.int .i64 S.ver, .slice A S.enums.length c, .slice A2 S.structs.length c2], .agg #[.int .i64 f8.type.kind, .int .i64 f8.type.size, .string (bs f8.type.name), .slice A8 f8.type.elem.length c8], (.agg #[.int .i64 x.kind, .int .i64 x.n, .string (bs x.s), .slice s'.A x.l.length s'.c, .slice s'.B x.f.length s'.d])] W (Ib (.int .i64 z) W) := cR0
              have E1 := HD1.out.next hbv
              have E3 := HD3.out.next hbv
              have E5 := Lib.hid (HB5.out.next hbv)
              have hb5 := Below.next hbb hbv
              replace x0 := cell_next hbv x0
              replace x1 := cell_next hbv x1
              replace x2 := cell_next hbv x2
              replace x3 := cell_next hbv x3
              replace x4 := cell_next hbv x4
              have hblk8 : (aF.add (kk * 6)).block < wv.heap.size := Nat.lt_of_lt_of_le hblk hbv.size
              clear hvv hgl d0 d1 v4 y0 cF hlt hR8 hrd hs1 hs2 hs3 hu cR0 HZ
              have a0 := E1.c 0 rfl
              have a1 := E1.c 1 rfl
              have a2 := E1.c 2 rfl
              have v4 := E3.c 4 rfl
              have f2 := hX.c 2 rfl
              have f3 := hX.c 3 rfl
              have f4 := hX.c 4 rfl
              have f5 := hX.c 5 rfl
              go_upto_region 18 with (fail)
              have hlt := hk1.out
              refine wp_region_on (by kernel_rfl) (FF [(3, Fact.at_ wv (.pointer (some ⟨w.heap.size, 0, none⟩))), (12, Fact.at_ wv (.pointer (some ⟨gx, 0, none⟩))), (5, Fact.at_ wv (.pointer (some ⟨w.heap.size + 1 + 1, 0, none⟩))), (11, Fact.at_ wv (.int .i64 (kk : Int))), (95, Fact.at_ wv (.agg #[.int .i64 S.ver, .slice A S.enums.length c, .slice A2 S.structs.length c2])), (96, Fact.at_ wv (.pointer (some ⟨gx, 2, none⟩))), (97, Fact.at_ wv (.agg #[.int .i64 f8.type.kind, .int .i64 f8.type.size, .string (bs f8.type.name), .slice A8 f8.type.elem.length c8])), (98, Fact.at_ wv (.pointer (some ⟨w.heap.size + 1 + 1, 4, none⟩))), (99, Fact.at_ wv (.slice (some aF) fm b2)), (100, Fact.at_ wv (.int .i64 (kk : Int))), (101, Fact.at_ wv (.pointer (some (aF.add (kk * 6))))), (102, Fact.at_ wv (.pointer (some ⟨(aF.add (kk * 6)).block, (aF.add (kk * 6)).off + 1, none⟩))), (103, Fact.at_ wv (.agg #[.int .i64 x.kind, .int .i64 x.n, .string (bs x.s), .slice s'.A x.l.length s'.c, .slice s'.B x.f.length s'.d])), (104, Fact.at_ wv (.int .i64 z)), (14, Fact.at_ wv (.int .i64 z))]) [3, 12, 5, 11] 108 [95, 96, 97, 98, 99, 100, 101, 102, 103, 104, 14] rfl (by kernel_rfl) (by kernel_rfl) ?_ ?_ ?_
              · intro t9 ht9
                simp only [List.mem_cons, List.not_mem_nil, or_false] at ht9
                rcases ht9 with rfl | rfl | rfl | rfl
                · exact ⟨rfl, Below.refl _ _⟩
                · exact ⟨rfl, Below.refl _ _⟩
                · exact ⟨rfl, Below.refl _ _⟩
                · exact ⟨rfl, Below.refl _ _⟩
              · refine fcs ⟨at1 3 95 (.pointer (some ⟨w.heap.size, 0, none⟩)) (.agg #[.int .i64 S.ver, .slice A S.enums.length c, .slice A2 S.structs.length c2]) rfl (by first | exact .inl rfl | exact .inr ⟨_, _, _, rfl, rfl, by kernel_rfl, by decide, rfl⟩) (by kernel_rfl) rfl rfl (fun a9 W9 hb9 h9 => by have g0 := cell_next hb9 a0; have g1 := cell_next hb9 a1; have g2 := cell_next hb9 a2; simp [execOp, h9] <;> go_simp), ?_⟩
                refine fcs ⟨at1 12 96 (.pointer (some ⟨gx, 0, none⟩)) (.pointer (some ⟨gx, 2, none⟩)) rfl (by first | exact .inl rfl | exact .inr ⟨_, _, _, rfl, rfl, by kernel_rfl, by decide, rfl⟩) (by kernel_rfl) rfl rfl (fun a9 W9 hb9 h9 => by simp [execOp, h9] <;> go_simp), ?_⟩
                refine fcs ⟨at1 96 97 (.pointer (some ⟨gx, 2, none⟩)) (.agg #[.int .i64 f8.type.kind, .int .i64 f8.type.size, .string (bs f8.type.name), .slice A8 f8.type.elem.length c8]) rfl (by first | exact .inl rfl | exact .inr ⟨_, _, _, rfl, rfl, by kernel_rfl, by decide, rfl⟩) (by kernel_rfl) rfl rfl (fun a9 W9 hb9 h9 => by have g0 := cell_next hb9 f2; have g1 := cell_next hb9 f3; have g2 := cell_next hb9 f4; have g3 := cell_next hb9 f5; simp [execOp, h9] <;> go_simp), ?_⟩
                refine fcs ⟨at1 5 98 (.pointer (some ⟨w.heap.size + 1 + 1, 0, none⟩)) (.pointer (some ⟨w.heap.size + 1 + 1, 4, none⟩)) rfl (by first | exact .inl rfl | exact .inr ⟨_, _, _, rfl, rfl, by kernel_rfl, by decide, rfl⟩) (by kernel_rfl) rfl rfl (fun a9 W9 hb9 h9 => by simp [execOp, h9] <;> go_simp), ?_⟩
                refine fcs ⟨at1 98 99 (.pointer (some ⟨w.heap.size + 1 + 1, 4, none⟩)) (.slice (some aF) fm b2) rfl (by first | exact .inl rfl | exact .inr ⟨_, _, _, rfl, rfl, by kernel_rfl, by decide, rfl⟩) (by kernel_rfl) rfl rfl (fun a9 W9 hb9 h9 => by have g0 := cell_next hb9 v4; simp [execOp, h9] <;> go_simp), ?_⟩
                refine fcs ⟨atcopy 11 100 (.int .i64 (kk : Int)) (.inl rfl) rfl (by first | exact .inl rfl | exact .inr ⟨_, _, _, rfl, rfl, by kernel_rfl, by decide, rfl⟩) (by kernel_rfl) rfl rfl, ?_⟩
                refine fcs ⟨at2 99 100 101 (.slice (some aF) fm b2) (.int .i64 (kk : Int)) (.pointer (some (aF.add (kk * 6)))) rfl (by first | exact .inl rfl | exact .inr ⟨_, _, _, rfl, rfl, by kernel_rfl, by decide, rfl⟩) (by kernel_rfl) (by kernel_rfl) rfl rfl rfl (fun a9 W9 hb9 h9 h8 => by simp [execOp, h9, h8] <;> go_simp), ?_⟩
                refine fcs ⟨at1 101 102 (.pointer (some (aF.add (kk * 6)))) (.pointer (some ⟨(aF.add (kk * 6)).block, (aF.add (kk * 6)).off + 1, none⟩)) rfl (by first | exact .inl rfl | exact .inr ⟨_, _, _, rfl, rfl, by kernel_rfl, by decide, rfl⟩) (by kernel_rfl) rfl rfl (fun a9 W9 hb9 h9 => by simp [execOp, h9] <;> go_simp), ?_⟩
                refine fcs ⟨at1 102 103 (.pointer (some ⟨(aF.add (kk * 6)).block, (aF.add (kk * 6)).off + 1, none⟩)) (.agg #[.int .i64 x.kind, .int .i64 x.n, .string (bs x.s), .slice s'.A x.l.length s'.c, .slice s'.B x.f.length s'.d]) rfl (by first | exact .inl rfl | exact .inr ⟨_, _, _, rfl, rfl, by kernel_rfl, by decide, rfl⟩) (by kernel_rfl) rfl rfl (fun a9 W9 hb9 h9 => by have g0 := cell_next hb9 x0; have g1 := cell_next hb9 x1; have g2 := cell_next hb9 x2; have g3 := cell_next hb9 x3; have g4 := cell_next hb9 x4; simp [execOp, h9] <;> go_simp), ?_⟩
                refine fcs ⟨atc3 30 95 97 103 104 (.agg #[.int .i64 S.ver, .slice A S.enums.length c, .slice A2 S.structs.length c2]) (.agg #[.int .i64 f8.type.kind, .int .i64 f8.type.size, .string (bs f8.type.name), .slice A8 f8.type.elem.length c8]) (.agg #[.int .i64 x.kind, .int .i64 x.n, .string (bs x.s), .slice s'.A x.l.length s'.c, .slice s'.B x.f.length s'.d]) (.int .i64 z) _ rfl rfl (by first | exact .inl rfl | exact .inr ⟨_, _, _, rfl, rfl, by kernel_rfl, by decide, rfl⟩) (by kernel_rfl) (by kernel_rfl) (by kernel_rfl) rfl rfl rfl (by kernel_rfl) rfl (fun W9 hb9 => cR W9 hb9), ?_⟩
                refine fcs ⟨atcopy 104 14 (.int .i64 z) (.inr rfl) rfl (by first | exact .inl rfl | exact .inr ⟨_, _, _, rfl, rfl, by kernel_rfl, by decide, rfl⟩) (by kernel_rfl) rfl rfl, ?_⟩
                exact fnl
              intro vv2 wv2 hvv2 hbv2
              have hv14 : vv2 14 = (.int .i64 z) := (hvv2 14 (by decide)).1
              simp only [lay, List.foldl_cons, List.foldl_nil, List.setIfInBounds_toArray, List.set_cons_succ, List.set_cons_zero, hv14]
              have F1 := Lib.hid (E1.next hbv2)
              have F3 := Lib.hid (E3.next hbv2)
              have F5 := Lib.hid (E5.out.next hbv2)
              have hb6 := Below.next hb5 hbv2
              clear hvv2 a0 a1 a2 v4 f2 f3 f4 f5 x0 x1 x2 x3 x4 cR hlt
              by_cases h0 : z = 0
              · have HN2 := Lib.hid (HN.out h0)
                subst h0
                clear HN HE
                go_wp2_with fail
                go_roundw
                case rel => exact ⟨kk + 1, hk1.out, by go_num, HN2, F1, F5, F3, hb6⟩
                case measure => have := hk1.out; simp [intOf]; omega
              · have HE2 := HE.out h0
                have qz : (z != 0) = true := by simpa using h0
                subst HE2
                clear HN HE h0
                go_wp2_with fail
                go_ret
                exact ⟨rfl, Below.next hb3 hb6⟩
            · obtain rfl : kk = fm := by omega
              have hr0 : r = 0 := by rw [← HR2.out, ← HK.out, ← HFM.out, List.take_length]
              subst hr0
              clear HK
              go_wp2_with fail
              go_ret
              exact ⟨rfl, hbw⟩
  by_cases k5 : k = 5
  · subst k5
    by_cases h1 : s < (lm : Int)
    · have d1 : decide (s < (lm : Int)) = true := decide_eq_true h1
      have hfi : fits (.mk 5 s nm e) st.length lm = false := by unfold fits; rw [decide_eq_false]; intro h; have := h.2 rfl; exact absurd this (by show ¬ ((lm : Int) ≤ s); omega)
      have hr : (3 : Int) = r := by have := HR0.out; rw [hfi] at this; simpa using this
      subst hr
      clear h1 hfi
      go_wp2_with fail
      go_ret
      exact ⟨rfl, hab⟩
    · have d1 : decide (s < (lm : Int)) = false := decide_eq_false h1
      have hfi : fits (.mk 5 s nm e) st.length lm = true := by unfold fits; rw [decide_eq_true]; refine ⟨fun h => absurd h (by show ¬ (5 : Int) = 4; decide), fun _ => ?_⟩; show (lm : Int) ≤ s; omega
      have HR : Hid (fex (vck.vckl S (e.headD (.mk 0 0 [] [])) l) (vck.vckf S (fds S (.mk 5 s nm e)) f) = r) := Lib.hid (by have := HR0.out; rw [hfi] at this; simpa using this)
      clear h1 hfi HR0
      go_wp2_with fail
      go_loopw [7] (fun i wr => ∃ kk : Nat, kk ≤ lm ∧ i = .int .i64 (kk : Int) ∧ Hid (vck.vckl S (e.headD (.mk 0 0 [] [])) (l.take kk) = 0) ∧ Hid (Bx wr w.heap.size [.int .i64 S.ver, .slice A S.enums.length c, .slice A2 S.structs.length c2]) ∧ Hid (Bx wr (w.heap.size + 1) [.int .i64 5, .int .i64 s, .string (bs nm), .slice G e.length g]) ∧ Hid (Bx wr (w.heap.size + 1 + 1) [.int .i64 q, .int .i64 n, .string (bs st), .slice B lm b, .slice B2 fm b2]) ∧ Below w.heap.size w wr) (fun i _ => lm - (intOf i).toNat)
      case atStart => exact ⟨0, by omega, rfl, Lib.hid (by rw [List.take_zero, vck.vckl]), HD1, HD2, HD3, hab⟩
      case round =>
        clear HD1 HD2 HD3 hab
        obtain ⟨kk, hkk, rfl, HK, HD1, HD2, HD3, hb⟩ := hrel
        have v3 := HD3.out.c 3 rfl
        by_cases hlt : kk < lm
        · have hk1 := Lib.hid hlt
          have hkl : kk < l.length := by rw [HLM.out]; exact hlt
          obtain ⟨u, rfl⟩ := HEl.out kk hkl
          obtain ⟨aG, rfl, hTy⟩ := hG.get (i := 0) (by show 0 < 1; omega)
          rw [Nat.zero_mul] at hTy
          have hTy : TyA w u aG := hTy
          obtain ⟨aB, rfl, hE⟩ := hL.get hkl
          obtain ⟨s', x0, x1, x2, x3, x4, hrd⟩ := (VlA.next hb _ _ hE).sb
          obtain ⟨u0, u1, u2, G4, g4, u3, hUe⟩ := (TyA.next hb _ _ hTy).cells
          have hblk : (aB.add (kk * 5)).block < wr.heap.size := blk_lt x0
          have hblkG : aG.block < wr.heap.size := blk_lt u0
          obtain ⟨hs1, hs2, hs3⟩ := HLl.out kk hkl
          have hu : lok u := lok_get (t := .mk 5 s nm [u]) HLo.out (i := 0) (by show 0 < 1; omega)
          have cR0 := fun W (h : Below wr.heap.size wr W) => ih u (l[kk]'hkl) A c A2 c2 G4 g4 (.agg (encV (l[kk]'hkl) s').toArray) W hs1 hu hs2 hs3 (Sc.next (Below.next hb h) hS) (hUe.next fun x p => TyA.next h x p) (rdV_iff.2 ⟨s', rfl, hrd.next h⟩)
          have HN := Lib.hid (fun (h0 : vck S u (l[kk]'hkl) = 0) => show vck.vckl S ([u].headD (.mk 0 0 [] [])) (l.take (kk + 1)) = 0 by rw [vckl_at hkl HK.out]; exact h0)
          have HE := Lib.hid (fun (h0 : vck S u (l[kk]'hkl) ≠ 0) => show vck S u (l[kk]'hkl) = r by
            have e1 := vckl_stop (S := S) (u := [u].headD (.mk 0 0 [] [])) hkl HK.out h0
            rw [← HR.out, e1]
            exact (fex_ne h0).symm)
          obtain ⟨z, hz⟩ : ∃ z, vck S u (l[kk]'hkl) = z := ⟨_, rfl⟩
          rw [hz] at cR0 HN HE
          generalize l[kk]'hkl = x at *
          have cR : ∀ W, Below wr.heap.size wr W → Calls Try.prog 30 #[.agg #[.int .i64 S.ver, .slice A S.enums.length c, .slice A2 S.structs.length c2], .agg #[.int .i64 u.kind, .int .i64 u.size, .string (bs u.name), .slice G4 u.elem.length g4], (.agg #[.int .i64 x.kind, .int .i64 x.n, .string (bs x.s), .slice s'.A x.l.length s'.c, .slice s'.B x.f.length s'.d])] W (Ib (.int .i64 z) W) := cR0
          have hbw := Lib.hid hb
          have a0 := HD1.out.c 0 rfl
          have a1 := HD1.out.c 1 rfl
          have a2 := HD1.out.c 2 rfl
          have c3 : wr.cell? ⟨w.heap.size + 1, 3, none⟩ = some (.slice (some aG) 1 g) := HD2.out.c 3 rfl
          have he1 : (0 : Nat) < [u].length := by show 0 < 1; omega
          clear cR0 hz hrd hs1 hs2 hs3 hu hUe hE hTy
          go_upto_region 10 with (fail)
          have hlt := hk1.out
          refine wp_region_on (by kernel_rfl) (FF [(3, Fact.at_ wr (.pointer (some ⟨w.heap.size, 0, none⟩))), (4, Fact.at_ wr (.pointer (some ⟨w.heap.size + 1, 0, none⟩))), (5, Fact.at_ wr (.pointer (some ⟨w.heap.size + 1 + 1, 0, none⟩))), (7, Fact.at_ wr (.int .i64 (kk : Int))), (56, Fact.at_ wr (.agg #[.int .i64 S.ver, .slice A S.enums.length c, .slice A2 S.structs.length c2])), (57, Fact.at_ wr (.pointer (some ⟨w.heap.size + 1, 3, none⟩))), (58, Fact.at_ wr (.slice (some aG) 1 g)), (59, Fact.at_ wr (.pointer (some aG))), (60, Fact.at_ wr (.agg #[.int .i64 u.kind, .int .i64 u.size, .string (bs u.name), .slice G4 u.elem.length g4])), (61, Fact.at_ wr (.pointer (some ⟨w.heap.size + 1 + 1, 3, none⟩))), (62, Fact.at_ wr (.slice (some aB) lm b)), (63, Fact.at_ wr (.int .i64 (kk : Int))), (64, Fact.at_ wr (.pointer (some (aB.add (kk * 5))))), (65, Fact.at_ wr (.agg #[.int .i64 x.kind, .int .i64 x.n, .string (bs x.s), .slice s'.A x.l.length s'.c, .slice s'.B x.f.length s'.d])), (66, Fact.at_ wr (.int .i64 z)), (8, Fact.at_ wr (.int .i64 z))]) [3, 4, 5, 7] 108 [56, 57, 58, 59, 60, 61, 62, 63, 64, 65, 66, 8] rfl (by kernel_rfl) (by kernel_rfl) ?_ ?_ ?_
          · intro t9 ht9
            simp only [List.mem_cons, List.not_mem_nil, or_false] at ht9
            rcases ht9 with rfl | rfl | rfl | rfl
            · exact ⟨rfl, Below.refl _ _⟩
            · exact ⟨rfl, Below.refl _ _⟩
            · exact ⟨rfl, Below.refl _ _⟩
            · exact ⟨rfl, Below.refl _ _⟩
          · refine fcs ⟨at1 3 56 (.pointer (some ⟨w.heap.size, 0, none⟩)) (.agg #[.int .i64 S.ver, .slice A S.enums.length c, .slice A2 S.structs.length c2]) rfl (by first | exact .inl rfl | exact .inr ⟨_, _, _, rfl, rfl, by kernel_rfl, by decide, rfl⟩) (by kernel_rfl) rfl rfl (fun a9 W9 hb9 h9 => by have g0 := cell_next hb9 a0; have g1 := cell_next hb9 a1; have g2 := cell_next hb9 a2; simp [execOp, h9] <;> go_simp), ?_⟩
            refine fcs ⟨at1 4 57 (.pointer (some ⟨w.heap.size + 1, 0, none⟩)) (.pointer (some ⟨w.heap.size + 1, 3, none⟩)) rfl (by first | exact .inl rfl | exact .inr ⟨_, _, _, rfl, rfl, by kernel_rfl, by decide, rfl⟩) (by kernel_rfl) rfl rfl (fun a9 W9 hb9 h9 => by simp [execOp, h9] <;> go_simp), ?_⟩
            refine fcs ⟨at1 57 58 (.pointer (some ⟨w.heap.size + 1, 3, none⟩)) (.slice (some aG) 1 g) rfl (by first | exact .inl rfl | exact .inr ⟨_, _, _, rfl, rfl, by kernel_rfl, by decide, rfl⟩) (by kernel_rfl) rfl rfl (fun a9 W9 hb9 h9 => by have g0 := cell_next hb9 c3; simp [execOp, h9] <;> go_simp), ?_⟩
            refine fcs ⟨at1 58 59 (.slice (some aG) 1 g) (.pointer (some aG)) rfl (by first | exact .inl rfl | exact .inr ⟨_, _, _, rfl, rfl, by kernel_rfl, by decide, rfl⟩) (by kernel_rfl) rfl rfl (fun a9 W9 hb9 h9 => by simp [execOp, h9] <;> go_simp), ?_⟩
            refine fcs ⟨at1 59 60 (.pointer (some aG)) (.agg #[.int .i64 u.kind, .int .i64 u.size, .string (bs u.name), .slice G4 u.elem.length g4]) rfl (by first | exact .inl rfl | exact .inr ⟨_, _, _, rfl, rfl, by kernel_rfl, by decide, rfl⟩) (by kernel_rfl) rfl rfl (fun a9 W9 hb9 h9 => by have g0 := cell_next hb9 u0; have g1 := cell_next hb9 u1; have g2 := cell_next hb9 u2; have g3 := cell_next hb9 u3; simp [execOp, h9] <;> go_simp), ?_⟩
            refine fcs ⟨at1 5 61 (.pointer (some ⟨w.heap.size + 1 + 1, 0, none⟩)) (.pointer (some ⟨w.heap.size + 1 + 1, 3, none⟩)) rfl (by first | exact .inl rfl | exact .inr ⟨_, _, _, rfl, rfl, by kernel_rfl, by decide, rfl⟩) (by kernel_rfl) rfl rfl (fun a9 W9 hb9 h9 => by simp [execOp, h9] <;> go_simp), ?_⟩
            refine fcs ⟨at1 61 62 (.pointer (some ⟨w.heap.size + 1 + 1, 3, none⟩)) (.slice (some aB) lm b) rfl (by first | exact .inl rfl | exact .inr ⟨_, _, _, rfl, rfl, by kernel_rfl, by decide, rfl⟩) (by kernel_rfl) rfl rfl (fun a9 W9 hb9 h9 => by have g0 := cell_next hb9 v3; simp [execOp, h9] <;> go_simp), ?_⟩
            refine fcs ⟨atcopy 7 63 (.int .i64 (kk : Int)) (.inl rfl) rfl (by first | exact .inl rfl | exact .inr ⟨_, _, _, rfl, rfl, by kernel_rfl, by decide, rfl⟩) (by kernel_rfl) rfl rfl, ?_⟩
            refine fcs ⟨at2 62 63 64 (.slice (some aB) lm b) (.int .i64 (kk : Int)) (.pointer (some (aB.add (kk * 5)))) rfl (by first | exact .inl rfl | exact .inr ⟨_, _, _, rfl, rfl, by kernel_rfl, by decide, rfl⟩) (by kernel_rfl) (by kernel_rfl) rfl rfl rfl (fun a9 W9 hb9 h9 h8 => by simp [execOp, h9, h8] <;> go_simp), ?_⟩
            refine fcs ⟨at1 64 65 (.pointer (some (aB.add (kk * 5)))) (.agg #[.int .i64 x.kind, .int .i64 x.n, .string (bs x.s), .slice s'.A x.l.length s'.c, .slice s'.B x.f.length s'.d]) rfl (by first | exact .inl rfl | exact .inr ⟨_, _, _, rfl, rfl, by kernel_rfl, by decide, rfl⟩) (by kernel_rfl) rfl rfl (fun a9 W9 hb9 h9 => by have g0 := cell_next hb9 x0; have g1 := cell_next hb9 x1; have g2 := cell_next hb9 x2; have g3 := cell_next hb9 x3; have g4 := cell_next hb9 x4; simp [execOp, h9] <;> go_simp), ?_⟩
            refine fcs ⟨atc3 30 56 60 65 66 (.agg #[.int .i64 S.ver, .slice A S.enums.length c, .slice A2 S.structs.length c2]) (.agg #[.int .i64 u.kind, .int .i64 u.size, .string (bs u.name), .slice G4 u.elem.length g4]) (.agg #[.int .i64 x.kind, .int .i64 x.n, .string (bs x.s), .slice s'.A x.l.length s'.c, .slice s'.B x.f.length s'.d]) (.int .i64 z) _ rfl rfl (by first | exact .inl rfl | exact .inr ⟨_, _, _, rfl, rfl, by kernel_rfl, by decide, rfl⟩) (by kernel_rfl) (by kernel_rfl) (by kernel_rfl) rfl rfl rfl (by kernel_rfl) rfl (fun W9 hb9 => cR W9 hb9), ?_⟩
            refine fcs ⟨atcopy 66 8 (.int .i64 z) (.inr rfl) rfl (by first | exact .inl rfl | exact .inr ⟨_, _, _, rfl, rfl, by kernel_rfl, by decide, rfl⟩) (by kernel_rfl) rfl rfl, ?_⟩
            exact fnl
          intro vv wv hvv hbv
          have hv8 : vv 8 = (.int .i64 z) := (hvv 8 (by decide)).1
          simp only [lay, List.foldl_cons, List.foldl_nil, List.setIfInBounds_toArray, List.set_cons_succ, List.set_cons_zero, hv8]
          have E1 := Lib.hid (HD1.out.next hbv)
          have E2 := Lib.hid (HD2.out.next hbv)
          have E3 := Lib.hid (HD3.out.next hbv)
          have hb5 := Below.next hb hbv
          clear hvv a0 a1 a2 c3 v3 u0 u1 u2 u3 x0 x1 x2 x3 x4 cR hlt
          by_cases h0 : z = 0
          · have HN2 := Lib.hid (HN.out h0)
            subst h0
            clear HN HE
            go_wp2_with fail
            go_roundw
            case rel => exact ⟨kk + 1, hk1.out, by go_num, HN2, E1, E2, E3, hb5⟩
            case measure => have := hk1.out; simp [intOf]; omega
          · have HE2 := HE.out h0
            have qz : (z != 0) = true := by simpa using h0
            subst HE2
            clear HN HE h0
            go_wp2_with fail
            go_ret
            exact ⟨rfl, hb5⟩
        · obtain rfl : lm = kk := by omega
          have HR2 : Hid (vck.vckf S (fds S (.mk 5 s nm e)) f = r) := Lib.hid (by
            have := HK.out
            rw [← HLM.out, List.take_length] at this
            have e1 := HR.out
            rwa [this, fex_l] at e1)
          have a0 := HD1.out.c 0 rfl
          have a1 := HD1.out.c 1 rfl
          have a2 := HD1.out.c 2 rfl
          have c2' := HD2.out.c 2 rfl
          have cS := r9Struct_any S nm (.agg #[.int .i64 S.ver, .slice A S.enums.length c, .slice A2 S.structs.length c2]) wr ⟨A, c, A2, c2, rfl, Sc.next hb hS⟩ hf.sl
          unfold StO at cS
          obtain ⟨sd, hsd⟩ : ∃ sd, (fst_ St.name S.structs nm).getD st0 = sd := ⟨_, rfl⟩
          obtain ⟨os, hos⟩ : ∃ os, (fst_ St.name S.structs nm).isSome = os := ⟨_, rfl⟩
          have hW := few_st hf nm
          have hLk := lok_fd hlk nm
          rw [hsd, hos] at cS
          rw [hsd] at hW hLk
          have HSD := Lib.hid hsd
          clear hsd hos HK
          go_wp2_with fail
          refine cS.mono ?_
          rintro _ w2 ⟨v2, rfl, hV2, hb2⟩
          obtain ⟨A5, c5, rfl, hD5⟩ := hV2
          have hbx := ab1 w2 (Obj.cells #[.string (bs sd.name), .slice A5 sd.fields.length c5] 64)
          have B5 := Bx.new2 w2 64 (.string (bs sd.name)) (.slice A5 sd.fields.length c5)
          obtain ⟨gs, hgs⟩ : ∃ gs, w2.heap.size = gs := ⟨_, rfl⟩
          rw [hgs] at B5
          have E1 := Lib.hid ((HD1.out.next hb2).next hbx)
          have E3 := Lib.hid ((HD3.out.next hb2).next hbx)
          have hD6 := hD5.next fun x p => FdA.next hbx (f := x) (p := p)
          have hb3 := Below.next hb (Below.next hb2 hbx)
          clear a0 a1 a2 c2' v3 HD1 HD2 HD3 cS hD5 hb2
          go_wp2_with fail
          try rw [hgs]
          have HB5 := Lib.hid B5
          clear B5 hbx hgs
          generalize w2.alloc (Obj.cells #[.string (bs sd.name), .slice A5 sd.fields.length c5] 64) = W3 at *
          have cF0 := fun nb W h => r9field_el sd nb (.agg #[.string (bs sd.name), .slice A5 sd.fields.length c5]) W3 W h ⟨A5, c5, rfl, hD6⟩ hW
          unfold FdE at cF0
          go_loopw [11] (fun i wr => ∃ kk : Nat, kk ≤ fm ∧ i = .int .i64 (kk : Int) ∧ Hid (vck.vckf S (fds S (.mk 5 s nm e)) (f.take kk) = 0) ∧ Hid (Bx wr w.heap.size [.int .i64 S.ver, .slice A S.enums.length c, .slice A2 S.structs.length c2]) ∧ Hid (Bx wr gs [.string (bs sd.name), .slice A5 sd.fields.length c5]) ∧ Hid (Bx wr (w.heap.size + 1 + 1) [.int .i64 q, .int .i64 n, .string (bs st), .slice B lm b, .slice B2 fm b2]) ∧ Below W3.heap.size W3 wr) (fun i _ => fm - (intOf i).toNat)
          case atStart => exact ⟨0, by omega, rfl, Lib.hid (by rw [List.take_zero, vck.vckf]), E1, HB5, E3, Below.refl _ _⟩
          case round =>
            clear E1 HB5 E3
            obtain ⟨kk, hkk, rfl, HK, HD1, HB5, HD3, hbb⟩ := hrel
            rename World => wr
            have hbw := Below.next hb3 hbb
            have v4 := HD3.out.c 4 rfl
            by_cases hlt : kk < fm
            · have hk1 := Lib.hid hlt
              have hkl : kk < f.length := by rw [HFM.out]; exact hlt
              obtain ⟨aF, rfl, hE⟩ := hF.get hkl
              obtain ⟨s', y0, x0, x1, x2, x3, x4, hrd⟩ := (EtA.next hbw _ _ hE).sb
              have hblk : (aF.add (kk * 6)).block < wr.heap.size := blk_lt y0
              obtain ⟨hs1, hs2, hs3⟩ := HFf.out kk hkl
              have hu := hLk (f[kk]'hkl).1
              have cF := fun W (h : Below wr.heap.size wr W) => cF0 (f[kk]'hkl).1 W (Below.next hbb h)
              have e9 : fds S (.mk 5 s nm e) = sd.fields := by unfold fds; show ((fst_ St.name S.structs nm).getD st0).fields = _; rw [HSD.out]
              have HN := Lib.hid (fun (h0 : vck S ((fst_ Fd.num sd.fields (f[kk]'hkl).1).getD fd0).type (f[kk]'hkl).2 = 0) => show vck.vckf S (fds S (.mk 5 s nm e)) (f.take (kk + 1)) = 0 by rw [vckf_at hkl HK.out, e9]; exact h0)
              have HE := Lib.hid (fun (h0 : vck S ((fst_ Fd.num sd.fields (f[kk]'hkl).1).getD fd0).type (f[kk]'hkl).2 ≠ 0) => show vck S ((fst_ Fd.num sd.fields (f[kk]'hkl).1).getD fd0).type (f[kk]'hkl).2 = r by
                rw [← HR2.out, vckf_stop hkl HK.out (by rw [e9]; exact h0), e9])
              generalize (f[kk]'hkl).2 = x at *
              generalize (f[kk]'hkl).1 = y at *
              obtain ⟨f8, hf8⟩ : ∃ f8, (fst_ Fd.num sd.fields y).getD fd0 = f8 := ⟨_, rfl⟩
              obtain ⟨o, ho⟩ : ∃ o, (fst_ Fd.num sd.fields y).isSome = o := ⟨_, rfl⟩
              rw [hf8, ho] at cF
              rw [hf8] at hu HN HE
              obtain ⟨z, hz⟩ : ∃ z, vck S f8.type x = z := ⟨_, rfl⟩
              rw [hz] at HN HE
              have d0 := HB5.out.c 0 rfl
              have d1 := HB5.out.c 1 rfl
              have HZ := Lib.hid hz
              clear hf8 ho hE e9 hz
              go_upto_region 17 with (fail)
              have hlt := hk1.out
              refine wp_region_boxd (by kernel_rfl) (FF [(9, Fact.at_ wr (.pointer (some ⟨gs, 0, none⟩))), (5, Fact.at_ wr (.pointer (some ⟨w.heap.size + 1 + 1, 0, none⟩))), (11, Fact.at_ wr (.int .i64 (kk : Int))), (85, Fact.at_ wr (.agg #[.string (bs sd.name), .slice A5 sd.fields.length c5])), (86, Fact.at_ wr (.pointer (some ⟨w.heap.size + 1 + 1, 4, none⟩))), (87, Fact.at_ wr (.slice (some aF) fm b2)), (88, Fact.at_ wr (.int .i64 (kk : Int))), (89, Fact.at_ wr (.pointer (some (aF.add (kk * 6))))), (90, Fact.at_ wr (.pointer (some (aF.add (kk * 6))))), (91, Fact.at_ wr (.int .i64 y)), (92, FP (T2 (PF W3 f8) o) wr), (84, FP (T2 (PF W3 f8) o) wr), (93, FP (PF W3 f8) wr), (94, Fact.at_ wr (.bool o)), (13, Fact.at_ wr (.bool o))]) [9, 5, 11] 108 12 12 93 [.int .i64 0, .string ⟨#[]⟩, .int .i64 0, .int .i64 0, .string ⟨#[]⟩, .slice none 0 0, .bool false] (fun vs => ∃ A8 c8, vs = [.int .i64 f8.num, .string (bs f8.name), .int .i64 f8.type.kind, .int .i64 f8.type.size, .string (bs f8.type.name), .slice A8 f8.type.elem.length c8, .bool f8.opt] ∧ Rw TyA 4 W3 f8.type.elem A8) [85, 86, 87, 88, 89, 90, 91, 92, 84, 93, 94, 13, 12] rfl (by kernel_rfl) (by kernel_rfl) (by kernel_rfl) (by kernel_rfl) (FF_soft (fcs ⟨at_soft wr (.pointer (some ⟨gs, 0, none⟩)), fcs ⟨at_soft wr (.pointer (some ⟨w.heap.size + 1 + 1, 0, none⟩)), fcs ⟨at_soft wr (.int .i64 (kk : Int)), fcs ⟨at_soft wr (.agg #[.string (bs sd.name), .slice A5 sd.fields.length c5]), fcs ⟨at_soft wr (.pointer (some ⟨w.heap.size + 1 + 1, 4, none⟩)), fcs ⟨at_soft wr (.slice (some aF) fm b2), fcs ⟨at_soft wr (.int .i64 (kk : Int)), fcs ⟨at_soft wr (.pointer (some (aF.add (kk * 6)))), fcs ⟨at_soft wr (.pointer (some (aF.add (kk * 6)))), fcs ⟨at_soft wr (.int .i64 y), fcs ⟨fp_soft (T2 (PF W3 f8) o) wr, fcs ⟨fp_soft (T2 (PF W3 f8) o) wr, fcs ⟨fp_soft (PF W3 f8) wr, fcs ⟨at_soft wr (.bool o), fcs ⟨at_soft wr (.bool o), fnl⟩⟩⟩⟩⟩⟩⟩⟩⟩⟩⟩⟩⟩⟩⟩)) ?_ ?_ ?_
              · intro t9 ht9
                simp only [List.mem_cons, List.not_mem_nil, or_false] at ht9
                rcases ht9 with rfl | rfl | rfl
                · exact ⟨rfl, Below.refl _ _⟩
                · exact ⟨rfl, Below.refl _ _⟩
                · exact ⟨rfl, Below.refl _ _⟩
              · refine fcs ⟨.plain (at1 9 85 (.pointer (some ⟨gs, 0, none⟩)) (.agg #[.string (bs sd.name), .slice A5 sd.fields.length c5]) rfl (by first | exact .inl rfl | exact .inr ⟨_, _, _, rfl, rfl, by kernel_rfl, by decide, rfl⟩) (by kernel_rfl) rfl rfl (fun a9 W9 hb9 h9 => by have g0 := cell_next hb9 d0; have g1 := cell_next hb9 d1; simp [execOp, h9] <;> go_simp)) (by decide) (by decide), ?_⟩
                refine fcs ⟨.plain (at1 5 86 (.pointer (some ⟨w.heap.size + 1 + 1, 0, none⟩)) (.pointer (some ⟨w.heap.size + 1 + 1, 4, none⟩)) rfl (by first | exact .inl rfl | exact .inr ⟨_, _, _, rfl, rfl, by kernel_rfl, by decide, rfl⟩) (by kernel_rfl) rfl rfl (fun a9 W9 hb9 h9 => by simp [execOp, h9] <;> go_simp)) (by decide) (by decide), ?_⟩
                refine fcs ⟨.plain (at1 86 87 (.pointer (some ⟨w.heap.size + 1 + 1, 4, none⟩)) (.slice (some aF) fm b2) rfl (by first | exact .inl rfl | exact .inr ⟨_, _, _, rfl, rfl, by kernel_rfl, by decide, rfl⟩) (by kernel_rfl) rfl rfl (fun a9 W9 hb9 h9 => by have g0 := cell_next hb9 v4; simp [execOp, h9] <;> go_simp)) (by decide) (by decide), ?_⟩
                refine fcs ⟨.plain (atcopy 11 88 (.int .i64 (kk : Int)) (.inl rfl) rfl (by first | exact .inl rfl | exact .inr ⟨_, _, _, rfl, rfl, by kernel_rfl, by decide, rfl⟩) (by kernel_rfl) rfl rfl) (by decide) (by decide), ?_⟩
                refine fcs ⟨.plain (at2 87 88 89 (.slice (some aF) fm b2) (.int .i64 (kk : Int)) (.pointer (some (aF.add (kk * 6)))) rfl (by first | exact .inl rfl | exact .inr ⟨_, _, _, rfl, rfl, by kernel_rfl, by decide, rfl⟩) (by kernel_rfl) (by kernel_rfl) rfl rfl rfl (fun a9 W9 hb9 h9 h8 => by simp [execOp, h9, h8] <;> go_simp)) (by decide) (by decide), ?_⟩
                refine fcs ⟨.plain (at1 89 90 (.pointer (some (aF.add (kk * 6)))) (.pointer (some (aF.add (kk * 6)))) rfl (by first | exact .inl rfl | exact .inr ⟨_, _, _, rfl, rfl, by kernel_rfl, by decide, rfl⟩) (by kernel_rfl) rfl rfl (fun a9 W9 hb9 h9 => by simp [execOp, h9] <;> go_simp)) (by decide) (by decide), ?_⟩
                refine fcs ⟨.plain (at1 90 91 (.pointer (some (aF.add (kk * 6)))) (.int .i64 y) rfl (by first | exact .inl rfl | exact .inr ⟨_, _, _, rfl, rfl, by kernel_rfl, by decide, rfl⟩) (by kernel_rfl) rfl rfl (fun a9 W9 hb9 h9 => by have g0 := cell_next hb9 y0; simp [execOp, h9] <;> go_simp)) (by decide) (by decide), ?_⟩
                refine fcs ⟨.plain (at_enter (W0 := wr) (by first | exact .inl rfl | exact .inr ⟨_, _, _, rfl, rfl, by kernel_rfl, by decide, rfl⟩) (fun a9 W9 hf9 => by have p85 := hf9 85 (by kernel_rfl); have q85 : a9.tmps.getD 85 undef = (.agg #[.string (bs sd.name), .slice A5 sd.fields.length c5]) := p85.1; have p91 := hf9 91 (by kernel_rfl); have q91 : a9.tmps.getD 91 undef = (.int .i64 y) := p91.1; have hb9 := p85.2; exact ⟨64, #[(.agg #[.string (bs sd.name), .slice A5 sd.fields.length c5]), (.int .i64 y)], by rw [← q85, ← q91]; simpa [execOp, resolve, Act.eval] using run_invoke (by kernel_rfl) _ W9, (cF W9 p85.2).mono fun e w' ⟨A8, c8, e1, h8r, e3⟩ => ⟨_, e1, e3, fun s hs => by injection hs with hs; subst hs; exact ⟨⟨_, ⟨A8, c8, rfl, h8r⟩, rfl⟩, upG hb9 e3⟩⟩⟩)) (by decide) (by decide), ?_⟩
                refine fcs ⟨.plain (ob_copy 92 84 (.inl rfl) rfl (.inl rfl) (by kernel_rfl) rfl) (by decide) (by decide), ?_⟩
                refine fcs ⟨.plain (atP 84 93 (T2 (PF W3 f8) o) (PF W3 f8) rfl (by first | exact .inl rfl | exact .inr ⟨_, _, _, rfl, rfl, by kernel_rfl, by decide, rfl⟩) (by kernel_rfl) rfl rfl (fun a9 W9 u9 h8 h9 => by obtain ⟨x8, hx8, rfl⟩ := h8; exact ⟨x8, by simp [execOp, h9] <;> go_simp, hx8⟩)) (by decide) (by decide), ?_⟩
                refine fcs ⟨.plain (atP 84 94 (T2 (PF W3 f8) o) (· = .bool o) rfl (by first | exact .inl rfl | exact .inr ⟨_, _, _, rfl, rfl, by kernel_rfl, by decide, rfl⟩) (by kernel_rfl) rfl rfl (fun a9 W9 u9 h8 h9 => by obtain ⟨x8, hx8, rfl⟩ := h8; exact ⟨_, by simp [execOp, h9] <;> go_simp, rfl⟩)) (by decide) (by decide), ?_⟩
                refine fcs ⟨.alloc rfl rfl rfl (by decide) (fun a9 w9 => ⟨_, by simp [execOp, ptr0] <;> go_simp, ab1 _ (Obj.cells #[.int .i64 0, .string ⟨#[]⟩, .int .i64 0, .int .i64 0, .string ⟨#[]⟩, .slice none 0 0, .bool false] 61), Bx.new7 _ _ _ _ _ _ _ _ _⟩), ?_⟩
                refine fcs ⟨.store rfl rfl rfl (by kernel_rfl) (by kernel_rfl) (fun a9 w9 b9 h9 hx9 hf9 => (by have k1 : a9.eval (.tmp 12) = .pointer (some ⟨b9, 0, none⟩) := h9; obtain ⟨A8, c8, e8, h8r⟩ : PF W3 f8 (a9.tmps.getD 93 undef) := hf9.1; have k2 : a9.eval (.tmp 93) = _ := e8; have g0 := hx9.c 0 rfl; have f0 := hx9.f 0 rfl; have g1 := hx9.c 1 rfl; have f1 := hx9.f 1 rfl; have g2 := hx9.c 2 rfl; have f2 := hx9.f 2 rfl; have g3 := hx9.c 3 rfl; have f3 := hx9.f 3 rfl; have g4 := hx9.c 4 rfl; have f4 := hx9.f 4 rfl; have g5 := hx9.c 5 rfl; have f5 := hx9.f 5 rfl; have g6 := hx9.c 6 rfl; have f6 := hx9.f 6 rfl; have l9 := hx9.lt; exact ⟨_, by simp [execOp, k1, k2] <;> go_simp, gb_set7 _ _ (.int .i64 f8.num) (.string (bs f8.name)) (.int .i64 f8.type.kind) (.int .i64 f8.type.size) (.string (bs f8.type.name)) (.slice A8 f8.type.elem.length c8) (.bool f8.opt), ⟨[.int .i64 f8.num, .string (bs f8.name), .int .i64 f8.type.kind, .int .i64 f8.type.size, .string (bs f8.type.name), .slice A8 f8.type.elem.length c8, .bool f8.opt], ⟨A8, c8, rfl, h8r⟩, hx9.put7 (.int .i64 f8.num) (.string (bs f8.name)) (.int .i64 f8.type.kind) (.int .i64 f8.type.size) (.string (bs f8.type.name)) (.slice A8 f8.type.elem.length c8) (.bool f8.opt)⟩⟩)), ?_⟩
                refine fcs ⟨.plain (atcopy 94 13 (.bool o) (.inr rfl) rfl (by first | exact .inl rfl | exact .inr ⟨_, _, _, rfl, rfl, by kernel_rfl, by decide, rfl⟩) (by kernel_rfl) rfl rfl) (by decide) (by decide), ?_⟩
                exact fnl
              rintro vv wv hvv ⟨gx, hgx, hgl, hX⟩ hbv
              have hv13 : vv 13 = (.bool o) := (hvv 13 (by decide)).1
              unfold ptr0 at hgx
              simp only [lay, List.foldl_cons, List.foldl_nil, List.setIfInBounds_toArray, List.set_cons_succ, List.set_cons_zero, hgx, hv13]
              obtain ⟨_, ⟨A8, c8, rfl, hR8⟩, hX⟩ := hX
              have cR0 := fun W (h : Below wv.heap.size wv W) => ih f8.type x A c A2 c2 A8 c8 (.agg (encV x s').toArray) W hs1 hu hs2 hs3 (Sc.next (Below.next hbw (Below.next hbv h)) hS) (hR8.next fun x p => TyA.next (Below.next hbb (Below.next hbv h)) x p) (rdV_iff.2 ⟨s', rfl, (hrd.next hbv).next h⟩)
              rw [HZ.out] at cR0
              have cR : ∀ W, Below wv.heap.size wv W → Calls Try.prog 30 #[.agg #[.int .i64 S.ver, .slice A S.enums.length c, .slice A2 S.structs.length c2], .agg #[.int .i64 f8.type.kind, .int .i64 f8.type.size, .string (bs f8.type.name), .slice A8 f8.type.elem.length c8], (.agg #[.int .i64 x.kind, .int .i64 x.n, .string (bs x.s), .slice s'.A x.l.length s'.c, .slice s'.B x.f.length s'.d])] W (Ib (.int .i64 z) W) := cR0
              have E1 := HD1.out.next hbv
              have E3 := HD3.out.next hbv
              have E5 := Lib.hid (HB5.out.next hbv)
              have hb5 := Below.next hbb hbv
              replace x0 := cell_next hbv x0
              replace x1 := cell_next hbv x1
              replace x2 := cell_next hbv x2
              replace x3 := cell_next hbv x3
              replace x4 := cell_next hbv x4
              have hblk8 : (aF.add (kk * 6)).block < wv.heap.size := Nat.lt_of_lt_of_le hblk hbv.size
              clear hvv hgl d0 d1 v4 y0 cF hlt hR8 hrd hs1 hs2 hs3 hu cR0 HZ
              have a0 := E1.c 0 rfl
              have a1 := E1.c 1 rfl
              have a2 := E1.c 2 rfl
              have v4 := E3.c 4 rfl
              have f2 := hX.c 2 rfl
              have f3 := hX.c 3 rfl
              have f4 := hX.c 4 rfl
              have f5 := hX.c 5 rfl
              go_upto_region 18 with (fail)
              have hlt := hk1.out
              refine wp_region_on (by kernel_rfl) (FF [(3, Fact.at_ wv (.pointer (some ⟨w.heap.size, 0, none⟩))), (12, Fact.at_ wv (.pointer (some ⟨gx, 0, none⟩))), (5, Fact.at_ wv (.pointer (some ⟨w.heap.size + 1 + 1, 0, none⟩))), (11, Fact.at_ wv (.int .i64 (kk : Int))), (95, Fact.at_ wv (.agg #[.int .i64 S.ver, .slice A S.enums.length c, .slice A2 S.structs.length c2])), (96, Fact.at_ wv (.pointer (some ⟨gx, 2, none⟩))), (97, Fact.at_ wv (.agg #[.int .i64 f8.type.kind, .int .i64 f8.type.size, .string (bs f8.type.name), .slice A8 f8.type.elem.length c8])), (98, Fact.at_ wv (.pointer (some ⟨w.heap.size + 1 + 1, 4, none⟩))), (99, Fact.at_ wv (.slice (some aF) fm b2)), (100, Fact.at_ wv (.int .i64 (kk : Int))), (101, Fact.at_ wv (.pointer (some (aF.add (kk * 6))))), (102, Fact.at_ wv (.pointer (some ⟨(aF.add (kk * 6)).block, (aF.add (kk * 6)).off + 1, none⟩))), (103, Fact.at_ wv (.agg #[.int .i64 x.kind, .int .i64 x.n, .string (bs x.s), .slice s'.A x.l.length s'.c, .slice s'.B x.f.length s'.d])), (104, Fact.at_ wv (.int .i64 z)), (14, Fact.at_ wv (.int .i64 z))]) [3, 12, 5, 11] 108 [95, 96, 97, 98, 99, 100, 101, 102, 103, 104, 14] rfl (by kernel_rfl) (by kernel_rfl) ?_ ?_ ?_
              · intro t9 ht9
                simp only [List.mem_cons, List.not_mem_nil, or_false] at ht9
                rcases ht9 with rfl | rfl | rfl | rfl
                · exact ⟨rfl, Below.refl _ _⟩
                · exact ⟨rfl, Below.refl _ _⟩
                · exact ⟨rfl, Below.refl _ _⟩
                · exact ⟨rfl, Below.refl _ _⟩
              · refine fcs ⟨at1 3 95 (.pointer (some ⟨w.heap.size, 0, none⟩)) (.agg #[.int .i64 S.ver, .slice A S.enums.length c, .slice A2 S.structs.length c2]) rfl (by first | exact .inl rfl | exact .inr ⟨_, _, _, rfl, rfl, by kernel_rfl, by decide, rfl⟩) (by kernel_rfl) rfl rfl (fun a9 W9 hb9 h9 => by have g0 := cell_next hb9 a0; have g1 := cell_next hb9 a1; have g2 := cell_next hb9 a2; simp [execOp, h9] <;> go_simp), ?_⟩
                refine fcs ⟨at1 12 96 (.pointer (some ⟨gx, 0, none⟩)) (.pointer (some ⟨gx, 2, none⟩)) rfl (by first | exact .inl rfl | exact .inr ⟨_, _, _, rfl, rfl, by kernel_rfl, by decide, rfl⟩) (by kernel_rfl) rfl rfl (fun a9 W9 hb9 h9 => by simp [execOp, h9] <;> go_simp), ?_⟩
                refine fcs ⟨at1 96 97 (.pointer (some ⟨gx, 2, none⟩)) (.agg #[.int .i64 f8.type.kind, .int .i64 f8.type.size, .string (bs f8.type.name), .slice A8 f8.type.elem.length c8]) rfl (by first | exact .inl rfl | exact .inr ⟨_, _, _, rfl, rfl, by kernel_rfl, by decide, rfl⟩) (by kernel_rfl) rfl rfl (fun a9 W9 hb9 h9 => by have g0 := cell_next hb9 f2; have g1 := cell_next hb9 f3; have g2 := cell_next hb9 f4; have g3 := cell_next hb9 f5; simp [execOp, h9] <;> go_simp), ?_⟩
                refine fcs ⟨at1 5 98 (.pointer (some ⟨w.heap.size + 1 + 1, 0, none⟩)) (.pointer (some ⟨w.heap.size + 1 + 1, 4, none⟩)) rfl (by first | exact .inl rfl | exact .inr ⟨_, _, _, rfl, rfl, by kernel_rfl, by decide, rfl⟩) (by kernel_rfl) rfl rfl (fun a9 W9 hb9 h9 => by simp [execOp, h9] <;> go_simp), ?_⟩
                refine fcs ⟨at1 98 99 (.pointer (some ⟨w.heap.size + 1 + 1, 4, none⟩)) (.slice (some aF) fm b2) rfl (by first | exact .inl rfl | exact .inr ⟨_, _, _, rfl, rfl, by kernel_rfl, by decide, rfl⟩) (by kernel_rfl) rfl rfl (fun a9 W9 hb9 h9 => by have g0 := cell_next hb9 v4; simp [execOp, h9] <;> go_simp), ?_⟩
                refine fcs ⟨atcopy 11 100 (.int .i64 (kk : Int)) (.inl rfl) rfl (by first | exact .inl rfl | exact .inr ⟨_, _, _, rfl, rfl, by kernel_rfl, by decide, rfl⟩) (by kernel_rfl) rfl rfl, ?_⟩
                refine fcs ⟨at2 99 100 101 (.slice (some aF) fm b2) (.int .i64 (kk : Int)) (.pointer (some (aF.add (kk * 6)))) rfl (by first | exact .inl rfl | exact .inr ⟨_, _, _, rfl, rfl, by kernel_rfl, by decide, rfl⟩) (by kernel_rfl) (by kernel_rfl) rfl rfl rfl (fun a9 W9 hb9 h9 h8 => by simp [execOp, h9, h8] <;> go_simp), ?_⟩
                refine fcs ⟨at1 101 102 (.pointer (some (aF.add (kk * 6)))) (.pointer (some ⟨(aF.add (kk * 6)).block, (aF.add (kk * 6)).off + 1, none⟩)) rfl (by first | exact .inl rfl | exact .inr ⟨_, _, _, rfl, rfl, by kernel_rfl, by decide, rfl⟩) (by kernel_rfl) rfl rfl (fun a9 W9 hb9 h9 => by simp [execOp, h9] <;> go_simp), ?_⟩
                refine fcs ⟨at1 102 103 (.pointer (some ⟨(aF.add (kk * 6)).block, (aF.add (kk * 6)).off + 1, none⟩)) (.agg #[.int .i64 x.kind, .int .i64 x.n, .string (bs x.s), .slice s'.A x.l.length s'.c, .slice s'.B x.f.length s'.d]) rfl (by first | exact .inl rfl | exact .inr ⟨_, _, _, rfl, rfl, by kernel_rfl, by decide, rfl⟩) (by kernel_rfl) rfl rfl (fun a9 W9 hb9 h9 => by have g0 := cell_next hb9 x0; have g1 := cell_next hb9 x1; have g2 := cell_next hb9 x2; have g3 := cell_next hb9 x3; have g4 := cell_next hb9 x4; simp [execOp, h9] <;> go_simp), ?_⟩
                refine fcs ⟨atc3 30 95 97 103 104 (.agg #[.int .i64 S.ver, .slice A S.enums.length c, .slice A2 S.structs.length c2]) (.agg #[.int .i64 f8.type.kind, .int .i64 f8.type.size, .string (bs f8.type.name), .slice A8 f8.type.elem.length c8]) (.agg #[.int .i64 x.kind, .int .i64 x.n, .string (bs x.s), .slice s'.A x.l.length s'.c, .slice s'.B x.f.length s'.d]) (.int .i64 z) _ rfl rfl (by first | exact .inl rfl | exact .inr ⟨_, _, _, rfl, rfl, by kernel_rfl, by decide, rfl⟩) (by kernel_rfl) (by kernel_rfl) (by kernel_rfl) rfl rfl rfl (by kernel_rfl) rfl (fun W9 hb9 => cR W9 hb9), ?_⟩
                refine fcs ⟨atcopy 104 14 (.int .i64 z) (.inr rfl) rfl (by first | exact .inl rfl | exact .inr ⟨_, _, _, rfl, rfl, by kernel_rfl, by decide, rfl⟩) (by kernel_rfl) rfl rfl, ?_⟩
                exact fnl
              intro vv2 wv2 hvv2 hbv2
              have hv14 : vv2 14 = (.int .i64 z) := (hvv2 14 (by decide)).1
              simp only [lay, List.foldl_cons, List.foldl_nil, List.setIfInBounds_toArray, List.set_cons_succ, List.set_cons_zero, hv14]
              have F1 := Lib.hid (E1.next hbv2)
              have F3 := Lib.hid (E3.next hbv2)
              have F5 := Lib.hid (E5.out.next hbv2)
              have hb6 := Below.next hb5 hbv2
              clear hvv2 a0 a1 a2 v4 f2 f3 f4 f5 x0 x1 x2 x3 x4 cR hlt
              by_cases h0 : z = 0
              · have HN2 := Lib.hid (HN.out h0)
                subst h0
                clear HN HE
                go_wp2_with fail
                go_roundw
                case rel => exact ⟨kk + 1, hk1.out, by go_num, HN2, F1, F5, F3, hb6⟩
                case measure => have := hk1.out; simp [intOf]; omega
              · have HE2 := HE.out h0
                have qz : (z != 0) = true := by simpa using h0
                subst HE2
                clear HN HE h0
                go_wp2_with fail
                go_ret
                exact ⟨rfl, Below.next hb3 hb6⟩
            · obtain rfl : kk = fm := by omega
              have hr0 : r = 0 := by rw [← HR2.out, ← HK.out, ← HFM.out, List.take_length]
              subst hr0
              clear HK
              go_wp2_with fail
              go_ret
              exact ⟨rfl, hbw⟩
  have q4 : (k == 4) = false := by simpa using k4
  have q5 : (k == 5) = false := by simpa using k5
  have hfi : fits (.mk k s nm e) st.length lm = true := fits_no k4 k5
  have HR : Hid (fex (vck.vckl S (e.headD (.mk 0 0 [] [])) l) (vck.vckf S (fds S (.mk k s nm e)) f) = r) := Lib.hid (by have := HR0.out; rw [hfi] at this; simpa using this)
  clear k4 k5 hfi HR0
  go_wp2_with fail
  go_loopw [7] (fun i wr => ∃ kk : Nat, kk ≤ lm ∧ i = .int .i64 (kk : Int) ∧ Hid (vck.vckl S (e.headD (.mk 0 0 [] [])) (l.take kk) = 0) ∧ Hid (Bx wr w.heap.size [.int .i64 S.ver, .slice A S.enums.length c, .slice A2 S.structs.length c2]) ∧ Hid (Bx wr (w.heap.size + 1) [.int .i64 k, .int .i64 s, .string (bs nm), .slice G e.length g]) ∧ Hid (Bx wr (w.heap.size + 1 + 1) [.int .i64 q, .int .i64 n, .string (bs st), .slice B lm b, .slice B2 fm b2]) ∧ Below w.heap.size w wr) (fun i _ => lm - (intOf i).toNat)
  case atStart => exact ⟨0, by omega, rfl, Lib.hid (by rw [List.take_zero, vck.vckl]), HD1, HD2, HD3, hab⟩
  case round =>
    clear HD1 HD2 HD3 hab
    obtain ⟨kk, hkk, rfl, HK, HD1, HD2, HD3, hb⟩ := hrel
    have v3 := HD3.out.c 3 rfl
    by_cases hlt : kk < lm
    · have hk1 := Lib.hid hlt
      have hkl : kk < l.length := by rw [HLM.out]; exact hlt
      obtain ⟨u, rfl⟩ := HEl.out kk hkl
      obtain ⟨aG, rfl, hTy⟩ := hG.get (i := 0) (by show 0 < 1; omega)
      rw [Nat.zero_mul] at hTy
      have hTy : TyA w u aG := hTy
      obtain ⟨aB, rfl, hE⟩ := hL.get hkl
      obtain ⟨s', x0, x1, x2, x3, x4, hrd⟩ := (VlA.next hb _ _ hE).sb
      obtain ⟨u0, u1, u2, G4, g4, u3, hUe⟩ := (TyA.next hb _ _ hTy).cells
      have hblk : (aB.add (kk * 5)).block < wr.heap.size := blk_lt x0
      have hblkG : aG.block < wr.heap.size := blk_lt u0
      obtain ⟨hs1, hs2, hs3⟩ := HLl.out kk hkl
      have hu : lok u := lok_get (t := .mk k s nm [u]) HLo.out (i := 0) (by show 0 < 1; omega)
      have cR0 := fun W (h : Below wr.heap.size wr W) => ih u (l[kk]'hkl) A c A2 c2 G4 g4 (.agg (encV (l[kk]'hkl) s').toArray) W hs1 hu hs2 hs3 (Sc.next (Below.next hb h) hS) (hUe.next fun x p => TyA.next h x p) (rdV_iff.2 ⟨s', rfl, hrd.next h⟩)
      have HN := Lib.hid (fun (h0 : vck S u (l[kk]'hkl) = 0) => show vck.vckl S ([u].headD (.mk 0 0 [] [])) (l.take (kk + 1)) = 0 by rw [vckl_at hkl HK.out]; exact h0)
      have HE := Lib.hid (fun (h0 : vck S u (l[kk]'hkl) ≠ 0) => show vck S u (l[kk]'hkl) = r by
        have e1 := vckl_stop (S := S) (u := [u].headD (.mk 0 0 [] [])) hkl HK.out h0
        rw [← HR.out, e1]
        exact (fex_ne h0).symm)
      obtain ⟨z, hz⟩ : ∃ z, vck S u (l[kk]'hkl) = z := ⟨_, rfl⟩
      rw [hz] at cR0 HN HE
      generalize l[kk]'hkl = x at *
      have cR : ∀ W, Below wr.heap.size wr W → Calls Try.prog 30 #[.agg #[.int .i64 S.ver, .slice A S.enums.length c, .slice A2 S.structs.length c2], .agg #[.int .i64 u.kind, .int .i64 u.size, .string (bs u.name), .slice G4 u.elem.length g4], (.agg #[.int .i64 x.kind, .int .i64 x.n, .string (bs x.s), .slice s'.A x.l.length s'.c, .slice s'.B x.f.length s'.d])] W (Ib (.int .i64 z) W) := cR0
      have hbw := Lib.hid hb
      have a0 := HD1.out.c 0 rfl
      have a1 := HD1.out.c 1 rfl
      have a2 := HD1.out.c 2 rfl
      have c3 : wr.cell? ⟨w.heap.size + 1, 3, none⟩ = some (.slice (some aG) 1 g) := HD2.out.c 3 rfl
      have he1 : (0 : Nat) < [u].length := by show 0 < 1; omega
      clear cR0 hz hrd hs1 hs2 hs3 hu hUe hE hTy
      go_upto_region 10 with (fail)
      have hlt := hk1.out
      refine wp_region_on (by kernel_rfl) (FF [(3, Fact.at_ wr (.pointer (some ⟨w.heap.size, 0, none⟩))), (4, Fact.at_ wr (.pointer (some ⟨w.heap.size + 1, 0, none⟩))), (5, Fact.at_ wr (.pointer (some ⟨w.heap.size + 1 + 1, 0, none⟩))), (7, Fact.at_ wr (.int .i64 (kk : Int))), (56, Fact.at_ wr (.agg #[.int .i64 S.ver, .slice A S.enums.length c, .slice A2 S.structs.length c2])), (57, Fact.at_ wr (.pointer (some ⟨w.heap.size + 1, 3, none⟩))), (58, Fact.at_ wr (.slice (some aG) 1 g)), (59, Fact.at_ wr (.pointer (some aG))), (60, Fact.at_ wr (.agg #[.int .i64 u.kind, .int .i64 u.size, .string (bs u.name), .slice G4 u.elem.length g4])), (61, Fact.at_ wr (.pointer (some ⟨w.heap.size + 1 + 1, 3, none⟩))), (62, Fact.at_ wr (.slice (some aB) lm b)), (63, Fact.at_ wr (.int .i64 (kk : Int))), (64, Fact.at_ wr (.pointer (some (aB.add (kk * 5))))), (65, Fact.at_ wr (.agg #[.int .i64 x.kind, .int .i64 x.n, .string (bs x.s), .slice s'.A x.l.length s'.c, .slice s'.B x.f.length s'.d])), (66, Fact.at_ wr (.int .i64 z)), (8, Fact.at_ wr (.int .i64 z))]) [3, 4, 5, 7] 108 [56, 57, 58, 59, 60, 61, 62, 63, 64, 65, 66, 8] rfl (by kernel_rfl) (by kernel_rfl) ?_ ?_ ?_
      · intro t9 ht9
        simp only [List.mem_cons, List.not_mem_nil, or_false] at ht9
        rcases ht9 with rfl | rfl | rfl | rfl
        · exact ⟨rfl, Below.refl _ _⟩
        · exact ⟨rfl, Below.refl _ _⟩
        · exact ⟨rfl, Below.refl _ _⟩
        · exact ⟨rfl, Below.refl _ _⟩
      · refine fcs ⟨at1 3 56 (.pointer (some ⟨w.heap.size, 0, none⟩)) (.agg #[.int .i64 S.ver, .slice A S.enums.length c, .slice A2 S.structs.length c2]) rfl (by first | exact .inl rfl | exact .inr ⟨_, _, _, rfl, rfl, by kernel_rfl, by decide, rfl⟩) (by kernel_rfl) rfl rfl (fun a9 W9 hb9 h9 => by have g0 := cell_next hb9 a0; have g1 := cell_next hb9 a1; have g2 := cell_next hb9 a2; simp [execOp, h9] <;> go_simp), ?_⟩
        refine fcs ⟨at1 4 57 (.pointer (some ⟨w.heap.size + 1, 0, none⟩)) (.pointer (some ⟨w.heap.size + 1, 3, none⟩)) rfl (by first | exact .inl rfl | exact .inr ⟨_, _, _, rfl, rfl, by kernel_rfl, by decide, rfl⟩) (by kernel_rfl) rfl rfl (fun a9 W9 hb9 h9 => by simp [execOp, h9] <;> go_simp), ?_⟩
        refine fcs ⟨at1 57 58 (.pointer (some ⟨w.heap.size + 1, 3, none⟩)) (.slice (some aG) 1 g) rfl (by first | exact .inl rfl | exact .inr ⟨_, _, _, rfl, rfl, by kernel_rfl, by decide, rfl⟩) (by kernel_rfl) rfl rfl (fun a9 W9 hb9 h9 => by have g0 := cell_next hb9 c3; simp [execOp, h9] <;> go_simp), ?_⟩
        refine fcs ⟨at1 58 59 (.slice (some aG) 1 g) (.pointer (some aG)) rfl (by first | exact .inl rfl | exact .inr ⟨_, _, _, rfl, rfl, by kernel_rfl, by decide, rfl⟩) (by kernel_rfl) rfl rfl (fun a9 W9 hb9 h9 => by simp [execOp, h9] <;> go_simp), ?_⟩
        refine fcs ⟨at1 59 60 (.pointer (some aG)) (.agg #[.int .i64 u.kind, .int .i64 u.size, .string (bs u.name), .slice G4 u.elem.length g4]) rfl (by first | exact .inl rfl | exact .inr ⟨_, _, _, rfl, rfl, by kernel_rfl, by decide, rfl⟩) (by kernel_rfl) rfl rfl (fun a9 W9 hb9 h9 => by have g0 := cell_next hb9 u0; have g1 := cell_next hb9 u1; have g2 := cell_next hb9 u2; have g3 := cell_next hb9 u3; simp [execOp, h9] <;> go_simp), ?_⟩
        refine fcs ⟨at1 5 61 (.pointer (some ⟨w.heap.size + 1 + 1, 0, none⟩)) (.pointer (some ⟨w.heap.size + 1 + 1, 3, none⟩)) rfl (by first | exact .inl rfl | exact .inr ⟨_, _, _, rfl, rfl, by kernel_rfl, by decide, rfl⟩) (by kernel_rfl) rfl rfl (fun a9 W9 hb9 h9 => by simp [execOp, h9] <;> go_simp), ?_⟩
        refine fcs ⟨at1 61 62 (.pointer (some ⟨w.heap.size + 1 + 1, 3, none⟩)) (.slice (some aB) lm b) rfl (by first | exact .inl rfl | exact .inr ⟨_, _, _, rfl, rfl, by kernel_rfl, by decide, rfl⟩) (by kernel_rfl) rfl rfl (fun a9 W9 hb9 h9 => by have g0 := cell_next hb9 v3; simp [execOp, h9] <;> go_simp), ?_⟩
        refine fcs ⟨atcopy 7 63 (.int .i64 (kk : Int)) (.inl rfl) rfl (by first | exact .inl rfl | exact .inr ⟨_, _, _, rfl, rfl, by kernel_rfl, by decide, rfl⟩) (by kernel_rfl) rfl rfl, ?_⟩
        refine fcs ⟨at2 62 63 64 (.slice (some aB) lm b) (.int .i64 (kk : Int)) (.pointer (some (aB.add (kk * 5)))) rfl (by first | exact .inl rfl | exact .inr ⟨_, _, _, rfl, rfl, by kernel_rfl, by decide, rfl⟩) (by kernel_rfl) (by kernel_rfl) rfl rfl rfl (fun a9 W9 hb9 h9 h8 => by simp [execOp, h9, h8] <;> go_simp), ?_⟩
        refine fcs ⟨at1 64 65 (.pointer (some (aB.add (kk * 5)))) (.agg #[.int .i64 x.kind, .int .i64 x.n, .string (bs x.s), .slice s'.A x.l.length s'.c, .slice s'.B x.f.length s'.d]) rfl (by first | exact .inl rfl | exact .inr ⟨_, _, _, rfl, rfl, by kernel_rfl, by decide, rfl⟩) (by kernel_rfl) rfl rfl (fun a9 W9 hb9 h9 => by have g0 := cell_next hb9 x0; have g1 := cell_next hb9 x1; have g2 := cell_next hb9 x2; have g3 := cell_next hb9 x3; have g4 := cell_next hb9 x4; simp [execOp, h9] <;> go_simp), ?_⟩
        refine fcs ⟨atc3 30 56 60 65 66 (.agg #[.int .i64 S.ver, .slice A S.enums.length c, .slice A2 S.structs.length c2]) (.agg #[.int .i64 u.kind, .int .i64 u.size, .string (bs u.name), .slice G4 u.elem.length g4]) (.agg #[.int .i64 x.kind, .int .i64 x.n, .string (bs x.s), .slice s'.A x.l.length s'.c, .slice s'.B x.f.length s'.d]) (.int .i64 z) _ rfl rfl (by first | exact .inl rfl | exact .inr ⟨_, _, _, rfl, rfl, by kernel_rfl, by decide, rfl⟩) (by kernel_rfl) (by kernel_rfl) (by kernel_rfl) rfl rfl rfl (by kernel_rfl) rfl (fun W9 hb9 => cR W9 hb9), ?_⟩
        refine fcs ⟨atcopy 66 8 (.int .i64 z) (.inr rfl) rfl (by first | exact .inl rfl | exact .inr ⟨_, _, _, rfl, rfl, by kernel_rfl, by decide, rfl⟩) (by kernel_rfl) rfl rfl, ?_⟩
        exact fnl
      intro vv wv hvv hbv
      have hv8 : vv 8 = (.int .i64 z) := (hvv 8 (by decide)).1
      simp only [lay, List.foldl_cons, List.foldl_nil, List.setIfInBounds_toArray, List.set_cons_succ, List.set_cons_zero, hv8]
      have E1 := Lib.hid (HD1.out.next hbv)
      have E2 := Lib.hid (HD2.out.next hbv)
      have E3 := Lib.hid (HD3.out.next hbv)
      have hb5 := Below.next hb hbv
      clear hvv a0 a1 a2 c3 v3 u0 u1 u2 u3 x0 x1 x2 x3 x4 cR hlt
      by_cases h0 : z = 0
      · have HN2 := Lib.hid (HN.out h0)
        subst h0
        clear HN HE
        go_wp2_with fail
        go_roundw
        case rel => exact ⟨kk + 1, hk1.out, by go_num, HN2, E1, E2, E3, hb5⟩
        case measure => have := hk1.out; simp [intOf]; omega
      · have HE2 := HE.out h0
        have qz : (z != 0) = true := by simpa using h0
        subst HE2
        clear HN HE h0
        go_wp2_with fail
        go_ret
        exact ⟨rfl, hb5⟩
    · obtain rfl : lm = kk := by omega
      have HR2 : Hid (vck.vckf S (fds S (.mk k s nm e)) f = r) := Lib.hid (by
        have := HK.out
        rw [← HLM.out, List.take_length] at this
        have e1 := HR.out
        rwa [this, fex_l] at e1)
      have a0 := HD1.out.c 0 rfl
      have a1 := HD1.out.c 1 rfl
      have a2 := HD1.out.c 2 rfl
      have c2' := HD2.out.c 2 rfl
      have cS := r9Struct_any S nm (.agg #[.int .i64 S.ver, .slice A S.enums.length c, .slice A2 S.structs.length c2]) wr ⟨A, c, A2, c2, rfl, Sc.next hb hS⟩ hf.sl
      unfold StO at cS
      obtain ⟨sd, hsd⟩ : ∃ sd, (fst_ St.name S.structs nm).getD st0 = sd := ⟨_, rfl⟩
      obtain ⟨os, hos⟩ : ∃ os, (fst_ St.name S.structs nm).isSome = os := ⟨_, rfl⟩
      have hW := few_st hf nm
      have hLk := lok_fd hlk nm
      rw [hsd, hos] at cS
      rw [hsd] at hW hLk
      have HSD := Lib.hid hsd
      clear hsd hos HK
      go_wp2_with fail
      refine cS.mono ?_
      rintro _ w2 ⟨v2, rfl, hV2, hb2⟩
      obtain ⟨A5, c5, rfl, hD5⟩ := hV2
      have hbx := ab1 w2 (Obj.cells #[.string (bs sd.name), .slice A5 sd.fields.length c5] 64)
      have B5 := Bx.new2 w2 64 (.string (bs sd.name)) (.slice A5 sd.fields.length c5)
      obtain ⟨gs, hgs⟩ : ∃ gs, w2.heap.size = gs := ⟨_, rfl⟩
      rw [hgs] at B5
      have E1 := Lib.hid ((HD1.out.next hb2).next hbx)
      have E3 := Lib.hid ((HD3.out.next hb2).next hbx)
      have hD6 := hD5.next fun x p => FdA.next hbx (f := x) (p := p)
      have hb3 := Below.next hb (Below.next hb2 hbx)
      clear a0 a1 a2 c2' v3 HD1 HD2 HD3 cS hD5 hb2
      go_wp2_with fail
      try rw [hgs]
      have HB5 := Lib.hid B5
      clear B5 hbx hgs
      generalize w2.alloc (Obj.cells #[.string (bs sd.name), .slice A5 sd.fields.length c5] 64) = W3 at *
      have cF0 := fun nb W h => r9field_el sd nb (.agg #[.string (bs sd.name), .slice A5 sd.fields.length c5]) W3 W h ⟨A5, c5, rfl, hD6⟩ hW
      unfold FdE at cF0
      go_loopw [11] (fun i wr => ∃ kk : Nat, kk ≤ fm ∧ i = .int .i64 (kk : Int) ∧ Hid (vck.vckf S (fds S (.mk k s nm e)) (f.take kk) = 0) ∧ Hid (Bx wr w.heap.size [.int .i64 S.ver, .slice A S.enums.length c, .slice A2 S.structs.length c2]) ∧ Hid (Bx wr gs [.string (bs sd.name), .slice A5 sd.fields.length c5]) ∧ Hid (Bx wr (w.heap.size + 1 + 1) [.int .i64 q, .int .i64 n, .string (bs st), .slice B lm b, .slice B2 fm b2]) ∧ Below W3.heap.size W3 wr) (fun i _ => fm - (intOf i).toNat)
      case atStart => exact ⟨0, by omega, rfl, Lib.hid (by rw [List.take_zero, vck.vckf]), E1, HB5, E3, Below.refl _ _⟩
      case round =>
        clear E1 HB5 E3
        obtain ⟨kk, hkk, rfl, HK, HD1, HB5, HD3, hbb⟩ := hrel
        rename World => wr
        have hbw := Below.next hb3 hbb
        have v4 := HD3.out.c 4 rfl
        by_cases hlt : kk < fm
        · have hk1 := Lib.hid hlt
          have hkl : kk < f.length := by rw [HFM.out]; exact hlt
          obtain ⟨aF, rfl, hE⟩ := hF.get hkl
          obtain ⟨s', y0, x0, x1, x2, x3, x4, hrd⟩ := (EtA.next hbw _ _ hE).sb
          have hblk : (aF.add (kk * 6)).block < wr.heap.size := blk_lt y0
          obtain ⟨hs1, hs2, hs3⟩ := HFf.out kk hkl
          have hu := hLk (f[kk]'hkl).1
          have cF := fun W (h : Below wr.heap.size wr W) => cF0 (f[kk]'hkl).1 W (Below.next hbb h)
          have e9 : fds S (.mk k s nm e) = sd.fields := by unfold fds; show ((fst_ St.name S.structs nm).getD st0).fields = _; rw [HSD.out]
          have HN := Lib.hid (fun (h0 : vck S ((fst_ Fd.num sd.fields (f[kk]'hkl).1).getD fd0).type (f[kk]'hkl).2 = 0) => show vck.vckf S (fds S (.mk k s nm e)) (f.take (kk + 1)) = 0 by rw [vckf_at hkl HK.out, e9]; exact h0)
          have HE := Lib.hid (fun (h0 : vck S ((fst_ Fd.num sd.fields (f[kk]'hkl).1).getD fd0).type (f[kk]'hkl).2 ≠ 0) => show vck S ((fst_ Fd.num sd.fields (f[kk]'hkl).1).getD fd0).type (f[kk]'hkl).2 = r by
            rw [← HR2.out, vckf_stop hkl HK.out (by rw [e9]; exact h0), e9])
          generalize (f[kk]'hkl).2 = x at *
          generalize (f[kk]'hkl).1 = y at *
          obtain ⟨f8, hf8⟩ : ∃ f8, (fst_ Fd.num sd.fields y).getD fd0 = f8 := ⟨_, rfl⟩
          obtain ⟨o, ho⟩ : ∃ o, (fst_ Fd.num sd.fields y).isSome = o := ⟨_, rfl⟩
          rw [hf8, ho] at cF
          rw [hf8] at hu HN HE
          obtain ⟨z, hz⟩ : ∃ z, vck S f8.type x = z := ⟨_, rfl⟩
          rw [hz] at HN HE
          have d0 := HB5.out.c 0 rfl
          have d1 := HB5.out.c 1 rfl
          have HZ := Lib.hid hz
          clear hf8 ho hE e9 hz
          go_upto_region 17 with (fail)
          have hlt := hk1.out
          refine wp_region_boxd (by kernel_rfl) (FF [(9, Fact.at_ wr (.pointer (some ⟨gs, 0, none⟩))), (5, Fact.at_ wr (.pointer (some ⟨w.heap.size + 1 + 1, 0, none⟩))), (11, Fact.at_ wr (.int .i64 (kk : Int))), (85, Fact.at_ wr (.agg #[.string (bs sd.name), .slice A5 sd.fields.length c5])), (86, Fact.at_ wr (.pointer (some ⟨w.heap.size + 1 + 1, 4, none⟩))), (87, Fact.at_ wr (.slice (some aF) fm b2)), (88, Fact.at_ wr (.int .i64 (kk : Int))), (89, Fact.at_ wr (.pointer (some (aF.add (kk * 6))))), (90, Fact.at_ wr (.pointer (some (aF.add (kk * 6))))), (91, Fact.at_ wr (.int .i64 y)), (92, FP (T2 (PF W3 f8) o) wr), (84, FP (T2 (PF W3 f8) o) wr), (93, FP (PF W3 f8) wr), (94, Fact.at_ wr (.bool o)), (13, Fact.at_ wr (.bool o))]) [9, 5, 11] 108 12 12 93 [.int .i64 0, .string ⟨#[]⟩, .int .i64 0, .int .i64 0, .string ⟨#[]⟩, .slice none 0 0, .bool false] (fun vs => ∃ A8 c8, vs = [.int .i64 f8.num, .string (bs f8.name), .int .i64 f8.type.kind, .int .i64 f8.type.size, .string (bs f8.type.name), .slice A8 f8.type.elem.length c8, .bool f8.opt] ∧ Rw TyA 4 W3 f8.type.elem A8) [85, 86, 87, 88, 89, 90, 91, 92, 84, 93, 94, 13, 12] rfl (by kernel_rfl) (by kernel_rfl) (by kernel_rfl) (by kernel_rfl) (FF_soft (fcs ⟨at_soft wr (.pointer (some ⟨gs, 0, none⟩)), fcs ⟨at_soft wr (.pointer (some ⟨w.heap.size + 1 + 1, 0, none⟩)), fcs ⟨at_soft wr (.int .i64 (kk : Int)), fcs ⟨at_soft wr (.agg #[.string (bs sd.name), .slice A5 sd.fields.length c5]), fcs ⟨at_soft wr (.pointer (some ⟨w.heap.size + 1 + 1, 4, none⟩)), fcs ⟨at_soft wr (.slice (some aF) fm b2), fcs ⟨at_soft wr (.int .i64 (kk : Int)), fcs ⟨at_soft wr (.pointer (some (aF.add (kk * 6)))), fcs ⟨at_soft wr (.pointer (some (aF.add (kk * 6)))), fcs ⟨at_soft wr (.int .i64 y), fcs ⟨fp_soft (T2 (PF W3 f8) o) wr, fcs ⟨fp_soft (T2 (PF W3 f8) o) wr, fcs ⟨fp_soft (PF W3 f8) wr, fcs ⟨at_soft wr (.bool o), fcs ⟨at_soft wr (.bool o), fnl⟩⟩⟩⟩⟩⟩⟩⟩⟩⟩⟩⟩⟩⟩⟩)) ?_ ?_ ?_
          · intro t9 ht9
            simp only [List.mem_cons, List.not_mem_nil, or_false] at ht9
            rcases ht9 with rfl | rfl | rfl
            · exact ⟨rfl, Below.refl _ _⟩
            · exact ⟨rfl, Below.refl _ _⟩
            · exact ⟨rfl, Below.refl _ _⟩
          · refine fcs ⟨.plain (at1 9 85 (.pointer (some ⟨gs, 0, none⟩)) (.agg #[.string (bs sd.name), .slice A5 sd.fields.length c5]) rfl (by first | exact .inl rfl | exact .inr ⟨_, _, _, rfl, rfl, by kernel_rfl, by decide, rfl⟩) (by kernel_rfl) rfl rfl (fun a9 W9 hb9 h9 => by have g0 := cell_next hb9 d0; have g1 := cell_next hb9 d1; simp [execOp, h9] <;> go_simp)) (by decide) (by decide), ?_⟩
            refine fcs ⟨.plain (at1 5 86 (.pointer (some ⟨w.heap.size + 1 + 1, 0, none⟩)) (.pointer (some ⟨w.heap.size + 1 + 1, 4, none⟩)) rfl (by first | exact .inl rfl | exact .inr ⟨_, _, _, rfl, rfl, by kernel_rfl, by decide, rfl⟩) (by kernel_rfl) rfl rfl (fun a9 W9 hb9 h9 => by simp [execOp, h9] <;> go_simp)) (by decide) (by decide), ?_⟩
            refine fcs ⟨.plain (at1 86 87 (.pointer (some ⟨w.heap.size + 1 + 1, 4, none⟩)) (.slice (some aF) fm b2) rfl (by first | exact .inl rfl | exact .inr ⟨_, _, _, rfl, rfl, by kernel_rfl, by decide, rfl⟩) (by kernel_rfl) rfl rfl (fun a9 W9 hb9 h9 => by have g0 := cell_next hb9 v4; simp [execOp, h9] <;> go_simp)) (by decide) (by decide), ?_⟩
            refine fcs ⟨.plain (atcopy 11 88 (.int .i64 (kk : Int)) (.inl rfl) rfl (by first | exact .inl rfl | exact .inr ⟨_, _, _, rfl, rfl, by kernel_rfl, by decide, rfl⟩) (by kernel_rfl) rfl rfl) (by decide) (by decide), ?_⟩
            refine fcs ⟨.plain (at2 87 88 89 (.slice (some aF) fm b2) (.int .i64 (kk : Int)) (.pointer (some (aF.add (kk * 6)))) rfl (by first | exact .inl rfl | exact .inr ⟨_, _, _, rfl, rfl, by kernel_rfl, by decide, rfl⟩) (by kernel_rfl) (by kernel_rfl) rfl rfl rfl (fun a9 W9 hb9 h9 h8 => by simp [execOp, h9, h8] <;> go_simp)) (by decide) (by decide), ?_⟩
            refine fcs ⟨.plain (at1 89 90 (.pointer (some (aF.add (kk * 6)))) (.pointer (some (aF.add (kk * 6)))) rfl (by first | exact .inl rfl | exact .inr ⟨_, _, _, rfl, rfl, by kernel_rfl, by decide, rfl⟩) (by kernel_rfl) rfl rfl (fun a9 W9 hb9 h9 => by simp [execOp, h9] <;> go_simp)) (by decide) (by decide), ?_⟩
            refine fcs ⟨.plain (at1 90 91 (.pointer (some (aF.add (kk * 6)))) (.int .i64 y) rfl (by first | exact .inl rfl | exact .inr ⟨_, _, _, rfl, rfl, by kernel_rfl, by decide, rfl⟩) (by kernel_rfl) rfl rfl (fun a9 W9 hb9 h9 => by have g0 := cell_next hb9 y0; simp [execOp, h9] <;> go_simp)) (by decide) (by decide), ?_⟩
            refine fcs ⟨.plain (at_enter (W0 := wr) (by first | exact .inl rfl | exact .inr ⟨_, _, _, rfl, rfl, by kernel_rfl, by decide, rfl⟩) (fun a9 W9 hf9 => by have p85 := hf9 85 (by kernel_rfl); have q85 : a9.tmps.getD 85 undef = (.agg #[.string (bs sd.name), .slice A5 sd.fields.length c5]) := p85.1; have p91 := hf9 91 (by kernel_rfl); have q91 : a9.tmps.getD 91 undef = (.int .i64 y) := p91.1; have hb9 := p85.2; exact ⟨64, #[(.agg #[.string (bs sd.name), .slice A5 sd.fields.length c5]), (.int .i64 y)], by rw [← q85, ← q91]; simpa [execOp, resolve, Act.eval] using run_invoke (by kernel_rfl) _ W9, (cF W9 p85.2).mono fun e w' ⟨A8, c8, e1, h8r, e3⟩ => ⟨_, e1, e3, fun s hs => by injection hs with hs; subst hs; exact ⟨⟨_, ⟨A8, c8, rfl, h8r⟩, rfl⟩, upG hb9 e3⟩⟩⟩)) (by decide) (by decide), ?_⟩
            refine fcs ⟨.plain (ob_copy 92 84 (.inl rfl) rfl (.inl rfl) (by kernel_rfl) rfl) (by decide) (by decide), ?_⟩
            refine fcs ⟨.plain (atP 84 93 (T2 (PF W3 f8) o) (PF W3 f8) rfl (by first | exact .inl rfl | exact .inr ⟨_, _, _, rfl, rfl, by kernel_rfl, by decide, rfl⟩) (by kernel_rfl) rfl rfl (fun a9 W9 u9 h8 h9 => by obtain ⟨x8, hx8, rfl⟩ := h8; exact ⟨x8, by simp [execOp, h9] <;> go_simp, hx8⟩)) (by decide) (by decide), ?_⟩
            refine fcs ⟨.plain (atP 84 94 (T2 (PF W3 f8) o) (· = .bool o) rfl (by first | exact .inl rfl | exact .inr ⟨_, _, _, rfl, rfl, by kernel_rfl, by decide, rfl⟩) (by kernel_rfl) rfl rfl (fun a9 W9 u9 h8 h9 => by obtain ⟨x8, hx8, rfl⟩ := h8; exact ⟨_, by simp [execOp, h9] <;> go_simp, rfl⟩)) (by decide) (by decide), ?_⟩
            refine fcs ⟨.alloc rfl rfl rfl (by decide) (fun a9 w9 => ⟨_, by simp [execOp, ptr0] <;> go_simp, ab1 _ (Obj.cells #[.int .i64 0, .string ⟨#[]⟩, .int .i64 0, .int .i64 0, .string ⟨#[]⟩, .slice none 0 0, .bool false] 61), Bx.new7 _ _ _ _ _ _ _ _ _⟩), ?_⟩
            refine fcs ⟨.store rfl rfl rfl (by kernel_rfl) (by kernel_rfl) (fun a9 w9 b9 h9 hx9 hf9 => (by have k1 : a9.eval (.tmp 12) = .pointer (some ⟨b9, 0, none⟩) := h9; obtain ⟨A8, c8, e8, h8r⟩ : PF W3 f8 (a9.tmps.getD 93 undef) := hf9.1; have k2 : a9.eval (.tmp 93) = _ := e8; have g0 := hx9.c 0 rfl; have f0 := hx9.f 0 rfl; have g1 := hx9.c 1 rfl; have f1 := hx9.f 1 rfl; have g2 := hx9.c 2 rfl; have f2 := hx9.f 2 rfl; have g3 := hx9.c 3 rfl; have f3 := hx9.f 3 rfl; have g4 := hx9.c 4 rfl; have f4 := hx9.f 4 rfl; have g5 := hx9.c 5 rfl; have f5 := hx9.f 5 rfl; have g6 := hx9.c 6 rfl; have f6 := hx9.f 6 rfl; have l9 := hx9.lt; exact ⟨_, by simp [execOp, k1, k2] <;> go_simp, gb_set7 _ _ (.int .i64 f8.num) (.string (bs f8.name)) (.int .i64 f8.type.kind) (.int .i64 f8.type.size) (.string (bs f8.type.name)) (.slice A8 f8.type.elem.length c8) (.bool f8.opt), ⟨[.int .i64 f8.num, .string (bs f8.name), .int .i64 f8.type.kind, .int .i64 f8.type.size, .string (bs f8.type.name), .slice A8 f8.type.elem.length c8, .bool f8.opt], ⟨A8, c8, rfl, h8r⟩, hx9.put7 (.int .i64 f8.num) (.string (bs f8.name)) (.int .i64 f8.type.kind) (.int .i64 f8.type.size) (.string (bs f8.type.name)) (.slice A8 f8.type.elem.length c8) (.bool f8.opt)⟩⟩)), ?_⟩
            refine fcs ⟨.plain (atcopy 94 13 (.bool o) (.inr rfl) rfl (by first | exact .inl rfl | exact .inr ⟨_, _, _, rfl, rfl, by kernel_rfl, by decide, rfl⟩) (by kernel_rfl) rfl rfl) (by decide) (by decide), ?_⟩
            exact fnl
          rintro vv wv hvv ⟨gx, hgx, hgl, hX⟩ hbv
          have hv13 : vv 13 = (.bool o) := (hvv 13 (by decide)).1
          unfold ptr0 at hgx
          simp only [lay, List.foldl_cons, List.foldl_nil, List.setIfInBounds_toArray, List.set_cons_succ, List.set_cons_zero, hgx, hv13]
          obtain ⟨_, ⟨A8, c8, rfl, hR8⟩, hX⟩ := hX
          have cR0 := fun W (h : Below wv.heap.size wv W) => ih f8.type x A c A2 c2 A8 c8 (.agg (encV x s').toArray) W hs1 hu hs2 hs3 (Sc.next (Below.next hbw (Below.next hbv h)) hS) (hR8.next fun x p => TyA.next (Below.next hbb (Below.next hbv h)) x p) (rdV_iff.2 ⟨s', rfl, (hrd.next hbv).next h⟩)
          rw [HZ.out] at cR0
          have cR : ∀ W, Below wv.heap.size wv W → Calls Try.prog 30 #[.agg #[.int .i64 S.ver, .slice A S.enums.length c, .slice A2 S.structs.length c2], .agg #[.int .i64 f8.type.kind, .int .i64 f8.type.size, .string (bs f8.type.name), .slice A8 f8.type.elem.length c8], (.agg #[.int .i64 x.kind, .int .i64 x.n, .string (bs x.s), .slice s'.A x.l.length s'.c, .slice s'.B x.f.length s'.d])] W (Ib (.int .i64 z) W) := cR0
          have E1 := HD1.out.next hbv
          have E3 := HD3.out.next hbv
          have E5 := Lib.hid (HB5.out.next hbv)
          have hb5 := Below.next hbb hbv
          replace x0 := cell_next hbv x0
          replace x1 := cell_next hbv x1
          replace x2 := cell_next hbv x2
          replace x3 := cell_next hbv x3
          replace x4 := cell_next hbv x4
          have hblk8 : (aF.add (kk * 6)).block < wv.heap.size := Nat.lt_of_lt_of_le hblk hbv.size
          clear hvv hgl d0 d1 v4 y0 cF hlt hR8 hrd hs1 hs2 hs3 hu cR0 HZ
          have a0 := E1.c 0 rfl
          have a1 := E1.c 1 rfl
          have a2 := E1.c 2 rfl
          have v4 := E3.c 4 rfl
          have f2 := hX.c 2 rfl
          have f3 := hX.c 3 rfl
          have f4 := hX.c 4 rfl
          have f5 := hX.c 5 rfl
          go_upto_region 18 with (fail)
          have hlt := hk1.out
          refine wp_region_on (by kernel_rfl) (FF [(3, Fact.at_ wv (.pointer (some ⟨w.heap.size, 0, none⟩))), (12, Fact.at_ wv (.pointer (some ⟨gx, 0, none⟩))), (5, Fact.at_ wv (.pointer (some ⟨w.heap.size + 1 + 1, 0, none⟩))), (11, Fact.at_ wv (.int .i64 (kk : Int))), (95, Fact.at_ wv (.agg #[.int .i64 S.ver, .slice A S.enums.length c, .slice A2 S.structs.length c2])), (96, Fact.at_ wv (.pointer (some ⟨gx, 2, none⟩))), (97, Fact.at_ wv (.agg #[.int .i64 f8.type.kind, .int .i64 f8.type.size, .string (bs f8.type.name), .slice A8 f8.type.elem.length c8])), (98, Fact.at_ wv (.pointer (some ⟨w.heap.size + 1 + 1, 4, none⟩))), (99, Fact.at_ wv (.slice (some aF) fm b2)), (100, Fact.at_ wv (.int .i64 (kk : Int))), (101, Fact.at_ wv (.pointer (some (aF.add (kk * 6))))), (102, Fact.at_ wv (.pointer (some ⟨(aF.add (kk * 6)).block, (aF.add (kk * 6)).off + 1, none⟩))), (103, Fact.at_ wv (.agg #[.int .i64 x.kind, .int .i64 x.n, .string (bs x.s), .slice s'.A x.l.length s'.c, .slice s'.B x.f.length s'.d])), (104, Fact.at_ wv (.int .i64 z)), (14, Fact.at_ wv (.int .i64 z))]) [3, 12, 5, 11] 108 [95, 96, 97, 98, 99, 100, 101, 102, 103, 104, 14] rfl (by kernel_rfl) (by kernel_rfl) ?_ ?_ ?_
          · intro t9 ht9
            simp only [List.mem_cons, List.not_mem_nil, or_false] at ht9
            rcases ht9 with rfl | rfl | rfl | rfl
            · exact ⟨rfl, Below.refl _ _⟩
            · exact ⟨rfl, Below.refl _ _⟩
            · exact ⟨rfl, Below.refl _ _⟩
            · exact ⟨rfl, Below.refl _ _⟩
          · refine fcs ⟨at1 3 95 (.pointer (some ⟨w.heap.size, 0, none⟩)) (.agg #[.int .i64 S.ver, .slice A S.enums.length c, .slice A2 S.structs.length c2]) rfl (by first | exact .inl rfl | exact .inr ⟨_, _, _, rfl, rfl, by kernel_rfl, by decide, rfl⟩) (by kernel_rfl) rfl rfl (fun a9 W9 hb9 h9 => by have g0 := cell_next hb9 a0; have g1 := cell_next hb9 a1; have g2 := cell_next hb9 a2; simp [execOp, h9] <;> go_simp), ?_⟩
            refine fcs ⟨at1 12 96 (.pointer (some ⟨gx, 0, none⟩)) (.pointer (some ⟨gx, 2, none⟩)) rfl (by first | exact .inl rfl | exact .inr ⟨_, _, _, rfl, rfl, by kernel_rfl, by decide, rfl⟩) (by kernel_rfl) rfl rfl (fun a9 W9 hb9 h9 => by simp [execOp, h9] <;> go_simp), ?_⟩
            refine fcs ⟨at1 96 97 (.pointer (some ⟨gx, 2, none⟩)) (.agg #[.int .i64 f8.type.kind, .int .i64 f8.type.size, .string (bs f8.type.name), .slice A8 f8.type.elem.length c8]) rfl (by first | exact .inl rfl | exact .inr ⟨_, _, _, rfl, rfl, by kernel_rfl, by decide, rfl⟩) (by kernel_rfl) rfl rfl (fun a9 W9 hb9 h9 => by have g0 := cell_next hb9 f2; have g1 := cell_next hb9 f3; have g2 := cell_next hb9 f4; have g3 := cell_next hb9 f5; simp [execOp, h9] <;> go_simp), ?_⟩
            refine fcs ⟨at1 5 98 (.pointer (some ⟨w.heap.size + 1 + 1, 0, none⟩)) (.pointer (some ⟨w.heap.size + 1 + 1, 4, none⟩)) rfl (by first | exact .inl rfl | exact .inr ⟨_, _, _, rfl, rfl, by kernel_rfl, by decide, rfl⟩) (by kernel_rfl) rfl rfl (fun a9 W9 hb9 h9 => by simp [execOp, h9] <;> go_simp), ?_⟩
            refine fcs ⟨at1 98 99 (.pointer (some ⟨w.heap.size + 1 + 1, 4, none⟩)) (.slice (some aF) fm b2) rfl (by first | exact .inl rfl | exact .inr ⟨_, _, _, rfl, rfl, by kernel_rfl, by decide, rfl⟩) (by kernel_rfl) rfl rfl (fun a9 W9 hb9 h9 => by have g0 := cell_next hb9 v4; simp [execOp, h9] <;> go_simp), ?_⟩
            refine fcs ⟨atcopy 11 100 (.int .i64 (kk : Int)) (.inl rfl) rfl (by first | exact .inl rfl | exact .inr ⟨_, _, _, rfl, rfl, by kernel_rfl, by decide, rfl⟩) (by kernel_rfl) rfl rfl, ?_⟩
            refine fcs ⟨at2 99 100 101 (.slice (some aF) fm b2) (.int .i64 (kk : Int)) (.pointer (some (aF.add (kk * 6)))) rfl (by first | exact .inl rfl | exact .inr ⟨_, _, _, rfl, rfl, by kernel_rfl, by decide, rfl⟩) (by kernel_rfl) (by kernel_rfl) rfl rfl rfl (fun a9 W9 hb9 h9 h8 => by simp [execOp, h9, h8] <;> go_simp), ?_⟩
            refine fcs ⟨at1 101 102 (.pointer (some (aF.add (kk * 6)))) (.pointer (some ⟨(aF.add (kk * 6)).block, (aF.add (kk * 6)).off + 1, none⟩)) rfl (by first | exact .inl rfl | exact .inr ⟨_, _, _, rfl, rfl, by kernel_rfl, by decide, rfl⟩) (by kernel_rfl) rfl rfl (fun a9 W9 hb9 h9 => by simp [execOp, h9] <;> go_simp), ?_⟩
            refine fcs ⟨at1 102 103 (.pointer (some ⟨(aF.add (kk * 6)).block, (aF.add (kk * 6)).off + 1, none⟩)) (.agg #[.int .i64 x.kind, .int .i64 x.n, .string (bs x.s), .slice s'.A x.l.length s'.c, .slice s'.B x.f.length s'.d]) rfl (by first | exact .inl rfl | exact .inr ⟨_, _, _, rfl, rfl, by kernel_rfl, by decide, rfl⟩) (by kernel_rfl) rfl rfl (fun a9 W9 hb9 h9 => by have g0 := cell_next hb9 x0; have g1 := cell_next hb9 x1; have g2 := cell_next hb9 x2; have g3 := cell_next hb9 x3; have g4 := cell_next hb9 x4; simp [execOp, h9] <;> go_simp), ?_⟩
            refine fcs ⟨atc3 30 95 97 103 104 (.agg #[.int .i64 S.ver, .slice A S.enums.length c, .slice A2 S.structs.length c2]) (.agg #[.int .i64 f8.type.kind, .int .i64 f8.type.size, .string (bs f8.type.name), .slice A8 f8.type.elem.length c8]) (.agg #[.int .i64 x.kind, .int .i64 x.n, .string (bs x.s), .slice s'.A x.l.length s'.c, .slice s'.B x.f.length s'.d]) (.int .i64 z) _ rfl rfl (by first | exact .inl rfl | exact .inr ⟨_, _, _, rfl, rfl, by kernel_rfl, by decide, rfl⟩) (by kernel_rfl) (by kernel_rfl) (by kernel_rfl) rfl rfl rfl (by kernel_rfl) rfl (fun W9 hb9 => cR W9 hb9), ?_⟩
            refine fcs ⟨atcopy 104 14 (.int .i64 z) (.inr rfl) rfl (by first | exact .inl rfl | exact .inr ⟨_, _, _, rfl, rfl, by kernel_rfl, by decide, rfl⟩) (by kernel_rfl) rfl rfl, ?_⟩
            exact fnl
          intro vv2 wv2 hvv2 hbv2
          have hv14 : vv2 14 = (.int .i64 z) := (hvv2 14 (by decide)).1
          simp only [lay, List.foldl_cons, List.foldl_nil, List.setIfInBounds_toArray, List.set_cons_succ, List.set_cons_zero, hv14]
          have F1 := Lib.hid (E1.next hbv2)
          have F3 := Lib.hid (E3.next hbv2)
          have F5 := Lib.hid (E5.out.next hbv2)
          have hb6 := Below.next hb5 hbv2
          clear hvv2 a0 a1 a2 v4 f2 f3 f4 f5 x0 x1 x2 x3 x4 cR hlt
          by_cases h0 : z = 0
          · have HN2 := Lib.hid (HN.out h0)
            subst h0
            clear HN HE
            go_wp2_with fail
            go_roundw
            case rel => exact ⟨kk + 1, hk1.out, by go_num, HN2, F1, F5, F3, hb6⟩
            case measure => have := hk1.out; simp [intOf]; omega
          · have HE2 := HE.out h0
            have qz : (z != 0) = true := by simpa using h0
            subst HE2
            clear HN HE h0
            go_wp2_with fail
            go_ret
            exact ⟨rfl, Below.next hb3 hb6⟩
        · obtain rfl : kk = fm := by omega
          have hr0 : r = 0 := by rw [← HR2.out, ← HK.out, ← HFM.out, List.take_length]
          subst hr0
          clear HK
          go_wp2_with fail
          go_ret
          exact ⟨rfl, hbw⟩
end Go.Proofs.Ytlebppjldoodgaa

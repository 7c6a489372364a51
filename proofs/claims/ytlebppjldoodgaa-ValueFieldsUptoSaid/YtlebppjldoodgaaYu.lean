import Derived.Test.YtlebppjldoodgaaYt
import Derived.Test.YtlebppjldoodgaaYo
/-
  The developers' At. No conditions beyond those that each names.
-/
namespace Go.Proofs.Ytlebppjldoodgaa
open Go.RowKit Go.Sort
theorem at_step {t u : Vl} {zs : List Int} {k : Nat} (h : k < zs.length) (hp : partV t (zs[k]'h) = some u) : atV t (zs.drop k) = atV u (zs.drop (k + 1)) := by
  rw [List.drop_eq_getElem_cons h, atV, hp]
  rfl
theorem at_stop {t : Vl} {zs : List Int} {k : Nat} (h : k < zs.length) (hp : partV t (zs[k]'h) = none) : atV t (zs.drop k) = none := by
  rw [List.drop_eq_getElem_cons h, atV, hp]
  rfl
theorem at_sz : ∀ (zs : List Int) (t : Vl), sz ((atV t zs).getD vl0) ≤ sz t
  | [], t => Nat.le_refl _
  | z :: zs, t => by
    rw [atV]
    cases h : partV t z with
    | none => exact sz_pos t
    | some u => exact Nat.le_trans (at_sz zs u) (part_sz h)
theorem at_ok : ∀ (zs : List Int) (t : Vl), vok t → vok ((atV t zs).getD vl0)
  | [], t, h => h
  | z :: zs, t, h => by
    rw [atV]
    cases hp : partV t z with
    | none => simp [vl0, vok, vok.voks, vok.foks]
    | some u => exact at_ok zs u (part_ok h hp)
set_option maxRecDepth 100000 in
set_option maxHeartbeats 8000000 in
theorem devAt_any (t : Vl) (zs : List Int) (v : Value) (P : Option Addr) (pc : Nat) (w : World) (hsz : sz t ≤ 2000000) (hzl : zs.length ≤ 2000000) (hv : VlV w t v) (hp : Rw TyI 1 w zs P) :
    Calls Try.prog 23 #[v, .slice P zs.length pc] w (FdP (atV t zs) w) := by
  have cP := fun (u : Vl) (z : Int) (s : Sb) (W : World) (hu : sz u ≤ 2000000) (hb : Below w.heap.size w W) (hr : RdV w u s) => part_any u z (.agg #[.int .i64 u.kind, .int .i64 u.n, .string (bs u.s), .slice s.A u.l.length s.c, .slice s.B u.f.length s.d]) w W hb hu ⟨s.A, s.c, s.B, s.d, rfl, hr⟩
  obtain ⟨s0, rfl, hrd0⟩ := rdV_iff.1 hv
  obtain ⟨n, hn⟩ : ∃ n, zs.length = n := ⟨_, rfl⟩
  obtain ⟨o, ho⟩ : ∃ o, atV t zs = o := ⟨_, rfl⟩
  have HN := Lib.hid hn
  rw [hn] at hzl ⊢
  rw [ho]
  have HO := Lib.hid (show atV t (zs.drop 0) = o from ho)
  have hab := ab2 w (Obj.cells #[.int .i64 t.kind, .int .i64 t.n, .string (bs t.s), .slice s0.A t.l.length s0.c, .slice s0.B t.f.length s0.d] 25) (Obj.cells #[.int .i64 0, .int .i64 0, .string ⟨#[]⟩, .slice none 0 0, .slice none 0 0] 25)
  have C1 := (Bx.new5 w 25 (.int .i64 t.kind) (.int .i64 t.n) (.string (bs t.s)) (.slice s0.A t.l.length s0.c) (.slice s0.B t.f.length s0.d)).next (ab1 _ (Obj.cells #[.int .i64 0, .int .i64 0, .string ⟨#[]⟩, .slice none 0 0, .slice none 0 0] 25))
  have C2 := Bx.new5 (w.alloc (Obj.cells #[.int .i64 t.kind, .int .i64 t.n, .string (bs t.s), .slice s0.A t.l.length s0.c, .slice s0.B t.f.length s0.d] 25)) 25 (.int .i64 0) (.int .i64 0) (.string ⟨#[]⟩) (.slice none 0 0) (.slice none 0 0)
  rw [show (w.alloc (Obj.cells #[.int .i64 t.kind, .int .i64 t.n, .string (bs t.s), .slice s0.A t.l.length s0.c, .slice s0.B t.f.length s0.d] 25)).heap.size = w.heap.size + 1 by simp] at C2
  show Calls Try.prog 23 #[.agg #[.int .i64 t.kind, .int .i64 t.n, .string (bs t.s), .slice s0.A t.l.length s0.c, .slice s0.B t.f.length s0.d], .slice P n pc] w _
  clear hn ho hv
  go_enter Try.func23, Try.ntmps23
  go_wp2_with fail
  go_loopw [12] (fun i wr => ∃ (k : Nat) (u : Vl) (s : Sb), k ≤ n ∧ i = .int .i64 (k : Int) ∧ Hid (atV u (zs.drop k) = o) ∧ sz u ≤ 2000000 ∧ RdV w u s ∧ Bx wr w.heap.size [.int .i64 u.kind, .int .i64 u.n, .string (bs u.s), .slice s.A u.l.length s.c, .slice s.B u.f.length s.d] ∧ Bx wr (w.heap.size + 1) [.int .i64 0, .int .i64 0, .string ⟨#[]⟩, .slice none 0 0, .slice none 0 0] ∧ Below w.heap.size w wr) (fun i _ => n - (intOf i).toNat)
  case atStart => exact ⟨0, t, s0, by omega, rfl, HO, hsz, hrd0, C1, C2, hab⟩
  case round =>
    clear HO hsz hrd0 C1 C2 hab
    obtain ⟨k, u, s, hk, rfl, HO, hsz, hrd, C1, C2, hb⟩ := hrel
    have c0 := C1.c 0 rfl
    have c1 := C1.c 1 rfl
    have c2 := C1.c 2 rfl
    have c3 := C1.c 3 rfl
    have c4 := C1.c 4 rfl
    have f0 := C1.f 0 rfl
    have f1 := C1.f 1 rfl
    have f2 := C1.f 2 rfl
    have f3 := C1.f 3 rfl
    have f4 := C1.f 4 rfl
    have l1 := C1.lt
    by_cases hlt : k < n
    · have h1 : k < zs.length := by rw [HN.out]; exact hlt
      have hk1 := Lib.hid hlt
      obtain ⟨a, rfl, hz⟩ := hp.get h1
      rw [Nat.mul_one] at hz
      have hz1 : wr.cell? (a.add k) = some (.int .i64 (zs[k]'h1)) := cell_next hb hz
      have hblk : (a.add k).block < wr.heap.size := blk_lt hz1
      have cP1 := cP u (zs[k]'h1) s wr hsz hb hrd
      have HS := Lib.hid (fun (x : Vl) (h : partV u (zs[k]'h1) = some x) => at_step h1 h)
      have HT := Lib.hid (fun (h : partV u (zs[k]'h1) = none) => at_stop h1 h)
      have HZ := Lib.hid (fun (x : Vl) (h : partV u (zs[k]'h1) = some x) => part_sz h)
      generalize zs[k]'h1 = z at *
      obtain ⟨q, hq⟩ : ∃ q, partV u z = q := ⟨_, rfl⟩
      rw [hq] at cP1
      have HQ := Lib.hid hq
      clear hq cP hz hp
      cases q with
      | none =>
        have HE := Lib.hid (show o = none by rw [← HO.out, HT.out HQ.out])
        clear HS HT HZ HO HQ
        go_wp2_with fail
        refine cP1.mono ?_
        rintro e w2 ⟨s2, rfl, -, hb2⟩
        have hbx := ab1 w2 (Obj.cells #[.int .i64 vl0.kind, .int .i64 vl0.n, .string (bs vl0.s), .slice s2.A vl0.l.length s2.c, .slice s2.B vl0.f.length s2.d] 25)
        have E2 := (C2.next hb2).next hbx
        have hab2 := Below.next (Below.next hb hb2) hbx
        simp only [Option.getD_none, Option.isSome_none]
        clear cP1 c0 c1 c2 c3 c4 f0 f1 f2 f3 f4
        have r0 := E2.c 0 rfl
        have r1 := E2.c 1 rfl
        have r2 := E2.c 2 rfl
        have r3 := E2.c 3 rfl
        have r4 := E2.c 4 rfl
        have q0 := E2.f 0 rfl
        have q1 := E2.f 1 rfl
        have q2 := E2.f 2 rfl
        have q3 := E2.f 3 rfl
        have q4 := E2.f 4 rfl
        have l3 := E2.lt
        go_wp2_with fail
        obtain rfl := HE.out
        exact bodyPost_ret (v := .tuple #[.agg #[.int .i64 0, .int .i64 0, .string ⟨#[]⟩, .slice none 0 0, .slice none 0 0], .bool false]) (by simp [results, Try.results23, go_sem, r0, r1, r2, r3, r4]) rfl (FdP.none_ (gb5 hab2 (b := w.heap.size + 1) (Nat.le_succ _) _ _ _ _ _))
      | some x =>
        have HE := Lib.hid ((HS.out x HQ.out).symm.trans HO.out)
        have hx2 : sz x ≤ 2000000 := Nat.le_trans (HZ.out x HQ.out) hsz
        clear HS HT HZ HO HQ
        go_wp2_with fail
        refine cP1.mono ?_
        rintro e w2 ⟨s2, rfl, hrd2, hb2⟩
        have hrd2 : RdV w x s2 := hrd2
        simp only [Option.getD_some, Option.isSome_some]
        have hbx := ab1 w2 (Obj.cells #[.int .i64 x.kind, .int .i64 x.n, .string (bs x.s), .slice s2.A x.l.length s2.c, .slice s2.B x.f.length s2.d] 25)
        have D2 := (C2.next hb2).next hbx
        have D1 := (C1.next hb2).next hbx
        have hab2 := Below.next (Below.next hb hb2) hbx
        have D3 := Bx.new5 w2 25 (.int .i64 x.kind) (.int .i64 x.n) (.string (bs x.s)) (.slice s2.A x.l.length s2.c) (.slice s2.B x.f.length s2.d)
        clear cP1 c0 c1 c2 c3 c4 f0 f1 f2 f3 f4 l1 C1 C2 hbx
        have c0 := D1.c 0 rfl
        have c1 := D1.c 1 rfl
        have c2 := D1.c 2 rfl
        have c3 := D1.c 3 rfl
        have c4 := D1.c 4 rfl
        have f0 := D1.f 0 rfl
        have f1 := D1.f 1 rfl
        have f2 := D1.f 2 rfl
        have f3 := D1.f 3 rfl
        have f4 := D1.f 4 rfl
        have l1 := D1.lt
        have E1 := D1.put5 (.int .i64 x.kind) (.int .i64 x.n) (.string (bs x.s)) (.slice s2.A x.l.length s2.c) (.slice s2.B x.f.length s2.d)
        have hgr := gb_set5 (w2.alloc (Obj.cells #[.int .i64 x.kind, .int .i64 x.n, .string (bs x.s), .slice s2.A x.l.length s2.c, .slice s2.B x.f.length s2.d] 25)) w.heap.size (.int .i64 x.kind) (.int .i64 x.n) (.string (bs x.s)) (.slice s2.A x.l.length s2.c) (.slice s2.B x.f.length s2.d)
        have E2 := D2.gb hgr (by omega)
        have hab3 := gb5 hab2 (b := w.heap.size) (Nat.le_refl _) (.int .i64 x.kind) (.int .i64 x.n) (.string (bs x.s)) (.slice s2.A x.l.length s2.c) (.slice s2.B x.f.length s2.d)
        clear hgr D1 D2 hab2
        go_wp2_with fail
        go_roundw
        case rel => exact ⟨k + 1, x, s2, hk1.out, by go_num, HE, hx2, hrd2, E1, E2, hab3⟩
        case measure => have := hk1.out; simp [intOf]; omega
    · obtain rfl : k = n := by omega
      have HE := Lib.hid (show some u = o by rw [← HO.out, List.drop_of_length_le (by rw [HN.out]; exact Nat.le_refl _), atV])
      have cN := renew_any (SizeOf.sizeOf u + 1) u (.agg #[.int .i64 u.kind, .int .i64 u.n, .string (bs u.s), .slice s.A u.l.length s.c, .slice s.B u.f.length s.d]) wr (by omega) hsz ⟨s.A, s.c, s.B, s.d, rfl, hrd.next hb⟩
      clear cP HO hp hlt
      go_wp2_with fail
      refine cN.mono ?_
      rintro e w3 hh
      obtain ⟨s3, rfl, hN3, hb3⟩ := hh.weak
      have E3 := C2.next hb3
      have hab4 := Below.next hb hb3
      have hl3 := C2.lt
      clear cN hh c0 c1 c2 c3 c4 f0 f1 f2 f3 f4
      have r0 := E3.c 0 rfl
      have r1 := E3.c 1 rfl
      have r2 := E3.c 2 rfl
      have r3 := E3.c 3 rfl
      have r4 := E3.c 4 rfl
      have q0 := E3.f 0 rfl
      have q1 := E3.f 1 rfl
      have q2 := E3.f 2 rfl
      have q3 := E3.f 3 rfl
      have q4 := E3.f 4 rfl
      have l3 := E3.lt
      go_wp2_with fail
      have hfin := gb5 hab4 (b := w.heap.size + 1) (Nat.le_succ _) (.int .i64 u.kind) (.int .i64 u.n) (.string (bs u.s)) (.slice s3.A u.l.length s3.c) (.slice s3.B u.f.length s3.d)
      obtain rfl := HE.out
      refine bodyPost_ret (v := .tuple #[.agg #[.int .i64 u.kind, .int .i64 u.n, .string (bs u.s), .slice s3.A u.l.length s3.c, .slice s3.B u.f.length s3.d], .bool true]) (by simp [results, Try.results23, go_sem, r0, r1, r2, r3, r4]) rfl ⟨s3, rfl, ?_, hfin⟩
      exact hN3 _ ((((((Kpl.refl _ _).set (p := ⟨w.heap.size + 1, 0, none⟩) hl3 _).set (p := ⟨w.heap.size + 1, 1, none⟩) hl3 _).set (p := ⟨w.heap.size + 1, 2, none⟩) hl3 _).set (p := ⟨w.heap.size + 1, 3, none⟩) hl3 _).set (p := ⟨w.heap.size + 1, 4, none⟩) hl3 _)
end Go.Proofs.Ytlebppjldoodgaa

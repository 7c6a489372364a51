import Derived.Test.YtlebppjldoodgaaYu
import Derived.Test.YtlebppjldoodgaaVx
/-
  The reference's Field and At. No conditions beyond those that each names.
-/
namespace Go.Proofs.Ytlebppjldoodgaa
open Go.RowKit Go.Sort
set_option maxRecDepth 100000 in
set_option maxHeartbeats 8000000 in
theorem refField_any (t : Vl) (z : Int) (v : Value) (W0 w : World) (hb0 : Below W0.heap.size W0 w) (hl : t.f.length ≤ 9223372036854775807) (hv : VlV W0 t v) :
    Calls Try.prog 19 #[v, .int .i64 z] w (FdQ W0 (fvl t z) w) := by
  obtain ⟨A, c, B, d, rfl, hR, hR2⟩ := hv
  obtain ⟨m, hm⟩ : ∃ m, t.l.length = m := ⟨_, rfl⟩
  obtain ⟨n, hn⟩ : ∃ n, t.f.length = n := ⟨_, rfl⟩
  obtain ⟨o, ho⟩ : ∃ o, fvl t z = o := ⟨_, rfl⟩
  have HO := Lib.hid ho
  have HN := Lib.hid hn
  rw [hn] at hl
  rw [hm, hn, ho]
  have z1 : (w.alloc (Obj.cells #[.int .i64 t.kind, .int .i64 t.n, .string (bs t.s), .slice A m c, .slice B n d] 25)).heap.size = w.heap.size + 1 := by simp
  have hab := ab2 w (Obj.cells #[.int .i64 t.kind, .int .i64 t.n, .string (bs t.s), .slice A m c, .slice B n d] 25) (Obj.cells #[.int .i64 0, .int .i64 0, .string ⟨#[]⟩, .slice none 0 0, .slice none 0 0] 25)
  have C1 := (Bx.new5 w 25 (.int .i64 t.kind) (.int .i64 t.n) (.string (bs t.s)) (.slice A m c) (.slice B n d)).next (ab1 _ (Obj.cells #[.int .i64 0, .int .i64 0, .string ⟨#[]⟩, .slice none 0 0, .slice none 0 0] 25))
  have C2 := Bx.new5 (w.alloc (Obj.cells #[.int .i64 t.kind, .int .i64 t.n, .string (bs t.s), .slice A m c, .slice B n d] 25)) 25 (.int .i64 0) (.int .i64 0) (.string ⟨#[]⟩) (.slice none 0 0) (.slice none 0 0)
  rw [z1] at C2
  have HK := Lib.hid (show ∀ j (h : j < t.f.length), j < 0 → (fun x : Int × Vl => (x.1 == z)) (t.f[j]'h) = false from fun j _ h => by omega)
  clear hm hn ho hR z1
  by_cases h6 : t.kind = 6
  case neg =>
    have d6 : (t.kind == 6) = false := by simpa using h6
    have HE : o = none := by rw [← HO.out]; unfold fvl; rw [if_neg h6]
    subst HE
    clear HO HK h6 hR2
    have r0 := C2.c 0 rfl
    have r1 := C2.c 1 rfl
    have r2 := C2.c 2 rfl
    have r3 := C2.c 3 rfl
    have r4 := C2.c 4 rfl
    go_enter Try.func19, Try.ntmps19
    go_wp2_with fail
    go_loopw [6] (fun i wr => i = .int .i64 0 ∧ Bx wr w.heap.size [.int .i64 t.kind, .int .i64 t.n, .string (bs t.s), .slice A m c, .slice B n d] ∧ Bx wr (w.heap.size + 1) [.int .i64 0, .int .i64 0, .string ⟨#[]⟩, .slice none 0 0, .slice none 0 0] ∧ Below w.heap.size w wr) (fun _ _ => 0)
    case atStart => exact ⟨rfl, C1, C2, hab⟩
    case round =>
      clear C1 C2 hab r0 r1 r2 r3 r4
      obtain ⟨rfl, C1, C2, hab⟩ := hrel
      have c0 := C1.c 0 rfl
      have c4 := C1.c 4 rfl
      have r0 := C2.c 0 rfl
      have r1 := C2.c 1 rfl
      have r2 := C2.c 2 rfl
      have r3 := C2.c 3 rfl
      have r4 := C2.c 4 rfl
      have q0 := C2.f 0 rfl
      have q1 := C2.f 1 rfl
      have q2 := C2.f 2 rfl
      have q3 := C2.f 3 rfl
      have q4 := C2.f 4 rfl
      have l2 := C2.lt
      by_cases hn0 : 0 < n
      · go_wp2_with fail
        exact bodyPost_ret (v := .tuple #[.agg #[.int .i64 0, .int .i64 0, .string ⟨#[]⟩, .slice none 0 0, .slice none 0 0], .bool false]) (by simp [results, Try.results19, go_sem, r0, r1, r2, r3, r4]) rfl (FdQ.none_ (gb5 hab (b := w.heap.size + 1) (Nat.le_succ _) _ _ _ _ _))
      · obtain rfl : n = 0 := by omega
        go_wp2_with fail
        exact bodyPost_ret (v := .tuple #[.agg #[.int .i64 0, .int .i64 0, .string ⟨#[]⟩, .slice none 0 0, .slice none 0 0], .bool false]) (by simp [results, Try.results19, go_sem, r0, r1, r2, r3, r4]) rfl (FdQ.none_ (gb5 hab (b := w.heap.size + 1) (Nat.le_succ _) _ _ _ _ _))
  case pos =>
  have d6 : (t.kind == 6) = true := by simpa using h6
  have hF : fvl t z = ((t.f.findIdx? fun x => (x.1 == z)).bind fun i => t.f[i]?).map Prod.snd := by unfold fvl; rw [if_pos h6, find_ix]
  have HF := Lib.hid hF
  clear h6 hF
  go_enter Try.func19, Try.ntmps19
  go_wp2_with fail
  go_loopw [6] (fun i wr => ∃ k : Nat, k ≤ n ∧ i = .int .i64 (k : Int) ∧ Hid (∀ j (h : j < t.f.length), j < k → (fun x : Int × Vl => (x.1 == z)) (t.f[j]'h) = false) ∧ Bx wr w.heap.size [.int .i64 t.kind, .int .i64 t.n, .string (bs t.s), .slice A m c, .slice B n d] ∧ Bx wr (w.heap.size + 1) [.int .i64 0, .int .i64 0, .string ⟨#[]⟩, .slice none 0 0, .slice none 0 0] ∧ Below w.heap.size w wr) (fun i _ => n - (intOf i).toNat)
  case atStart => exact ⟨0, by omega, rfl, HK, C1, C2, hab⟩
  case round =>
    clear HK C1 C2 hab
    obtain ⟨k, hk, rfl, HK, C1, C2, hab⟩ := hrel
    have c0 := C1.c 0 rfl
    have c4 := C1.c 4 rfl
    have r0 := C2.c 0 rfl
    have r1 := C2.c 1 rfl
    have r2 := C2.c 2 rfl
    have r3 := C2.c 3 rfl
    have r4 := C2.c 4 rfl
    have q0 := C2.f 0 rfl
    have q1 := C2.f 1 rfl
    have q2 := C2.f 2 rfl
    have q3 := C2.f 3 rfl
    have q4 := C2.f 4 rfl
    have l2 := C2.lt
    by_cases hlt : k < n
    · have hkl : k < t.f.length := by rw [HN.out]; exact hlt
      have hk1 := Lib.hid hlt
      obtain ⟨a, rfl, hA⟩ := hR2.get hkl
      obtain ⟨s, x0, x1, x2, x3, x4, x5, hrd⟩ := hA.sb
      have hbW := Below.next hb0 hab
      replace x0 := cell_next hbW x0
      replace x1 := cell_next hbW x1
      replace x2 := cell_next hbW x2
      replace x3 := cell_next hbW x3
      replace x4 := cell_next hbW x4
      replace x5 := cell_next hbW x5
      have hblk : (a.add (k * 6)).block < wr.heap.size := blk_lt x0
      have HY := Lib.hid (fun (h : ((t.f[k]'hkl).1 == z) = true) => show o = some (t.f[k]'hkl).2 by rw [← HO.out, HF.out, findIdx_at hkl h HK.out]; simp [List.getElem?_eq_getElem hkl])
      have HX := Lib.hid (fun (h : ((t.f[k]'hkl).1 == z) = false) => show ∀ j (hj : j < t.f.length), j < k + 1 → (fun x : Int × Vl => (x.1 == z)) (t.f[j]'hj) = false from fun j hj h2 => by
        by_cases e : j = k
        · subst e; exact h
        · exact HK.out j hj (by omega))
      obtain ⟨num, hnum⟩ : ∃ num, (t.f[k]'hkl).1 = num := ⟨_, rfl⟩
      obtain ⟨u, hu⟩ : ∃ u, (t.f[k]'hkl).2 = u := ⟨_, rfl⟩
      rw [hnum] at x0 HY HX
      rw [hu] at x1 x2 x3 x4 x5 hrd HY
      clear hA hnum hu hR2 HF HK
      by_cases hz : num = z
      · have dz : (num == z) = true := by simpa using hz
        have HE := Lib.hid (HY.out dz)
        clear HX HY hz
        go_wp2_with fail
        have hfin := gb5 hab (b := w.heap.size + 1) (Nat.le_succ _) (.int .i64 u.kind) (.int .i64 u.n) (.string (bs u.s)) (.slice s.A u.l.length s.c) (.slice s.B u.f.length s.d)
        obtain rfl := HE.out
        exact bodyPost_ret (v := .tuple #[.agg #[.int .i64 u.kind, .int .i64 u.n, .string (bs u.s), .slice s.A u.l.length s.c, .slice s.B u.f.length s.d], .bool true]) (by simp [results, Try.results19, go_sem, r0, r1, r2, r3, r4]) rfl (FdQ.some_ hrd hfin)
      · have dz : (num == z) = false := by simpa using hz
        have HE := Lib.hid (HX.out dz)
        clear HX HY hz
        go_wp2_with fail
        go_roundw
        case rel => exact ⟨k + 1, hk1.out, by go_num, HE, C1, C2, hab⟩
        case measure => have := hk1.out; simp [intOf]; omega
    · obtain rfl : k = n := by omega
      have HE := Lib.hid (show o = none by rw [← HO.out, HF.out, findIdx_none fun j hj => HK.out j hj (by rw [← HN.out]; exact hj)]; rfl)
      clear HF HK hR2
      go_wp2_with fail
      obtain rfl := HE.out
      exact bodyPost_ret (v := .tuple #[.agg #[.int .i64 0, .int .i64 0, .string ⟨#[]⟩, .slice none 0 0, .slice none 0 0], .bool false]) (by simp [results, Try.results19, go_sem, r0, r1, r2, r3, r4]) rfl (FdQ.none_ (gb5 hab (b := w.heap.size + 1) (Nat.le_succ _) _ _ _ _ _))
/-- A value is x, its lists lie where they lay in the world W0. -/
def PV (W0 : World) (x : Vl) (v : Value) : Prop := ∃ s : Sb, v = .agg #[.int .i64 x.kind, .int .i64 x.n, .string (bs x.s), .slice s.A x.l.length s.c, .slice s.B x.f.length s.d] ∧ RdV W0 x s
set_option maxRecDepth 100000 in
set_option maxHeartbeats 8000000 in
theorem refAt_any (t : Vl) (zs : List Int) (v : Value) (P : Option Addr) (pc : Nat) (w : World) (hok : vok t) (hzl : zs.length ≤ 2000000) (hv : VlV w t v) (hp : Rw TyI 1 w zs P) :
    Calls Try.prog 24 #[v, .slice P zs.length pc] w (FdP (atV t zs) w) := by
  have cF0 := fun (u : Vl) (z : Int) (s : Sb) (W : World) (hu : vok u) (hb : Below w.heap.size w W) (hr : RdV w u s) => refField_any u z (.agg #[.int .i64 u.kind, .int .i64 u.n, .string (bs u.s), .slice s.A u.l.length s.c, .slice s.B u.f.length s.d]) w W hb ((vok_iff.1 hu).2.2.1) ⟨s.A, s.c, s.B, s.d, rfl, hr⟩
  obtain ⟨s0, rfl, hrd0⟩ := rdV_iff.1 hv
  obtain ⟨n, hn⟩ : ∃ n, zs.length = n := ⟨_, rfl⟩
  obtain ⟨o, ho⟩ : ∃ o, atV t zs = o := ⟨_, rfl⟩
  have HN := Lib.hid hn
  rw [hn] at hzl ⊢
  rw [ho]
  have HO := Lib.hid (show atV t (zs.drop 0) = o from ho)
  have hab := ab2 w (Obj.cells #[.int .i64 t.kind, .int .i64 t.n, .string (bs t.s), .slice s0.A t.l.length s0.c, .slice s0.B t.f.length s0.d] 25) (Obj.cells #[.int .i64 0, .int .i64 0, .string ⟨#[]⟩, .slice none 0 0, .slice none 0 0] 25)
  have C1 := (Bx.new5 w 25 (.int .i64 t.kind) (.int .i64 t.n) (.string (bs t.s)) (.slice s0.A t.l.length s0.c) (.slice s0.B t.f.length s0.d)).next (ab1 _ (Obj.cells #[.int .i64 0, .int .i64 0, .string ⟨#[]⟩, .slice none 0 0, .slice none 0 0] 25))
  have C2 := Bx.new5 (w.alloc (Obj.cells #[.int .i64 t.kind, .int .i64 t.n, .string (bs t.s), .slice s0.A t.l.length s0.c, .slice s0.B t.f.length s0.d] 25)) 25 (.int .i64 0) (.int .i64 0) (.string ⟨#[]⟩) (.slice none 0 0) (.slice none 0 0)
  rw [show (w.alloc (Obj.cells #[.int .i64 t.kind, .int .i64 t.n, .string (bs t.s), .slice s0.A t.l.length s0.c, .slice s0.B t.f.length s0.d] 25)).heap.size = w.heap.size + 1 by simp] at C2
  show Calls Try.prog 24 #[.agg #[.int .i64 t.kind, .int .i64 t.n, .string (bs t.s), .slice s0.A t.l.length s0.c, .slice s0.B t.f.length s0.d], .slice P n pc] w _
  clear hn ho hv
  go_enter Try.func24, Try.ntmps24
  go_wp2_with fail
  go_loopw [6] (fun i wr => ∃ (k : Nat) (u : Vl) (s : Sb), k ≤ n ∧ i = .int .i64 (k : Int) ∧ Hid (atV u (zs.drop k) = o) ∧ Hid (vok u) ∧ RdV w u s ∧ Bx wr w.heap.size [.int .i64 u.kind, .int .i64 u.n, .string (bs u.s), .slice s.A u.l.length s.c, .slice s.B u.f.length s.d] ∧ Bx wr (w.heap.size + 1) [.int .i64 0, .int .i64 0, .string ⟨#[]⟩, .slice none 0 0, .slice none 0 0] ∧ Below w.heap.size w wr) (fun i _ => n - (intOf i).toNat)
  case atStart => exact ⟨0, t, s0, by omega, rfl, HO, Lib.hid hok, hrd0, C1, C2, hab⟩
  case round =>
    clear HO hok hrd0 C1 C2 hab
    obtain ⟨k, u, s, hk, rfl, HO, hok, hrd, C1, C2, hb⟩ := hrel
    have c0 := C1.c 0 rfl
    have c1 := C1.c 1 rfl
    have c2 := C1.c 2 rfl
    have c3 := C1.c 3 rfl
    have c4 := C1.c 4 rfl
    have f0 := C1.f 0 rfl
    have f1 := C1.f 1 rfl
    have f2 := C1.f 2 rfl
    have f3 := C1.f 3 rfl
    have f4 := C1.f 4 rfl
    have l1 := C1.lt
    by_cases hlt : k < n
    · have h1 : k < zs.length := by rw [HN.out]; exact hlt
      have hk1 := Lib.hid hlt
      obtain ⟨a, rfl, hz⟩ := hp.get h1
      rw [Nat.mul_one] at hz
      have hz1 : wr.cell? (a.add k) = some (.int .i64 (zs[k]'h1)) := cell_next hb hz
      have hblk : (a.add k).block < wr.heap.size := blk_lt hz1
      have cF := fun W (h : Below wr.heap.size wr W) => cF0 u (zs[k]'h1) s W hok.out (Below.next hb h) hrd
      have HS := Lib.hid (fun (x : Vl) (h : partV u (zs[k]'h1) = some x) => at_step h1 h)
      have HT := Lib.hid (fun (h : partV u (zs[k]'h1) = none) => at_stop h1 h)
      have HZ := Lib.hid (fun (x : Vl) (h : partV u (zs[k]'h1) = some x) => part_ok hok.out h)
      generalize zs[k]'h1 = z at *
      obtain ⟨q, hq⟩ : ∃ q, partV u z = q := ⟨_, rfl⟩
      have HQ := Lib.hid hq
      clear hq cF0 hz hp
      by_cases h6 : u.kind = 6
      · have d6 : (u.kind == 6) = true := by simpa using h6
        have hqf : fvl u z = q := by rw [← HQ.out]; unfold partV; rw [if_neg (by omega)]
        rw [hqf] at cF
        obtain ⟨x, hx⟩ : ∃ x, q.getD vl0 = x := ⟨_, rfl⟩
        obtain ⟨b, hbb⟩ : ∃ b, q.isSome = b := ⟨_, rfl⟩
        have HX := Lib.hid hx
        have HB := Lib.hid hbb
        unfold FdQ at cF
        simp only [hx, hbb] at cF
        clear h6 hqf hx hbb
        go_wp2_with fail
        go_upto_region 5 with (fail)
        refine wp_region_boxd (by kernel_rfl) (FF [(2, Fact.at_ wr (.pointer (some ⟨w.heap.size, 0, none⟩))), (1, Fact.at_ wr (.slice (some a) n pc)), (6, Fact.at_ wr (.int .i64 (k : Int))), (19, Fact.at_ wr (.agg #[.int .i64 u.kind, .int .i64 u.n, .string (bs u.s), .slice s.A u.l.length s.c, .slice s.B u.f.length s.d])), (20, Fact.at_ wr (.slice (some a) n pc)), (21, Fact.at_ wr (.int .i64 (k : Int))), (22, Fact.at_ wr (.pointer (some (a.add k)))), (23, Fact.at_ wr (.int .i64 z)), (24, FP (T2 (PV w x) b) wr), (18, FP (T2 (PV w x) b) wr), (25, FP (PV w x) wr), (26, Fact.at_ wr (.bool b)), (8, Fact.at_ wr (.bool b))]) [2, 1, 6] 61 7 10 25 [.int .i64 0, .int .i64 0, .string ⟨#[]⟩, .slice none 0 0, .slice none 0 0] (fun vs => ∃ s8 : Sb, vs = [.int .i64 x.kind, .int .i64 x.n, .string (bs x.s), .slice s8.A x.l.length s8.c, .slice s8.B x.f.length s8.d] ∧ RdV w x s8) [19, 20, 21, 22, 23, 24, 18, 25, 26, 8, 7] rfl (by kernel_rfl) (by kernel_rfl) (by kernel_rfl) (by kernel_rfl) (FF_soft (fcs ⟨at_soft wr (.pointer (some ⟨w.heap.size, 0, none⟩)), fcs ⟨at_soft wr (.slice (some a) n pc), fcs ⟨at_soft wr (.int .i64 (k : Int)), fcs ⟨at_soft wr (.agg #[.int .i64 u.kind, .int .i64 u.n, .string (bs u.s), .slice s.A u.l.length s.c, .slice s.B u.f.length s.d]), fcs ⟨at_soft wr (.slice (some a) n pc), fcs ⟨at_soft wr (.int .i64 (k : Int)), fcs ⟨at_soft wr (.pointer (some (a.add k))), fcs ⟨at_soft wr (.int .i64 z), fcs ⟨fp_soft (T2 (PV w x) b) wr, fcs ⟨fp_soft (T2 (PV w x) b) wr, fcs ⟨fp_soft (PV w x) wr, fcs ⟨at_soft wr (.bool b), fcs ⟨at_soft wr (.bool b), fnl⟩⟩⟩⟩⟩⟩⟩⟩⟩⟩⟩⟩⟩)) ?_ ?_ ?_
        · intro t9 ht9
          simp only [List.mem_cons, List.not_mem_nil, or_false] at ht9
          rcases ht9 with rfl | rfl | rfl
          · exact ⟨rfl, Below.refl _ _⟩
          · exact ⟨rfl, Below.refl _ _⟩
          · exact ⟨rfl, Below.refl _ _⟩
        · refine fcs ⟨.plain (at1 2 19 (.pointer (some ⟨w.heap.size, 0, none⟩)) (.agg #[.int .i64 u.kind, .int .i64 u.n, .string (bs u.s), .slice s.A u.l.length s.c, .slice s.B u.f.length s.d]) rfl (by first | exact .inl rfl | exact .inr ⟨_, _, _, rfl, rfl, by kernel_rfl, by decide, rfl⟩) (by kernel_rfl) rfl rfl (fun a9 W9 hb9 h9 => by have g0 := cell_next hb9 c0; have g1 := cell_next hb9 c1; have g2 := cell_next hb9 c2; have g3 := cell_next hb9 c3; have g4 := cell_next hb9 c4; simp [execOp, h9] <;> go_simp)) (by decide) (by decide), ?_⟩
          refine fcs ⟨.plain (atcopy 1 20 (.slice (some a) n pc) (.inl rfl) rfl (by first | exact .inl rfl | exact .inr ⟨_, _, _, rfl, rfl, by kernel_rfl, by decide, rfl⟩) (by kernel_rfl) rfl rfl) (by decide) (by decide), ?_⟩
          refine fcs ⟨.plain (atcopy 6 21 (.int .i64 (k : Int)) (.inl rfl) rfl (by first | exact .inl rfl | exact .inr ⟨_, _, _, rfl, rfl, by kernel_rfl, by decide, rfl⟩) (by kernel_rfl) rfl rfl) (by decide) (by decide), ?_⟩
          refine fcs ⟨.plain (at2 20 21 22 (.slice (some a) n pc) (.int .i64 (k : Int)) (.pointer (some (a.add k))) rfl (by first | exact .inl rfl | exact .inr ⟨_, _, _, rfl, rfl, by kernel_rfl, by decide, rfl⟩) (by kernel_rfl) (by kernel_rfl) rfl rfl rfl (fun a9 W9 hb9 h9 h8 => by simp [execOp, h9, h8] <;> go_simp)) (by decide) (by decide), ?_⟩
          refine fcs ⟨.plain (at1 22 23 (.pointer (some (a.add k))) (.int .i64 z) rfl (by first | exact .inl rfl | exact .inr ⟨_, _, _, rfl, rfl, by kernel_rfl, by decide, rfl⟩) (by kernel_rfl) rfl rfl (fun a9 W9 hb9 h9 => by have g0 := cell_next hb9 hz1; simp [execOp, h9] <;> go_simp)) (by decide) (by decide), ?_⟩
          refine fcs ⟨.plain (at_enter (W0 := wr) (by first | exact .inl rfl | exact .inr ⟨_, _, _, rfl, rfl, by kernel_rfl, by decide, rfl⟩) (fun a9 W9 hf9 => by have p19 := hf9 19 (by kernel_rfl); have q19 : a9.tmps.getD 19 undef = (.agg #[.int .i64 u.kind, .int .i64 u.n, .string (bs u.s), .slice s.A u.l.length s.c, .slice s.B u.f.length s.d]) := p19.1; have p23 := hf9 23 (by kernel_rfl); have q23 : a9.tmps.getD 23 undef = (.int .i64 z) := p23.1; have hb9 := p19.2; exact ⟨19, #[(.agg #[.int .i64 u.kind, .int .i64 u.n, .string (bs u.s), .slice s.A u.l.length s.c, .slice s.B u.f.length s.d]), (.int .i64 z)], by rw [← q19, ← q23]; simpa [execOp, resolve, Act.eval] using run_invoke (by kernel_rfl) _ W9, (cF W9 p19.2).mono fun e w' ⟨s8, e1, e2, e3⟩ => ⟨_, e1, e3, fun s hs => by injection hs with hs; subst hs; exact ⟨⟨_, ⟨s8, rfl, e2⟩, rfl⟩, upG hb9 e3⟩⟩⟩)) (by decide) (by decide), ?_⟩
          refine fcs ⟨.plain (ob_copy 24 18 (.inl rfl) rfl (.inl rfl) (by kernel_rfl) rfl) (by decide) (by decide), ?_⟩
          refine fcs ⟨.plain (atP 18 25 (T2 (PV w x) b) (PV w x) rfl (by first | exact .inl rfl | exact .inr ⟨_, _, _, rfl, rfl, by kernel_rfl, by decide, rfl⟩) (by kernel_rfl) rfl rfl (fun a9 W9 u9 h8 h9 => by obtain ⟨x8, hx8, rfl⟩ := h8; exact ⟨x8, by simp [execOp, h9] <;> go_simp, hx8⟩)) (by decide) (by decide), ?_⟩
          refine fcs ⟨.plain (atP 18 26 (T2 (PV w x) b) (· = .bool b) rfl (by first | exact .inl rfl | exact .inr ⟨_, _, _, rfl, rfl, by kernel_rfl, by decide, rfl⟩) (by kernel_rfl) rfl rfl (fun a9 W9 u9 h8 h9 => by obtain ⟨x8, hx8, rfl⟩ := h8; exact ⟨_, by simp [execOp, h9] <;> go_simp, rfl⟩)) (by decide) (by decide), ?_⟩
          refine fcs ⟨.alloc rfl rfl rfl (by decide) (fun a9 w9 => ⟨_, by simp [execOp, ptr0] <;> go_simp, ab1 _ (Obj.cells #[.int .i64 0, .int .i64 0, .string ⟨#[]⟩, .slice none 0 0, .slice none 0 0] 25), Bx.new5 _ _ _ _ _ _ _⟩), ?_⟩
          refine fcs ⟨.store rfl rfl rfl (by kernel_rfl) (by kernel_rfl) (fun a9 w9 b9 h9 hx9 hf9 => (by have k1 : a9.eval (.tmp 7) = .pointer (some ⟨b9, 0, none⟩) := h9; obtain ⟨s8, e8, h8r⟩ : PV w x (a9.tmps.getD 25 undef) := hf9.1; have k2 : a9.eval (.tmp 25) = _ := e8; have g0 := hx9.c 0 rfl; have f0 := hx9.f 0 rfl; have g1 := hx9.c 1 rfl; have f1 := hx9.f 1 rfl; have g2 := hx9.c 2 rfl; have f2 := hx9.f 2 rfl; have g3 := hx9.c 3 rfl; have f3 := hx9.f 3 rfl; have g4 := hx9.c 4 rfl; have f4 := hx9.f 4 rfl; have l9 := hx9.lt; exact ⟨_, by simp [execOp, k1, k2] <;> go_simp, gb_set5 _ _ (.int .i64 x.kind) (.int .i64 x.n) (.string (bs x.s)) (.slice s8.A x.l.length s8.c) (.slice s8.B x.f.length s8.d), ⟨[.int .i64 x.kind, .int .i64 x.n, .string (bs x.s), .slice s8.A x.l.length s8.c, .slice s8.B x.f.length s8.d], ⟨s8, rfl, h8r⟩, hx9.put5 (.int .i64 x.kind) (.int .i64 x.n) (.string (bs x.s)) (.slice s8.A x.l.length s8.c) (.slice s8.B x.f.length s8.d)⟩⟩)), ?_⟩
          refine fcs ⟨.plain (atcopy 26 8 (.bool b) (.inr rfl) rfl (by first | exact .inl rfl | exact .inr ⟨_, _, _, rfl, rfl, by kernel_rfl, by decide, rfl⟩) (by kernel_rfl) rfl rfl) (by decide) (by decide), ?_⟩
          exact fnl
        rintro vv wv hvv ⟨gx, hgx, hgl, hX⟩ hbv
        have hv8 : vv 8 = (.bool b) := (hvv 8 (by decide)).1
        unfold ptr0 at hgx
        simp only [lay, List.foldl_cons, List.foldl_nil, List.setIfInBounds_toArray, List.set_cons_succ, List.set_cons_zero, hgx, hv8]
        obtain ⟨_, ⟨s2, rfl, hrd2⟩, hX⟩ := hX
        replace C1 := C1.next hbv
        replace C2 := C2.next hbv
        replace hb := Below.next hb hbv
        clear hvv hgx hgl hbv hv8 cF c0 c1 c2 c3 c4 f0 f1 f2 f3 f4 l1 hz1 hblk
        cases b
        · have hqn : q = none := by
            cases q
            · rfl
            · exact Bool.noConfusion HB.out
          have HE := Lib.hid (show o = none by rw [← HO.out, HT.out (by rw [HQ.out, hqn])])
          clear HS HT HZ HO HQ HX hqn HB
          have r0 := C2.c 0 rfl
          have r1 := C2.c 1 rfl
          have r2 := C2.c 2 rfl
          have r3 := C2.c 3 rfl
          have r4 := C2.c 4 rfl
          have q0 := C2.f 0 rfl
          have q1 := C2.f 1 rfl
          have q2 := C2.f 2 rfl
          have q3 := C2.f 3 rfl
          have q4 := C2.f 4 rfl
          have l3 := C2.lt
          go_wp2_with fail
          obtain rfl := HE.out
          exact bodyPost_ret (v := .tuple #[.agg #[.int .i64 0, .int .i64 0, .string ⟨#[]⟩, .slice none 0 0, .slice none 0 0], .bool false]) (by simp [results, Try.results24, go_sem, r0, r1, r2, r3, r4]) rfl (FdP.none_ (gb5 hb (b := w.heap.size + 1) (Nat.le_succ _) _ _ _ _ _))
        · have hqs : q = some x := by
            cases q
            · exact Bool.noConfusion HB.out
            · rw [← HX.out]; rfl
          have HE := Lib.hid ((HS.out x (by rw [HQ.out, hqs])).symm.trans HO.out)
          have hokx := Lib.hid (HZ.out x (by rw [HQ.out, hqs]))
          clear HS HT HZ HO HQ HX hqs HB
          have x0 := hX.c 0 rfl
          have x1 := hX.c 1 rfl
          have x2 := hX.c 2 rfl
          have x3 := hX.c 3 rfl
          have x4 := hX.c 4 rfl
          have c0 := C1.c 0 rfl
          have c1 := C1.c 1 rfl
          have c2 := C1.c 2 rfl
          have c3 := C1.c 3 rfl
          have c4 := C1.c 4 rfl
          have f0 := C1.f 0 rfl
          have f1 := C1.f 1 rfl
          have f2 := C1.f 2 rfl
          have f3 := C1.f 3 rfl
          have f4 := C1.f 4 rfl
          have l1 := C1.lt
          have l3 := hX.lt
          have E1 := C1.put5 (.int .i64 x.kind) (.int .i64 x.n) (.string (bs x.s)) (.slice s2.A x.l.length s2.c) (.slice s2.B x.f.length s2.d)
          have hgr := gb_set5 wv w.heap.size (.int .i64 x.kind) (.int .i64 x.n) (.string (bs x.s)) (.slice s2.A x.l.length s2.c) (.slice s2.B x.f.length s2.d)
          have E2 := C2.gb hgr (by omega)
          have hab3 := gb5 hb (b := w.heap.size) (Nat.le_refl _) (.int .i64 x.kind) (.int .i64 x.n) (.string (bs x.s)) (.slice s2.A x.l.length s2.c) (.slice s2.B x.f.length s2.d)
          clear hgr C1 C2 hb hX
          go_wp2_with fail
          go_roundw
          case rel => exact ⟨k + 1, x, s2, hk1.out, by go_num, HE, hokx, hrd2, E1, E2, hab3⟩
          case measure => have := hk1.out; simp [intOf]; omega
      · have d6 : (u.kind == 6) = false := by simpa using h6
        clear cF
        by_cases h5 : u.kind = 5
        case neg =>
          have d5 : (u.kind != 5) = true := by simpa using h5
          have HE := Lib.hid (show o = none by rw [← HO.out, HT.out (by unfold partV; rw [if_neg h5]; unfold fvl; rw [if_neg h6])])
          clear HS HT HZ HO HQ h5 h6
          have r0 := C2.c 0 rfl
          have r1 := C2.c 1 rfl
          have r2 := C2.c 2 rfl
          have r3 := C2.c 3 rfl
          have r4 := C2.c 4 rfl
          have q0 := C2.f 0 rfl
          have q1 := C2.f 1 rfl
          have q2 := C2.f 2 rfl
          have q3 := C2.f 3 rfl
          have q4 := C2.f 4 rfl
          have l3 := C2.lt
          go_wp2_with fail
          go_quiet (fail)
          go_wp2_with fail
          obtain rfl := HE.out
          exact bodyPost_ret (v := .tuple #[.agg #[.int .i64 0, .int .i64 0, .string ⟨#[]⟩, .slice none 0 0, .slice none 0 0], .bool false]) (by simp [results, Try.results24, go_sem, r0, r1, r2, r3, r4]) rfl (FdP.none_ (gb5 (below_drewN hb _) (b := w.heap.size + 1) (Nat.le_succ _) _ _ _ _ _))
        case pos =>
        have d5 : (u.kind != 5) = false := by simpa using h5
        have HU := Lib.hid hok.out
        obtain ⟨m, hm⟩ : ∃ m, u.l.length = m := ⟨_, rfl⟩
        have hml : m ≤ 9223372036854775807 := by rw [← hm]; exact (vok_iff.1 hok.out).2.1.1
        have HM := Lib.hid hm
        rw [hm] at c3 C1
        clear hm
        by_cases hz : 0 ≤ z ∧ z < (m : Int)
        case neg =>
          have HE := Lib.hid (show o = none by
            rw [← HO.out, HT.out (by
              unfold partV
              rw [if_pos h5]
              split
              · rw [List.getElem?_eq_none_iff, HM.out]; omega
              · rfl)])
          clear HS HT HZ HO HQ h5 h6
          have r0 := C2.c 0 rfl
          have r1 := C2.c 1 rfl
          have r2 := C2.c 2 rfl
          have r3 := C2.c 3 rfl
          have r4 := C2.c 4 rfl
          have q0 := C2.f 0 rfl
          have q1 := C2.f 1 rfl
          have q2 := C2.f 2 rfl
          have q3 := C2.f 3 rfl
          have q4 := C2.f 4 rfl
          have l3 := C2.lt
          by_cases h0 : z < 0
          · have d1 : decide (z < 0) = true := decide_eq_true h0
            clear hz h0
            go_wp2_with fail
            go_quiet (fail)
            go_wp2_with fail
            obtain rfl := HE.out
            exact bodyPost_ret (v := .tuple #[.agg #[.int .i64 0, .int .i64 0, .string ⟨#[]⟩, .slice none 0 0, .slice none 0 0], .bool false]) (by simp [results, Try.results24, go_sem, r0, r1, r2, r3, r4]) rfl (FdP.none_ (gb5 (below_drewN hb _) (b := w.heap.size + 1) (Nat.le_succ _) _ _ _ _ _))
          · have d1 : decide (z < 0) = false := decide_eq_false h0
            have d2 : decide ((m : Int) ≤ z) = true := decide_eq_true (by omega)
            clear hz h0
            go_wp2_with fail
            go_quiet (fail)
            go_wp2_with fail
            obtain rfl := HE.out
            exact bodyPost_ret (v := .tuple #[.agg #[.int .i64 0, .int .i64 0, .string ⟨#[]⟩, .slice none 0 0, .slice none 0 0], .bool false]) (by simp [results, Try.results24, go_sem, r0, r1, r2, r3, r4]) rfl (FdP.none_ (gb5 (below_drewN hb _) (b := w.heap.size + 1) (Nat.le_succ _) _ _ _ _ _))
        case pos =>
          obtain ⟨j, rfl⟩ := Int.eq_ofNat_of_zero_le hz.1
          have hj : j < m := by omega
          have hjl : j < u.l.length := by rw [HM.out]; exact hj
          have hpv : partV u (j : Int) = some (u.l[j]'hjl) := by
            unfold partV
            rw [if_pos h5, if_pos (by omega), Int.toNat_natCast, List.getElem?_eq_getElem hjl]
          have HE := Lib.hid ((HS.out _ hpv).symm.trans HO.out)
          have hokx := Lib.hid (HZ.out _ hpv)
          obtain ⟨a3, c3_, hA3⟩ : ∃ a3 c3_, s.A = some a3 ∧ s.c = c3_ ∧ VlA w (u.l[j]'hjl) (a3.add (j * 5)) := by
            obtain ⟨a3, h1, h2⟩ := hrd.1.get hjl
            exact ⟨a3, _, h1, rfl, h2⟩
          obtain ⟨hsA, hsc, hA⟩ := hA3
          obtain ⟨s2, x0, x1, x2, x3, x4, hrd2⟩ := hA.sb
          obtain ⟨x, hx⟩ : ∃ x, u.l[j]'hjl = x := ⟨_, rfl⟩
          rw [hx] at x0 x1 x2 x3 x4 hrd2 HE hokx
          rw [hsA, hsc] at c3 C1
          replace x0 := cell_next hb x0
          replace x1 := cell_next hb x1
          replace x2 := cell_next hb x2
          replace x3 := cell_next hb x3
          replace x4 := cell_next hb x4
          have hblk3 : (a3.add (j * 5)).block < wr.heap.size := blk_lt x0
          have d1 : decide ((j : Int) < 0) = false := decide_eq_false (by omega)
          have d2 : decide ((m : Int) ≤ (j : Int)) = false := decide_eq_false (by omega)
          have E1 := C1.put5 (.int .i64 x.kind) (.int .i64 x.n) (.string (bs x.s)) (.slice s2.A x.l.length s2.c) (.slice s2.B x.f.length s2.d)
          clear HS HT HZ HO HQ h5 h6 hA hx hsA hsc hpv hz hok HU
          go_wp2_with fail
          go_quiet (fail)
          have hdr : Below wr.heap.size wr (wr.drewN nq) := below_drewN (Below.refl _ _) nq
          generalize wr.drewN nq = wq at *
          replace C1 := C1.next hdr
          replace C2 := C2.next hdr
          replace x0 := cell_next hdr x0
          replace x1 := cell_next hdr x1
          replace x2 := cell_next hdr x2
          replace x3 := cell_next hdr x3
          replace x4 := cell_next hdr x4
          replace hz1 := cell_next hdr hz1
          replace hb := Below.next hb hdr
          clear E1 c0 c1 c2 c3 c4 f0 f1 f2 f3 f4 l1 hblk hblk3 hdr
          have c3 := C1.c 3 rfl
          have hblk : (a.add k).block < wq.heap.size := blk_lt hz1
          have hblk3 : (a3.add (j * 5)).block < wq.heap.size := blk_lt x0
          go_upto_region 11 with (fail)
          refine wp_region_seqN (by kernel_rfl) (FF [(1, Fact.at_ wq (.slice (some a) n pc)), (2, Fact.at_ wq (.pointer (some ⟨w.heap.size, 0, none⟩))), (6, Fact.at_ wq (.int .i64 (k : Int))), (52, Fact.at_ wq (.pointer (some ⟨w.heap.size, 3, none⟩))), (53, Fact.at_ wq (.slice (some a3) m c3_)), (54, Fact.at_ wq (.slice (some a) n pc)), (55, Fact.at_ wq (.int .i64 (k : Int))), (56, Fact.at_ wq (.pointer (some (a.add k)))), (57, Fact.at_ wq (.int .i64 (j : Int))), (58, Fact.at_ wq (.pointer (some (a3.add (j * 5))))), (59, Fact.at_ wq (.agg #[.int .i64 x.kind, .int .i64 x.n, .string (bs x.s), .slice s2.A x.l.length s2.c, .slice s2.B x.f.length s2.d]))]) [1, 2, 6] [] 61 8 [52, 53, 54, 55, 56, 57, 58, 59] rfl (by kernel_rfl) (by kernel_rfl) (by decide) (by kernel_rfl) (by kernel_rfl) ?_ ?_ ?_
          · intro t9 ht9
            simp only [List.mem_cons, List.not_mem_nil, or_false] at ht9
            rcases ht9 with rfl | rfl | rfl
            · exact ⟨rfl, Below.refl _ _⟩
            · exact ⟨rfl, Below.refl _ _⟩
            · exact ⟨rfl, Below.refl _ _⟩
          · refine fcs ⟨Ob.new_ (at1 2 52 (.pointer (some ⟨w.heap.size, 0, none⟩)) (.pointer (some ⟨w.heap.size, 3, none⟩)) rfl (by first | exact .inl rfl | exact .inr ⟨_, _, _, rfl, rfl, by kernel_rfl, by decide, rfl⟩) (by kernel_rfl) rfl rfl (fun a9 W9 hb9 h9 => by simp [execOp, h9] <;> go_simp)) (by kernel_rfl), ?_⟩
            refine fcs ⟨Ob.new_ (at1 52 53 (.pointer (some ⟨w.heap.size, 3, none⟩)) (.slice (some a3) m c3_) rfl (by first | exact .inl rfl | exact .inr ⟨_, _, _, rfl, rfl, by kernel_rfl, by decide, rfl⟩) (by kernel_rfl) rfl rfl (fun a9 W9 hb9 h9 => by have g0 := cell_next hb9 c3; simp [execOp, h9] <;> go_simp)) (by kernel_rfl), ?_⟩
            refine fcs ⟨Ob.new_ (atcopy 1 54 (.slice (some a) n pc) (.inl rfl) rfl (by first | exact .inl rfl | exact .inr ⟨_, _, _, rfl, rfl, by kernel_rfl, by decide, rfl⟩) (by kernel_rfl) rfl rfl) (by kernel_rfl), ?_⟩
            refine fcs ⟨Ob.new_ (atcopy 6 55 (.int .i64 (k : Int)) (.inl rfl) rfl (by first | exact .inl rfl | exact .inr ⟨_, _, _, rfl, rfl, by kernel_rfl, by decide, rfl⟩) (by kernel_rfl) rfl rfl) (by kernel_rfl), ?_⟩
            refine fcs ⟨Ob.new_ (at2 54 55 56 (.slice (some a) n pc) (.int .i64 (k : Int)) (.pointer (some (a.add k))) rfl (by first | exact .inl rfl | exact .inr ⟨_, _, _, rfl, rfl, by kernel_rfl, by decide, rfl⟩) (by kernel_rfl) (by kernel_rfl) rfl rfl rfl (fun a9 W9 hb9 h9 h8 => by simp [execOp, h9, h8] <;> go_simp)) (by kernel_rfl), ?_⟩
            refine fcs ⟨Ob.new_ (at1 56 57 (.pointer (some (a.add k))) (.int .i64 (j : Int)) rfl (by first | exact .inl rfl | exact .inr ⟨_, _, _, rfl, rfl, by kernel_rfl, by decide, rfl⟩) (by kernel_rfl) rfl rfl (fun a9 W9 hb9 h9 => by have g0 := cell_next hb9 hz1; simp [execOp, h9] <;> go_simp)) (by kernel_rfl), ?_⟩
            refine fcs ⟨Ob.new_ (at2 53 57 58 (.slice (some a3) m c3_) (.int .i64 (j : Int)) (.pointer (some (a3.add (j * 5)))) rfl (by first | exact .inl rfl | exact .inr ⟨_, _, _, rfl, rfl, by kernel_rfl, by decide, rfl⟩) (by kernel_rfl) (by kernel_rfl) rfl rfl rfl (fun a9 W9 hb9 h9 h8 => by simp [execOp, h9, h8] <;> go_simp)) (by kernel_rfl), ?_⟩
            refine fcs ⟨Ob.new_ (at1 58 59 (.pointer (some (a3.add (j * 5)))) (.agg #[.int .i64 x.kind, .int .i64 x.n, .string (bs x.s), .slice s2.A x.l.length s2.c, .slice s2.B x.f.length s2.d]) rfl (by first | exact .inl rfl | exact .inr ⟨_, _, _, rfl, rfl, by kernel_rfl, by decide, rfl⟩) (by kernel_rfl) rfl rfl (fun a9 W9 hb9 h9 => by have g0 := cell_next hb9 x0; have g1 := cell_next hb9 x1; have g2 := cell_next hb9 x2; have g3 := cell_next hb9 x3; have g4 := cell_next hb9 x4; simp [execOp, h9] <;> go_simp)) (by kernel_rfl), ?_⟩
            exact fnl
          intro vv wv hvv hbv _ _
          have hv58 : vv 58 = (.pointer (some (a3.add (j * 5)))) := (hvv 58 (by decide)).1
          have hv59 : vv 59 = (.agg #[.int .i64 x.kind, .int .i64 x.n, .string (bs x.s), .slice s2.A x.l.length s2.c, .slice s2.B x.f.length s2.d]) := (hvv 59 (by decide)).1
          simp only [lay, List.foldl_cons, List.foldl_nil, List.setIfInBounds_toArray, List.set_cons_succ, List.set_cons_zero, hv58, hv59, List.drop_succ_cons, List.drop_zero]
          replace C1 := C1.next hbv
          replace C2 := C2.next hbv
          replace hb := Below.next hb hbv
          clear hvv hv58 hv59 hbv c3 hblk hblk3 hz1 x0 x1 x2 x3 x4
          have c0 := C1.c 0 rfl
          have c1 := C1.c 1 rfl
          have c2 := C1.c 2 rfl
          have c3 := C1.c 3 rfl
          have c4 := C1.c 4 rfl
          have f0 := C1.f 0 rfl
          have f1 := C1.f 1 rfl
          have f2 := C1.f 2 rfl
          have f3 := C1.f 3 rfl
          have f4 := C1.f 4 rfl
          have l1 := C1.lt
          have E1 := C1.put5 (.int .i64 x.kind) (.int .i64 x.n) (.string (bs x.s)) (.slice s2.A x.l.length s2.c) (.slice s2.B x.f.length s2.d)
          have hgr := gb_set5 wv w.heap.size (.int .i64 x.kind) (.int .i64 x.n) (.string (bs x.s)) (.slice s2.A x.l.length s2.c) (.slice s2.B x.f.length s2.d)
          have E2 := C2.gb hgr (by omega)
          have hab3 := gb5 hb (b := w.heap.size) (Nat.le_refl _) (.int .i64 x.kind) (.int .i64 x.n) (.string (bs x.s)) (.slice s2.A x.l.length s2.c) (.slice s2.B x.f.length s2.d)
          clear hgr C1 C2 hb
          go_wp2_with fail
          go_roundw
          case rel => exact ⟨k + 1, x, s2, hk1.out, by go_num, HE, hokx, hrd2, E1, E2, hab3⟩
          case measure => have := hk1.out; simp [intOf]; omega
    · obtain rfl : k = n := by omega
      have HE := Lib.hid (show some u = o by rw [← HO.out, List.drop_of_length_le (by rw [HN.out]; exact Nat.le_refl _), atV])
      clear cF0 HO hp hlt hok
      have r0 := C2.c 0 rfl
      have r1 := C2.c 1 rfl
      have r2 := C2.c 2 rfl
      have r3 := C2.c 3 rfl
      have r4 := C2.c 4 rfl
      have q0 := C2.f 0 rfl
      have q1 := C2.f 1 rfl
      have q2 := C2.f 2 rfl
      have q3 := C2.f 3 rfl
      have q4 := C2.f 4 rfl
      have l3 := C2.lt
      go_wp2_with fail
      have hfin := gb5 hb (b := w.heap.size + 1) (Nat.le_succ _) (.int .i64 u.kind) (.int .i64 u.n) (.string (bs u.s)) (.slice s.A u.l.length s.c) (.slice s.B u.f.length s.d)
      obtain rfl := HE.out
      exact bodyPost_ret (v := .tuple #[.agg #[.int .i64 u.kind, .int .i64 u.n, .string (bs u.s), .slice s.A u.l.length s.c, .slice s.B u.f.length s.d], .bool true]) (by simp [results, Try.results24, go_sem, r0, r1, r2, r3, r4]) rfl (FdP.some_ (hrd.next hfin) hfin)
end Go.Proofs.Ytlebppjldoodgaa

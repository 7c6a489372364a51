/-
  Chain, Seal, Open and their references. The tables of utf8 as the program laid them.
-/
import Derived.Test.YtcjaaijohapeaaaDoorK17
import Derived.Test.YtcjaaijohapeaaaDoorK05
import Derived.Test.YtcjaaijohapeaaaDoorK15
import Derived.Lib.QuietBelow
import Derived.BigQuiet
import Derived.Test.YtcjaaijohapeaaaDoorK09
namespace Go.Proofs.YtcjaaijohapeaaaDoor
open Go.RowKit
/-- What a chain hashes. -/
def lk (p : Nat) (l : List UInt8) : List UInt8 := le 8 p ++ (le 8 l.length ++ l)
/-- A slice of bytes that lie in an array, as a string. -/
theorem arr_str {w : World} {g T n : Nat} {l : List UInt8} (c : Nat) (h : w.heap[g]? = some (Obj.cells (bcells l).toArray T)) (hn : n ≤ l.length) :
    (convert 68 9 (.slice (some ⟨g, 0, none⟩) n c)).run Tryd.prog w = .ok (.string (bs (l.take n))) w := by
  obtain ⟨m, hm⟩ : ∃ m, l.take n = m := ⟨_, rfl⟩
  have hl : m.length = n := by rw [← hm, List.length_take]; omega
  rw [hm, ← hl]
  refine run_convert_bytes_back w 68 9 5 ⟨g, 0, none⟩ c m Tryd.underlying68 Tryd.underlying5 Tryd.underlying9 fun j hj => ?_
  rw [show (⟨g, 0, none⟩ : Addr).add j = ⟨g, j, none⟩ by simp [Addr.add]; exact Eq.symm]
  have e : m[j] = l[j]'(by omega) := by subst hm; simp
  simp [World.cell?, h, bcells, e, show j < l.length by omega]
/-- A sealed string. -/
def seal_ (l : List UInt8) : List UInt8 := le 4 (crc l) ++ l
theorem seal_length (l : List UInt8) : (seal_ l).length = 4 + l.length := by simp [seal_, le_length]
set_option maxRecDepth 100000 in
theorem refSeal_any (l : List UInt8) (w : World) (hs : l.length ≤ 1000000000000000) :
    Calls Tryd.prog 40 #[.string (bs l)] w (Ib (.string (bs (seal_ l))) w) := by
  have hsz : (bs l).size = l.length := rfl
  have c1 := fun W => refCrc_any l W (by omega)
  have hc := crc_lt l
  have c2 := fun W => refBytes_any (crc l) 4 W (by omega) (by omega) (by omega)
  unfold seal_
  obtain ⟨c, hc1⟩ : ∃ c, crc l = c := ⟨_, rfl⟩
  rw [hc1] at c1 c2 hc ⊢
  obtain ⟨x, hx⟩ : ∃ x, le 4 c = x := ⟨_, rfl⟩
  have hx8 : x.length = 4 := by rw [← hx]; exact le_length 4 c
  rw [hx] at c2 ⊢
  have z1 : (bs x).size = 4 := hx8
  have a1 := bs_append x l
  have l0 : IntKind.u64.wrap (c : Int) = (c : Int) := by rw [IntKind.wrap_u64]; omega
  clear hx hx8 hc1
  go_enter Tryd.func40, Tryd.ntmps40
  go_wp2_with fail
  refine (c1 _).mono ?_
  rintro e w1 ⟨rfl, rfl⟩
  go_wp2_with fail
  refine (c2 _).mono ?_
  rintro e w2 ⟨rfl, hb2⟩
  go_wp2_with fail
  go_ret
  exact ⟨rfl, hb2⟩
set_option maxRecDepth 100000 in
theorem seal_any (l : List UInt8) (w : World) (hs : l.length ≤ 1000000000000000) (hT : Tabs w) :
    Calls Tryd.prog 38 #[.string (bs l)] w (Ib (.string (bs (seal_ l))) w) := by
  have hsz : (bs l).size = l.length := rfl
  have c1 := crc_any l w (by omega) hT
  have hc := crc_lt l
  have c2 := fun W => bytesOf_any (crc l) W
  unfold seal_
  obtain ⟨c, hc1⟩ : ∃ c, crc l = c := ⟨_, rfl⟩
  rw [hc1] at c1 c2 hc ⊢
  have e4 : le 4 c = (le 8 c).take 4 := rfl
  rw [e4]
  obtain ⟨b0, b1, b2, b3, b4, b5, b6, b7, hb⟩ := le8 c
  rw [hb] at c2 ⊢
  have l0 : IntKind.u64.wrap (c : Int) = (c : Int) := by rw [IntKind.wrap_u64]; omega
  have ex : arr8 [b0, b1, b2, b3, b4, b5, b6, b7] = .agg #[.int .u8 (b0.toNat : Int), .int .u8 (b1.toNat : Int), .int .u8 (b2.toNat : Int), .int .u8 (b3.toNat : Int), .int .u8 (b4.toNat : Int), .int .u8 (b5.toNat : Int), .int .u8 (b6.toNat : Int), .int .u8 (b7.toNat : Int)] := rfl
  rw [ex] at c2
  have cv : ∀ w2 : World, _ := fun w2 => arr_str (w := w2.alloc (Obj.cells (bcells [b0, b1, b2, b3, b4, b5, b6, b7]).toArray 136)) (g := w2.heap.size) (n := 4) 8 (heap_alloc_new _ _) (by simp)
  obtain ⟨x, hx⟩ : ∃ x, [b0, b1, b2, b3, b4, b5, b6, b7].take 4 = x := ⟨_, rfl⟩
  have z1 : (bs x).size = 4 := by rw [← hx]; rfl
  rw [hx] at cv ⊢
  simp only [show (bcells [b0, b1, b2, b3, b4, b5, b6, b7]).toArray = #[.int .u8 (b0.toNat : Int), .int .u8 (b1.toNat : Int), .int .u8 (b2.toNat : Int), .int .u8 (b3.toNat : Int), .int .u8 (b4.toNat : Int), .int .u8 (b5.toNat : Int), .int .u8 (b6.toNat : Int), .int .u8 (b7.toNat : Int)] from rfl] at cv
  have a1 := bs_append x l
  clear hx hc1 ex hb e4
  go_enter Tryd.func38, Tryd.ntmps38
  go_wp2_with fail
  refine c1.mono ?_
  rintro e w1 ⟨rfl, hb1⟩
  go_wp2_with fail
  refine (c2 _).mono ?_
  rintro e w2 ⟨rfl, hb2⟩
  go_wp2_with fail
  go_ret
  exact ⟨rfl, (Below.next hb1 hb2).alloc (Below.next hb1 hb2).size _⟩
theorem str_ne {q l : List UInt8} (h : q ≠ l) : ((bs q).toList == (bs l).toList) = false := by rw [toList_bs, toList_bs]; simpa using h
theorem str_eq (l : List UInt8) : ((bs l).toList == (bs l).toList) = true := by simp
/-- What Open returns. -/
def opn (l : List UInt8) : List UInt8 × Nat := if l.length < 4 then ([], 1) else if seal_ (l.drop 4) = l then (l.drop 4, 0) else ([], 11)
set_option maxRecDepth 100000 in
theorem open_any (l : List UInt8) (w : World) (hs : l.length ≤ 1000000000000000) (hT : Tabs w) :
    Calls Tryd.prog 33 #[.string (bs l)] w (Ib (.tuple #[.string (bs (opn l).1), .int .i64 ((opn l).2 : Int)]) w) := by
  have hsz : (bs l).size = l.length := rfl
  have hn0 : (⟨#[]⟩ : ByteArray) = bs [] := rfl
  unfold opn
  by_cases h4 : l.length < 4
  · rw [if_pos h4]
    go_enter Tryd.func33, Tryd.ntmps33
    go_wp2_with fail
    go_ret2
    exact ⟨rfl, Below.refl _ _⟩
  · rw [if_neg h4]
    have hsl := bs_drop l 4 l.length (Nat.le_refl _)
    have c1 := seal_any (l.drop 4) w (by rw [List.length_drop]; omega) hT
    obtain ⟨m, hm⟩ : ∃ m, l.drop 4 = m := ⟨_, rfl⟩
    rw [hm] at hsl c1 ⊢
    obtain ⟨q, hq⟩ : ∃ q, seal_ m = q := ⟨_, rfl⟩
    rw [hq] at c1 ⊢
    clear hm hq
    by_cases he : q = l
    · rw [if_pos he]
      subst he
      go_enter Tryd.func33, Tryd.ntmps33
      go_wp2_with fail
      refine c1.mono ?_
      rintro e w1 ⟨rfl, hb1⟩
      go_wp2_with fail
      go_ret2
      exact ⟨rfl, hb1⟩
    · rw [if_neg he]
      have hne := str_ne he
      clear he
      go_enter Tryd.func33, Tryd.ntmps33
      go_wp2_with fail
      refine c1.mono ?_
      rintro e w1 ⟨rfl, hb1⟩
      go_wp2_with fail
      go_ret2
      exact ⟨rfl, hb1⟩
set_option maxRecDepth 100000 in
theorem refOpen_any (l : List UInt8) (w : World) (hs : l.length ≤ 1000000000000000) :
    Calls Tryd.prog 43 #[.string (bs l)] w (Ib (.tuple #[.string (bs (opn l).1), .int .i64 ((opn l).2 : Int)]) w) := by
  have hsz : (bs l).size = l.length := rfl
  have hn0 : (⟨#[]⟩ : ByteArray) = bs [] := rfl
  unfold opn
  by_cases h4 : l.length < 4
  · rw [if_pos h4]
    go_enter Tryd.func43, Tryd.ntmps43
    go_wp2_with fail
    go_ret2
    exact ⟨rfl, Below.refl _ _⟩
  · rw [if_neg h4]
    have hsl := bs_drop l 4 l.length (Nat.le_refl _)
    have c1 := refSeal_any (l.drop 4) w (by rw [List.length_drop]; omega)
    obtain ⟨m, hm⟩ : ∃ m, l.drop 4 = m := ⟨_, rfl⟩
    rw [hm] at hsl c1 ⊢
    obtain ⟨q, hq⟩ : ∃ q, seal_ m = q := ⟨_, rfl⟩
    rw [hq] at c1 ⊢
    clear hm hq
    by_cases he : q = l
    · rw [if_pos he]
      subst he
      go_enter Tryd.func43, Tryd.ntmps43
      go_wp2_with fail
      refine c1.mono ?_
      rintro e w1 ⟨rfl, hb1⟩
      go_wp2_with fail
      go_ret2
      exact ⟨rfl, hb1⟩
    · rw [if_neg he]
      have hne := str_ne he
      clear he
      go_enter Tryd.func43, Tryd.ntmps43
      go_wp2_with fail
      refine c1.mono ?_
      rintro e w1 ⟨rfl, hb1⟩
      go_wp2_with fail
      go_ret2
      exact ⟨rfl, hb1⟩
end Go.Proofs.YtcjaaijohapeaaaDoor
/-
  The encoding of a fragment: Frame, both. No conditions beyond those that each names.
-/
namespace Go.Proofs.YtcjaaijohapeaaaDoor
open Go.RowKit Go.Sort Go.Lib Go.Shelf
/-- The bytes of a fragment. -/
def fby (x : Fg) : List UInt8 := (uv x.id.toNat ++ uv x.ix.toNat) ++ uv x.ct.toNat ++ tv x.dat
/-- What Frame returns. -/
def fr (x : Fg) : List UInt8 := if fvB x = true then seal_ (fby x) else []
theorem fv_rng {x : Fg} (h : fvB x = true) : (0 ≤ x.id ∧ x.id ≤ 1099511627776) ∧ (1 ≤ x.ct ∧ x.ct ≤ 64) ∧ (0 ≤ x.ix ∧ x.ix ≤ x.ct - 1) ∧ x.dat.length ≤ 4000 := by
  unfold fvB inB at h
  simp only [Bool.and_eq_true, decide_eq_true_eq] at h
  omega
set_option maxRecDepth 100000 in
set_option maxHeartbeats 4000000 in
theorem frame_any (x : Fg) (w : World) (hd : x.dat.length ≤ 1000000) (hT : Tabs w) : Calls Tryd.prog 11 #[x.val] w (Ib (.string (bs (fr x))) w) := by
  have hb := ab1 w (Obj.cells #[.int .i64 x.id, .int .i64 x.ix, .int .i64 x.ct, .string (bs x.dat)] 32)
  have F0 := Bx.newF w 32 x
  have cV := fun W => isValid_any x W (by omega)
  unfold Fg.val at cV
  show Calls _ _ #[.agg #[.int .i64 x.id, .int .i64 x.ix, .int .i64 x.ct, .string (bs x.dat)]] w _
  cases hv : fvB x
  · have HR : Hid (fr x = []) := Lib.hid (by unfold fr; rw [hv]; rfl)
    rw [hv] at cV
    rw [HR.out]
    go_enter Tryd.func11, Tryd.ntmps11
    go_wp2_with (go_at_call 37; refine (cV _).mono ?_; rintro e w1 ⟨rfl, hb1⟩)
    go_ret
    exact ⟨rfl, Below.next hb hb1⟩
  · have HR : Hid (fr x = seal_ (fby x)) := Lib.hid (by unfold fr; rw [hv]; rfl)
    have hr := fv_rng hv
    rw [hv] at cV
    rw [HR.out]
    have hw0 : IntKind.u64.wrap x.id = ((x.id.toNat : Nat) : Int) := by rw [IntKind.wrap_u64]; omega
    have hw1 : IntKind.u64.wrap x.ix = ((x.ix.toNat : Nat) : Int) := by rw [IntKind.wrap_u64]; omega
    have hw2 : IntKind.u64.wrap x.ct = ((x.ct.toNat : Nat) : Int) := by rw [IntKind.wrap_u64]; omega
    have n0 : Hid (x.id.toNat ≤ 18446744073709551615) := Lib.hid (by omega)
    have n1 : Hid (x.ix.toNat ≤ 18446744073709551615) := Lib.hid (by omega)
    have n2 : Hid (x.ct.toNat ≤ 18446744073709551615) := Lib.hid (by omega)
    have HD := Lib.hid hr.2.2.2
    have HF : Hid (fby x = (uv x.id.toNat ++ uv x.ix.toNat) ++ uv x.ct.toNat ++ tv x.dat) := Lib.hid rfl
    clear hr hv HR
    generalize fby x = by_ at *
    obtain ⟨id, ix, ct, dat⟩ := x
    simp only at hw0 hw1 hw2 n0 n1 n2 HD HF hd ⊢
    generalize id.toNat = a0 at *
    generalize ix.toNat = a1 at *
    generalize ct.toNat = a2 at *
    have s0 : (bs (uv a0)).size ≤ 10 := uv_len10 n0.out
    have s1 : (bs (uv a1)).size ≤ 10 := uv_len10 n1.out
    have s2 : (bs (uv a2)).size ≤ 10 := uv_len10 n2.out
    have e1 : bs (uv a0) ++ bs (uv a1) = bs (uv a0 ++ uv a1) := bs_append _ _
    have e2 : bs (uv a0 ++ uv a1) ++ bs (uv a2) = bs (uv a0 ++ uv a1 ++ uv a2) := bs_append _ _
    have e3 : bs (uv a0 ++ uv a1 ++ uv a2) ++ bs (tv dat) = bs by_ := by rw [bs_append, ← HF.out]
    have s3 : (bs (uv a0 ++ uv a1)).size ≤ 20 := by rw [bs_size, List.length_append]; rw [bs_size] at s0 s1; omega
    have s4 : (bs (uv a0 ++ uv a1 ++ uv a2)).size ≤ 30 := by rw [bs_size, List.length_append]; rw [bs_size] at s2 s3; omega
    have s5 : (bs (tv dat)).size ≤ 4010 := by rw [bs_size]; unfold tv; rw [List.length_append]; have := uv_len10 (n := dat.length) (by have := HD.out; omega); have := HD.out; omega
    have HS : Hid (by_.length ≤ 5000) := Lib.hid (by rw [HF.out, List.length_append]; rw [bs_size] at s4 s5; omega)
    have cT := fun W => textW_any dat W (by have := HD.out; omega)
    have HT1 := Lib.hid (hT.below hb)
    clear HF hd HD
    generalize uv a0 ++ uv a1 ++ uv a2 = p3 at *
    generalize uv a0 ++ uv a1 = p2 at *
    go_enter Tryd.func11, Tryd.ntmps11
    go_wp2_with (go_at_call 37; refine (cV _).mono ?_; rintro e w1 ⟨rfl, hb1⟩; have F1 := F0.next hb1; have HT2 := Lib.hid (HT1.out.below hb1); have hb2 := Below.next hb hb1)
    have q0 := F1.c 0 rfl
    have q1 := F1.c 1 rfl
    have q2 := F1.c 2 rfl
    have r0 := fun d os => cell_regrown q0 d os
    have r1 := fun d os => cell_regrown q1 d os
    have r2 := fun d os => cell_regrown q2 d os
    have fl := F1.lt
    have cU := fun (n : Nat) (hn : Hid (n ≤ 18446744073709551615)) d os => Calls.regrown_of (uint_any n (grow (redrawn w1 d) os) hn.out)
    have HF1 := Lib.hid F1
    clear F1 F0 cV hb1 HT1 hb
    refine wp_region_quiet_below (by kernel_rfl) (by kernel_rfl) ?_
    repeat (go_big_quiet_step (exact cU _ (by assumption) _ _))
    refine wpQuiet_nil ?_
    intro _ hw'
    obtain ⟨⟨dq, osq⟩, hw''⟩ := hw'
    subst hw''
    have hbq := below_regrown w1 dq osq
    clear r0 r1 r2 q0 q1 q2
    have F2 := HF1.out.next hbq
    have HT3 := Lib.hid (HT2.out.below hbq)
    generalize grow (redrawn w1 dq) osq = w2 at *
    have q3 := F2.c 3 rfl
    have hb3 := Below.next hb2 hbq
    clear hbq hb2 F2 cU
    go_wp2_with (first
      | (go_at_call 31; refine (cT _).mono ?_; rintro e w3 ⟨rfl, hb4⟩; have HT4 := Lib.hid (HT3.out.below hb4))
      | (go_at_call 38; refine (seal_any _ _ (by have := HS.out; omega) HT4.out).mono ?_; rintro e w4 ⟨rfl, hb5⟩))
    go_ret
    exact ⟨rfl, Below.next (Below.next hb3 hb4) hb5⟩
end Go.Proofs.YtcjaaijohapeaaaDoor
/-
  The encoding of a fragment: the reference's Frame. No conditions beyond those that each names.
-/
namespace Go.Proofs.YtcjaaijohapeaaaDoor
open Go.RowKit Go.Sort Go.Lib Go.Shelf
set_option maxRecDepth 100000 in
theorem refNum_any (n : Int) (w : World) (h : 0 ≤ n ∧ n ≤ 9223372036854775807) : Calls Tryd.prog 41 #[.bool true, .int .i64 n] w (Ib (.string (bs (uv n.toNat))) w) := by
  have hw : IntKind.u64.wrap n = ((n.toNat : Nat) : Int) := by rw [IntKind.wrap_u64]; omega
  have cU := fun W => refUint_any n.toNat W (by omega)
  clear h
  generalize n.toNat = m at *
  go_enter Tryd.func41, Tryd.ntmps41
  go_wp2_with (go_at_call 75; refine (cU _).mono ?_; rintro e w1 ⟨rfl, hb1⟩)
  go_ret
  exact ⟨rfl, hb1⟩
set_option maxRecDepth 100000 in
set_option maxHeartbeats 4000000 in
theorem refFrame_any (x : Fg) (w : World) (hd : x.dat.length ≤ 1000000) : Calls Tryd.prog 14 #[x.val] w (Ib (.string (bs (fr x))) w) := by
  have hb := ab1 w (Obj.cells #[.int .i64 x.id, .int .i64 x.ix, .int .i64 x.ct, .string (bs x.dat)] 32)
  have F0 := Bx.newF w 32 x
  have cV := fun W => refValid_any x W (by omega)
  unfold Fg.val at cV
  show Calls _ _ #[.agg #[.int .i64 x.id, .int .i64 x.ix, .int .i64 x.ct, .string (bs x.dat)]] w _
  cases hv : fvB x
  · have HR : Hid (fr x = []) := Lib.hid (by unfold fr; rw [hv]; rfl)
    rw [hv] at cV
    rw [HR.out]
    go_enter Tryd.func14, Tryd.ntmps14
    go_wp2_with (go_at_call 16; refine (cV _).mono ?_; rintro e w1 ⟨rfl, hb1⟩)
    go_ret
    exact ⟨rfl, Below.next hb hb1⟩
  · have HR : Hid (fr x = seal_ (fby x)) := Lib.hid (by unfold fr; rw [hv]; rfl)
    have hr := fv_rng hv
    rw [hv] at cV
    rw [HR.out]
    have n0 : Hid (0 ≤ x.id ∧ x.id ≤ 9223372036854775807) := Lib.hid (by omega)
    have n1 : Hid (0 ≤ x.ix ∧ x.ix ≤ 9223372036854775807) := Lib.hid (by omega)
    have n2 : Hid (0 ≤ x.ct ∧ x.ct ≤ 9223372036854775807) := Lib.hid (by omega)
    have HD := Lib.hid hr.2.2.2
    have HF : Hid (fby x = (uv x.id.toNat ++ uv x.ix.toNat) ++ uv x.ct.toNat ++ tv x.dat) := Lib.hid rfl
    clear hr hv HR
    generalize fby x = by_ at *
    obtain ⟨id, ix, ct, dat⟩ := x
    simp only at n0 n1 n2 HD HF hd ⊢
    have s0 : (bs (uv id.toNat)).size ≤ 10 := uv_len10 (by have := n0.out; omega)
    have s1 : (bs (uv ix.toNat)).size ≤ 10 := uv_len10 (by have := n1.out; omega)
    have s2 : (bs (uv ct.toNat)).size ≤ 10 := uv_len10 (by have := n2.out; omega)
    have e1 : bs (uv id.toNat) ++ bs (uv ix.toNat) = bs (uv id.toNat ++ uv ix.toNat) := bs_append _ _
    have e2 : bs (uv id.toNat ++ uv ix.toNat) ++ bs (uv ct.toNat) = bs (uv id.toNat ++ uv ix.toNat ++ uv ct.toNat) := bs_append _ _
    have e3 : bs (uv id.toNat ++ uv ix.toNat ++ uv ct.toNat) ++ bs (tv dat) = bs by_ := by rw [bs_append, ← HF.out]
    have s3 : (bs (uv id.toNat ++ uv ix.toNat)).size ≤ 20 := by rw [bs_size, List.length_append]; rw [bs_size] at s0 s1; omega
    have s4 : (bs (uv id.toNat ++ uv ix.toNat ++ uv ct.toNat)).size ≤ 30 := by rw [bs_size, List.length_append]; rw [bs_size] at s2 s3; omega
    have s5 : (bs (tv dat)).size ≤ 4010 := by rw [bs_size]; unfold tv; rw [List.length_append]; have := uv_len10 (n := dat.length) (by have := HD.out; omega); have := HD.out; omega
    have HS : Hid (by_.length ≤ 5000) := Lib.hid (by rw [HF.out, List.length_append]; rw [bs_size] at s4 s5; omega)
    clear HF hd
    generalize uv id.toNat ++ uv ix.toNat ++ uv ct.toNat = p3 at *
    generalize uv id.toNat ++ uv ix.toNat = p2 at *
    go_enter Tryd.func14, Tryd.ntmps14
    go_wp2_with (go_at_call 16; refine (cV _).mono ?_; rintro e w1 ⟨rfl, hb1⟩; have F1 := F0.next hb1; have hb2 := Below.next hb hb1)
    have q0 := F1.c 0 rfl
    have q1 := F1.c 1 rfl
    have q2 := F1.c 2 rfl
    have q3 := F1.c 3 rfl
    have r0 := fun d os => cell_regrown q0 d os
    have r1 := fun d os => cell_regrown q1 d os
    have r2 := fun d os => cell_regrown q2 d os
    have r3 := fun d os => cell_regrown q3 d os
    have fl := F1.lt
    have cN := fun (n : Int) (hn : Hid (0 ≤ n ∧ n ≤ 9223372036854775807)) d os => Calls.regrown_of (refNum_any n (grow (redrawn w1 d) os) hn.out)
    have cT := fun d os => Calls.regrown_of (refText_any dat (grow (redrawn w1 d) os) (by have := HD.out; omega))
    have cS := fun d os => Calls.regrown_of (refSeal_any by_ (grow (redrawn w1 d) os) (by have := HS.out; omega))
    clear F1 F0 cV hb1 hb
    refine wp_region_quiet_below (by kernel_rfl) (by kernel_rfl) ?_
    repeat (go_big_quiet_step (first | (go_at_call 41; exact cN _ (by assumption) _ _) | (go_at_call 42; exact cT _ _) | (go_at_call 40; exact cS _ _)))
    refine wpQuiet_nil ?_
    intro _ hw'
    obtain ⟨⟨dq, osq⟩, hw''⟩ := hw'
    subst hw''
    have hbq := below_regrown w1 dq osq
    clear r0 r1 r2 r3 q0 q1 q2 q3
    generalize grow (redrawn w1 dq) osq = w2 at *
    have hb3 := Below.next hb2 hbq
    clear hbq hb2 cN cT cS
    go_wp2_with fail
    go_ret
    exact ⟨rfl, hb3⟩
end Go.Proofs.YtcjaaijohapeaaaDoor
/-
  A reader's steps as data; Unframe. No conditions beyond those that each names.
-/
namespace Go.Proofs.YtcjaaijohapeaaaDoor
open Go.RowKit Go.Sort Go.Lib Go.Shelf
def Fg0 : Fg := ⟨0, 0, 0, []⟩
/-- The readers of a fragment. -/
def ur1 (b : List UInt8) : Rs := (Rs.mk b 0).small 1099511627776
def ur2 (b : List UInt8) : Rs := (ur1 b).small 64
def ur3 (b : List UInt8) : Rs := (ur2 b).small 64
def ur4 (b : List UInt8) : Rs := (ur3 b).text 4000
def ufF (b : List UInt8) : Fg := ⟨((Rs.mk b 0).sval 1099511627776 : Nat), ((ur1 b).sval 64 : Nat), ((ur2 b).sval 64 : Nat), (ur3 b).tval 4000⟩
def ufE (b : List UInt8) : Nat := eN (ur4 b).l (ur4 b).e
/-- What Unframe returns. -/
def unf (s : List UInt8) : Fg × Nat := if (opn s).2 = 0 then (if ufE (opn s).1 = 0 then (if fvB (ufF (opn s).1) = true then (ufF (opn s).1, 0) else (Fg0, 4)) else (Fg0, ufE (opn s).1)) else (Fg0, (opn s).2)
theorem opn_len (s : List UInt8) : (opn s).1.length ≤ s.length := by unfold opn; split; simp; split; simp; simp
theorem uf_len (b : List UInt8) : (ufF b).dat.length ≤ b.length := by
  have h1 := Rs.small_len (Rs.mk b 0) 1099511627776
  have h2 := Rs.small_len (ur1 b) 64
  have h3 := Rs.small_len (ur2 b) 64
  have h4 : ((ur3 b).tval 4000).length ≤ (ur3 b).l.length := by
    unfold Rs.tval
    split
    · unfold tT; split
      · rw [List.length_take]; have := rU_len (ur3 b).l; omega
      · simp
    · simp
  show ((ur3 b).tval 4000).length ≤ b.length
  unfold ur3 at h4 ⊢
  unfold ur2 at *
  unfold ur1 at *
  simp only at h1
  omega
theorem Bx.off {w w' : World} {b g : Nat} {vs : List Value} (h : Bx w b vs) (hg : w.grownBy w' (some g)) (hne : b ≠ g) : Bx w' b vs := h.blk hg.size (hg.block b h.lt (fun e => hne (Option.some.inj e)))
theorem bp_gen {P : Program} {f : Func} {Q : Ending → World → Prop} {ex : Exit} {a : Act} {R : World → Prop} {W : World} (hW : R W) (h : ∀ W, R W → bodyPost P f Q ex a W) : bodyPost P f Q ex a W := h W hW
theorem F4set {w w0 : World} {b : Nat} {y : Fg} (h : Bx w0 b (eF y)) (hb : Below b w w0) (x : Fg) : Bx ((((w0.setCell ⟨b, 0, none⟩ (.int .i64 x.id)).setCell ⟨b, 1, none⟩ (.int .i64 x.ix)).setCell ⟨b, 2, none⟩ (.int .i64 x.ct)).setCell ⟨b, 3, none⟩ (.string (bs x.dat))) b (eF x) ∧
    Below b w ((((w0.setCell ⟨b, 0, none⟩ (.int .i64 x.id)).setCell ⟨b, 1, none⟩ (.int .i64 x.ix)).setCell ⟨b, 2, none⟩ (.int .i64 x.ct)).setCell ⟨b, 3, none⟩ (.string (bs x.dat))) :=
  ⟨(((h.put1 0 (.int .i64 x.id)).put1 1 (.int .i64 x.ix)).put1 2 (.int .i64 x.ct)).put1 3 (.string (bs x.dat)), (((hb.setCell (p := ⟨b, 0, none⟩) (Nat.le_refl _) _).setCell (p := ⟨b, 1, none⟩) (Nat.le_refl _) _).setCell (p := ⟨b, 2, none⟩) (Nat.le_refl _) _).setCell (p := ⟨b, 3, none⟩) (Nat.le_refl _) _⟩
theorem F4alloc {w w0 : World} {b : Nat} {y : Fg} (h : Bx w0 b (eF y)) (hb : Below b w w0) (x : Fg) (o : Obj) : Bx (((((w0.setCell ⟨b, 0, none⟩ (.int .i64 x.id)).setCell ⟨b, 1, none⟩ (.int .i64 x.ix)).setCell ⟨b, 2, none⟩ (.int .i64 x.ct)).setCell ⟨b, 3, none⟩ (.string (bs x.dat))).alloc o) b (eF x) ∧
    Below b w (((((w0.setCell ⟨b, 0, none⟩ (.int .i64 x.id)).setCell ⟨b, 1, none⟩ (.int .i64 x.ix)).setCell ⟨b, 2, none⟩ (.int .i64 x.ct)).setCell ⟨b, 3, none⟩ (.string (bs x.dat))).alloc o) :=
  ⟨(F4set h hb x).1.next (ab1 _ _), (F4set h hb x).2.alloc (Nat.le_of_lt (F4set h hb x).1.lt) o⟩
set_option maxRecDepth 100000 in
set_option maxHeartbeats 4000000 in
theorem unframe_any (s : List UInt8) (w : World) (hs : s.length ≤ 1000000000000000) (hT : Tabs w) :
    Calls Tryd.prog 10 #[.string (bs s)] w (Ib (.tuple #[(unf s).1.val, .int .i64 ((unf s).2 : Nat)]) w) := by
  have hb0 := ab1 w (Obj.cells #[.int .i64 0, .int .i64 0, .int .i64 0, .string ⟨#[]⟩] 32)
  have F0 : Bx (w.alloc (Obj.cells #[.int .i64 0, .int .i64 0, .int .i64 0, .string ⟨#[]⟩] 32)) w.heap.size (eF Fg0) := Bx.newF w 32 Fg0
  have cO := open_any s (w.alloc (Obj.cells #[.int .i64 0, .int .i64 0, .int .i64 0, .string ⟨#[]⟩] 32)) hs (hT.below hb0)
  have hol := opn_len s
  by_cases ho : (opn s).2 = 0
  · have hE : ((opn s).2 : Int) = 0 := by omega
    have HU : Hid (unf s = (if ufE (opn s).1 = 0 then (if fvB (ufF (opn s).1) = true then (ufF (opn s).1, 0) else (Fg0, 4)) else (Fg0, ufE (opn s).1))) := Lib.hid (if_pos ho)
    rw [HU.out]
    rw [hE] at cO
    have HCO := Lib.hid cO
    clear HU cO hE ho
    generalize (opn s).1 = b at *
    have hbl : b.length ≤ 9223372036854775000 := by omega
    have l1 : (ur1 b).l.length ≤ 9223372036854775000 := Nat.le_trans (Rs.small_len _ _) hbl
    have l2 : (ur2 b).l.length ≤ 9223372036854775000 := Nat.le_trans (Rs.small_len _ _) l1
    have l3 : (ur3 b).l.length ≤ 9223372036854775000 := Nat.le_trans (Rs.small_len _ _) l2
    have L0 := Lib.hid hbl
    have L1 := Lib.hid l1
    have L2 := Lib.hid l2
    have L3 := Lib.hid l3
    have cV := fun W => isValid_any (ufF b) W (by have := uf_len b; omega)
    have HCV := Lib.hid cV
    have HEV : Hid (ufE b = eN (ur4 b).l (ur4 b).e) := Lib.hid rfl
    clear hbl l1 l2 l3 cV hol
    by_cases he : ufE b = 0
    · have hne : (((ufE b : Nat) : Int) != 0) = false := by rw [he]; rfl
      cases hv : fvB (ufF b)
      · rw [hv] at HCV
        have HCV2 : Hid (∀ W, Calls Tryd.prog 37 #[.agg #[.int .i64 (ufF b).id, .int .i64 (ufF b).ix, .int .i64 (ufF b).ct, .string (bs (ufF b).dat)]] W (Ib (.bool false) W)) := HCV
        rw [if_pos he, if_neg (by decide)]
        have HE0 := Lib.hid he
        clear he hv
        go_enter Tryd.func10, Tryd.ntmps10
        go_wp2_with (first
          | (go_at_call 33; refine HCO.out.mono ?_; rintro e w1 ⟨rfl, hb1⟩)
          | (go_at_call 24; refine (new_any b _).mono ?_; rintro e w2 ⟨g, rfl, hg, hb2, R0⟩; have hb2 := Below.next hb1 hb2; have B2 := Lib.hid (Below.next hb0 hb2); have F2 := Lib.hid (F0.next hb2); have hwg : w.heap.size < g := (by have := hb1.size; simp at this; omega))
          | (go_at_call 35; refine (rsText_any g (ur3 b) 4000 _ L3.out (by decide) (by decide) R3).mono ?_; rintro e w6 ⟨rfl, hg6, R4⟩; have B6 := Lib.hid (Below.read B5.out hg6 (Nat.le_of_lt hwg)); have F6 := Lib.hid (F5.out.off hg6 (Nat.ne_of_lt hwg)))
          | (go_at_call 34; refine (rsSmall_any g (ur2 b) 64 _ L2.out (by decide) (by decide) R2).mono ?_; rintro e w5 ⟨rfl, hg5, R3⟩; have B5 := Lib.hid (Below.read B4.out hg5 (Nat.le_of_lt hwg)); have F5 := Lib.hid (F4.out.off hg5 (Nat.ne_of_lt hwg)))
          | (go_at_call 34; refine (rsSmall_any g (ur1 b) 64 _ L1.out (by decide) (by decide) R1).mono ?_; rintro e w4 ⟨rfl, hg4, R2⟩; have B4 := Lib.hid (Below.read B3.out hg4 (Nat.le_of_lt hwg)); have F4 := Lib.hid (F3.out.off hg4 (Nat.ne_of_lt hwg)))
          | (go_at_call 34; refine (rsSmall_any g (Rs.mk b 0) 1099511627776 _ L0.out (by decide) (by decide) R0).mono ?_; rintro e w3 ⟨rfl, hg3, R1⟩; have B3 := Lib.hid (Below.read B2.out hg3 (Nat.le_of_lt hwg)); have F3 := Lib.hid (F2.out.off hg3 (Nat.ne_of_lt hwg)))
          | (go_at_call 36; refine (show Calls _ _ _ _ (Is (.int .i64 (ufE b : Nat)) _) from end_any g _ _ _ (R4.next (ab1 _ _))).mono ?_; rintro e w7 ⟨rfl, rfl⟩; have T7 := (show Bx _ _ (eF (ufF b)) from Bx.newF w6 32 (ufF b)); have F7 := F6.out.next (ab1 w6 (Obj.cells #[.int .i64 (ufF b).id, .int .i64 (ufF b).ix, .int .i64 (ufF b).ct, .string (bs (ufF b).dat)] 32)))
          | (go_at_call 37; refine (HCV2.out _).mono ?_; rintro e w8 ⟨rfl, hb8⟩; have T8 := T7.next hb8; have F7 := F7.next hb8; have p0 := F7.c 0 rfl; have p1 := F7.c 1 rfl; have p2 := F7.c 2 rfl; have p3 := F7.c 3 rfl; have g0 := F7.f 0 rfl; have g1 := F7.f 1 rfl; have g2 := F7.f 2 rfl; have g3 := F7.f 3 rfl; have pl := F7.lt; have t0 := T8.c 0 rfl; have t1 := T8.c 1 rfl; have t2 := T8.c 2 rfl; have t3 := T8.c 3 rfl; have tl := T8.lt; have hnt : w.heap.size ≠ w6.heap.size := (Nat.ne_of_lt F6.out.lt)))
        refine bp_gen (R := fun W => Bx W w.heap.size (eF (Fg0)) ∧ Below w.heap.size w W) (F4set F7 (Below.next (B6.out.alloc B6.out.size _) hb8) (Fg0)) ?_
        rintro wz ⟨QB, QW⟩
        have c0 := QB.c 0 rfl
        have c1 := QB.c 1 rfl
        have c2 := QB.c 2 rfl
        have c3 := QB.c 3 rfl
        refine bodyPost_ret (v := .tuple #[.agg #[.int .i64 (Fg0).id, .int .i64 (Fg0).ix, .int .i64 (Fg0).ct, .string (bs (Fg0).dat)], .int .i64 (4 : Nat)]) (by simp [results, Tryd.results10, go_sem, c0, c1, c2, c3]) rfl ⟨rfl, QW⟩
      · rw [hv] at HCV
        have HCV2 : Hid (∀ W, Calls Tryd.prog 37 #[.agg #[.int .i64 (ufF b).id, .int .i64 (ufF b).ix, .int .i64 (ufF b).ct, .string (bs (ufF b).dat)]] W (Ib (.bool true) W)) := HCV
        rw [if_pos he, if_pos rfl]
        have HE0 := Lib.hid he
        clear he hv
        go_enter Tryd.func10, Tryd.ntmps10
        go_wp2_with (first
          | (go_at_call 33; refine HCO.out.mono ?_; rintro e w1 ⟨rfl, hb1⟩)
          | (go_at_call 24; refine (new_any b _).mono ?_; rintro e w2 ⟨g, rfl, hg, hb2, R0⟩; have hb2 := Below.next hb1 hb2; have B2 := Lib.hid (Below.next hb0 hb2); have F2 := Lib.hid (F0.next hb2); have hwg : w.heap.size < g := (by have := hb1.size; simp at this; omega))
          | (go_at_call 35; refine (rsText_any g (ur3 b) 4000 _ L3.out (by decide) (by decide) R3).mono ?_; rintro e w6 ⟨rfl, hg6, R4⟩; have B6 := Lib.hid (Below.read B5.out hg6 (Nat.le_of_lt hwg)); have F6 := Lib.hid (F5.out.off hg6 (Nat.ne_of_lt hwg)))
          | (go_at_call 34; refine (rsSmall_any g (ur2 b) 64 _ L2.out (by decide) (by decide) R2).mono ?_; rintro e w5 ⟨rfl, hg5, R3⟩; have B5 := Lib.hid (Below.read B4.out hg5 (Nat.le_of_lt hwg)); have F5 := Lib.hid (F4.out.off hg5 (Nat.ne_of_lt hwg)))
          | (go_at_call 34; refine (rsSmall_any g (ur1 b) 64 _ L1.out (by decide) (by decide) R1).mono ?_; rintro e w4 ⟨rfl, hg4, R2⟩; have B4 := Lib.hid (Below.read B3.out hg4 (Nat.le_of_lt hwg)); have F4 := Lib.hid (F3.out.off hg4 (Nat.ne_of_lt hwg)))
          | (go_at_call 34; refine (rsSmall_any g (Rs.mk b 0) 1099511627776 _ L0.out (by decide) (by decide) R0).mono ?_; rintro e w3 ⟨rfl, hg3, R1⟩; have B3 := Lib.hid (Below.read B2.out hg3 (Nat.le_of_lt hwg)); have F3 := Lib.hid (F2.out.off hg3 (Nat.ne_of_lt hwg)))
          | (go_at_call 36; refine (show Calls _ _ _ _ (Is (.int .i64 (ufE b : Nat)) _) from end_any g _ _ _ (R4.next (ab1 _ _))).mono ?_; rintro e w7 ⟨rfl, rfl⟩; have T7 := (show Bx _ _ (eF (ufF b)) from Bx.newF w6 32 (ufF b)); have F7 := F6.out.next (ab1 w6 (Obj.cells #[.int .i64 (ufF b).id, .int .i64 (ufF b).ix, .int .i64 (ufF b).ct, .string (bs (ufF b).dat)] 32)))
          | (go_at_call 37; refine (HCV2.out _).mono ?_; rintro e w8 ⟨rfl, hb8⟩; have T8 := T7.next hb8; have F7 := F7.next hb8; have p0 := F7.c 0 rfl; have p1 := F7.c 1 rfl; have p2 := F7.c 2 rfl; have p3 := F7.c 3 rfl; have g0 := F7.f 0 rfl; have g1 := F7.f 1 rfl; have g2 := F7.f 2 rfl; have g3 := F7.f 3 rfl; have pl := F7.lt; have t0 := T8.c 0 rfl; have t1 := T8.c 1 rfl; have t2 := T8.c 2 rfl; have t3 := T8.c 3 rfl; have tl := T8.lt; have hnt : w.heap.size ≠ w6.heap.size := (Nat.ne_of_lt F6.out.lt)))
        refine bp_gen (R := fun W => Bx W w.heap.size (eF (ufF b)) ∧ Below w.heap.size w W) (F4set F7 (Below.next (B6.out.alloc B6.out.size _) hb8) (ufF b)) ?_
        rintro wz ⟨QB, QW⟩
        have c0 := QB.c 0 rfl
        have c1 := QB.c 1 rfl
        have c2 := QB.c 2 rfl
        have c3 := QB.c 3 rfl
        refine bodyPost_ret (v := .tuple #[.agg #[.int .i64 (ufF b).id, .int .i64 (ufF b).ix, .int .i64 (ufF b).ct, .string (bs (ufF b).dat)], .int .i64 (0 : Nat)]) (by simp [results, Tryd.results10, go_sem, c0, c1, c2, c3]) rfl ⟨rfl, QW⟩
    · have hne : (((ufE b : Nat) : Int) != 0) = true := bne_iff_ne.2 (by omega)
      rw [if_neg he]
      have HE0 := Lib.hid he
      clear he
      go_enter Tryd.func10, Tryd.ntmps10
      go_wp2_with (first
        | (go_at_call 33; refine HCO.out.mono ?_; rintro e w1 ⟨rfl, hb1⟩)
        | (go_at_call 24; refine (new_any b _).mono ?_; rintro e w2 ⟨g, rfl, hg, hb2, R0⟩; have hb2 := Below.next hb1 hb2; have B2 := Lib.hid (Below.next hb0 hb2); have F2 := Lib.hid (F0.next hb2); have hwg : w.heap.size < g := (by have := hb1.size; simp at this; omega))
        | (go_at_call 35; refine (rsText_any g (ur3 b) 4000 _ L3.out (by decide) (by decide) R3).mono ?_; rintro e w6 ⟨rfl, hg6, R4⟩; have B6 := Lib.hid (Below.read B5.out hg6 (Nat.le_of_lt hwg)); have F6 := Lib.hid (F5.out.off hg6 (Nat.ne_of_lt hwg)))
        | (go_at_call 34; refine (rsSmall_any g (ur2 b) 64 _ L2.out (by decide) (by decide) R2).mono ?_; rintro e w5 ⟨rfl, hg5, R3⟩; have B5 := Lib.hid (Below.read B4.out hg5 (Nat.le_of_lt hwg)); have F5 := Lib.hid (F4.out.off hg5 (Nat.ne_of_lt hwg)))
        | (go_at_call 34; refine (rsSmall_any g (ur1 b) 64 _ L1.out (by decide) (by decide) R1).mono ?_; rintro e w4 ⟨rfl, hg4, R2⟩; have B4 := Lib.hid (Below.read B3.out hg4 (Nat.le_of_lt hwg)); have F4 := Lib.hid (F3.out.off hg4 (Nat.ne_of_lt hwg)))
        | (go_at_call 34; refine (rsSmall_any g (Rs.mk b 0) 1099511627776 _ L0.out (by decide) (by decide) R0).mono ?_; rintro e w3 ⟨rfl, hg3, R1⟩; have B3 := Lib.hid (Below.read B2.out hg3 (Nat.le_of_lt hwg)); have F3 := Lib.hid (F2.out.off hg3 (Nat.ne_of_lt hwg)))
        | (go_at_call 36; refine (show Calls _ _ _ _ (Is (.int .i64 (ufE b : Nat)) _) from end_any g _ _ _ (R4.next (ab1 _ _))).mono ?_; rintro e w7 ⟨rfl, rfl⟩; have T7 := (show Bx _ _ (eF (ufF b)) from Bx.newF w6 32 (ufF b)); have F7 := F6.out.next (ab1 w6 (Obj.cells #[.int .i64 (ufF b).id, .int .i64 (ufF b).ix, .int .i64 (ufF b).ct, .string (bs (ufF b).dat)] 32)); have p0 := F6.out.c 0 rfl; have p1 := F6.out.c 1 rfl; have p2 := F6.out.c 2 rfl; have p3 := F6.out.c 3 rfl; have g0 := F6.out.f 0 rfl; have g1 := F6.out.f 1 rfl; have g2 := F6.out.f 2 rfl; have g3 := F6.out.f 3 rfl; have pl := F6.out.lt))
      refine bp_gen (R := fun W => Bx W w.heap.size (eF (Fg0)) ∧ Below w.heap.size w W) (F4alloc F6.out B6.out (Fg0) _) ?_
      rintro wz ⟨QB, QW⟩
      have c0 := QB.c 0 rfl
      have c1 := QB.c 1 rfl
      have c2 := QB.c 2 rfl
      have c3 := QB.c 3 rfl
      refine bodyPost_ret (v := .tuple #[.agg #[.int .i64 (Fg0).id, .int .i64 (Fg0).ix, .int .i64 (Fg0).ct, .string (bs (Fg0).dat)], .int .i64 (ufE b : Nat)]) (by simp [results, Tryd.results10, go_sem, c0, c1, c2, c3]) rfl ⟨rfl, QW⟩
  · have HU : Hid (unf s = (Fg0, (opn s).2)) := Lib.hid (if_neg ho)
    have hne : (((opn s).2 : Int) != 0) = true := bne_iff_ne.2 (by omega)
    rw [HU.out]
    generalize (opn s).2 = e0 at *
    generalize (opn s).1 = b at *
    clear ho hol HU
    have HCO := Lib.hid cO
    clear cO
    go_enter Tryd.func10, Tryd.ntmps10
    go_wp2_with (go_at_call 33; refine HCO.out.mono ?_; rintro e w1 ⟨rfl, hb1⟩; have F1 := F0.next hb1; have q0 := F1.c 0 rfl; have q1 := F1.c 1 rfl; have q2 := F1.c 2 rfl; have q3 := F1.c 3 rfl; have f0 := F1.f 0 rfl; have f1 := F1.f 1 rfl; have f2 := F1.f 2 rfl; have f3 := F1.f 3 rfl; have fl := F1.lt)
    refine bp_gen (R := fun W => Bx W w.heap.size (eF (Fg0)) ∧ Below w.heap.size w W) (F4set F1 (Below.next hb0 hb1) (Fg0)) ?_
    rintro wz ⟨QB, QW⟩
    have c0 := QB.c 0 rfl
    have c1 := QB.c 1 rfl
    have c2 := QB.c 2 rfl
    have c3 := QB.c 3 rfl
    refine bodyPost_ret (v := .tuple #[.agg #[.int .i64 (Fg0).id, .int .i64 (Fg0).ix, .int .i64 (Fg0).ct, .string (bs (Fg0).dat)], .int .i64 (e0 : Nat)]) (by simp [results, Tryd.results10, go_sem, c0, c1, c2, c3]) rfl ⟨rfl, QW⟩
end Go.Proofs.YtcjaaijohapeaaaDoor

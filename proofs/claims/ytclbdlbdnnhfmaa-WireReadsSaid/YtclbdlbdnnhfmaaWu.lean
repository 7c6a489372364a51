/-
  The law of sequences of reads: it returns true. Condition: the slice's elements are pairs of integers.
-/
import Derived.Test.YtclbdlbdnnhfmaaWv
import Derived.Test.YtclbdlbdnnhfmaaWr
import Derived.Test.YtclbdlbdnnhfmaaWj
import Derived.Deep.DeepCutAuto
import Derived.Deep.RegionWith
namespace Go.Proofs.Ytclbdlbdnnhfmaa
open Go.RowKit
theorem Rdr.set3 {w : World} {g B : Nat} {r : List UInt8} {e : Nat} (h : Rdr w g r e) (hne : B ≠ g) (x y z : Value) : Rdr (((w.setCell ⟨B, 0, none⟩ x).setCell ⟨B, 1, none⟩ y).setCell ⟨B, 2, none⟩ z) g r e := by
  have hb : (((w.setCell ⟨B, 0, none⟩ x).setCell ⟨B, 1, none⟩ y).setCell ⟨B, 2, none⟩ z).heap[g]? = w.heap[g]? := by
    rw [Below.heap_setCell _ _ _ _ (Ne.symm hne), Below.heap_setCell _ _ _ _ (Ne.symm hne), Below.heap_setCell _ _ _ _ (Ne.symm hne)]
  exact ⟨by simpa [World.setCell] using h.lt, (World.cell?_of_block (a := ⟨g, 0, none⟩) hb).trans h.c0, (World.cell?_of_block (a := ⟨g, 1, none⟩) hb).trans h.c1, (World.frozen?_of_block (a := ⟨g, 0, none⟩) hb).trans h.f0, (World.frozen?_of_block (a := ⟨g, 1, none⟩) hb).trans h.f1⟩
theorem V3.set3 {w : World} {B : Nat} {x0 y0 z0 : Value} (h : V3 w B x0 y0 z0) (x y z : Value) : V3 (((w.setCell ⟨B, 0, none⟩ x).setCell ⟨B, 1, none⟩ y).setCell ⟨B, 2, none⟩ z) B x y z := by
  obtain ⟨lt, c0, c1, c2, f0, f1, f2⟩ := h
  have n01 : (⟨B, 0, none⟩ : Addr) ≠ ⟨B, 1, none⟩ := by intro h; cases h
  have n02 : (⟨B, 0, none⟩ : Addr) ≠ ⟨B, 2, none⟩ := by intro h; cases h
  have n12 : (⟨B, 1, none⟩ : Addr) ≠ ⟨B, 2, none⟩ := by intro h; cases h
  refine ⟨by simpa [World.setCell] using lt, ?_, ?_, ?_, by simp [f0], by simp [f1], by simp [f2]⟩
  · rw [World.cell?_setCell_other _ _ _ _ (Ne.symm n02), World.cell?_setCell_other _ _ _ _ (Ne.symm n01)]
    exact World.cell?_setCell_same _ _ _ c0
  · rw [World.cell?_setCell_other _ _ _ _ (Ne.symm n12)]
    exact World.cell?_setCell_same _ _ _ ((World.cell?_setCell_other _ _ _ _ n01).trans c1)
  · exact World.cell?_setCell_same _ _ _ ((World.cell?_setCell_other _ _ _ _ n12).trans ((World.cell?_setCell_other _ _ _ _ n02).trans c2))
theorem V3.off {w w' : World} {g B : Nat} {x y z : Value} (h : V3 w B x y z) (hg : w.grownBy w' (some g)) (hne : B ≠ g) : V3 w' B x y z := by
  have hb := hg.block B h.lt (fun k => hne (Option.some.inj k))
  exact ⟨Nat.lt_of_lt_of_le h.lt hg.size, (World.cell?_of_block (a := ⟨B, 0, none⟩) hb).trans h.c0, (World.cell?_of_block (a := ⟨B, 1, none⟩) hb).trans h.c1, (World.cell?_of_block (a := ⟨B, 2, none⟩) hb).trans h.c2, (World.frozen?_of_block (a := ⟨B, 0, none⟩) hb).trans h.f0, (World.frozen?_of_block (a := ⟨B, 1, none⟩) hb).trans h.f1, (World.frozen?_of_block (a := ⟨B, 2, none⟩) hb).trans h.f2⟩
theorem cell_set3 {w : World} {B : Nat} {A : Addr} {v : Value} (h : w.cell? A = some v) (hne : B ≠ A.block) (x y z : Value) : (((w.setCell ⟨B, 0, none⟩ x).setCell ⟨B, 1, none⟩ y).setCell ⟨B, 2, none⟩ z).cell? A = some v := by
  have hb : (((w.setCell ⟨B, 0, none⟩ x).setCell ⟨B, 1, none⟩ y).setCell ⟨B, 2, none⟩ z).heap[A.block]? = w.heap[A.block]? := by
    rw [Below.heap_setCell _ _ _ _ (Ne.symm hne), Below.heap_setCell _ _ _ _ (Ne.symm hne), Below.heap_setCell _ _ _ _ (Ne.symm hne)]
  exact (World.cell?_of_block hb).trans h
theorem aP_drop {l : List UInt8} {a e e2 k : Nat} {r2 : List UInt8} (ha : a ≤ l.length) (h : e2 = 0 → r2 = (l.drop a).drop k ∧ k ≤ l.length - a) : aL e e2 (l.drop a) r2 = l.drop (aP e e2 a k) ∧ aP e e2 a k ≤ l.length := by
  unfold aL aP
  split
  · rename_i hh
    obtain ⟨h1, h2⟩ := h hh.2
    exact ⟨by rw [h1, List.drop_drop], by omega⟩
  · exact ⟨rfl, ha⟩
theorem u_drop {l : List UInt8} {a : Nat} (h : eU (l.drop a) = 0) : rU (l.drop a) = (l.drop a).drop (kU (l.drop a)) ∧ kU (l.drop a) ≤ l.length - a := by
  have := kU_len h
  rw [List.length_drop] at this
  exact ⟨rU_eq h, this⟩
theorem s_drop {l : List UInt8} {a c : Nat} {M : Int} (hc : c ≠ 0) (h : eS M c (l.drop a) = 0) : rS M (l.drop a) = (l.drop a).drop (kU (l.drop a)) ∧ kU (l.drop a) ≤ l.length - a := by
  have hU : eU (l.drop a) = 0 := by
    by_cases hU : eU (l.drop a) = 0
    · exact hU
    · unfold eS at h; rw [if_pos hU] at h; exact absurd h hU
  have h1 : eS M 1 (l.drop a) = 0 := (nS_eq M c _ hc).1 h
  refine ⟨?_, (u_drop hU).2⟩
  unfold rS; rw [if_pos h1]; exact (u_drop hU).1
theorem t_drop {l : List UInt8} {a : Nat} {M : Int} (h : eT M (l.drop a) = 0) : rT M (l.drop a) = (l.drop a).drop (kT (l.drop a)) ∧ kT (l.drop a) ≤ l.length - a := by
  obtain ⟨_, h2, _⟩ := front_tv h
  rw [List.length_drop] at h2
  refine ⟨?_, h2⟩
  have h3 : eS M 3 (l.drop a) = 0 := by
    by_cases h3 : eS M 3 (l.drop a) = 0
    · exact h3
    · unfold eT at h; rw [if_pos h3] at h; exact absurd h h3
  have hU : eU (l.drop a) = 0 := by
    by_cases hU : eU (l.drop a) = 0
    · exact hU
    · unfold eS at h3; rw [if_pos hU] at h3; exact absurd h3 hU
  unfold rT; rw [if_pos h, (u_drop hU).1, List.drop_drop]; rfl
set_option maxRecDepth 100000 in
set_option maxHeartbeats 4000000 in
theorem law_reads (s : ByteArray) (A : Option Addr) (n c : Nat) (w : World) (hs : s.size ≤ 9223372036854775807) (hn2 : n ≤ 9223372036854775807) (hA : Prs w A n) :
    Calls Try.prog 4 #[.string s, .slice A n c] w (Ib (.bool true) w) := by
  obtain ⟨l, rfl⟩ : ∃ l, s = bs l := ⟨_, bs_of s⟩
  have hsz : (bs l).size = l.length := rfl
  by_cases hl : 300 < l.length
  · clear hs hA
    go_enter Try.func4, Try.ntmps4
    go_wp2_with (go_at_call 10; refine (awake_any _).mono ?_; rintro e w5 ⟨rfl, h5⟩)
    go_ret
    exact ⟨by rfl, h5⟩
  have hl : l.length ≤ 300 := by omega
  by_cases hn : 40 < n
  · clear hs hA
    go_enter Try.func4, Try.ntmps4
    go_wp2_with (go_at_call 10; refine (awake_any _).mono ?_; rintro e w5 ⟨rfl, h5⟩)
    go_ret
    exact ⟨by rfl, h5⟩
  have hn : n ≤ 40 := by omega
  clear hs hn2
  have cN := fun w => new_any l w
  have HA := Lib.hid hA
  clear hA
  go_enter Try.func4, Try.ntmps4
  go_wp2_with fail
  refine (cN _).mono ?_
  rintro e w1 ⟨g, rfl, hg, hb1, A1⟩
  go_wp2_with fail
  have R0 := A1.next (one w1 (Obj.cells #[.string (bs l), .int .i64 0, .int .i64 0] 33))
  have V0 := V3.new w1 (.string (bs l)) (.int .i64 0) (.int .i64 0) 33
  have hb0 := Below.next hb1 (one w1 (Obj.cells #[.string (bs l), .int .i64 0, .int .i64 0] 33))
  have hBg : w1.heap.size ≠ g := by have := A1.lt; omega
  have hwB : w.heap.size ≤ w1.heap.size := hb1.size
  generalize w1.alloc (Obj.cells #[.string (bs l), .int .i64 0, .int .i64 0] 33) = W1 at *
  generalize w1.heap.size = B at *
  clear A1 hb1 cN
  go_loopw [7] (fun v wr => ∃ (i a : Nat) (r : List UInt8) (e : Nat), i ≤ n ∧ v = .int .i64 (i : Int) ∧ Rdr wr g r e ∧ V3 wr B (.string (bs l)) (.int .i64 (a : Int)) (.int .i64 (e : Int)) ∧ Below w.heap.size w wr ∧ Hid (a ≤ l.length ∧ r = l.drop a)) (fun v _ => n - (intOf v).toNat)
  case atStart => exact ⟨0, 0, l, 0, by omega, rfl, R0, V0, hb0, Lib.hid ⟨by omega, rfl⟩⟩
  case round =>
    clear R0 V0 hb0
    obtain ⟨i, a, r, e, hi, rfl, R, V, hb, hI⟩ := hrel
    by_cases hin : i < n
    · rcases HA.out with h0 | ⟨ad, rfl, hab, hc⟩
      · omega
      obtain ⟨K, m, m1, m2, c0, c1⟩ := hc i hin
      replace c0 := (hb.cell (p := ad.add (i * 2)) (by rw [add_block]; exact hab)).trans c0
      replace c1 := (hb.cell (p := ad.add (i * 2 + 1)) (by rw [add_block]; exact hab)).trans c1
      have c1b : wr.cell? ⟨(ad.add (i * 2)).block, (ad.add (i * 2)).off + 1, none⟩ = some (.int .i64 m) := by
        show wr.cell? ((ad.add (i * 2)).add 1) = _
        rw [Go.Deep.add_add]; exact c1
      have hadr : ad.block < wr.heap.size := Nat.lt_of_lt_of_le hab hb.size
      have hBa : B ≠ (ad.add (i * 2)).block := by rw [add_block]; omega
      have ha := hI.out.1
      have hr := hI.out.2
      have hS : l.length ≤ 9223372036854775000 := by omega
      have hrl : r.length ≤ 9223372036854775000 := by rw [hr, List.length_drop]; omega
      clear hI HA hc c1
      by_cases hK : K = 0
      · subst hK
        have hd := aP_drop (e := e) (e2 := eU (l.drop a)) (r2 := rU (l.drop a)) ha (fun h => u_drop h)
        have cA := fun w => refU_any l a e w hS ha
        have cR := fun w h => rUint_any g r e w hrl h
        rw [hr] at cR
        have hval : (if e = 0 then (.int .u64 (nU (l.drop a) : Int) : Value) else .int .u64 0) = (.int .u64 ((if e = 0 then nU (l.drop a) else 0 : Nat) : Int) : Value) := by split <;> rfl
        rw [hval] at cR
        obtain ⟨p, hp⟩ : ∃ p, aP e (eU (l.drop a)) a (kU (l.drop a)) = p := ⟨_, rfl⟩
        obtain ⟨q, hq⟩ : ∃ q, aE e (eU (l.drop a)) = q := ⟨_, rfl⟩
        obtain ⟨r2, hr2⟩ : ∃ r2, aL e (eU (l.drop a)) (l.drop a) (rU (l.drop a)) = r2 := ⟨_, rfl⟩
        obtain ⟨z, hz⟩ : ∃ z, (.int .u64 ((if e = 0 then nU (l.drop a) else 0 : Nat) : Int) : Value) = z := ⟨_, rfl⟩
        rw [hp, hq] at cA
        rw [hr2, hq] at cR
        rw [hr2, hp] at hd
        rw [hz] at cA cR
        obtain ⟨z0, hz0⟩ : ∃ z0 : Nat, z = .int .u64 (z0 : Int) := ⟨_, hz.symm⟩
        subst hz0
        have HR := Lib.hid (And.intro hr (And.intro hd hval))
        clear hval hz hp hq hr2 hr hd
        have E : Hid (p ≤ l.length ∧ r2 = l.drop p) := Lib.hid ⟨HR.out.2.1.2, HR.out.2.1.1⟩
        have cRL : ∀ w, Calls Try.prog 27 #[rs l p q] w (Ib (.int .i64 ((r2.length : Nat) : Int)) w) := fun w => by
          have := refLeft_any l p q w hS E.out.1
          rwa [show l.length - p = r2.length by rw [E.out.2, List.length_drop]] at this
        have cRE : ∀ w, Calls Try.prog 30 #[rs l p q] w (Ib (.int .i64 ((eN r2 q : Nat) : Int)) w) := fun w => by
          have := refEnd_any l p q w E.out.1
          rwa [← E.out.2] at this
        have Vk := V
        have cA : ∀ w, Calls Try.prog 18 #[.agg #[.string (bs l), .int .i64 (a : Int), .int .i64 (e : Int)]] w (Ib (.tuple #[.agg #[.string (bs l), .int .i64 (p : Int), .int .i64 (q : Int)], .int .u64 (z0 : Int)]) w) := cA
        obtain ⟨lt, v0, v1, v2, f0, f1, f2⟩ := V
        go_wp2_with fail
        refine (cA _).mono ?_
        rintro e' w2 ⟨rfl, h2⟩
        have V2 := Vk.next h2
        have R2 := (R.next h2).set3 hBg (.string (bs l)) (.int .i64 (p : Int)) (.int .i64 (q : Int))
        have V2' := V2.set3 (.string (bs l)) (.int .i64 (p : Int)) (.int .i64 (q : Int))
        have hb2 := set3 (Below.next hb h2) B (.string (bs l)) (.int .i64 (p : Int)) (.int .i64 (q : Int)) hwB
        clear lt v0 v1 v2 f0 f1 f2
        obtain ⟨lt, v0, v1, v2, f0, f1, f2⟩ := V2
        go_upto_region 13 with (fail)
        generalize ((w2.setCell ⟨B, 0, none⟩ (.string (bs l))).setCell ⟨B, 1, none⟩ (.int .i64 (p : Int))).setCell ⟨B, 2, none⟩ (.int .i64 (q : Int)) = W3 at *
        clear lt v0 v1 v2 f0 f1 f2 c0 c1b R hb h2
        go_wp2_with fail
        refine (cR _ (by rw [← HR.out.1]; exact R2)).mono ?_
        rintro e' w3 ⟨rfl, hg3, R3⟩
        have V3' := V2'.off hg3 hBg
        have hb3 := Below.read hb2 hg3 hg
        clear R2 V2' hb2 hg3
        go_upto_region 26 with (fail)
        refine wp_region_on (by kernel_rfl) (FF [(8, Fact.eq (.bool true)), (5, Fact.at_ w3 (.pointer (some ⟨g, 0, none⟩))), (6, Fact.at_ w3 (.pointer (some ⟨B, 0, none⟩))), (101, Fact.eq (.bool true)), (102, Fact.eq (.bool false)), (103, Fact.eq (.bool false)), (104, Fact.at_ w3 (.pointer (some ⟨g, 0, none⟩))), (105, Fact.eq (.int .i64 ((r2.length : Nat) : Int))), (106, Fact.eq (rs l p q)), (107, Fact.eq (.int .i64 ((r2.length : Nat) : Int))), (108, Fact.eq (.bool false)), (109, Fact.eq (.bool false)), (110, Fact.eq (.bool false)), (111, Fact.at_ w3 (.pointer (some ⟨g, 0, none⟩))), (112, Fact.eq (.int .i64 (q : Int))), (113, Fact.at_ w3 (.pointer (some ⟨B, 2, none⟩))), (114, Fact.eq (.int .i64 (q : Int))), (115, Fact.eq (.bool false)), (116, Fact.eq (.bool false)), (117, Fact.eq (.bool false)), (118, Fact.at_ w3 (.pointer (some ⟨g, 0, none⟩))), (119, Fact.eq (.int .i64 ((eN r2 q : Nat) : Int))), (120, Fact.eq (rs l p q)), (121, Fact.eq (.int .i64 ((eN r2 q : Nat) : Int))), (122, Fact.eq (.bool false)), (123, Fact.eq (.bool false))]) [8, 5, 6] 125 [101, 102, 103, 104, 105, 106, 107, 108, 109, 110, 111, 112, 113, 114, 115, 116, 117, 118, 119, 120, 121, 122, 123] rfl (by kernel_rfl) (by kernel_rfl) ?_ ?_ ?_
        · intro t ht
          simp only [List.mem_cons, List.not_mem_nil, or_false] at ht
          rcases ht with rfl | rfl | rfl
          · exact rfl
          · exact ⟨rfl, Below.refl _ _⟩
          · exact ⟨rfl, Below.refl _ _⟩
        · refine fcs ⟨ob_copy 8 101 (.inl rfl) rfl (by first | exact .inl rfl | exact .inr ⟨_, _, _, rfl, rfl, by kernel_rfl, by decide, rfl⟩) (by kernel_rfl) rfl, ?_⟩
          refine fcs ⟨ob_not 101 102 true rfl rfl (by first | exact .inl rfl | exact .inr ⟨_, _, _, rfl, rfl, by kernel_rfl, by decide, rfl⟩) (by kernel_rfl) rfl rfl, ?_⟩
          refine fcs ⟨ob_copy 102 103 (.inl rfl) rfl (by first | exact .inl rfl | exact .inr ⟨_, _, _, rfl, rfl, by kernel_rfl, by decide, rfl⟩) (by kernel_rfl) rfl, ?_⟩
          refine fcs ⟨ob_copy 5 104 (.inl rfl) rfl (by first | exact .inl rfl | exact .inr ⟨_, _, _, rfl, rfl, by kernel_rfl, by decide, rfl⟩) (by kernel_rfl) rfl, ?_⟩
          refine fcs ⟨ob_call1 26 104 105 _ rfl rfl (by first | exact .inl rfl | exact .inr ⟨_, _, _, rfl, rfl, by kernel_rfl, by decide, rfl⟩) (by kernel_rfl) (by kernel_rfl) (leftR R3), ?_⟩
          refine fcs ⟨ob_loadat w3 6 106 33 ⟨B, 0, none⟩ (rs l p q) rfl rfl (by first | exact .inl rfl | exact .inr ⟨_, _, _, rfl, rfl, by kernel_rfl, by decide, rfl⟩) (by kernel_rfl) rfl rfl (fun w hb => load3 (V3'.next hb)), ?_⟩
          refine fcs ⟨ob_call1 27 106 107 _ rfl rfl (by first | exact .inl rfl | exact .inr ⟨_, _, _, rfl, rfl, by kernel_rfl, by decide, rfl⟩) (by kernel_rfl) (by kernel_rfl) (call1e cRL), ?_⟩
          refine fcs ⟨ob_nei 105 107 108 .i64 _ _ ((r2.length : Nat) : Int) ((r2.length : Nat) : Int) false (by simp) rfl rfl (by first | exact .inl rfl | exact .inr ⟨_, _, _, rfl, rfl, by kernel_rfl, by decide, rfl⟩) (by kernel_rfl) (by kernel_rfl) rfl rfl rfl, ?_⟩
          refine fcs ⟨ob_pick_else 103 108 109 _ rfl rfl (by first | exact .inl rfl | exact .inr ⟨_, _, _, rfl, rfl, by kernel_rfl, by decide, rfl⟩) (by kernel_rfl) (by kernel_rfl) rfl rfl, ?_⟩
          refine fcs ⟨ob_copy 109 110 (.inl rfl) rfl (by first | exact .inl rfl | exact .inr ⟨_, _, _, rfl, rfl, by kernel_rfl, by decide, rfl⟩) (by kernel_rfl) rfl, ?_⟩
          refine fcs ⟨ob_copy 5 111 (.inl rfl) rfl (by first | exact .inl rfl | exact .inr ⟨_, _, _, rfl, rfl, by kernel_rfl, by decide, rfl⟩) (by kernel_rfl) rfl, ?_⟩
          refine fcs ⟨ob_call1 28 111 112 _ rfl rfl (by first | exact .inl rfl | exact .inr ⟨_, _, _, rfl, rfl, by kernel_rfl, by decide, rfl⟩) (by kernel_rfl) (by kernel_rfl) (errR R3), ?_⟩
          refine fcs ⟨ob_fieldat w3 6 113 2 33 ⟨B, 0, none⟩ ⟨B, 2, none⟩ rfl rfl (by first | exact .inl rfl | exact .inr ⟨_, _, _, rfl, rfl, by kernel_rfl, by decide, rfl⟩) (by kernel_rfl) rfl rfl (fun w => by go_simp), ?_⟩
          refine fcs ⟨ob_loadat w3 113 114 31 ⟨B, 2, none⟩ (.int .i64 (q : Int)) rfl rfl (by first | exact .inl rfl | exact .inr ⟨_, _, _, rfl, rfl, by kernel_rfl, by decide, rfl⟩) (by kernel_rfl) rfl rfl (fun w hb => load3e (V3'.next hb)), ?_⟩
          refine fcs ⟨ob_nei 112 114 115 .i64 _ _ (q : Int) (q : Int) false (by simp) rfl rfl (by first | exact .inl rfl | exact .inr ⟨_, _, _, rfl, rfl, by kernel_rfl, by decide, rfl⟩) (by kernel_rfl) (by kernel_rfl) rfl rfl rfl, ?_⟩
          refine fcs ⟨ob_pick_else 110 115 116 _ rfl rfl (by first | exact .inl rfl | exact .inr ⟨_, _, _, rfl, rfl, by kernel_rfl, by decide, rfl⟩) (by kernel_rfl) (by kernel_rfl) rfl rfl, ?_⟩
          refine fcs ⟨ob_copy 116 117 (.inl rfl) rfl (by first | exact .inl rfl | exact .inr ⟨_, _, _, rfl, rfl, by kernel_rfl, by decide, rfl⟩) (by kernel_rfl) rfl, ?_⟩
          refine fcs ⟨ob_copy 5 118 (.inl rfl) rfl (by first | exact .inl rfl | exact .inr ⟨_, _, _, rfl, rfl, by kernel_rfl, by decide, rfl⟩) (by kernel_rfl) rfl, ?_⟩
          refine fcs ⟨ob_call1 29 118 119 _ rfl rfl (by first | exact .inl rfl | exact .inr ⟨_, _, _, rfl, rfl, by kernel_rfl, by decide, rfl⟩) (by kernel_rfl) (by kernel_rfl) (endR R3), ?_⟩
          refine fcs ⟨ob_loadat w3 6 120 33 ⟨B, 0, none⟩ (rs l p q) rfl rfl (by first | exact .inl rfl | exact .inr ⟨_, _, _, rfl, rfl, by kernel_rfl, by decide, rfl⟩) (by kernel_rfl) rfl rfl (fun w hb => load3 (V3'.next hb)), ?_⟩
          refine fcs ⟨ob_call1 30 120 121 _ rfl rfl (by first | exact .inl rfl | exact .inr ⟨_, _, _, rfl, rfl, by kernel_rfl, by decide, rfl⟩) (by kernel_rfl) (by kernel_rfl) (call1e cRE), ?_⟩
          refine fcs ⟨ob_nei 119 121 122 .i64 _ _ ((eN r2 q : Nat) : Int) ((eN r2 q : Nat) : Int) false (by simp) rfl rfl (by first | exact .inl rfl | exact .inr ⟨_, _, _, rfl, rfl, by kernel_rfl, by decide, rfl⟩) (by kernel_rfl) (by kernel_rfl) rfl rfl rfl, ?_⟩
          refine fcs ⟨ob_pick_else 117 122 123 _ rfl rfl (by first | exact .inl rfl | exact .inr ⟨_, _, _, rfl, rfl, by kernel_rfl, by decide, rfl⟩) (by kernel_rfl) (by kernel_rfl) rfl rfl, ?_⟩
          exact fnl
        intro vv wv hvv hbv
        have hv123 : vv 123 = (.bool false) := hvv 123 (by decide)
        simp only [lay, List.foldl_cons, List.foldl_nil, List.setIfInBounds_toArray, List.set_cons_succ, List.set_cons_zero, hv123]
        clear hvv
        go_wp2_with fail
        go_roundw
        case rel => exact ⟨i + 1, p, r2, q, by omega, by go_num, (R3).next hbv, (V3').next hbv, Below.next hb3 hbv, E⟩
        case measure => simp [intOf]; omega
      by_cases hK1 : K = 1
      · have hK := hK1
        subst hK
        have hd := aP_drop (e := e) (e2 := eU (l.drop a)) (r2 := rU (l.drop a)) ha (fun h => u_drop h)
        have cA := fun w => refI_any l a e w hS ha
        have cR := fun w h => rInt_any g r e w hrl h
        rw [hr] at cR
        have hval : (if e = 0 then (.int .i64 (uz (nU (l.drop a))) : Value) else .int .i64 0) = (.int .i64 (uz (if e = 0 then nU (l.drop a) else 0)) : Value) := by split <;> rfl
        rw [hval] at cR
        obtain ⟨p, hp⟩ : ∃ p, aP e (eU (l.drop a)) a (kU (l.drop a)) = p := ⟨_, rfl⟩
        obtain ⟨q, hq⟩ : ∃ q, aE e (eU (l.drop a)) = q := ⟨_, rfl⟩
        obtain ⟨r2, hr2⟩ : ∃ r2, aL e (eU (l.drop a)) (l.drop a) (rU (l.drop a)) = r2 := ⟨_, rfl⟩
        obtain ⟨z, hz⟩ : ∃ z, (.int .i64 (uz (if e = 0 then nU (l.drop a) else 0)) : Value) = z := ⟨_, rfl⟩
        rw [hp, hq] at cA
        rw [hr2, hq] at cR
        rw [hr2, hp] at hd
        rw [hz] at cA cR
        obtain ⟨z0, hz0⟩ : ∃ z0 : Int, z = .int .i64 z0 := ⟨_, hz.symm⟩
        subst hz0
        have HR := Lib.hid (And.intro hr (And.intro hd hval))
        clear hval hz hp hq hr2 hr hd
        have E : Hid (p ≤ l.length ∧ r2 = l.drop p) := Lib.hid ⟨HR.out.2.1.2, HR.out.2.1.1⟩
        have cRL : ∀ w, Calls Try.prog 27 #[rs l p q] w (Ib (.int .i64 ((r2.length : Nat) : Int)) w) := fun w => by
          have := refLeft_any l p q w hS E.out.1
          rwa [show l.length - p = r2.length by rw [E.out.2, List.length_drop]] at this
        have cRE : ∀ w, Calls Try.prog 30 #[rs l p q] w (Ib (.int .i64 ((eN r2 q : Nat) : Int)) w) := fun w => by
          have := refEnd_any l p q w E.out.1
          rwa [← E.out.2] at this
        have Vk := V
        have cA : ∀ w, Calls Try.prog 20 #[.agg #[.string (bs l), .int .i64 (a : Int), .int .i64 (e : Int)]] w (Ib (.tuple #[.agg #[.string (bs l), .int .i64 (p : Int), .int .i64 (q : Int)], .int .i64 z0]) w) := cA
        obtain ⟨lt, v0, v1, v2, f0, f1, f2⟩ := V
        go_wp2_with fail
        refine (cA _).mono ?_
        rintro e' w2 ⟨rfl, h2⟩
        have V2 := Vk.next h2
        have R2 := (R.next h2).set3 hBg (.string (bs l)) (.int .i64 (p : Int)) (.int .i64 (q : Int))
        have V2' := V2.set3 (.string (bs l)) (.int .i64 (p : Int)) (.int .i64 (q : Int))
        have hb2 := set3 (Below.next hb h2) B (.string (bs l)) (.int .i64 (p : Int)) (.int .i64 (q : Int)) hwB
        clear lt v0 v1 v2 f0 f1 f2
        obtain ⟨lt, v0, v1, v2, f0, f1, f2⟩ := V2
        go_upto_region 17 with (fail)
        generalize ((w2.setCell ⟨B, 0, none⟩ (.string (bs l))).setCell ⟨B, 1, none⟩ (.int .i64 (p : Int))).setCell ⟨B, 2, none⟩ (.int .i64 (q : Int)) = W3 at *
        clear lt v0 v1 v2 f0 f1 f2 c0 c1b R hb h2
        go_wp2_with fail
        refine (cR _ (by rw [← HR.out.1]; exact R2)).mono ?_
        rintro e' w3 ⟨rfl, hg3, R3⟩
        have V3' := V2'.off hg3 hBg
        have hb3 := Below.read hb2 hg3 hg
        clear R2 V2' hb2 hg3
        go_upto_region 26 with (fail)
        refine wp_region_on (by kernel_rfl) (FF [(8, Fact.eq (.bool true)), (5, Fact.at_ w3 (.pointer (some ⟨g, 0, none⟩))), (6, Fact.at_ w3 (.pointer (some ⟨B, 0, none⟩))), (101, Fact.eq (.bool true)), (102, Fact.eq (.bool false)), (103, Fact.eq (.bool false)), (104, Fact.at_ w3 (.pointer (some ⟨g, 0, none⟩))), (105, Fact.eq (.int .i64 ((r2.length : Nat) : Int))), (106, Fact.eq (rs l p q)), (107, Fact.eq (.int .i64 ((r2.length : Nat) : Int))), (108, Fact.eq (.bool false)), (109, Fact.eq (.bool false)), (110, Fact.eq (.bool false)), (111, Fact.at_ w3 (.pointer (some ⟨g, 0, none⟩))), (112, Fact.eq (.int .i64 (q : Int))), (113, Fact.at_ w3 (.pointer (some ⟨B, 2, none⟩))), (114, Fact.eq (.int .i64 (q : Int))), (115, Fact.eq (.bool false)), (116, Fact.eq (.bool false)), (117, Fact.eq (.bool false)), (118, Fact.at_ w3 (.pointer (some ⟨g, 0, none⟩))), (119, Fact.eq (.int .i64 ((eN r2 q : Nat) : Int))), (120, Fact.eq (rs l p q)), (121, Fact.eq (.int .i64 ((eN r2 q : Nat) : Int))), (122, Fact.eq (.bool false)), (123, Fact.eq (.bool false))]) [8, 5, 6] 125 [101, 102, 103, 104, 105, 106, 107, 108, 109, 110, 111, 112, 113, 114, 115, 116, 117, 118, 119, 120, 121, 122, 123] rfl (by kernel_rfl) (by kernel_rfl) ?_ ?_ ?_
        · intro t ht
          simp only [List.mem_cons, List.not_mem_nil, or_false] at ht
          rcases ht with rfl | rfl | rfl
          · exact rfl
          · exact ⟨rfl, Below.refl _ _⟩
          · exact ⟨rfl, Below.refl _ _⟩
        · refine fcs ⟨ob_copy 8 101 (.inl rfl) rfl (by first | exact .inl rfl | exact .inr ⟨_, _, _, rfl, rfl, by kernel_rfl, by decide, rfl⟩) (by kernel_rfl) rfl, ?_⟩
          refine fcs ⟨ob_not 101 102 true rfl rfl (by first | exact .inl rfl | exact .inr ⟨_, _, _, rfl, rfl, by kernel_rfl, by decide, rfl⟩) (by kernel_rfl) rfl rfl, ?_⟩
          refine fcs ⟨ob_copy 102 103 (.inl rfl) rfl (by first | exact .inl rfl | exact .inr ⟨_, _, _, rfl, rfl, by kernel_rfl, by decide, rfl⟩) (by kernel_rfl) rfl, ?_⟩
          refine fcs ⟨ob_copy 5 104 (.inl rfl) rfl (by first | exact .inl rfl | exact .inr ⟨_, _, _, rfl, rfl, by kernel_rfl, by decide, rfl⟩) (by kernel_rfl) rfl, ?_⟩
          refine fcs ⟨ob_call1 26 104 105 _ rfl rfl (by first | exact .inl rfl | exact .inr ⟨_, _, _, rfl, rfl, by kernel_rfl, by decide, rfl⟩) (by kernel_rfl) (by kernel_rfl) (leftR R3), ?_⟩
          refine fcs ⟨ob_loadat w3 6 106 33 ⟨B, 0, none⟩ (rs l p q) rfl rfl (by first | exact .inl rfl | exact .inr ⟨_, _, _, rfl, rfl, by kernel_rfl, by decide, rfl⟩) (by kernel_rfl) rfl rfl (fun w hb => load3 (V3'.next hb)), ?_⟩
          refine fcs ⟨ob_call1 27 106 107 _ rfl rfl (by first | exact .inl rfl | exact .inr ⟨_, _, _, rfl, rfl, by kernel_rfl, by decide, rfl⟩) (by kernel_rfl) (by kernel_rfl) (call1e cRL), ?_⟩
          refine fcs ⟨ob_nei 105 107 108 .i64 _ _ ((r2.length : Nat) : Int) ((r2.length : Nat) : Int) false (by simp) rfl rfl (by first | exact .inl rfl | exact .inr ⟨_, _, _, rfl, rfl, by kernel_rfl, by decide, rfl⟩) (by kernel_rfl) (by kernel_rfl) rfl rfl rfl, ?_⟩
          refine fcs ⟨ob_pick_else 103 108 109 _ rfl rfl (by first | exact .inl rfl | exact .inr ⟨_, _, _, rfl, rfl, by kernel_rfl, by decide, rfl⟩) (by kernel_rfl) (by kernel_rfl) rfl rfl, ?_⟩
          refine fcs ⟨ob_copy 109 110 (.inl rfl) rfl (by first | exact .inl rfl | exact .inr ⟨_, _, _, rfl, rfl, by kernel_rfl, by decide, rfl⟩) (by kernel_rfl) rfl, ?_⟩
          refine fcs ⟨ob_copy 5 111 (.inl rfl) rfl (by first | exact .inl rfl | exact .inr ⟨_, _, _, rfl, rfl, by kernel_rfl, by decide, rfl⟩) (by kernel_rfl) rfl, ?_⟩
          refine fcs ⟨ob_call1 28 111 112 _ rfl rfl (by first | exact .inl rfl | exact .inr ⟨_, _, _, rfl, rfl, by kernel_rfl, by decide, rfl⟩) (by kernel_rfl) (by kernel_rfl) (errR R3), ?_⟩
          refine fcs ⟨ob_fieldat w3 6 113 2 33 ⟨B, 0, none⟩ ⟨B, 2, none⟩ rfl rfl (by first | exact .inl rfl | exact .inr ⟨_, _, _, rfl, rfl, by kernel_rfl, by decide, rfl⟩) (by kernel_rfl) rfl rfl (fun w => by go_simp), ?_⟩
          refine fcs ⟨ob_loadat w3 113 114 31 ⟨B, 2, none⟩ (.int .i64 (q : Int)) rfl rfl (by first | exact .inl rfl | exact .inr ⟨_, _, _, rfl, rfl, by kernel_rfl, by decide, rfl⟩) (by kernel_rfl) rfl rfl (fun w hb => load3e (V3'.next hb)), ?_⟩
          refine fcs ⟨ob_nei 112 114 115 .i64 _ _ (q : Int) (q : Int) false (by simp) rfl rfl (by first | exact .inl rfl | exact .inr ⟨_, _, _, rfl, rfl, by kernel_rfl, by decide, rfl⟩) (by kernel_rfl) (by kernel_rfl) rfl rfl rfl, ?_⟩
          refine fcs ⟨ob_pick_else 110 115 116 _ rfl rfl (by first | exact .inl rfl | exact .inr ⟨_, _, _, rfl, rfl, by kernel_rfl, by decide, rfl⟩) (by kernel_rfl) (by kernel_rfl) rfl rfl, ?_⟩
          refine fcs ⟨ob_copy 116 117 (.inl rfl) rfl (by first | exact .inl rfl | exact .inr ⟨_, _, _, rfl, rfl, by kernel_rfl, by decide, rfl⟩) (by kernel_rfl) rfl, ?_⟩
          refine fcs ⟨ob_copy 5 118 (.inl rfl) rfl (by first | exact .inl rfl | exact .inr ⟨_, _, _, rfl, rfl, by kernel_rfl, by decide, rfl⟩) (by kernel_rfl) rfl, ?_⟩
          refine fcs ⟨ob_call1 29 118 119 _ rfl rfl (by first | exact .inl rfl | exact .inr ⟨_, _, _, rfl, rfl, by kernel_rfl, by decide, rfl⟩) (by kernel_rfl) (by kernel_rfl) (endR R3), ?_⟩
          refine fcs ⟨ob_loadat w3 6 120 33 ⟨B, 0, none⟩ (rs l p q) rfl rfl (by first | exact .inl rfl | exact .inr ⟨_, _, _, rfl, rfl, by kernel_rfl, by decide, rfl⟩) (by kernel_rfl) rfl rfl (fun w hb => load3 (V3'.next hb)), ?_⟩
          refine fcs ⟨ob_call1 30 120 121 _ rfl rfl (by first | exact .inl rfl | exact .inr ⟨_, _, _, rfl, rfl, by kernel_rfl, by decide, rfl⟩) (by kernel_rfl) (by kernel_rfl) (call1e cRE), ?_⟩
          refine fcs ⟨ob_nei 119 121 122 .i64 _ _ ((eN r2 q : Nat) : Int) ((eN r2 q : Nat) : Int) false (by simp) rfl rfl (by first | exact .inl rfl | exact .inr ⟨_, _, _, rfl, rfl, by kernel_rfl, by decide, rfl⟩) (by kernel_rfl) (by kernel_rfl) rfl rfl rfl, ?_⟩
          refine fcs ⟨ob_pick_else 117 122 123 _ rfl rfl (by first | exact .inl rfl | exact .inr ⟨_, _, _, rfl, rfl, by kernel_rfl, by decide, rfl⟩) (by kernel_rfl) (by kernel_rfl) rfl rfl, ?_⟩
          exact fnl
        intro vv wv hvv hbv
        have hv123 : vv 123 = (.bool false) := hvv 123 (by decide)
        simp only [lay, List.foldl_cons, List.foldl_nil, List.setIfInBounds_toArray, List.set_cons_succ, List.set_cons_zero, hv123]
        clear hvv
        go_wp2_with fail
        go_roundw
        case rel => exact ⟨i + 1, p, r2, q, by omega, by go_num, (R3).next hbv, (V3').next hbv, Below.next hb3 hbv, E⟩
        case measure => simp [intOf]; omega
      by_cases hK2 : K = 2
      · have hK := hK2
        subst hK
        have hd := aP_drop (e := e) (e2 := eS m 4 (l.drop a)) (r2 := rS m (l.drop a)) ha (fun h => s_drop (by decide) h)
        have cA := fun w => refS_any l a e m w hS ha m1 m2
        have cR := fun w h => rSmall_any g r e m w hrl m1 m2 h
        rw [hr] at cR
        have hval : (if e = 0 then (.int .i64 (nS m (l.drop a) : Int) : Value) else .int .i64 0) = (.int .i64 ((if e = 0 then nS m (l.drop a) else 0 : Nat) : Int) : Value) := by split <;> rfl
        rw [hval] at cR
        obtain ⟨p, hp⟩ : ∃ p, aP e (eS m 4 (l.drop a)) a (kU (l.drop a)) = p := ⟨_, rfl⟩
        obtain ⟨q, hq⟩ : ∃ q, aE e (eS m 4 (l.drop a)) = q := ⟨_, rfl⟩
        obtain ⟨r2, hr2⟩ : ∃ r2, aL e (eS m 4 (l.drop a)) (l.drop a) (rS m (l.drop a)) = r2 := ⟨_, rfl⟩
        obtain ⟨z, hz⟩ : ∃ z, (.int .i64 ((if e = 0 then nS m (l.drop a) else 0 : Nat) : Int) : Value) = z := ⟨_, rfl⟩
        rw [hp, hq] at cA
        rw [hr2, hq] at cR
        rw [hr2, hp] at hd
        rw [hz] at cA cR
        obtain ⟨z0, hz0⟩ : ∃ z0 : Nat, z = .int .i64 (z0 : Int) := ⟨_, hz.symm⟩
        subst hz0
        have HR := Lib.hid (And.intro hr (And.intro hd hval))
        clear hval hz hp hq hr2 hr hd
        have E : Hid (p ≤ l.length ∧ r2 = l.drop p) := Lib.hid ⟨HR.out.2.1.2, HR.out.2.1.1⟩
        have cRL : ∀ w, Calls Try.prog 27 #[rs l p q] w (Ib (.int .i64 ((r2.length : Nat) : Int)) w) := fun w => by
          have := refLeft_any l p q w hS E.out.1
          rwa [show l.length - p = r2.length by rw [E.out.2, List.length_drop]] at this
        have cRE : ∀ w, Calls Try.prog 30 #[rs l p q] w (Ib (.int .i64 ((eN r2 q : Nat) : Int)) w) := fun w => by
          have := refEnd_any l p q w E.out.1
          rwa [← E.out.2] at this
        go_upto_region 20 with (fail)
        refine wp_region_store (by kernel_rfl) (FF [(6, Fact.at_ wr (.pointer (some ⟨B, 0, none⟩))), (1, Fact.at_ wr (.slice (some ad) n c)), (7, Fact.eq (.int .i64 (i : Int))), (62, Fact.eq (rs l a e)), (63, Fact.at_ wr (.slice (some ad) n c)), (64, Fact.eq (.int .i64 (i : Int))), (65, Fact.at_ wr (.pointer (some (ad.add (i * 2))))), (66, Fact.at_ wr (.pointer (some ⟨(ad.add (i * 2)).block, (ad.add (i * 2)).off + 1, none⟩))), (67, Fact.eq (.int .i64 m)), (68, Fact.eq (.tuple #[(rs l p q), (.int .i64 (z0 : Int))])), (61, Fact.eq (.tuple #[(rs l p q), (.int .i64 (z0 : Int))])), (69, Fact.eq (rs l p q)), (70, Fact.eq (.int .i64 (z0 : Int))), (11, Fact.eq (.int .i64 (z0 : Int)))]) [6, 1, 7] 125 [62, 63, 64, 65, 66, 67, 68, 61, 69, 70, 11] 10 _ [9, 11] (fun v => ((v.setCell ⟨B, 0, none⟩ (.string (bs l))).setCell ⟨B, 1, none⟩ (.int .i64 (p : Int))).setCell ⟨B, 2, none⟩ (.int .i64 (q : Int))) rfl (by kernel_rfl) (by kernel_rfl) (by kernel_rfl) rfl rfl rfl (by kernel_rfl) ?_ ?_ ?_ ?_ ?_
        · intro t ht
          simp only [List.mem_cons, List.not_mem_nil, or_false] at ht
          rcases ht with rfl | rfl | rfl
          · exact ⟨rfl, Below.refl _ _⟩
          · exact ⟨rfl, Below.refl _ _⟩
          · exact rfl
        · refine fcs ⟨ob_loadat wr 6 62 33 ⟨B, 0, none⟩ (rs l a e) rfl rfl (by first | exact .inl rfl | exact .inr ⟨_, _, _, rfl, rfl, by kernel_rfl, by decide, rfl⟩) (by kernel_rfl) rfl rfl (fun w hb => load3 (V.next hb)), ?_⟩
          refine fcs ⟨ob_copy 1 63 (.inl rfl) rfl (by first | exact .inl rfl | exact .inr ⟨_, _, _, rfl, rfl, by kernel_rfl, by decide, rfl⟩) (by kernel_rfl) rfl, ?_⟩
          refine fcs ⟨ob_copy 7 64 (.inl rfl) rfl (by first | exact .inl rfl | exact .inr ⟨_, _, _, rfl, rfl, by kernel_rfl, by decide, rfl⟩) (by kernel_rfl) rfl, ?_⟩
          refine fcs ⟨ob_indexat wr 63 64 65 28 (.slice (some ad) n c) (i : Int) (ad.add (i * 2)) rfl rfl (by first | exact .inl rfl | exact .inr ⟨_, _, _, rfl, rfl, by kernel_rfl, by decide, rfl⟩) (by kernel_rfl) (by kernel_rfl) rfl rfl rfl (fun w => by go_simp), ?_⟩
          refine fcs ⟨ob_fieldat wr 65 66 1 35 (ad.add (i * 2)) ⟨(ad.add (i * 2)).block, (ad.add (i * 2)).off + 1, none⟩ rfl rfl (by first | exact .inl rfl | exact .inr ⟨_, _, _, rfl, rfl, by kernel_rfl, by decide, rfl⟩) (by kernel_rfl) rfl rfl (fun w => by go_simp), ?_⟩
          refine fcs ⟨ob_loadat wr 66 67 3 ⟨(ad.add (i * 2)).block, (ad.add (i * 2)).off + 1, none⟩ (.int .i64 m) rfl rfl (by first | exact .inl rfl | exact .inr ⟨_, _, _, rfl, rfl, by kernel_rfl, by decide, rfl⟩) (by kernel_rfl) rfl rfl (fun w hb => loadInt ((hb.cell (by show (ad.add (i * 2)).block < _; rw [add_block]; exact hadr)).trans c1b)), ?_⟩
          refine fcs ⟨ob_call2 22 62 67 68 _ rfl rfl (by first | exact .inl rfl | exact .inr ⟨_, _, _, rfl, rfl, by kernel_rfl, by decide, rfl⟩) (by kernel_rfl) (by kernel_rfl) (by kernel_rfl) (call2e cA), ?_⟩
          refine fcs ⟨ob_copy 68 61 (.inl rfl) rfl (by first | exact .inl rfl | exact .inr ⟨_, _, _, rfl, rfl, by kernel_rfl, by decide, rfl⟩) (by kernel_rfl) rfl, ?_⟩
          refine fcs ⟨ob_ext0 61 69 (rs l p q) (.int .i64 (z0 : Int)) rfl rfl (by first | exact .inl rfl | exact .inr ⟨_, _, _, rfl, rfl, by kernel_rfl, by decide, rfl⟩) (by kernel_rfl) rfl rfl, ?_⟩
          refine fcs ⟨ob_ext1 61 70 (rs l p q) (.int .i64 (z0 : Int)) rfl rfl (by first | exact .inl rfl | exact .inr ⟨_, _, _, rfl, rfl, by kernel_rfl, by decide, rfl⟩) (by kernel_rfl) rfl rfl, ?_⟩
          refine fcs ⟨ob_copy 70 11 (.inr rfl) rfl (by first | exact .inl rfl | exact .inr ⟨_, _, _, rfl, rfl, by kernel_rfl, by decide, rfl⟩) (by kernel_rfl) rfl, ?_⟩
          exact fnl
        · refine fcs ⟨⟨_, rfl, rfl, 61, 70, (.tuple #[(rs l p q), (.int .i64 (z0 : Int))]), (.int .i64 (z0 : Int)), ⟨7, .data⟩, by simp, by kernel_rfl, rfl, rfl, rfl, rfl, fun a w h => by simp [execOp, h]; go_simp⟩, ?_⟩
          refine fcs ⟨⟨_, rfl, rfl, 70, 11, (.int .i64 (z0 : Int)), (.int .i64 (z0 : Int)), ⟨9, .data⟩, by simp, by kernel_rfl, rfl, rfl, rfl, rfl, fun a w h => by simp [execOp, h]⟩, ?_⟩
          exact fnl
        · intro b v hbv hbs hes
          have h6 := (hbs 6 (by decide)).1
          have h69 := hes ⟨8, .data⟩ (by simp) (by kernel_rfl) 69 rfl
          exact run_store3 rfl h6 h69 (V.next hbv)
        intro vv wv hvv hbv
        have hv0 : vv 69 = (rs l p q) := hvv 69 (by decide) _ rfl
        have hv1 : vv 70 = (.int .i64 (z0 : Int)) := hvv 70 (by decide) _ rfl
        have hv2 : vv 11 = (.int .i64 (z0 : Int)) := hvv 11 (by decide) _ rfl
        simp only [lay, List.foldl_cons, List.foldl_nil, List.setIfInBounds_toArray, List.set_cons_succ, List.set_cons_zero, hv0, hv1, hv2]
        clear hvv
        have V2 := V.next hbv
        have R2 := (R.next hbv).set3 hBg (.string (bs l)) (.int .i64 (p : Int)) (.int .i64 (q : Int))
        have V2' := V2.set3 (.string (bs l)) (.int .i64 (p : Int)) (.int .i64 (q : Int))
        have hb2 := set3 (Below.next hb hbv) B (.string (bs l)) (.int .i64 (p : Int)) (.int .i64 (q : Int)) hwB
        have d0 := cell_set3 ((hbv.cell (p := ⟨(ad.add (i * 2)).block, (ad.add (i * 2)).off + 1, none⟩) (by show (ad.add (i * 2)).block < _; rw [add_block]; exact hadr)).trans c1b) hBa (.string (bs l)) (.int .i64 (p : Int)) (.int .i64 (q : Int))
        generalize ((wv.setCell ⟨B, 0, none⟩ (.string (bs l))).setCell ⟨B, 1, none⟩ (.int .i64 (p : Int))).setCell ⟨B, 2, none⟩ (.int .i64 (q : Int)) = W3 at *
        clear c0 c1b R hb hbv V V2 cA
        go_wp2_with fail
        refine (cR _ (by rw [← HR.out.1]; exact R2)).mono ?_
        rintro e' w3 ⟨rfl, hg3, R3⟩
        have V3' := V2'.off hg3 hBg
        have hb3 := Below.read hb2 hg3 hg
        clear R2 V2' hb2 hg3 d0
        go_upto_region 26 with (fail)
        refine wp_region_on (by kernel_rfl) (FF [(8, Fact.eq (.bool true)), (5, Fact.at_ w3 (.pointer (some ⟨g, 0, none⟩))), (6, Fact.at_ w3 (.pointer (some ⟨B, 0, none⟩))), (101, Fact.eq (.bool true)), (102, Fact.eq (.bool false)), (103, Fact.eq (.bool false)), (104, Fact.at_ w3 (.pointer (some ⟨g, 0, none⟩))), (105, Fact.eq (.int .i64 ((r2.length : Nat) : Int))), (106, Fact.eq (rs l p q)), (107, Fact.eq (.int .i64 ((r2.length : Nat) : Int))), (108, Fact.eq (.bool false)), (109, Fact.eq (.bool false)), (110, Fact.eq (.bool false)), (111, Fact.at_ w3 (.pointer (some ⟨g, 0, none⟩))), (112, Fact.eq (.int .i64 (q : Int))), (113, Fact.at_ w3 (.pointer (some ⟨B, 2, none⟩))), (114, Fact.eq (.int .i64 (q : Int))), (115, Fact.eq (.bool false)), (116, Fact.eq (.bool false)), (117, Fact.eq (.bool false)), (118, Fact.at_ w3 (.pointer (some ⟨g, 0, none⟩))), (119, Fact.eq (.int .i64 ((eN r2 q : Nat) : Int))), (120, Fact.eq (rs l p q)), (121, Fact.eq (.int .i64 ((eN r2 q : Nat) : Int))), (122, Fact.eq (.bool false)), (123, Fact.eq (.bool false))]) [8, 5, 6] 125 [101, 102, 103, 104, 105, 106, 107, 108, 109, 110, 111, 112, 113, 114, 115, 116, 117, 118, 119, 120, 121, 122, 123] rfl (by kernel_rfl) (by kernel_rfl) ?_ ?_ ?_
        · intro t ht
          simp only [List.mem_cons, List.not_mem_nil, or_false] at ht
          rcases ht with rfl | rfl | rfl
          · exact rfl
          · exact ⟨rfl, Below.refl _ _⟩
          · exact ⟨rfl, Below.refl _ _⟩
        · refine fcs ⟨ob_copy 8 101 (.inl rfl) rfl (by first | exact .inl rfl | exact .inr ⟨_, _, _, rfl, rfl, by kernel_rfl, by decide, rfl⟩) (by kernel_rfl) rfl, ?_⟩
          refine fcs ⟨ob_not 101 102 true rfl rfl (by first | exact .inl rfl | exact .inr ⟨_, _, _, rfl, rfl, by kernel_rfl, by decide, rfl⟩) (by kernel_rfl) rfl rfl, ?_⟩
          refine fcs ⟨ob_copy 102 103 (.inl rfl) rfl (by first | exact .inl rfl | exact .inr ⟨_, _, _, rfl, rfl, by kernel_rfl, by decide, rfl⟩) (by kernel_rfl) rfl, ?_⟩
          refine fcs ⟨ob_copy 5 104 (.inl rfl) rfl (by first | exact .inl rfl | exact .inr ⟨_, _, _, rfl, rfl, by kernel_rfl, by decide, rfl⟩) (by kernel_rfl) rfl, ?_⟩
          refine fcs ⟨ob_call1 26 104 105 _ rfl rfl (by first | exact .inl rfl | exact .inr ⟨_, _, _, rfl, rfl, by kernel_rfl, by decide, rfl⟩) (by kernel_rfl) (by kernel_rfl) (leftR R3), ?_⟩
          refine fcs ⟨ob_loadat w3 6 106 33 ⟨B, 0, none⟩ (rs l p q) rfl rfl (by first | exact .inl rfl | exact .inr ⟨_, _, _, rfl, rfl, by kernel_rfl, by decide, rfl⟩) (by kernel_rfl) rfl rfl (fun w hb => load3 (V3'.next hb)), ?_⟩
          refine fcs ⟨ob_call1 27 106 107 _ rfl rfl (by first | exact .inl rfl | exact .inr ⟨_, _, _, rfl, rfl, by kernel_rfl, by decide, rfl⟩) (by kernel_rfl) (by kernel_rfl) (call1e cRL), ?_⟩
          refine fcs ⟨ob_nei 105 107 108 .i64 _ _ ((r2.length : Nat) : Int) ((r2.length : Nat) : Int) false (by simp) rfl rfl (by first | exact .inl rfl | exact .inr ⟨_, _, _, rfl, rfl, by kernel_rfl, by decide, rfl⟩) (by kernel_rfl) (by kernel_rfl) rfl rfl rfl, ?_⟩
          refine fcs ⟨ob_pick_else 103 108 109 _ rfl rfl (by first | exact .inl rfl | exact .inr ⟨_, _, _, rfl, rfl, by kernel_rfl, by decide, rfl⟩) (by kernel_rfl) (by kernel_rfl) rfl rfl, ?_⟩
          refine fcs ⟨ob_copy 109 110 (.inl rfl) rfl (by first | exact .inl rfl | exact .inr ⟨_, _, _, rfl, rfl, by kernel_rfl, by decide, rfl⟩) (by kernel_rfl) rfl, ?_⟩
          refine fcs ⟨ob_copy 5 111 (.inl rfl) rfl (by first | exact .inl rfl | exact .inr ⟨_, _, _, rfl, rfl, by kernel_rfl, by decide, rfl⟩) (by kernel_rfl) rfl, ?_⟩
          refine fcs ⟨ob_call1 28 111 112 _ rfl rfl (by first | exact .inl rfl | exact .inr ⟨_, _, _, rfl, rfl, by kernel_rfl, by decide, rfl⟩) (by kernel_rfl) (by kernel_rfl) (errR R3), ?_⟩
          refine fcs ⟨ob_fieldat w3 6 113 2 33 ⟨B, 0, none⟩ ⟨B, 2, none⟩ rfl rfl (by first | exact .inl rfl | exact .inr ⟨_, _, _, rfl, rfl, by kernel_rfl, by decide, rfl⟩) (by kernel_rfl) rfl rfl (fun w => by go_simp), ?_⟩
          refine fcs ⟨ob_loadat w3 113 114 31 ⟨B, 2, none⟩ (.int .i64 (q : Int)) rfl rfl (by first | exact .inl rfl | exact .inr ⟨_, _, _, rfl, rfl, by kernel_rfl, by decide, rfl⟩) (by kernel_rfl) rfl rfl (fun w hb => load3e (V3'.next hb)), ?_⟩
          refine fcs ⟨ob_nei 112 114 115 .i64 _ _ (q : Int) (q : Int) false (by simp) rfl rfl (by first | exact .inl rfl | exact .inr ⟨_, _, _, rfl, rfl, by kernel_rfl, by decide, rfl⟩) (by kernel_rfl) (by kernel_rfl) rfl rfl rfl, ?_⟩
          refine fcs ⟨ob_pick_else 110 115 116 _ rfl rfl (by first | exact .inl rfl | exact .inr ⟨_, _, _, rfl, rfl, by kernel_rfl, by decide, rfl⟩) (by kernel_rfl) (by kernel_rfl) rfl rfl, ?_⟩
          refine fcs ⟨ob_copy 116 117 (.inl rfl) rfl (by first | exact .inl rfl | exact .inr ⟨_, _, _, rfl, rfl, by kernel_rfl, by decide, rfl⟩) (by kernel_rfl) rfl, ?_⟩
          refine fcs ⟨ob_copy 5 118 (.inl rfl) rfl (by first | exact .inl rfl | exact .inr ⟨_, _, _, rfl, rfl, by kernel_rfl, by decide, rfl⟩) (by kernel_rfl) rfl, ?_⟩
          refine fcs ⟨ob_call1 29 118 119 _ rfl rfl (by first | exact .inl rfl | exact .inr ⟨_, _, _, rfl, rfl, by kernel_rfl, by decide, rfl⟩) (by kernel_rfl) (by kernel_rfl) (endR R3), ?_⟩
          refine fcs ⟨ob_loadat w3 6 120 33 ⟨B, 0, none⟩ (rs l p q) rfl rfl (by first | exact .inl rfl | exact .inr ⟨_, _, _, rfl, rfl, by kernel_rfl, by decide, rfl⟩) (by kernel_rfl) rfl rfl (fun w hb => load3 (V3'.next hb)), ?_⟩
          refine fcs ⟨ob_call1 30 120 121 _ rfl rfl (by first | exact .inl rfl | exact .inr ⟨_, _, _, rfl, rfl, by kernel_rfl, by decide, rfl⟩) (by kernel_rfl) (by kernel_rfl) (call1e cRE), ?_⟩
          refine fcs ⟨ob_nei 119 121 122 .i64 _ _ ((eN r2 q : Nat) : Int) ((eN r2 q : Nat) : Int) false (by simp) rfl rfl (by first | exact .inl rfl | exact .inr ⟨_, _, _, rfl, rfl, by kernel_rfl, by decide, rfl⟩) (by kernel_rfl) (by kernel_rfl) rfl rfl rfl, ?_⟩
          refine fcs ⟨ob_pick_else 117 122 123 _ rfl rfl (by first | exact .inl rfl | exact .inr ⟨_, _, _, rfl, rfl, by kernel_rfl, by decide, rfl⟩) (by kernel_rfl) (by kernel_rfl) rfl rfl, ?_⟩
          exact fnl
        intro vv wv hvv hbv
        have hv123 : vv 123 = (.bool false) := hvv 123 (by decide)
        simp only [lay, List.foldl_cons, List.foldl_nil, List.setIfInBounds_toArray, List.set_cons_succ, List.set_cons_zero, hv123]
        clear hvv
        go_wp2_with fail
        go_roundw
        case rel => exact ⟨i + 1, p, r2, q, by omega, by go_num, (R3).next hbv, (V3').next hbv, Below.next hb3 hbv, E⟩
        case measure => simp [intOf]; omega
      by_cases hK3 : K = 3
      · have hK := hK3
        subst hK
        have hd := aP_drop (e := e) (e2 := eT m (l.drop a)) (r2 := rT m (l.drop a)) ha (fun h => t_drop h)
        have cA := fun w => refT_any l a e m w hS ha m1 m2
        have cR := fun w h => rText_any g r e m w hrl m1 m2 h
        rw [hr] at cR
        have hval : (if e = 0 then (.string (bs (tT m (l.drop a))) : Value) else .string ⟨#[]⟩) = (.string (bs (if e = 0 then tT m (l.drop a) else [])) : Value) := by split <;> rfl
        rw [hval] at cR
        obtain ⟨p, hp⟩ : ∃ p, aP e (eT m (l.drop a)) a (kT (l.drop a)) = p := ⟨_, rfl⟩
        obtain ⟨q, hq⟩ : ∃ q, aE e (eT m (l.drop a)) = q := ⟨_, rfl⟩
        obtain ⟨r2, hr2⟩ : ∃ r2, aL e (eT m (l.drop a)) (l.drop a) (rT m (l.drop a)) = r2 := ⟨_, rfl⟩
        obtain ⟨z, hz⟩ : ∃ z, (.string (bs (if e = 0 then tT m (l.drop a) else [])) : Value) = z := ⟨_, rfl⟩
        rw [hp, hq] at cA
        rw [hr2, hq] at cR
        rw [hr2, hp] at hd
        rw [hz] at cA cR
        obtain ⟨z0, hz0⟩ : ∃ z0 : ByteArray, z = .string z0 := ⟨_, hz.symm⟩
        subst hz0
        have HR := Lib.hid (And.intro hr (And.intro hd hval))
        clear hval hz hp hq hr2 hr hd
        have E : Hid (p ≤ l.length ∧ r2 = l.drop p) := Lib.hid ⟨HR.out.2.1.2, HR.out.2.1.1⟩
        have cRL : ∀ w, Calls Try.prog 27 #[rs l p q] w (Ib (.int .i64 ((r2.length : Nat) : Int)) w) := fun w => by
          have := refLeft_any l p q w hS E.out.1
          rwa [show l.length - p = r2.length by rw [E.out.2, List.length_drop]] at this
        have cRE : ∀ w, Calls Try.prog 30 #[rs l p q] w (Ib (.int .i64 ((eN r2 q : Nat) : Int)) w) := fun w => by
          have := refEnd_any l p q w E.out.1
          rwa [← E.out.2] at this
        go_upto_region 24 with (fail)
        refine wp_region_store (by kernel_rfl) (FF [(6, Fact.at_ wr (.pointer (some ⟨B, 0, none⟩))), (1, Fact.at_ wr (.slice (some ad) n c)), (7, Fact.eq (.int .i64 (i : Int))), (83, Fact.eq (rs l a e)), (84, Fact.at_ wr (.slice (some ad) n c)), (85, Fact.eq (.int .i64 (i : Int))), (86, Fact.at_ wr (.pointer (some (ad.add (i * 2))))), (87, Fact.at_ wr (.pointer (some ⟨(ad.add (i * 2)).block, (ad.add (i * 2)).off + 1, none⟩))), (88, Fact.eq (.int .i64 m)), (89, Fact.eq (.tuple #[(rs l p q), (.string z0)])), (82, Fact.eq (.tuple #[(rs l p q), (.string z0)])), (90, Fact.eq (rs l p q)), (91, Fact.eq (.string z0)), (12, Fact.eq (.string z0))]) [6, 1, 7] 125 [83, 84, 85, 86, 87, 88, 89, 82, 90, 91, 12] 10 _ [9, 11] (fun v => ((v.setCell ⟨B, 0, none⟩ (.string (bs l))).setCell ⟨B, 1, none⟩ (.int .i64 (p : Int))).setCell ⟨B, 2, none⟩ (.int .i64 (q : Int))) rfl (by kernel_rfl) (by kernel_rfl) (by kernel_rfl) rfl rfl rfl (by kernel_rfl) ?_ ?_ ?_ ?_ ?_
        · intro t ht
          simp only [List.mem_cons, List.not_mem_nil, or_false] at ht
          rcases ht with rfl | rfl | rfl
          · exact ⟨rfl, Below.refl _ _⟩
          · exact ⟨rfl, Below.refl _ _⟩
          · exact rfl
        · refine fcs ⟨ob_loadat wr 6 83 33 ⟨B, 0, none⟩ (rs l a e) rfl rfl (by first | exact .inl rfl | exact .inr ⟨_, _, _, rfl, rfl, by kernel_rfl, by decide, rfl⟩) (by kernel_rfl) rfl rfl (fun w hb => load3 (V.next hb)), ?_⟩
          refine fcs ⟨ob_copy 1 84 (.inl rfl) rfl (by first | exact .inl rfl | exact .inr ⟨_, _, _, rfl, rfl, by kernel_rfl, by decide, rfl⟩) (by kernel_rfl) rfl, ?_⟩
          refine fcs ⟨ob_copy 7 85 (.inl rfl) rfl (by first | exact .inl rfl | exact .inr ⟨_, _, _, rfl, rfl, by kernel_rfl, by decide, rfl⟩) (by kernel_rfl) rfl, ?_⟩
          refine fcs ⟨ob_indexat wr 84 85 86 28 (.slice (some ad) n c) (i : Int) (ad.add (i * 2)) rfl rfl (by first | exact .inl rfl | exact .inr ⟨_, _, _, rfl, rfl, by kernel_rfl, by decide, rfl⟩) (by kernel_rfl) (by kernel_rfl) rfl rfl rfl (fun w => by go_simp), ?_⟩
          refine fcs ⟨ob_fieldat wr 86 87 1 35 (ad.add (i * 2)) ⟨(ad.add (i * 2)).block, (ad.add (i * 2)).off + 1, none⟩ rfl rfl (by first | exact .inl rfl | exact .inr ⟨_, _, _, rfl, rfl, by kernel_rfl, by decide, rfl⟩) (by kernel_rfl) rfl rfl (fun w => by go_simp), ?_⟩
          refine fcs ⟨ob_loadat wr 87 88 3 ⟨(ad.add (i * 2)).block, (ad.add (i * 2)).off + 1, none⟩ (.int .i64 m) rfl rfl (by first | exact .inl rfl | exact .inr ⟨_, _, _, rfl, rfl, by kernel_rfl, by decide, rfl⟩) (by kernel_rfl) rfl rfl (fun w hb => loadInt ((hb.cell (by show (ad.add (i * 2)).block < _; rw [add_block]; exact hadr)).trans c1b)), ?_⟩
          refine fcs ⟨ob_call2 24 83 88 89 _ rfl rfl (by first | exact .inl rfl | exact .inr ⟨_, _, _, rfl, rfl, by kernel_rfl, by decide, rfl⟩) (by kernel_rfl) (by kernel_rfl) (by kernel_rfl) (call2e cA), ?_⟩
          refine fcs ⟨ob_copy 89 82 (.inl rfl) rfl (by first | exact .inl rfl | exact .inr ⟨_, _, _, rfl, rfl, by kernel_rfl, by decide, rfl⟩) (by kernel_rfl) rfl, ?_⟩
          refine fcs ⟨ob_ext0 82 90 (rs l p q) (.string z0) rfl rfl (by first | exact .inl rfl | exact .inr ⟨_, _, _, rfl, rfl, by kernel_rfl, by decide, rfl⟩) (by kernel_rfl) rfl rfl, ?_⟩
          refine fcs ⟨ob_ext1 82 91 (rs l p q) (.string z0) rfl rfl (by first | exact .inl rfl | exact .inr ⟨_, _, _, rfl, rfl, by kernel_rfl, by decide, rfl⟩) (by kernel_rfl) rfl rfl, ?_⟩
          refine fcs ⟨ob_copy 91 12 (.inr rfl) rfl (by first | exact .inl rfl | exact .inr ⟨_, _, _, rfl, rfl, by kernel_rfl, by decide, rfl⟩) (by kernel_rfl) rfl, ?_⟩
          exact fnl
        · refine fcs ⟨⟨_, rfl, rfl, 82, 91, (.tuple #[(rs l p q), (.string z0)]), (.string z0), ⟨7, .data⟩, by simp, by kernel_rfl, rfl, rfl, rfl, rfl, fun a w h => by simp [execOp, h]; go_simp⟩, ?_⟩
          refine fcs ⟨⟨_, rfl, rfl, 91, 12, (.string z0), (.string z0), ⟨9, .data⟩, by simp, by kernel_rfl, rfl, rfl, rfl, rfl, fun a w h => by simp [execOp, h]⟩, ?_⟩
          exact fnl
        · intro b v hbv hbs hes
          have h6 := (hbs 6 (by decide)).1
          have h69 := hes ⟨8, .data⟩ (by simp) (by kernel_rfl) 90 rfl
          exact run_store3 rfl h6 h69 (V.next hbv)
        intro vv wv hvv hbv
        have hv0 : vv 90 = (rs l p q) := hvv 90 (by decide) _ rfl
        have hv1 : vv 91 = (.string z0) := hvv 91 (by decide) _ rfl
        have hv2 : vv 12 = (.string z0) := hvv 12 (by decide) _ rfl
        simp only [lay, List.foldl_cons, List.foldl_nil, List.setIfInBounds_toArray, List.set_cons_succ, List.set_cons_zero, hv0, hv1, hv2]
        clear hvv
        have V2 := V.next hbv
        have R2 := (R.next hbv).set3 hBg (.string (bs l)) (.int .i64 (p : Int)) (.int .i64 (q : Int))
        have V2' := V2.set3 (.string (bs l)) (.int .i64 (p : Int)) (.int .i64 (q : Int))
        have hb2 := set3 (Below.next hb hbv) B (.string (bs l)) (.int .i64 (p : Int)) (.int .i64 (q : Int)) hwB
        have d0 := cell_set3 ((hbv.cell (p := ⟨(ad.add (i * 2)).block, (ad.add (i * 2)).off + 1, none⟩) (by show (ad.add (i * 2)).block < _; rw [add_block]; exact hadr)).trans c1b) hBa (.string (bs l)) (.int .i64 (p : Int)) (.int .i64 (q : Int))
        generalize ((wv.setCell ⟨B, 0, none⟩ (.string (bs l))).setCell ⟨B, 1, none⟩ (.int .i64 (p : Int))).setCell ⟨B, 2, none⟩ (.int .i64 (q : Int)) = W3 at *
        clear c0 c1b R hb hbv V V2 cA
        go_wp2_with fail
        refine (cR _ (by rw [← HR.out.1]; exact R2)).mono ?_
        rintro e' w3 ⟨rfl, hg3, R3⟩
        have V3' := V2'.off hg3 hBg
        have hb3 := Below.read hb2 hg3 hg
        clear R2 V2' hb2 hg3 d0
        go_upto_region 26 with (fail)
        refine wp_region_on (by kernel_rfl) (FF [(8, Fact.eq (.bool true)), (5, Fact.at_ w3 (.pointer (some ⟨g, 0, none⟩))), (6, Fact.at_ w3 (.pointer (some ⟨B, 0, none⟩))), (101, Fact.eq (.bool true)), (102, Fact.eq (.bool false)), (103, Fact.eq (.bool false)), (104, Fact.at_ w3 (.pointer (some ⟨g, 0, none⟩))), (105, Fact.eq (.int .i64 ((r2.length : Nat) : Int))), (106, Fact.eq (rs l p q)), (107, Fact.eq (.int .i64 ((r2.length : Nat) : Int))), (108, Fact.eq (.bool false)), (109, Fact.eq (.bool false)), (110, Fact.eq (.bool false)), (111, Fact.at_ w3 (.pointer (some ⟨g, 0, none⟩))), (112, Fact.eq (.int .i64 (q : Int))), (113, Fact.at_ w3 (.pointer (some ⟨B, 2, none⟩))), (114, Fact.eq (.int .i64 (q : Int))), (115, Fact.eq (.bool false)), (116, Fact.eq (.bool false)), (117, Fact.eq (.bool false)), (118, Fact.at_ w3 (.pointer (some ⟨g, 0, none⟩))), (119, Fact.eq (.int .i64 ((eN r2 q : Nat) : Int))), (120, Fact.eq (rs l p q)), (121, Fact.eq (.int .i64 ((eN r2 q : Nat) : Int))), (122, Fact.eq (.bool false)), (123, Fact.eq (.bool false))]) [8, 5, 6] 125 [101, 102, 103, 104, 105, 106, 107, 108, 109, 110, 111, 112, 113, 114, 115, 116, 117, 118, 119, 120, 121, 122, 123] rfl (by kernel_rfl) (by kernel_rfl) ?_ ?_ ?_
        · intro t ht
          simp only [List.mem_cons, List.not_mem_nil, or_false] at ht
          rcases ht with rfl | rfl | rfl
          · exact rfl
          · exact ⟨rfl, Below.refl _ _⟩
          · exact ⟨rfl, Below.refl _ _⟩
        · refine fcs ⟨ob_copy 8 101 (.inl rfl) rfl (by first | exact .inl rfl | exact .inr ⟨_, _, _, rfl, rfl, by kernel_rfl, by decide, rfl⟩) (by kernel_rfl) rfl, ?_⟩
          refine fcs ⟨ob_not 101 102 true rfl rfl (by first | exact .inl rfl | exact .inr ⟨_, _, _, rfl, rfl, by kernel_rfl, by decide, rfl⟩) (by kernel_rfl) rfl rfl, ?_⟩
          refine fcs ⟨ob_copy 102 103 (.inl rfl) rfl (by first | exact .inl rfl | exact .inr ⟨_, _, _, rfl, rfl, by kernel_rfl, by decide, rfl⟩) (by kernel_rfl) rfl, ?_⟩
          refine fcs ⟨ob_copy 5 104 (.inl rfl) rfl (by first | exact .inl rfl | exact .inr ⟨_, _, _, rfl, rfl, by kernel_rfl, by decide, rfl⟩) (by kernel_rfl) rfl, ?_⟩
          refine fcs ⟨ob_call1 26 104 105 _ rfl rfl (by first | exact .inl rfl | exact .inr ⟨_, _, _, rfl, rfl, by kernel_rfl, by decide, rfl⟩) (by kernel_rfl) (by kernel_rfl) (leftR R3), ?_⟩
          refine fcs ⟨ob_loadat w3 6 106 33 ⟨B, 0, none⟩ (rs l p q) rfl rfl (by first | exact .inl rfl | exact .inr ⟨_, _, _, rfl, rfl, by kernel_rfl, by decide, rfl⟩) (by kernel_rfl) rfl rfl (fun w hb => load3 (V3'.next hb)), ?_⟩
          refine fcs ⟨ob_call1 27 106 107 _ rfl rfl (by first | exact .inl rfl | exact .inr ⟨_, _, _, rfl, rfl, by kernel_rfl, by decide, rfl⟩) (by kernel_rfl) (by kernel_rfl) (call1e cRL), ?_⟩
          refine fcs ⟨ob_nei 105 107 108 .i64 _ _ ((r2.length : Nat) : Int) ((r2.length : Nat) : Int) false (by simp) rfl rfl (by first | exact .inl rfl | exact .inr ⟨_, _, _, rfl, rfl, by kernel_rfl, by decide, rfl⟩) (by kernel_rfl) (by kernel_rfl) rfl rfl rfl, ?_⟩
          refine fcs ⟨ob_pick_else 103 108 109 _ rfl rfl (by first | exact .inl rfl | exact .inr ⟨_, _, _, rfl, rfl, by kernel_rfl, by decide, rfl⟩) (by kernel_rfl) (by kernel_rfl) rfl rfl, ?_⟩
          refine fcs ⟨ob_copy 109 110 (.inl rfl) rfl (by first | exact .inl rfl | exact .inr ⟨_, _, _, rfl, rfl, by kernel_rfl, by decide, rfl⟩) (by kernel_rfl) rfl, ?_⟩
          refine fcs ⟨ob_copy 5 111 (.inl rfl) rfl (by first | exact .inl rfl | exact .inr ⟨_, _, _, rfl, rfl, by kernel_rfl, by decide, rfl⟩) (by kernel_rfl) rfl, ?_⟩
          refine fcs ⟨ob_call1 28 111 112 _ rfl rfl (by first | exact .inl rfl | exact .inr ⟨_, _, _, rfl, rfl, by kernel_rfl, by decide, rfl⟩) (by kernel_rfl) (by kernel_rfl) (errR R3), ?_⟩
          refine fcs ⟨ob_fieldat w3 6 113 2 33 ⟨B, 0, none⟩ ⟨B, 2, none⟩ rfl rfl (by first | exact .inl rfl | exact .inr ⟨_, _, _, rfl, rfl, by kernel_rfl, by decide, rfl⟩) (by kernel_rfl) rfl rfl (fun w => by go_simp), ?_⟩
          refine fcs ⟨ob_loadat w3 113 114 31 ⟨B, 2, none⟩ (.int .i64 (q : Int)) rfl rfl (by first | exact .inl rfl | exact .inr ⟨_, _, _, rfl, rfl, by kernel_rfl, by decide, rfl⟩) (by kernel_rfl) rfl rfl (fun w hb => load3e (V3'.next hb)), ?_⟩
          refine fcs ⟨ob_nei 112 114 115 .i64 _ _ (q : Int) (q : Int) false (by simp) rfl rfl (by first | exact .inl rfl | exact .inr ⟨_, _, _, rfl, rfl, by kernel_rfl, by decide, rfl⟩) (by kernel_rfl) (by kernel_rfl) rfl rfl rfl, ?_⟩
          refine fcs ⟨ob_pick_else 110 115 116 _ rfl rfl (by first | exact .inl rfl | exact .inr ⟨_, _, _, rfl, rfl, by kernel_rfl, by decide, rfl⟩) (by kernel_rfl) (by kernel_rfl) rfl rfl, ?_⟩
          refine fcs ⟨ob_copy 116 117 (.inl rfl) rfl (by first | exact .inl rfl | exact .inr ⟨_, _, _, rfl, rfl, by kernel_rfl, by decide, rfl⟩) (by kernel_rfl) rfl, ?_⟩
          refine fcs ⟨ob_copy 5 118 (.inl rfl) rfl (by first | exact .inl rfl | exact .inr ⟨_, _, _, rfl, rfl, by kernel_rfl, by decide, rfl⟩) (by kernel_rfl) rfl, ?_⟩
          refine fcs ⟨ob_call1 29 118 119 _ rfl rfl (by first | exact .inl rfl | exact .inr ⟨_, _, _, rfl, rfl, by kernel_rfl, by decide, rfl⟩) (by kernel_rfl) (by kernel_rfl) (endR R3), ?_⟩
          refine fcs ⟨ob_loadat w3 6 120 33 ⟨B, 0, none⟩ (rs l p q) rfl rfl (by first | exact .inl rfl | exact .inr ⟨_, _, _, rfl, rfl, by kernel_rfl, by decide, rfl⟩) (by kernel_rfl) rfl rfl (fun w hb => load3 (V3'.next hb)), ?_⟩
          refine fcs ⟨ob_call1 30 120 121 _ rfl rfl (by first | exact .inl rfl | exact .inr ⟨_, _, _, rfl, rfl, by kernel_rfl, by decide, rfl⟩) (by kernel_rfl) (by kernel_rfl) (call1e cRE), ?_⟩
          refine fcs ⟨ob_nei 119 121 122 .i64 _ _ ((eN r2 q : Nat) : Int) ((eN r2 q : Nat) : Int) false (by simp) rfl rfl (by first | exact .inl rfl | exact .inr ⟨_, _, _, rfl, rfl, by kernel_rfl, by decide, rfl⟩) (by kernel_rfl) (by kernel_rfl) rfl rfl rfl, ?_⟩
          refine fcs ⟨ob_pick_else 117 122 123 _ rfl rfl (by first | exact .inl rfl | exact .inr ⟨_, _, _, rfl, rfl, by kernel_rfl, by decide, rfl⟩) (by kernel_rfl) (by kernel_rfl) rfl rfl, ?_⟩
          exact fnl
        intro vv wv hvv hbv
        have hv123 : vv 123 = (.bool false) := hvv 123 (by decide)
        simp only [lay, List.foldl_cons, List.foldl_nil, List.setIfInBounds_toArray, List.set_cons_succ, List.set_cons_zero, hv123]
        clear hvv
        go_wp2_with fail
        go_roundw
        case rel => exact ⟨i + 1, p, r2, q, by omega, by go_num, (R3).next hbv, (V3').next hbv, Below.next hb3 hbv, E⟩
        case measure => simp [intOf]; omega
      · have x0 : (K == 0) = false := by simpa using hK
        have x1 : (K == 1) = false := by simpa using hK1
        have x2 : (K == 2) = false := by simpa using hK2
        have x3 : (K == 3) = false := by simpa using hK3
        clear hK hK1 hK2 hK3
        have E := Lib.hid (And.intro ha hr)
        have cRL : ∀ w, Calls Try.prog 27 #[rs l a e] w (Ib (.int .i64 ((r.length : Nat) : Int)) w) := fun w => by
          have := refLeft_any l a e w hS ha
          rwa [show l.length - a = r.length by rw [hr, List.length_drop]] at this
        have cRE : ∀ w, Calls Try.prog 30 #[rs l a e] w (Ib (.int .i64 ((eN r e : Nat) : Int)) w) := fun w => by
          have := refEnd_any l a e w ha
          rwa [← hr] at this
        clear hr
        go_upto_region 26 with (fail)
        refine wp_region_on (by kernel_rfl) (FF [(8, Fact.eq (.bool true)), (5, Fact.at_ wr (.pointer (some ⟨g, 0, none⟩))), (6, Fact.at_ wr (.pointer (some ⟨B, 0, none⟩))), (101, Fact.eq (.bool true)), (102, Fact.eq (.bool false)), (103, Fact.eq (.bool false)), (104, Fact.at_ wr (.pointer (some ⟨g, 0, none⟩))), (105, Fact.eq (.int .i64 ((r.length : Nat) : Int))), (106, Fact.eq (rs l a e)), (107, Fact.eq (.int .i64 ((r.length : Nat) : Int))), (108, Fact.eq (.bool false)), (109, Fact.eq (.bool false)), (110, Fact.eq (.bool false)), (111, Fact.at_ wr (.pointer (some ⟨g, 0, none⟩))), (112, Fact.eq (.int .i64 (e : Int))), (113, Fact.at_ wr (.pointer (some ⟨B, 2, none⟩))), (114, Fact.eq (.int .i64 (e : Int))), (115, Fact.eq (.bool false)), (116, Fact.eq (.bool false)), (117, Fact.eq (.bool false)), (118, Fact.at_ wr (.pointer (some ⟨g, 0, none⟩))), (119, Fact.eq (.int .i64 ((eN r e : Nat) : Int))), (120, Fact.eq (rs l a e)), (121, Fact.eq (.int .i64 ((eN r e : Nat) : Int))), (122, Fact.eq (.bool false)), (123, Fact.eq (.bool false))]) [8, 5, 6] 125 [101, 102, 103, 104, 105, 106, 107, 108, 109, 110, 111, 112, 113, 114, 115, 116, 117, 118, 119, 120, 121, 122, 123] rfl (by kernel_rfl) (by kernel_rfl) ?_ ?_ ?_
        · intro t ht
          simp only [List.mem_cons, List.not_mem_nil, or_false] at ht
          rcases ht with rfl | rfl | rfl
          · exact rfl
          · exact ⟨rfl, Below.refl _ _⟩
          · exact ⟨rfl, Below.refl _ _⟩
        · refine fcs ⟨ob_copy 8 101 (.inl rfl) rfl (by first | exact .inl rfl | exact .inr ⟨_, _, _, rfl, rfl, by kernel_rfl, by decide, rfl⟩) (by kernel_rfl) rfl, ?_⟩
          refine fcs ⟨ob_not 101 102 true rfl rfl (by first | exact .inl rfl | exact .inr ⟨_, _, _, rfl, rfl, by kernel_rfl, by decide, rfl⟩) (by kernel_rfl) rfl rfl, ?_⟩
          refine fcs ⟨ob_copy 102 103 (.inl rfl) rfl (by first | exact .inl rfl | exact .inr ⟨_, _, _, rfl, rfl, by kernel_rfl, by decide, rfl⟩) (by kernel_rfl) rfl, ?_⟩
          refine fcs ⟨ob_copy 5 104 (.inl rfl) rfl (by first | exact .inl rfl | exact .inr ⟨_, _, _, rfl, rfl, by kernel_rfl, by decide, rfl⟩) (by kernel_rfl) rfl, ?_⟩
          refine fcs ⟨ob_call1 26 104 105 _ rfl rfl (by first | exact .inl rfl | exact .inr ⟨_, _, _, rfl, rfl, by kernel_rfl, by decide, rfl⟩) (by kernel_rfl) (by kernel_rfl) (leftR R), ?_⟩
          refine fcs ⟨ob_loadat wr 6 106 33 ⟨B, 0, none⟩ (rs l a e) rfl rfl (by first | exact .inl rfl | exact .inr ⟨_, _, _, rfl, rfl, by kernel_rfl, by decide, rfl⟩) (by kernel_rfl) rfl rfl (fun w hb => load3 (V.next hb)), ?_⟩
          refine fcs ⟨ob_call1 27 106 107 _ rfl rfl (by first | exact .inl rfl | exact .inr ⟨_, _, _, rfl, rfl, by kernel_rfl, by decide, rfl⟩) (by kernel_rfl) (by kernel_rfl) (call1e cRL), ?_⟩
          refine fcs ⟨ob_nei 105 107 108 .i64 _ _ ((r.length : Nat) : Int) ((r.length : Nat) : Int) false (by simp) rfl rfl (by first | exact .inl rfl | exact .inr ⟨_, _, _, rfl, rfl, by kernel_rfl, by decide, rfl⟩) (by kernel_rfl) (by kernel_rfl) rfl rfl rfl, ?_⟩
          refine fcs ⟨ob_pick_else 103 108 109 _ rfl rfl (by first | exact .inl rfl | exact .inr ⟨_, _, _, rfl, rfl, by kernel_rfl, by decide, rfl⟩) (by kernel_rfl) (by kernel_rfl) rfl rfl, ?_⟩
          refine fcs ⟨ob_copy 109 110 (.inl rfl) rfl (by first | exact .inl rfl | exact .inr ⟨_, _, _, rfl, rfl, by kernel_rfl, by decide, rfl⟩) (by kernel_rfl) rfl, ?_⟩
          refine fcs ⟨ob_copy 5 111 (.inl rfl) rfl (by first | exact .inl rfl | exact .inr ⟨_, _, _, rfl, rfl, by kernel_rfl, by decide, rfl⟩) (by kernel_rfl) rfl, ?_⟩
          refine fcs ⟨ob_call1 28 111 112 _ rfl rfl (by first | exact .inl rfl | exact .inr ⟨_, _, _, rfl, rfl, by kernel_rfl, by decide, rfl⟩) (by kernel_rfl) (by kernel_rfl) (errR R), ?_⟩
          refine fcs ⟨ob_fieldat wr 6 113 2 33 ⟨B, 0, none⟩ ⟨B, 2, none⟩ rfl rfl (by first | exact .inl rfl | exact .inr ⟨_, _, _, rfl, rfl, by kernel_rfl, by decide, rfl⟩) (by kernel_rfl) rfl rfl (fun w => by go_simp), ?_⟩
          refine fcs ⟨ob_loadat wr 113 114 31 ⟨B, 2, none⟩ (.int .i64 (e : Int)) rfl rfl (by first | exact .inl rfl | exact .inr ⟨_, _, _, rfl, rfl, by kernel_rfl, by decide, rfl⟩) (by kernel_rfl) rfl rfl (fun w hb => load3e (V.next hb)), ?_⟩
          refine fcs ⟨ob_nei 112 114 115 .i64 _ _ (e : Int) (e : Int) false (by simp) rfl rfl (by first | exact .inl rfl | exact .inr ⟨_, _, _, rfl, rfl, by kernel_rfl, by decide, rfl⟩) (by kernel_rfl) (by kernel_rfl) rfl rfl rfl, ?_⟩
          refine fcs ⟨ob_pick_else 110 115 116 _ rfl rfl (by first | exact .inl rfl | exact .inr ⟨_, _, _, rfl, rfl, by kernel_rfl, by decide, rfl⟩) (by kernel_rfl) (by kernel_rfl) rfl rfl, ?_⟩
          refine fcs ⟨ob_copy 116 117 (.inl rfl) rfl (by first | exact .inl rfl | exact .inr ⟨_, _, _, rfl, rfl, by kernel_rfl, by decide, rfl⟩) (by kernel_rfl) rfl, ?_⟩
          refine fcs ⟨ob_copy 5 118 (.inl rfl) rfl (by first | exact .inl rfl | exact .inr ⟨_, _, _, rfl, rfl, by kernel_rfl, by decide, rfl⟩) (by kernel_rfl) rfl, ?_⟩
          refine fcs ⟨ob_call1 29 118 119 _ rfl rfl (by first | exact .inl rfl | exact .inr ⟨_, _, _, rfl, rfl, by kernel_rfl, by decide, rfl⟩) (by kernel_rfl) (by kernel_rfl) (endR R), ?_⟩
          refine fcs ⟨ob_loadat wr 6 120 33 ⟨B, 0, none⟩ (rs l a e) rfl rfl (by first | exact .inl rfl | exact .inr ⟨_, _, _, rfl, rfl, by kernel_rfl, by decide, rfl⟩) (by kernel_rfl) rfl rfl (fun w hb => load3 (V.next hb)), ?_⟩
          refine fcs ⟨ob_call1 30 120 121 _ rfl rfl (by first | exact .inl rfl | exact .inr ⟨_, _, _, rfl, rfl, by kernel_rfl, by decide, rfl⟩) (by kernel_rfl) (by kernel_rfl) (call1e cRE), ?_⟩
          refine fcs ⟨ob_nei 119 121 122 .i64 _ _ ((eN r e : Nat) : Int) ((eN r e : Nat) : Int) false (by simp) rfl rfl (by first | exact .inl rfl | exact .inr ⟨_, _, _, rfl, rfl, by kernel_rfl, by decide, rfl⟩) (by kernel_rfl) (by kernel_rfl) rfl rfl rfl, ?_⟩
          refine fcs ⟨ob_pick_else 117 122 123 _ rfl rfl (by first | exact .inl rfl | exact .inr ⟨_, _, _, rfl, rfl, by kernel_rfl, by decide, rfl⟩) (by kernel_rfl) (by kernel_rfl) rfl rfl, ?_⟩
          exact fnl
        intro vv wv hvv hbv
        have hv123 : vv 123 = (.bool false) := hvv 123 (by decide)
        simp only [lay, List.foldl_cons, List.foldl_nil, List.setIfInBounds_toArray, List.set_cons_succ, List.set_cons_zero, hv123]
        clear hvv
        go_wp2_with fail
        go_roundw
        case rel => exact ⟨i + 1, a, r, e, by omega, by go_num, (R).next hbv, (V).next hbv, Below.next hb hbv, E⟩
        case measure => simp [intOf]; omega
    · go_wp2_with (go_at_call 10; refine (awake_any _).mono ?_; rintro e w9 ⟨rfl, h9⟩)
      go_ret
      exact ⟨by rfl, Below.next hb h9⟩
end Go.Proofs.Ytclbdlbdnnhfmaa

/-
  The law of linearity: it returns true. The tables of utf8 as the program laid them; strings' lengths below 2^47.
-/
import Derived.Test.YtghmbglnhcdbjaaDoorCh
import Derived.Test.YtghmbglnhcdbjaaDoorCr
import Derived.Test.YtghmbglnhcdbjaaDoorG4
namespace Go.Proofs.YtghmbglnhcdbjaaDoor
open Go.RowKit
theorem Ow.str0 {B : Nat} {w : World} {v : Value} {l : List UInt8} (h : Ow B w v l) : (convert 28 9 v).run Tryd.prog w = .ok (.string (bs l)) w := by
  by_cases h0 : l = []
  · subst h0
    rcases h.2 with ⟨rfl, _⟩ | ⟨g, cap, cur, rfl, _⟩
    · simp [convert, run_underlying Tryd.underlying28, run_underlying Tryd.underlying9, run_underlying Tryd.underlying5]
      simp [Conv.bytesToString]
      rfl
    · exact run_convert_bytes_back w 28 9 5 ⟨g, 0, none⟩ cap [] Tryd.underlying28 Tryd.underlying5 Tryd.underlying9 (fun j hj => by cases hj)
  · exact h.str h0
/-- A slice of one value that lies in memory of its own, behind W0. -/
def Fact.one (W0 : World) (z : Value) : Fact := ⟨fun v w => ∃ b, v = .slice (some ⟨b, 0, none⟩) 1 1 ∧ w.cell? ⟨b, 0, none⟩ = some z ∧ b < w.heap.size ∧ Below W0.heap.size W0 w, fun _ _ _ ⟨b, h1, h2, h3, h4⟩ hb => ⟨b, h1, (hb.cell h3).trans h2, Nat.lt_of_lt_of_le h3 hb.size, upG h4 hb⟩⟩
theorem at_build1 {ops : Array Oper} {Q : Exit → Act → World → Prop} {F : Nat → Fact} {base : List Nat} {N : Nat} {o : Oper} {W0 : World} (t d : Nat) (z : Value) (hd : o.dst = some d) (hg : Gd W0 ops F base N o) (hk : known ops base o t = true) (hv : F t = Fact.at_ W0 z) (hF : F d = Fact.one W0 z)
    (h : ∀ (a : Act) (w : World), a.eval (.tmp t) = z → ∃ ty, (execOp a.eval o).run Tryd.prog w = .ok (.value (.slice (some ⟨w.heap.size, 0, none⟩) 1 1)) (w.alloc (Obj.cells #[z] ty))) : Ob ops Q F base N o :=
  at_val hg fun a w hf => by
    have h1 := hf t hk
    rw [hv] at h1
    obtain ⟨ty, h2⟩ := h a w h1.1
    refine ⟨_, _, h2, one _ _, fun s hs => ?_⟩
    rw [hd] at hs
    injection hs with hs
    subst hs
    rw [hF]
    exact ⟨_, rfl, by rw [World.cell?]; simp only [heap_alloc_new]; rfl, by simp, upG h1.2 (one _ _)⟩
set_option maxRecDepth 100000 in
set_option maxHeartbeats 2000000 in
theorem linear_core (a b c X : List UInt8) (n : Nat) (hX : X.length = n) (hXk : ∀ k (h : k < n) (h1 : k < a.length) (h2 : k < b.length) (h3 : k < c.length), X[k]'(by omega) = a[k] ^^^ b[k] ^^^ c[k]) (hlin : crc X = crc (a.take n) ^^^ crc (b.take n) ^^^ crc (c.take n)) (w : World) (ha : n ≤ a.length) (hb : n ≤ b.length) (hc : n ≤ c.length) (hm : n = a.length ∨ n = b.length ∨ n = c.length) (hn : n ≤ 140737488355328) (hT : Tabs w) :
    Calls Tryd.prog 7 #[.string (bs a), .string (bs b), .string (bs c)] w (Ib (.bool true) w) := by
  have za : (bs a).size = a.length := rfl
  obtain ⟨n1, hn1⟩ : ∃ n1, (if b.length < a.length then b.length else a.length) = n1 := ⟨_, rfl⟩
  have e1 : (if b.length < a.length then (b.length : Int) else (a.length : Int)) = (n1 : Int) := by rw [← hn1]; split <;> rfl
  have e2 : (if (c.length : Int) < (n1 : Int) then (c.length : Int) else (n1 : Int)) = (n : Int) := by
    rw [← hn1]
    split <;> split at * <;> omega
  have e3 : (if c.length < n1 then (c.length : Int) else (n1 : Int)) = (n : Int) := by
    rw [← hn1]
    split <;> split at * <;> omega
  have zb : (bs b).size = b.length := rfl
  have zc : (bs c).size = c.length := rfl
  go_enter Tryd.func7, Tryd.ntmps7
  go_wp2_with fail
  go_loopw [8, 9] (fun v i wr => ∃ k : Nat, k ≤ n ∧ i = .int .i64 (k : Int) ∧ Ow w.heap.size wr v (X.take k) ∧ Below w.heap.size w wr) (fun _ i _ => n - (intOf i).toNat)
  case atStart => exact ⟨0, by omega, rfl, Ow.nil _ _, Below.refl _ _⟩
  case round =>
    obtain ⟨k, hk, rfl, ho, hbw⟩ := hrel
    have hsz := hbw.size
    by_cases hlt : k < n
    · have ka : k < (bs a).size := by show k < a.length; omega
      have kb : k < (bs b).size := by show k < b.length; omega
      have kc : k < (bs c).size := by show k < c.length; omega
      have ka2 : k < a.length := ka
      have kb2 : k < b.length := kb
      have kc2 : k < c.length := kc
      have hXX := hXk k hlt ka kb kc
      obtain ⟨x, hx⟩ : ∃ x, ((bs a)[k]'ka).toNat = x := ⟨_, rfl⟩
      obtain ⟨y, hy⟩ : ∃ y, ((bs b)[k]'kb).toNat = y := ⟨_, rfl⟩
      obtain ⟨z, hz⟩ : ∃ z, ((bs c)[k]'kc).toNat = z := ⟨_, rfl⟩
      obtain ⟨t, ht⟩ : ∃ t, X[k]'(by omega) = t := ⟨_, rfl⟩
      have hx2 : x < 256 := by rw [← hx]; exact UInt8.toNat_lt _
      have hy2 : y < 256 := by rw [← hy]; exact UInt8.toNat_lt _
      have hz2 : z < 256 := by rw [← hz]; exact UInt8.toNat_lt _
      obtain ⟨xy, hxy⟩ : ∃ xy, x ^^^ y = xy := ⟨_, rfl⟩
      have hxy2 : xy < 256 := by rw [← hxy]; exact Nat.xor_lt_two_pow (n := 8) hx2 hy2
      have k1 : bits BinOp.xor IntKind.u8 (x : Int) (y : Int) = (xy : Int) := by rw [u8_xor_nat _ _ hx2 hy2, hxy]
      have k2 : bits BinOp.xor IntKind.u8 (xy : Int) (z : Int) = (t.toNat : Int) := by
        rw [u8_xor_nat _ _ hxy2 hz2, ← hxy, ← ht, hXX, UInt8.toNat_xor, UInt8.toNat_xor, ← hx, ← hy, ← hz]
        rfl
      have hT1 : X.take (k + 1) = X.take k ++ [t] := by rw [List.take_succ_eq_append_getElem (by omega), ht]
      have hTl : (X.take k).length ≤ 140737488355327 := by rw [List.length_take]; omega
      clear hXX hxy ht hx2 hy2 hz2 hxy2 hXk
      go_wp2_with fail
      refine wp_region_seqN (by kernel_rfl) (FF [(8, Fact.at_ wr u8), (0, Fact.at_ wr (.string (bs a))), (1, Fact.at_ wr (.string (bs b))), (2, Fact.at_ wr (.string (bs c))), (9, Fact.at_ wr (.int .i64 (k : Int))), (22, Fact.at_ wr u8), (23, Fact.at_ wr (.string (bs a))), (24, Fact.at_ wr (.int .i64 (k : Int))), (25, Fact.at_ wr (.int .u8 (x : Int))), (26, Fact.at_ wr (.string (bs b))), (27, Fact.at_ wr (.int .i64 (k : Int))), (28, Fact.at_ wr (.int .u8 (y : Int))), (29, Fact.at_ wr (.int .u8 (xy : Int))), (30, Fact.at_ wr (.string (bs c))), (31, Fact.at_ wr (.int .i64 (k : Int))), (32, Fact.at_ wr (.int .u8 (z : Int))), (33, Fact.at_ wr (.int .u8 (t.toNat : Int))), (34, Fact.one wr (.int .u8 (t.toNat : Int)))]) [8, 0, 1, 2, 9] [] 57 13 [22, 23, 24, 25, 26, 27, 28, 29, 30, 31, 32, 33, 34] rfl (by kernel_rfl) (by kernel_rfl) (by decide) (by kernel_rfl) (by kernel_rfl) ?_ ?_ ?_
      · intro t ht
        simp only [List.mem_cons, List.not_mem_nil, or_false] at ht
        rcases ht with rfl | rfl | rfl | rfl | rfl
        · exact ⟨rfl, Below.refl _ _⟩
        · exact ⟨rfl, Below.refl _ _⟩
        · exact ⟨rfl, Below.refl _ _⟩
        · exact ⟨rfl, Below.refl _ _⟩
        · exact ⟨rfl, Below.refl _ _⟩
      · refine fcs ⟨Ob.new_ (atcopy 8 22 u8 (.inl rfl) rfl (by first | exact .inl rfl | exact .inr ⟨_, _, _, rfl, rfl, by kernel_rfl, by decide, rfl⟩) (by kernel_rfl) rfl rfl) (by kernel_rfl), ?_⟩
        refine fcs ⟨Ob.new_ (atcopy 0 23 (.string (bs a)) (.inl rfl) rfl (by first | exact .inl rfl | exact .inr ⟨_, _, _, rfl, rfl, by kernel_rfl, by decide, rfl⟩) (by kernel_rfl) rfl rfl) (by kernel_rfl), ?_⟩
        refine fcs ⟨Ob.new_ (atcopy 9 24 (.int .i64 (k : Int)) (.inl rfl) rfl (by first | exact .inl rfl | exact .inr ⟨_, _, _, rfl, rfl, by kernel_rfl, by decide, rfl⟩) (by kernel_rfl) rfl rfl) (by kernel_rfl), ?_⟩
        refine fcs ⟨Ob.new_ (at2 23 24 25 (.string (bs a)) (.int .i64 (k : Int)) (.int .u8 (x : Int)) rfl (by first | exact .inl rfl | exact .inr ⟨_, _, _, rfl, rfl, by kernel_rfl, by decide, rfl⟩) (by kernel_rfl) (by kernel_rfl) rfl rfl rfl (fun a w hb h1 h2 => by simp [execOp, h1, h2]; go_simp)) (by kernel_rfl), ?_⟩
        refine fcs ⟨Ob.new_ (atcopy 1 26 (.string (bs b)) (.inl rfl) rfl (by first | exact .inl rfl | exact .inr ⟨_, _, _, rfl, rfl, by kernel_rfl, by decide, rfl⟩) (by kernel_rfl) rfl rfl) (by kernel_rfl), ?_⟩
        refine fcs ⟨Ob.new_ (atcopy 9 27 (.int .i64 (k : Int)) (.inl rfl) rfl (by first | exact .inl rfl | exact .inr ⟨_, _, _, rfl, rfl, by kernel_rfl, by decide, rfl⟩) (by kernel_rfl) rfl rfl) (by kernel_rfl), ?_⟩
        refine fcs ⟨Ob.new_ (at2 26 27 28 (.string (bs b)) (.int .i64 (k : Int)) (.int .u8 (y : Int)) rfl (by first | exact .inl rfl | exact .inr ⟨_, _, _, rfl, rfl, by kernel_rfl, by decide, rfl⟩) (by kernel_rfl) (by kernel_rfl) rfl rfl rfl (fun a w hb h1 h2 => by simp [execOp, h1, h2]; go_simp)) (by kernel_rfl), ?_⟩
        refine fcs ⟨Ob.new_ (at2 25 28 29 (.int .u8 (x : Int)) (.int .u8 (y : Int)) (.int .u8 (xy : Int)) rfl (by first | exact .inl rfl | exact .inr ⟨_, _, _, rfl, rfl, by kernel_rfl, by decide, rfl⟩) (by kernel_rfl) (by kernel_rfl) rfl rfl rfl (fun a w hb h1 h2 => by simp [execOp, h1, h2]; go_simp)) (by kernel_rfl), ?_⟩
        refine fcs ⟨Ob.new_ (atcopy 2 30 (.string (bs c)) (.inl rfl) rfl (by first | exact .inl rfl | exact .inr ⟨_, _, _, rfl, rfl, by kernel_rfl, by decide, rfl⟩) (by kernel_rfl) rfl rfl) (by kernel_rfl), ?_⟩
        refine fcs ⟨Ob.new_ (atcopy 9 31 (.int .i64 (k : Int)) (.inl rfl) rfl (by first | exact .inl rfl | exact .inr ⟨_, _, _, rfl, rfl, by kernel_rfl, by decide, rfl⟩) (by kernel_rfl) rfl rfl) (by kernel_rfl), ?_⟩
        refine fcs ⟨Ob.new_ (at2 30 31 32 (.string (bs c)) (.int .i64 (k : Int)) (.int .u8 (z : Int)) rfl (by first | exact .inl rfl | exact .inr ⟨_, _, _, rfl, rfl, by kernel_rfl, by decide, rfl⟩) (by kernel_rfl) (by kernel_rfl) rfl rfl rfl (fun a w hb h1 h2 => by simp [execOp, h1, h2]; go_simp)) (by kernel_rfl), ?_⟩
        refine fcs ⟨Ob.new_ (at2 29 32 33 (.int .u8 (xy : Int)) (.int .u8 (z : Int)) (.int .u8 (t.toNat : Int)) rfl (by first | exact .inl rfl | exact .inr ⟨_, _, _, rfl, rfl, by kernel_rfl, by decide, rfl⟩) (by kernel_rfl) (by kernel_rfl) rfl rfl rfl (fun a w hb h1 h2 => by simp [execOp, h1, h2]; go_simp)) (by kernel_rfl), ?_⟩
        refine fcs ⟨Ob.new_ (at_build1 33 34 (.int .u8 (t.toNat : Int)) rfl (by first | exact .inl rfl | exact .inr ⟨_, _, _, rfl, rfl, by kernel_rfl, by decide, rfl⟩) (by kernel_rfl) rfl rfl (fun a w h1 => ⟨5, by simp [execOp, h1]; go_simp⟩)) (by kernel_rfl), ?_⟩
        exact fnl
      intro vv wv hvv hbv _ _
      have hv22 : vv 22 = u8 := (hvv 22 (by decide)).1
      simp only [lay, List.foldl_cons, List.foldl_nil, List.setIfInBounds_toArray, List.set_cons_succ, List.set_cons_zero, hv22, List.drop_succ_cons, List.drop_zero]
      obtain ⟨bb, hv34, hcell, -, -⟩ := hvv 34 (by decide)
      have ho2 := ho.other hbv
      have hb3 := Below.next hbw hbv
      have hs3 := hb3.size
      clear hvv
      go_wp2_with (at_builtin; refine wpList_push rfl (.tmp 22) (.tmp 34) rfl w.heap.size u8 (X.take k) t ⟨bb, 0, none⟩ 1 rfl hv34 ho2 hcell (by omega) hs3 ?_; intro v' w' ho' hg')
      go_roundw
      case rel => exact ⟨k + 1, by omega, by go_num, by rw [hT1]; exact ho', hb3.grown hg' hs3 (fun j hj => (ho2.lt j hj).1)⟩
      case measure => simp [intOf]; omega
    · obtain rfl : k = n := by omega
      clear hXk
      rw [List.take_of_length_le (by omega)] at ho
      have hT2 := hT.below hbw
      have hA := bs_take a k
      have hB := bs_take b k
      have hC := bs_take c k
      have lA : (a.take k).length = k := by rw [List.length_take]; omega
      have lB : (b.take k).length = k := by rw [List.length_take]; omega
      have lC : (c.take k).length = k := by rw [List.length_take]; omega
      generalize a.take k = A at *
      generalize b.take k = B at *
      generalize c.take k = C at *
      have qX : ∀ w, Below wr.heap.size wr w → _ := fun w hb => crc_any X w (by omega) (hT2.below hb)
      have qA : ∀ w, Below wr.heap.size wr w → _ := fun w hb => crc_any A w (by omega) (hT2.below hb)
      have qB : ∀ w, Below wr.heap.size wr w → _ := fun w hb => crc_any B w (by omega) (hT2.below hb)
      have qC : ∀ w, Below wr.heap.size wr w → _ := fun w hb => crc_any C w (by omega) (hT2.below hb)
      have qw : ∀ w, Below wr.heap.size wr w → _ := fun w hb => awake_any w (hT2.below hb)
      have rA := crc_lt A
      have rB := crc_lt B
      have rC := crc_lt C
      obtain ⟨sX, eX⟩ : ∃ s, crc X = s := ⟨_, rfl⟩
      obtain ⟨sA, eA⟩ : ∃ s, crc A = s := ⟨_, rfl⟩
      obtain ⟨sB, eB⟩ : ∃ s, crc B = s := ⟨_, rfl⟩
      obtain ⟨sC, eC⟩ : ∃ s, crc C = s := ⟨_, rfl⟩
      rw [eX] at qX hlin
      rw [eA] at qA hlin rA
      rw [eB] at qB hlin rB
      rw [eC] at qC hlin rC
      obtain ⟨sAB, eAB⟩ : ∃ s, sA ^^^ sB = s := ⟨_, rfl⟩
      have rAB : sAB < 4294967296 := by rw [← eAB]; exact xor_lt32 rA rB
      have k1 : bits BinOp.xor IntKind.u32 (sA : Int) (sB : Int) = (sAB : Int) := by rw [u32_xor_nat _ _ rA rB, eAB]
      have k2 : bits BinOp.xor IntKind.u32 (sAB : Int) (sC : Int) = (sX : Int) := by rw [u32_xor_nat _ _ rAB rC, hlin, eAB]
      clear eX eA eB eC hlin eAB rAB rA rB rC lA lB lC
      go_wp2_with fail
      refine wp_region_on (by kernel_rfl) (FF [(8, Fact.at_ wr u8), (0, Fact.at_ wr (.string (bs a))), (1, Fact.at_ wr (.string (bs b))), (2, Fact.at_ wr (.string (bs c))), (7, Fact.at_ wr (.int .i64 (k : Int))), (36, Fact.at_ wr u8), (37, Fact.at_ wr (.string (bs X))), (38, Fact.at_ wr (.int .u32 (sX : Int))), (39, Fact.at_ wr (.string (bs a))), (40, Fact.at_ wr (.int .i64 (k : Int))), (41, Fact.at_ wr (.string (bs A))), (42, Fact.at_ wr (.int .u32 (sA : Int))), (43, Fact.at_ wr (.string (bs b))), (44, Fact.at_ wr (.int .i64 (k : Int))), (45, Fact.at_ wr (.string (bs B))), (46, Fact.at_ wr (.int .u32 (sB : Int))), (47, Fact.at_ wr (.int .u32 (sAB : Int))), (48, Fact.at_ wr (.string (bs c))), (49, Fact.at_ wr (.int .i64 (k : Int))), (50, Fact.at_ wr (.string (bs C))), (51, Fact.at_ wr (.int .u32 (sC : Int))), (52, Fact.at_ wr (.int .u32 (sX : Int))), (53, Fact.at_ wr (.bool true)), (54, Fact.at_ wr (.bool true)), (55, Fact.at_ wr (.bool true)), (56, Fact.at_ wr (.bool true)), (6, Fact.at_ wr (.bool true))]) [8, 0, 1, 2, 7] 57 [36, 37, 38, 39, 40, 41, 42, 43, 44, 45, 46, 47, 48, 49, 50, 51, 52, 53, 54, 55, 56, 6] rfl (by kernel_rfl) (by kernel_rfl) ?_ ?_ ?_
      · intro t ht
        simp only [List.mem_cons, List.not_mem_nil, or_false] at ht
        rcases ht with rfl | rfl | rfl | rfl | rfl
        · exact ⟨rfl, Below.refl _ _⟩
        · exact ⟨rfl, Below.refl _ _⟩
        · exact ⟨rfl, Below.refl _ _⟩
        · exact ⟨rfl, Below.refl _ _⟩
        · exact ⟨rfl, Below.refl _ _⟩
      · refine fcs ⟨atcopy 8 36 u8 (.inl rfl) rfl (by first | exact .inl rfl | exact .inr ⟨_, _, _, rfl, rfl, by kernel_rfl, by decide, rfl⟩) (by kernel_rfl) rfl rfl, ?_⟩
        refine fcs ⟨at1 36 37 u8 (.string (bs X)) rfl (by first | exact .inl rfl | exact .inr ⟨_, _, _, rfl, rfl, by kernel_rfl, by decide, rfl⟩) (by kernel_rfl) rfl rfl (fun a w hb h1 => by have h3 := (ho.other hb).str0; simp [execOp, h1, h3]), ?_⟩
        refine fcs ⟨atc1 9 37 38 (.string (bs X)) (.int .u32 (sX : Int)) _ rfl rfl (by first | exact .inl rfl | exact .inr ⟨_, _, _, rfl, rfl, by kernel_rfl, by decide, rfl⟩) (by kernel_rfl) rfl (by kernel_rfl) rfl (fun w hb => qX w hb), ?_⟩
        refine fcs ⟨atcopy 0 39 (.string (bs a)) (.inl rfl) rfl (by first | exact .inl rfl | exact .inr ⟨_, _, _, rfl, rfl, by kernel_rfl, by decide, rfl⟩) (by kernel_rfl) rfl rfl, ?_⟩
        refine fcs ⟨atcopy 7 40 (.int .i64 (k : Int)) (.inl rfl) rfl (by first | exact .inl rfl | exact .inr ⟨_, _, _, rfl, rfl, by kernel_rfl, by decide, rfl⟩) (by kernel_rfl) rfl rfl, ?_⟩
        refine fcs ⟨at2 39 40 41 (.string (bs a)) (.int .i64 (k : Int)) (.string (bs A)) rfl (by first | exact .inl rfl | exact .inr ⟨_, _, _, rfl, rfl, by kernel_rfl, by decide, rfl⟩) (by kernel_rfl) (by kernel_rfl) rfl rfl rfl (fun a w hb h1 h2 => by simp [execOp, h1, h2]; go_simp), ?_⟩
        refine fcs ⟨atc1 9 41 42 (.string (bs A)) (.int .u32 (sA : Int)) _ rfl rfl (by first | exact .inl rfl | exact .inr ⟨_, _, _, rfl, rfl, by kernel_rfl, by decide, rfl⟩) (by kernel_rfl) rfl (by kernel_rfl) rfl (fun w hb => qA w hb), ?_⟩
        refine fcs ⟨atcopy 1 43 (.string (bs b)) (.inl rfl) rfl (by first | exact .inl rfl | exact .inr ⟨_, _, _, rfl, rfl, by kernel_rfl, by decide, rfl⟩) (by kernel_rfl) rfl rfl, ?_⟩
        refine fcs ⟨atcopy 7 44 (.int .i64 (k : Int)) (.inl rfl) rfl (by first | exact .inl rfl | exact .inr ⟨_, _, _, rfl, rfl, by kernel_rfl, by decide, rfl⟩) (by kernel_rfl) rfl rfl, ?_⟩
        refine fcs ⟨at2 43 44 45 (.string (bs b)) (.int .i64 (k : Int)) (.string (bs B)) rfl (by first | exact .inl rfl | exact .inr ⟨_, _, _, rfl, rfl, by kernel_rfl, by decide, rfl⟩) (by kernel_rfl) (by kernel_rfl) rfl rfl rfl (fun a w hb h1 h2 => by simp [execOp, h1, h2]; go_simp), ?_⟩
        refine fcs ⟨atc1 9 45 46 (.string (bs B)) (.int .u32 (sB : Int)) _ rfl rfl (by first | exact .inl rfl | exact .inr ⟨_, _, _, rfl, rfl, by kernel_rfl, by decide, rfl⟩) (by kernel_rfl) rfl (by kernel_rfl) rfl (fun w hb => qB w hb), ?_⟩
        refine fcs ⟨at2 42 46 47 (.int .u32 (sA : Int)) (.int .u32 (sB : Int)) (.int .u32 (sAB : Int)) rfl (by first | exact .inl rfl | exact .inr ⟨_, _, _, rfl, rfl, by kernel_rfl, by decide, rfl⟩) (by kernel_rfl) (by kernel_rfl) rfl rfl rfl (fun a w hb h1 h2 => by simp [execOp, h1, h2]; go_simp), ?_⟩
        refine fcs ⟨atcopy 2 48 (.string (bs c)) (.inl rfl) rfl (by first | exact .inl rfl | exact .inr ⟨_, _, _, rfl, rfl, by kernel_rfl, by decide, rfl⟩) (by kernel_rfl) rfl rfl, ?_⟩
        refine fcs ⟨atcopy 7 49 (.int .i64 (k : Int)) (.inl rfl) rfl (by first | exact .inl rfl | exact .inr ⟨_, _, _, rfl, rfl, by kernel_rfl, by decide, rfl⟩) (by kernel_rfl) rfl rfl, ?_⟩
        refine fcs ⟨at2 48 49 50 (.string (bs c)) (.int .i64 (k : Int)) (.string (bs C)) rfl (by first | exact .inl rfl | exact .inr ⟨_, _, _, rfl, rfl, by kernel_rfl, by decide, rfl⟩) (by kernel_rfl) (by kernel_rfl) rfl rfl rfl (fun a w hb h1 h2 => by simp [execOp, h1, h2]; go_simp), ?_⟩
        refine fcs ⟨atc1 9 50 51 (.string (bs C)) (.int .u32 (sC : Int)) _ rfl rfl (by first | exact .inl rfl | exact .inr ⟨_, _, _, rfl, rfl, by kernel_rfl, by decide, rfl⟩) (by kernel_rfl) rfl (by kernel_rfl) rfl (fun w hb => qC w hb), ?_⟩
        refine fcs ⟨at2 47 51 52 (.int .u32 (sAB : Int)) (.int .u32 (sC : Int)) (.int .u32 (sX : Int)) rfl (by first | exact .inl rfl | exact .inr ⟨_, _, _, rfl, rfl, by kernel_rfl, by decide, rfl⟩) (by kernel_rfl) (by kernel_rfl) rfl rfl rfl (fun a w hb h1 h2 => by simp [execOp, h1, h2]; go_simp), ?_⟩
        refine fcs ⟨at2 38 52 53 (.int .u32 (sX : Int)) (.int .u32 (sX : Int)) (.bool true) rfl (by first | exact .inl rfl | exact .inr ⟨_, _, _, rfl, rfl, by kernel_rfl, by decide, rfl⟩) (by kernel_rfl) (by kernel_rfl) rfl rfl rfl (fun a w hb h1 h2 => by simp [execOp, h1, h2]; go_simp), ?_⟩
        refine fcs ⟨atcopy 53 54 (.bool true) (.inl rfl) rfl (by first | exact .inl rfl | exact .inr ⟨_, _, _, rfl, rfl, by kernel_rfl, by decide, rfl⟩) (by kernel_rfl) rfl rfl, ?_⟩
        refine fcs ⟨atc0 11 8 55 u8 (.bool true) _ rfl rfl (by first | exact .inl rfl | exact .inr ⟨_, _, _, rfl, rfl, by kernel_rfl, by decide, rfl⟩) (by kernel_rfl) rfl (by kernel_rfl) rfl (fun w hb => qw w hb), ?_⟩
        refine fcs ⟨atpick 54 55 56 true (.bool true) _ _ rfl rfl rfl (by first | exact .inl rfl | exact .inr ⟨_, _, _, rfl, rfl, by kernel_rfl, by decide, rfl⟩) (by kernel_rfl) (by kernel_rfl) rfl rfl rfl, ?_⟩
        refine fcs ⟨atcopy 56 6 (.bool true) (.inr rfl) rfl (by first | exact .inl rfl | exact .inr ⟨_, _, _, rfl, rfl, by kernel_rfl, by decide, rfl⟩) (by kernel_rfl) rfl rfl, ?_⟩
        exact fnl
      intro vv wv hvv hbv
      have hv6 : vv 6 = (.bool true) := (hvv 6 (by decide)).1
      simp only [lay, List.foldl_cons, List.foldl_nil, List.setIfInBounds_toArray, List.set_cons_succ, List.set_cons_zero, hv6]
      go_wp2_with fail
      go_ret
      exact ⟨rfl, Below.next hbw hbv⟩
set_option maxRecDepth 100000 in
theorem linear_any (a b c : List UInt8) (w : World) (h1 : a.length ≤ 140737488355328) (hT : Tabs w) :
    Calls Tryd.prog 7 #[.string (bs a), .string (bs b), .string (bs c)] w (Ib (.bool true) w) := by
  obtain ⟨n, hn⟩ : ∃ n, min a.length (min b.length c.length) = n := ⟨_, rfl⟩
  have lA : (a.take n).length = n := by rw [List.length_take]; omega
  have lB : (b.take n).length = n := by rw [List.length_take]; omega
  have lC : (c.take n).length = n := by rw [List.length_take]; omega
  have lAB : (xors (a.take n) (b.take n)).length = n := by rw [xors_length (by omega)]; exact lA
  have lX : (xors (xors (a.take n) (b.take n)) (c.take n)).length = n := by rw [xors_length (by omega)]; exact lAB
  refine linear_core a b c (xors (xors (a.take n) (b.take n)) (c.take n)) n lX (fun k h h1 h2 h3 => ?_) (crc_linear (by omega) (by omega)) w (by omega) (by omega) (by omega) (by omega) (by omega) hT
  simp [xors]
end Go.Proofs.YtghmbglnhcdbjaaDoor

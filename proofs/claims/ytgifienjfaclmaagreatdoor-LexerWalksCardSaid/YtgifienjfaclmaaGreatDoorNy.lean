/-
  The developers' scanner that does not exist; the law of walks. No conditions but Go's own bounds, and what the library's variables hold.
-/
import Derived.Test.YtgifienjfaclmaaGreatDoorNv
import Derived.Test.YtgifienjfaclmaaGreatDoorLx
import Derived.BigQuiet
namespace Go.Proofs.YtgifienjfaclmaaGreatDoor
open Go.RowKit
set_option maxRecDepth 100000 in
theorem peek_nil (w : World) : Calls Tryz.prog 9 #[.pointer none] w (Ib (.agg #[.int .i64 0, .string ⟨#[]⟩, .int .i64 0, .int .i64 0]) w) := by
  go_enter Tryz.func9, Tryz.ntmps9
  go_wp2_with fail
  refine bodyPost_ret (v := .agg #[.int .i64 0, .string ⟨#[]⟩, .int .i64 0, .int .i64 0]) (by simp [results, Tryz.results9, go_sem]) rfl ⟨rfl, ?_⟩
  exact grown1 _
set_option maxRecDepth 100000 in
theorem next_nil (w : World) : Calls Tryz.prog 7 #[.pointer none] w (Ib (.agg #[.int .i64 0, .string ⟨#[]⟩, .int .i64 0, .int .i64 0]) w) := by
  have cP := fun W => peek_nil W
  have V0 := V4.new w (.int .i64 0) (.string ⟨#[]⟩) (.int .i64 0) (.int .i64 0) 34
  have hg1 := grown1 (w := w) (Obj.cells #[.int .i64 0, .string ⟨#[]⟩, .int .i64 0, .int .i64 0] 34)
  go_enter Tryz.func7, Tryz.ntmps7
  go_wp2_with fail
  refine (cP _).mono ?_
  rintro e w2 ⟨rfl, h2⟩
  have hb2 := Below.next hg1 h2
  have hg3 := grown1 (w := w2) (Obj.cells #[.int .i64 0, .string ⟨#[]⟩, .int .i64 0, .int .i64 0] 34)
  have Bel := Below.next hb2 hg3
  have V1 := (V0.next h2).next hg3
  have V2 := V4.new w2 (.int .i64 0) (.string ⟨#[]⟩) (.int .i64 0) (.int .i64 0) 34
  go_upto_region 2 with (fail)
  generalize w2.alloc (Obj.cells #[.int .i64 0, .string ⟨#[]⟩, .int .i64 0, .int .i64 0] 34) = W3 at *
  generalize w2.heap.size = B1 at *
  obtain ⟨a0, a1, a2, a3, a4, a5, a6, a7, a8⟩ := V1
  obtain ⟨b0, b1, b2, b3, b4, b5, b6, b7, b8⟩ := V2
  clear V0 hg1 h2 hb2 hg3 cP
  go_wp2_with fail
  refine bodyPost_ret (v := .agg #[.int .i64 0, .string ⟨#[]⟩, .int .i64 0, .int .i64 0]) (by simp [results, Tryz.results7, go_sem, a1, a2, a3, a4]) rfl ⟨rfl, ?_⟩
  exact (((Bel.setCell (by simp) _).setCell (by simp) _).setCell (by simp) _).setCell (by simp) _
set_option maxRecDepth 100000 in
theorem take_nil (k : Nat) (hk : k ≠ 0) (s : List UInt8) (w : World) : Calls Tryz.prog 18 #[.pointer none, .int .i64 (k : Int), .string (bs s)] w (Ib (.bool false) w) := by
  have cP := fun W => peek_nil W
  have e1 : ((0 : Int) == (k : Int)) = false := by simp; omega
  have e2 : ((0 : Int) != (k : Int)) = true := by simp; omega
  have V1 := fun w2 : World => V4.new w2 (.int .i64 0) (.string ⟨#[]⟩) (.int .i64 0) (.int .i64 0) 34
  go_enter Tryz.func18, Tryz.ntmps18
  go_wp2_with fail
  refine (cP _).mono ?_
  rintro e w2 ⟨rfl, h2⟩
  have Bel := Below.next h2 (grown1 (w := w2) (Obj.cells #[.int .i64 0, .string ⟨#[]⟩, .int .i64 0, .int .i64 0] 34))
  have V1 := V1 w2
  go_upto_region 2 with (fail)
  generalize w2.alloc (Obj.cells #[.int .i64 0, .string ⟨#[]⟩, .int .i64 0, .int .i64 0] 34) = W3 at *
  generalize w2.heap.size = B1 at *
  obtain ⟨b0, b1, b2, b3, b4, b5, b6, b7, b8⟩ := V1
  clear h2 cP hk
  go_wp2_with fail
  go_ret
  exact ⟨rfl, Bel⟩
set_option maxRecDepth 100000 in
theorem mark_nil (s : List UInt8) (w : World) : Calls Tryz.prog 11 #[.pointer none, .string (bs s)] w (Ib (.bool false) w) := by
  have cT : Calls Tryz.prog 18 #[.pointer none, .int .i64 4, .string (bs s)] w _ := take_nil 4 (by decide) s w
  go_enter Tryz.func11, Tryz.ntmps11
  go_wp2_with fail
  refine cT.mono ?_
  rintro e w4 ⟨rfl, hb⟩
  go_wp2_with fail
  go_ret
  exact ⟨rfl, hb⟩
set_option maxRecDepth 100000 in
theorem word_nil (s : List UInt8) (w : World) : Calls Tryz.prog 13 #[.pointer none, .string (bs s)] w (Ib (.bool false) w) := by
  have cT : Calls Tryz.prog 18 #[.pointer none, .int .i64 1, .string (bs s)] w _ := take_nil 1 (by decide) s w
  go_enter Tryz.func13, Tryz.ntmps13
  go_wp2_with fail
  refine cT.mono ?_
  rintro e w4 ⟨rfl, hb⟩
  go_wp2_with fail
  go_ret
  exact ⟨rfl, hb⟩
theorem walk_low {w wr w' : World} {g : Nat} (hb : Below w.heap.size w wr) (hg : wr.grownBy w' (some g)) (h2 : w.heap.size ≤ g) : Below w.heap.size w w' :=
  hb.grown hg hb.size (fun q hq => by injection hq with hq; omega)
set_option maxRecDepth 100000 in
set_option maxHeartbeats 4000000 in
theorem walks_any (s : List UInt8) (A : Option Addr) (n c : Nat) (q : Nat → Nat) (word : List UInt8) (w : World) (hs : s.length ≤ 9223372036854775807) (hn63 : n ≤ 9223372036854775807) (hA : Bys w A n q) (hE : Env w) :
    Calls Tryz.prog 3 #[.string (bs s), .slice A n c, .string (bs word)] w (Ib (.bool true) w) := by
  have cA := fun W hW => awake_any W hW
  by_cases hn : n ≤ 60
  · have d60 : decide ((60 : Int) < (n : Int)) = false := by simp; omega
    have cD := newD_any s w hs hE
    have cR := fun W => refNew_any s W hs
    have c1 := fun W => next_nil W
    have c2 := fun W => peek_nil W
    have c3 := fun W => mark_nil word W
    have c4 := fun W => word_nil word W
    cases hR : scan s with
    | error x =>
      obtain ⟨x, p⟩ := x
      rw [hR] at cD cR
      have hx : x ≠ 0 := (scan_error hR).1
      have dx : ((x : Int) == 0) = false := by simp; omega
      clear hR hx hs hn63 hA
      go_enter Tryz.func3, Tryz.ntmps3
      go_wp2_with fail
      refine cD.mono ?_
      rintro e w2 ⟨hb, h2⟩
      replace h2 : e = .returned (.tuple #[.pointer none, .int .i64 (x : Int), .int .i64 (p : Int)]) := h2
      subst h2
      go_wp2_with fail
      refine (cR _).mono ?_
      rintro e w3 ⟨hb3, h3⟩
      replace h3 : e = .returned (.tuple #[.agg #[.slice none 0 0, .int .i64 0], .int .i64 (x : Int), .int .i64 (p : Int)]) := h3
      subst h3
      have hb := Below.next hb hb3
      clear cD cR
      go_wp2_with fail
      go_loopw [13] (fun v wr => v = .int .i64 0 ∧ Below w.heap.size w wr) (fun _ _ => 0)
      case atStart => exact ⟨rfl, Below.next hb (grown1 _)⟩
      case round =>
        obtain ⟨rfl, hb⟩ := hrel
        by_cases h0 : 0 < n
        · go_wp2_with fail
          refine (c1 _).mono ?_
          rintro e w4 ⟨rfl, hb4⟩
          have hb := Below.next hb hb4
          go_wp2_with fail
          refine (c2 _).mono ?_
          rintro e w5 ⟨rfl, hb5⟩
          have hb := Below.next hb hb5
          go_wp2_with fail
          refine (c3 _).mono ?_
          rintro e w6 ⟨rfl, hb6⟩
          have hb := Below.next hb hb6
          go_wp2_with fail
          refine (c4 _).mono ?_
          rintro e w7 ⟨rfl, hb7⟩
          have hb := Below.next hb hb7
          go_wp2_with fail
          refine (cA _ (hE.next hb)).mono ?_
          rintro e w8 ⟨rfl, hb8⟩
          go_wp2_with fail
          go_ret
          exact ⟨rfl, Below.next hb hb8⟩
        · go_wp2_with fail
          refine (c1 _).mono ?_
          rintro e w4 ⟨rfl, hb4⟩
          have hb := Below.next hb hb4
          go_wp2_with fail
          refine (c2 _).mono ?_
          rintro e w5 ⟨rfl, hb5⟩
          have hb := Below.next hb hb5
          go_wp2_with fail
          refine (c3 _).mono ?_
          rintro e w6 ⟨rfl, hb6⟩
          have hb := Below.next hb hb6
          go_wp2_with fail
          refine (c4 _).mono ?_
          rintro e w7 ⟨rfl, hb7⟩
          have hb := Below.next hb hb7
          go_wp2_with fail
          refine (cA _ (hE.next hb)).mono ?_
          rintro e w8 ⟨rfl, hb8⟩
          go_wp2_with fail
          go_ret
          exact ⟨rfl, Below.next hb hb8⟩
    | ok ts =>
      rw [hR] at cD cR
      obtain ⟨hn1, hn0, hl4⟩ := scan_len hR
      have HP := Lib.hid (scan_places hR)
      clear hR hs
      go_enter Tryz.func3, Tryz.ntmps3
      go_wp2_with fail
      refine cD.mono ?_
      rintro e w2 ⟨hb, gd, b, cd, rfl, hgd, hbd, hD⟩
      go_wp2_with fail
      refine (cR _).mono ?_
      rintro e w3 ⟨hb3, v, rfl, ho⟩
      obtain ⟨g', cap, rfl, hg', hc'⟩ := ho.get hn0
      obtain ⟨A', c', hv, -, hT⟩ := ho.tr
      injection hv with hv1 hv2 hv3
      subst hv1 hv3
      have hD3 := hD.next hb3
      have hbw := Below.next hb hb3
      have hg1 := grown1 (w := w3) (Obj.cells #[.slice (some ⟨g', 0, none⟩) ts.length cap, .int .i64 0] 30)
      have hgo := (ho.lt g' rfl).1
      have hdl := hD.lt
      have hbl := hD.bt
      have hsz3 := hb3.size
      have S0 : Sn (w3.alloc (Obj.cells #[.slice (some ⟨g', 0, none⟩) ts.length cap, .int .i64 0] 30)) w3.heap.size (some ⟨g', 0, none⟩) cap ts 0 :=
        ⟨by simp, by simp, by simp, by simp, (fun a ha => by injection ha with ha; subst ha; show g' ≠ w3.heap.size; omega), hT.next hg1⟩
      have hD4 := hD3.next hg1
      have hb4 := Below.next hbw hg1
      have m1 : gd ≠ w3.heap.size := by omega
      have m2 : b ≠ w3.heap.size := by omega
      have m3 : g' ≠ gd := by omega
      have m4 : w.heap.size ≤ w3.heap.size := hbw.size
      clear hT hc' ho hb hb3 hD hD3 hbw hg1 cD cR
      go_wp2_with fail
      generalize w3.alloc (Obj.cells #[.slice (some ⟨g', 0, none⟩) ts.length cap, .int .i64 0] 30) = W0 at *
      generalize w3.heap.size = gr at *
      go_loopw [13] (fun v wr => ∃ (i j : Nat), i ≤ n ∧ j < ts.length ∧ v = .int .i64 (i : Int) ∧ Below w.heap.size w wr ∧ Dn wr gd b cd ts j ∧ Sn wr gr (some ⟨g', 0, none⟩) cap ts j) (fun v _ => n - (intOf v).toNat)
      case atStart => exact ⟨0, 0, by omega, hn0, rfl, hb4, hD4, S0⟩
      case round =>
        obtain ⟨i, j, hi, hj, rfl, hb, D, S⟩ := hrel
        by_cases hin : i < n
        · rcases hA with h0 | ⟨a, rfl, hab, hc⟩
          · omega
          obtain ⟨hq, hcq⟩ := hc i hin
          have hcq := (hb.cell (p := a.add i) (by rw [add_block]; exact hab)).trans hcq
          have hab2 : (a.add i).block < wr.heap.size := by rw [add_block]; exact Nat.lt_of_lt_of_le hab hb.size
          have hpl := HP.out.2 j hj
          have hl : (ts[j]'hj).kind ≠ 0 → j + 1 < ts.length := fun h => by
            have := hpl.1
            by_cases e : j + 1 = ts.length
            · exact absurd (this.2 e) h
            · omega
          generalize q i = u at *
          obtain ⟨f, hf⟩ : ∃ f, i + 1 = f := ⟨_, rfl⟩
          have l11 : (i : Int) + 1 = (f : Int) := by omega
          have hfn : f ≤ n := by omega
          clear hc hpl
          have hr4 : (u : Int) % 4 = 0 ∨ (u : Int) % 4 = 1 ∨ (u : Int) % 4 = 2 ∨ (u : Int) % 4 = 3 := by omega
          have m5 : gr ≠ gd := m1.symm
          have m6 : ∀ a, some (⟨g', 0, none⟩ : Addr) = some a → a.block ≠ gd := fun a ha => by injection ha with ha; subst ha; exact m3
          rcases hr4 with hr | hr | hr | hr
          · have dN := nextD_any gd b cd ts j wr hj hl D
            have rN := fun W h => refNext_any gr (some ⟨g', 0, none⟩) cap ts j W hj (by omega) h
            have hjz : (if (ts[j]'hj).kind = 0 then j else j + 1) < ts.length := by
              split
              · exact hj
              · rename_i e; exact hl e
            generalize ts[j]'hj = x at *
            obtain ⟨K, T, N, P⟩ := x
            have hjz : (if K = 0 then j else j + 1) < ts.length := hjz
            have dN : Calls Tryz.prog 7 #[.pointer (some ⟨gd, 0, none⟩)] wr (Jn (.agg #[.int .i64 (K : Int), .string (bs T), .int .i64 N, .int .i64 (P : Int)]) gd b cd ts (if K = 0 then j else j + 1) wr) := dN
            have rN : ∀ W, Sn W gr (some ⟨g', 0, none⟩) cap ts j → Calls Tryz.prog 8 #[.pointer (some ⟨gr, 0, none⟩)] W (In (.agg #[.int .i64 (K : Int), .string (bs T), .int .i64 N, .int .i64 (P : Int)]) gr (some ⟨g', 0, none⟩) cap ts (if K = 0 then j else j + 1) W) := rN
            generalize (if K = 0 then j else j + 1) = z at *
            clear hl HP
            go_wp2_with fail
            refine dN.mono ?_
            rintro e w5 ⟨rfl, G5, D5⟩
            have S5 := S.off G5 m5 m6
            have hb5 := walk_low hb G5 hgd
            go_wp2_with fail
            refine (rN _ S5).mono ?_
            rintro e w6 ⟨rfl, G6, S6⟩
            have D6 := D5.off G6 m1 m2
            have hb6 := walk_low hb5 G6 m4
            go_wp2_with fail
            go_roundw
            case rel => exact ⟨f, z, hfn, hjz, rfl, hb6, D6, S6⟩
            case measure => simp [intOf]; omega
          · have dN := peekD_any gd b cd ts j wr hj D
            have rN := fun W h => refPeek_any gr (some ⟨g', 0, none⟩) cap ts j W hj h
            have hjz : (if (ts[j]'hj).kind = 0 then j else j + 1) < ts.length := by
              split
              · exact hj
              · rename_i e; exact hl e
            generalize ts[j]'hj = x at *
            obtain ⟨K, T, N, P⟩ := x
            have dN : Calls Tryz.prog 9 #[.pointer (some ⟨gd, 0, none⟩)] wr (Ib (.agg #[.int .i64 (K : Int), .string (bs T), .int .i64 N, .int .i64 (P : Int)]) wr) := dN
            have rN : ∀ W, Sn W gr (some ⟨g', 0, none⟩) cap ts j → Calls Tryz.prog 10 #[.pointer (some ⟨gr, 0, none⟩)] W (Ib (.agg #[.int .i64 (K : Int), .string (bs T), .int .i64 N, .int .i64 (P : Int)]) W) := rN
            clear hjz
            clear hl HP
            go_wp2_with fail
            refine dN.mono ?_
            rintro e w5 ⟨rfl, hb5⟩
            have D5 := D.next hb5
            have S5 := S.next hb5
            have hb5 := Below.next hb hb5
            go_wp2_with fail
            refine (rN _ S5).mono ?_
            rintro e w6 ⟨rfl, hb6⟩
            have D6 := D5.next hb6
            have S6 := S5.next hb6
            have hb6 := Below.next hb5 hb6
            go_wp2_with fail
            go_roundw
            case rel => exact ⟨f, j, hfn, hj, rfl, hb6, D6, S6⟩
            case measure => simp [intOf]; omega
          · have dN := markD_any gd b cd ts j word wr hj hl D
            have rN := fun W h => refMark_any gr (some ⟨g', 0, none⟩) cap ts j word W hj (by omega) h
            have rN : ∀ W, Sn W gr (some ⟨g', 0, none⟩) cap ts j → Calls Tryz.prog 12 #[.pointer (some ⟨gr, 0, none⟩), .string (bs word)] W (In (.bool (isKT (ts[j]'hj) 4 word)) gr (some ⟨g', 0, none⟩) cap ts (if isKT (ts[j]'hj) 4 word then j + 1 else j) W) := rN
            have hjz : (if isKT (ts[j]'hj) 4 word then j + 1 else j) < ts.length := by
              split
              · rename_i e
                unfold isKT at e
                rw [Bool.and_eq_true, decide_eq_true_eq] at e
                exact hl (by omega)
              · exact hj
            generalize (if isKT (ts[j]'hj) 4 word then j + 1 else j) = z at *
            generalize isKT (ts[j]'hj) 4 word = bo at *
            clear hl HP
            go_wp2_with fail
            refine dN.mono ?_
            rintro e w5 ⟨rfl, G5, D5⟩
            have S5 := S.off G5 m5 m6
            have hb5 := walk_low hb G5 hgd
            go_wp2_with fail
            refine (rN _ S5).mono ?_
            rintro e w6 ⟨rfl, G6, S6⟩
            have D6 := D5.off G6 m1 m2
            have hb6 := walk_low hb5 G6 m4
            cases bo
            all_goals
              go_wp2_with fail
              go_roundw
              case rel => exact ⟨f, z, hfn, hjz, rfl, hb6, D6, S6⟩
              case measure => simp [intOf]; omega
          · have dN := wordD_any gd b cd ts j word wr hj hl D
            have rN := fun W h => refWord_any gr (some ⟨g', 0, none⟩) cap ts j word W hj (by omega) h
            have rN : ∀ W, Sn W gr (some ⟨g', 0, none⟩) cap ts j → Calls Tryz.prog 14 #[.pointer (some ⟨gr, 0, none⟩), .string (bs word)] W (In (.bool (isKT (ts[j]'hj) 1 word)) gr (some ⟨g', 0, none⟩) cap ts (if isKT (ts[j]'hj) 1 word then j + 1 else j) W) := rN
            have hjz : (if isKT (ts[j]'hj) 1 word then j + 1 else j) < ts.length := by
              split
              · rename_i e
                unfold isKT at e
                rw [Bool.and_eq_true, decide_eq_true_eq] at e
                exact hl (by omega)
              · exact hj
            generalize (if isKT (ts[j]'hj) 1 word then j + 1 else j) = z at *
            generalize isKT (ts[j]'hj) 1 word = bo at *
            clear hl HP
            go_wp2_with fail
            refine dN.mono ?_
            rintro e w5 ⟨rfl, G5, D5⟩
            have S5 := S.off G5 m5 m6
            have hb5 := walk_low hb G5 hgd
            go_wp2_with fail
            refine (rN _ S5).mono ?_
            rintro e w6 ⟨rfl, G6, S6⟩
            have D6 := D5.off G6 m1 m2
            have hb6 := walk_low hb5 G6 m4
            cases bo
            all_goals
              go_wp2_with fail
              go_roundw
              case rel => exact ⟨f, z, hfn, hjz, rfl, hb6, D6, S6⟩
              case measure => simp [intOf]; omega
        · obtain rfl : i = n := by omega
          clear hA HP D S hD4 S0
          go_wp2_with fail
          refine (c1 _).mono ?_
          rintro e w4 ⟨rfl, hb4⟩
          have hb := Below.next hb hb4
          go_wp2_with fail
          refine (c2 _).mono ?_
          rintro e w5 ⟨rfl, hb5⟩
          have hb := Below.next hb hb5
          go_wp2_with fail
          refine (c3 _).mono ?_
          rintro e w6 ⟨rfl, hb6⟩
          have hb := Below.next hb hb6
          go_wp2_with fail
          refine (c4 _).mono ?_
          rintro e w7 ⟨rfl, hb7⟩
          have hb := Below.next hb hb7
          go_wp2_with fail
          refine (cA _ (hE.next hb)).mono ?_
          rintro e w8 ⟨rfl, hb8⟩
          go_wp2_with fail
          go_ret
          exact ⟨rfl, Below.next hb hb8⟩
  · have d60 : decide ((60 : Int) < (n : Int)) = true := by simp; omega
    clear hA hs
    go_enter Tryz.func3, Tryz.ntmps3
    go_wp2_with fail
    refine (cA _ hE).mono ?_
    rintro e w5 ⟨rfl, hb5⟩
    go_wp2_with fail
    go_ret
    exact ⟨rfl, hb5⟩
end Go.Proofs.YtgifienjfaclmaaGreatDoor

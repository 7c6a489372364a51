import Derived.Test.YtndidbanbklonaaBv
/-
  The law of delivery without faults. No conditions beyond those that each names.
-/
namespace Go.Proofs.Ytndidbanbklonaa
open Go.RowKit Go.Sort Go.Lib Go.Shelf
set_option maxRecDepth 100000 in
set_option maxHeartbeats 8000000 in
theorem delivers_law (nodes lat : Int) (A : Option Addr) (n cap : Nat) (q : Nat → Opn) (w : World) (_ : -9223372036854775808 ≤ nodes) (_ : nodes ≤ 9223372036854775807) (hl1 : -9223372036854775808 ≤ lat) (hl2 : lat ≤ 9223372036854775807) (hn : n ≤ 9223372036854775807) (hq : Ops w A n q) : Calls Try.prog 3 #[.int .i64 nodes, .int .i64 lat, .slice A n cap] w (Ib (.bool true) w) := by
  have cN := new_any nodes lat none 0 0 [] w rfl (by decide) (.inl rfl)
  by_cases he : nwE nodes lat [] = 0
  · have hlat : 0 ≤ lat ∧ lat ≤ 1099511627776 := by
      unfold nwE at he
      split at he
      · rename_i h; exact of_decide_eq_true h.2
      · cases he
    have HL := Lib.hid hlat
    have cN2 : Calls Try.prog 8 #[.int .i64 nodes, .int .i64 lat, .slice none 0 0] w (fun e w1 => ∃ c m fv, e = .returned (.tuple #[(.pointer (some ⟨c, 0, none⟩)), .int .i64 0]) ∧ Hid (Below w.heap.size w w1 ∧ Nw c w1 m (fun _ => .slice none 0 0) (.slice none 0 0) fv (Ns.new nodes lat []) ∧ ∀ i, Fp c m (fun _ => .slice none 0 0) (.slice none 0 0) i ∨ fv.ownBlock = some i → w.heap.size ≤ i)) := by
      refine cN.mono ?_
      rintro e w1 ⟨hb, ⟨h, -⟩ | ⟨-, c, m, fv, rfl, k1, k2⟩⟩
      · exact absurd he h
      · exact ⟨c, m, fv, rfl, Lib.hid ⟨hb, k1, k2⟩⟩
    have HS : Hid (∀ c m fv w1, Hid (Below w.heap.size w w1 ∧ Nw c w1 m (fun _ => .slice none 0 0) (.slice none 0 0) fv (Ns.new nodes lat []) ∧ ∀ i, Fp c m (fun _ => .slice none 0 0) (.slice none 0 0) i ∨ fv.ownBlock = some i → w.heap.size ≤ i) → Calls Try.prog 10 #[(.pointer (some ⟨c, 0, none⟩)), .slice A n cap] w1 (fun e w2 => ∃ Ax nx dx V2 tv2, e = .returned (.tuple #[.slice Ax nx dx, .bool true]) ∧ Hid (SeI c m (fun _ => .slice none 0 0) (.slice none 0 0) fv q (Ns.new nodes lat []) w1 (min n 200) (.slice Ax nx dx) V2 tv2 w2))) := Lib.hid fun c m fv w1 H => by
      have hq1 : Ops w1 A n q := by
        rcases hq with h | ⟨ab, ao, e, hab, h⟩
        · exact .inl h
        · exact .inr ⟨ab, ao, e, Nat.lt_of_lt_of_le hab H.out.1.size, fun i hi => by
            obtain ⟨a0, a1, a2, a3, a4, a5⟩ := h i hi
            exact ⟨cell_next H.out.1 a0, cell_next H.out.1 a1, cell_next H.out.1 a2, cell_next H.out.1 a3, cell_next H.out.1 a4, a5⟩⟩
      refine (sent_law c w1 m _ _ fv _ A n cap q hn hq1 (fun hn0 g e hg => ?_) H.out.2.1 rfl).mono ?_
      · rcases hq with h | ⟨ab, ao, e2, hab, -⟩
        · omega
        · subst e2
          injection e with e
          have e : ab = g := e
          have := H.out.2.2 g (.inl hg)
          omega
      · rintro e w2 ⟨x, V2, tv2, rfl, k⟩
        obtain ⟨Ax, dx, rfl, -⟩ := own_nil_or k.ow
        exact ⟨Ax, _, dx, V2, tv2, rfl, Lib.hid k⟩
    have HR : Hid (∀ c m fv w1 Ax nx dx V2 tv2 w2, Hid (Below w.heap.size w w1 ∧ Nw c w1 m (fun _ => .slice none 0 0) (.slice none 0 0) fv (Ns.new nodes lat []) ∧ ∀ i, Fp c m (fun _ => .slice none 0 0) (.slice none 0 0) i ∨ fv.ownBlock = some i → w.heap.size ≤ i) → Hid (SeI c m (fun _ => .slice none 0 0) (.slice none 0 0) fv q (Ns.new nodes lat []) w1 (min n 200) (.slice Ax nx dx) V2 tv2 w2) → nx ≤ 200 ∧ Calls Try.prog 11 #[(.pointer (some ⟨c, 0, none⟩)), .int .i64 1152921504606846976] w2 (fun e w3 => ∃ Ay dy V3 tv3 S3, e = .returned (.slice Ay nx dy) ∧ Hid (DlB w w3 (.slice Ax nx dx) (.slice Ay nx dy) (sr q (Ns.new nodes lat []) (min n 200)).2 lat) ∧ Hid (Nw c w3 m V3 tv3 fv S3 ∧ S3.sent = nx))) := Lib.hid fun c m fv w1 Ax nx dx V2 tv2 w2 H K => by
      have hlen := K.out.ow.len
      have h2 := (sr_sent q (Ns.new nodes lat []) rfl (min n 200)).2
      refine ⟨by omega, ?_⟩
      refine (receive_any c w2 m V2 tv2 fv _ 1152921504606846976 K.out.nw).mono ?_
      intro e w3 k
      obtain ⟨y, V3, tv3, S3, rfl, a1, a2, a3⟩ := dl_end HL.out H.out.1 H.out.2.2 K.out k
      obtain ⟨Ay, dy, rfl, -⟩ := own_nil_or a1.oy
      rw [List.length_map, hlen] at a1 ⊢
      exact ⟨Ay, dy, V3, tv3, S3, rfl, Lib.hid a1, Lib.hid ⟨a2, by rw [a3, hlen]⟩⟩
    have HSN : Hid (∀ c m fv w3 V3 tv3 S3 (nx : Nat), Hid (Nw c w3 m V3 tv3 fv S3 ∧ S3.sent = nx) → Calls Try.prog 12 #[(.pointer (some ⟨c, 0, none⟩))] w3 (Is (.int .i64 (nx : Int)) w3)) := Lib.hid fun c m fv w3 V3 tv3 S3 nx K => by
      rw [← K.out.2]; exact sent_any c w3 m V3 tv3 fv S3 K.out.1
    clear cN he hlat hq
    go_enter Try.func3, Try.ntmps3
    go_wp2_with (first
      | (go_at_call 8; refine cN2.mono ?_; rintro e w1 ⟨c, m, fv, rfl, K1⟩)
      | (go_at_call 10; refine (HS.out c m fv w1 K1).mono ?_; rintro e w2 ⟨Ax, nx, dx, V2, tv2, rfl, K2⟩; obtain ⟨hnx, cR⟩ := HR.out c m fv w1 Ax nx dx V2 tv2 w2 K1 K2)
      | (go_at_call 11; refine cR.mono ?_; rintro e w3 ⟨Ay, dy, V3, tv3, S3, rfl, K3, K4⟩; have cZ := HSN.out c m fv w3 V3 tv3 S3 nx K4; have hne : ((nx : Int) != (nx : Int)) = false := (by simp); have hne2 : (nx != nx) = false := (by simp))
      | (go_at_call 12; refine cZ.mono ?_; rintro e w4 ⟨rfl, rfl⟩))
    have HK := K3
    obtain ⟨l, hl⟩ : ∃ l, (sr q (Ns.new nodes lat []) (min n 200)).2 = l := ⟨_, rfl⟩
    rw [hl] at HK
    clear hl cR cZ K1 K2 K4 HS HR HSN cN2 K3
    have HLN : Hid (l.length = nx) := Lib.hid HK.out.ox.len
    have hlo := HL.out
    go_loopg [12] nx (fun kx s12 wr => ∃ i : Nat, s12 = .int .i64 (i : Int) ∧ i ≤ nx ∧ nx - i ≤ kx ∧ Hid (Below w3.heap.size w3 wr))
    case atStart => exact ⟨0, rfl, Nat.zero_le _, Nat.le_refl _, Lib.hid (Below.refl _ _)⟩
    case round =>
      obtain ⟨i, rfl, hin, hkx, HB⟩ := hrel
      by_cases hi : i < nx
      · have di : decide (i < nx) = true := decide_eq_true hi
        have hi2 : i < l.length := by rw [HLN.out]; exact hi
        have hi3 : i < (l.map (lateA lat)).length := by rw [List.length_map]; exact hi2
        have ox := own_next HK.out.ox HB.out
        have oy := own_next HK.out.oy HB.out
        obtain ⟨gx, rfl, hgx⟩ := OwA.pos (B := 0) (l := l) ox (by omega)
        obtain ⟨gy, rfl, hgy⟩ := OwA.pos (B := 0) (l := l.map (lateA lat)) oy (by omega)
        have cx := fun j v hv => OwA.cell (B := 0) ox HLN.out i hi2 j v hv
        have cy := fun j v hv => OwA.cell (B := 0) oy (by rw [List.length_map]; exact HLN.out) i hi3 j v hv
        have x0 := cx 0 _ rfl
        have x1 := cx 1 _ rfl
        have x2 := cx 2 _ rfl
        have x3 := cx 3 _ rfl
        have x4 := cx 4 _ rfl
        have y0 := cy 0 _ rfl
        have y1 := cy 1 _ rfl
        have y2 := cy 2 _ rfl
        have y3 := cy 3 _ rfl
        have y4 := cy 4 _ rfl
        rw [List.getElem_map] at y0 y1 y2 y3 y4
        obtain ⟨a, ha⟩ : ∃ a, l[i]'hi2 = a := ⟨_, rfl⟩
        rw [ha] at x0 x1 x2 x3 x4 y0 y1 y2 y3 y4
        simp only [lateA, Nat.add_zero] at x0 x1 x2 x3 x4 y0 y1 y2 y3 y4
        have hab := ab1 wr (Obj.cells #[.int .i64 (a.at_ + lat), .int .i64 a.fr, .int .i64 a.to_, .int .i64 (a.num : Int), .string a.dat] 34)
        have hi1 : i + 1 ≤ nx := by omega
        have HBA := HK.out.bd a (by rw [← ha]; exact List.getElem_mem hi2)
        clear cx cy ha hi2 hi3 ox oy
        have hba := HBA
        have hba1 := hba.1
        have hba2 := hba.2
        have hla1 := hlo.1
        have hla2 := hlo.2
        have hN := neqA ⟨a.at_ + lat, a.fr, a.to_, a.num, a.dat⟩
        have B5 := Bx.new5 wr 34 (.int .i64 (a.at_ + lat)) (.int .i64 a.fr) (.int .i64 a.to_) (.int .i64 (a.num : Int)) (.string a.dat)
        clear hba HBA hlo
        go_upto_region 15 with (fail)
        have HB5 := Lib.hid (Below.next HB.out hab)
        have y0 := cell_next hab y0
        have y1 := cell_next hab y1
        have y2 := cell_next hab y2
        have y3 := cell_next hab y3
        have y4 := cell_next hab y4
        generalize wr.alloc (Obj.cells #[.int .i64 (a.at_ + lat), .int .i64 a.fr, .int .i64 a.to_, .int .i64 (a.num : Int), .string a.dat] 34) = w5 at *
        generalize wr.heap.size = vb at *
        have b0 := B5.c 0 rfl
        have b1 := B5.c 1 rfl
        have b2 := B5.c 2 rfl
        have b3 := B5.c 3 rfl
        have b4 := B5.c 4 rfl
        have bl := B5.lt
        have yl : gy < w5.heap.size := blk_lt y0
        clear B5 hab x0 x1 x2 x3 x4 hgx hgy
        go_quiet (fail)
        go_wp2_with fail
        go_roundg (nx - (i + 1))
        case measure => omega
        case rel => exact ⟨i + 1, rfl, hi1, Nat.le_refl _, Lib.hid (below_drewN HB5.out _)⟩
      · have di : decide (i < nx) = false := decide_eq_false hi
        clear hi
        go_wp2_with (go_at_call 9; refine (awake_any _).mono ?_; rintro e w99 ⟨rfl, hb99⟩)
        go_ret
        exact ⟨rfl, Below.next (Below.next HK.out.lo HB.out) hb99⟩
  · have cN2 : Calls Try.prog 8 #[.int .i64 nodes, .int .i64 lat, .slice none 0 0] w (fun e w1 => e = .returned (.tuple #[.pointer none, .int .i64 (nwE nodes lat [])]) ∧ Below w.heap.size w w1) := by
      refine cN.mono ?_
      rintro e w1 ⟨hb, ⟨-, rfl⟩ | ⟨h, -⟩⟩
      · exact ⟨rfl, hb⟩
      · exact absurd h he
    have hz : (nwE nodes lat [] != 0) = true := bne_iff_ne.2 he
    generalize nwE nodes lat [] = E at *
    clear he cN hq
    go_enter Try.func3, Try.ntmps3
    go_wp2_with (first | (go_at_call 8; refine cN2.mono ?_; rintro e w1 ⟨rfl, hb1⟩) | (go_at_call 9; refine (awake_any _).mono ?_; rintro e w99 ⟨rfl, hb99⟩))
    go_ret
    exact ⟨rfl, Below.next hb1 hb99⟩
end Go.Proofs.Ytndidbanbklonaa

/-
  Contract of Parse. Conditions: strings of at most 1000000 bytes.
-/
import Derived.Test.YtaiceebhifecbaaDoorT16
namespace Go.Proofs.YtaiceebhifecbaaDoor
open Go.RowKit
theorem Bt_extract (s : ByteArray) (a b : Nat) (hb : b ≤ s.size) : Bt (s.extract a b) = ((Bt s).take b).drop a := by
  have hsz : (s.extract a b).size = b - a := by simp; omega
  apply List.ext_getElem?
  intro j
  rw [List.getElem?_drop, List.getElem?_take]
  rcases Nat.lt_or_ge j (b - a) with h | h
  · rw [Bt_at _ j (by omega), if_pos (by omega), Bt_at s (a + j) (by omega)]
    congr 2
    simp [ByteArray.getElem_extract]
  · rw [List.getElem?_eq_none (by rw [Bt_length]; omega)]
    split
    · rw [List.getElem?_eq_none]
      omega
    · rfl
theorem cell_new (w : World) (v : Value) (t : TypeId) : (w.alloc (Obj.cells #[v] t)).cell? ⟨w.heap.size, 0, none⟩ = some v ∧ (w.alloc (Obj.cells #[v] t)).frozen? ⟨w.heap.size, 0, none⟩ = false := by simp
set_option maxHeartbeats 400000 in
theorem parse_bad (s : ByteArray) (w : World) (hs : s.size ≤ 1000000) (hbad : Nm.chk (Bt s) ≠ 0) :
    Calls Tryd.prog 31 #[.string s] w fun e w' => e = .returned (.tuple #[nt none 0 0, .int .i64 (Nm.chk (Bt s))]) ∧ Below w.heap.size w w' := by
  have hc := Lib.hid (fun W => check_any s W hs)
  have hb0 : ((Nm.chk (Bt s) : Int) != 0) = true := by rw [bne_iff_ne]; omega
  go_enter Tryd.func31, Tryd.ntmps31
  go_wp2_with fail
  refine (hc.out _).mono ?_
  rintro e w1 ⟨rfl, rfl⟩
  go_wp2_with fail
  refine bodyPost_ret (v := .tuple #[nt none 0 0, .int .i64 (Nm.chk (Bt s))]) (by simp [results, Tryd.results31, go_sem]) rfl ⟨rfl, ?_⟩
  exact one _ _
set_option maxHeartbeats 400000 in
theorem parse_good (s : ByteArray) (w : World) (hs : s.size ≤ 1000000) (hgood : Nm.chk (Bt s) = 0) :
    Calls Tryd.prog 31 #[.string s] w fun e w' => ∃ A c, e = .returned (.tuple #[nt A (Nm.nat (Nm.dval (Bt s))).length c, .int .i64 0]) ∧ (Nm.nat (Nm.dval (Bt s))).length ≤ c ∧ Fr w.heap.size w' A (Nm.nat (Nm.dval (Bt s))) ∧ Below w.heap.size w w' := by
  have hall : Nm.alldec (Bt s) ∧ (Bt s).length ≤ 400 := by
    unfold Nm.chk at hgood
    split at hgood
    · omega
    · split at hgood
      · omega
      · split at hgood
        · omega
        · rename_i h2 h3
          exact ⟨by simpa using h3, by omega⟩
  obtain ⟨hall, h400⟩ := hall
  have hsl := Bt_length s
  have hc := Lib.hid (fun W => by have := check_any s W hs; rw [hgood] at this; exact this)
  have Hall := Lib.hid hall
  have Hsl := Lib.hid hsl
  clear hgood hall
  obtain ⟨W, hW⟩ : ∃ W, w.alloc (Obj.cells #[Value.slice none 0 0] 24) = W := ⟨_, rfl⟩
  obtain ⟨e0, f0⟩ := cell_new w (Value.slice none 0 0) 24
  have hb0 := one w (Obj.cells #[Value.slice none 0 0] 24)
  have hWs : (w.alloc (Obj.cells #[Value.slice none 0 0] 24)).heap.size = w.heap.size + 1 := by simp
  rw [hW] at e0 f0 hb0 hWs
  have HWs := Lib.hid hWs
  have h4 : s.size ≤ 400 := by omega
  clear hWs h400 hsl
  go_enter Tryd.func31, Tryd.ntmps31
  go_wp2_with fail
  refine (hc.out _).mono ?_
  rintro e w1 ⟨rfl, rfl⟩
  go_wp2_with fail
  go_loopg [0, 5] s.size (fun gk sv zv wr => ∃ (cur : ByteArray) (A : Option Addr) (n : Nat) (zs done : List Nat), sv = .string cur ∧ zv = .slice A n n ∧ Hid (gk = cur.size) ∧ Hid (Bt s = done ++ Bt cur) ∧ Hid (Nm.val zs = Nm.dval done) ∧ Hid (zs.length = n) ∧ n ≤ done.length ∧ Nm.Dig zs ∧ Fr W.heap.size wr A zs ∧ Hid (done = [] ∨ cur.size % 9 = 0) ∧ Below W.heap.size W wr)
  case atStart => exact ⟨s, none, 0, [], [], rfl, rfl, rfl, rfl, rfl, rfl, Nat.le_refl _, Nm.Dig.nil, Fr.nil _ _ _, .inl rfl, Below.refl _ _⟩
  case round =>
    obtain ⟨cur, A, n, zs, done, rfl, rfl, hgk, hsplit, hval, hzl, hnd, hzd, hf, hmod, hb⟩ := hrel
    have hlen : done.length + cur.size = s.size := by
      have := congrArg List.length hsplit.out
      rw [List.length_append, Bt_length, Bt_length] at this
      omega
    have hn4 : n + cur.size ≤ 400 := by omega
    rcases Nat.eq_zero_or_pos cur.size with h0 | h0
    · have hfin : Nm.val zs = Nm.dval (Bt s) := by
        have h1 := hsplit.out
        have h2 : Bt cur = [] := List.eq_nil_of_length_eq_zero (by rw [Bt_length]; exact h0)
        rw [h2, List.append_nil] at h1
        rw [h1]; exact hval.out
      have Hfin := Lib.hid hfin
      have hb2 : ((cur.size : Int)) ≤ 0 := by omega
      clear hfin h0 hlen
      go_wp2_with fail
      refine (fromDigits_n W.heap.size A n n zs _ hf hzd hzl.out (Nat.le_refl _) (by omega)).mono ?_
      rintro e w5 ⟨rfl, hf5, hb5⟩
      rw [Hfin.out] at hf5 ⊢
      have hb5' : Below W.heap.size W w5 := up hb hb5
      obtain ⟨k1, k2⟩ := seen hb5'
      have hc5 : w5.cell? ⟨w.heap.size, 0, none⟩ = some (.slice none 0 0) := (k1 _ _ (by rw [HWs.out]; omega)).trans e0
      have hf6 : w5.frozen? ⟨w.heap.size, 0, none⟩ = false := (k2 _ _ (by rw [HWs.out]; omega)).trans f0
      clear k1 k2 hW e0 f0
      go_wp2_with fail
      refine bodyPost_ret (v := .tuple #[nt A (Nm.nat (Nm.dval (Bt s))).length (Nm.nat (Nm.dval (Bt s))).length, .int .i64 0]) (by simp [results, Tryd.results31, go_sem, hc5]) rfl ⟨_, _, rfl, Nat.le_refl _, ?_, ?_⟩
      · exact (hf5.mono hb0.size).setCell hc5 (by simp)
      · exact (up hb0 hb5').setCell (Nat.le_refl _) _
    · obtain ⟨g, hg⟩ : ∃ g, (cur.size - 1) % 9 + 1 = g := ⟨_, rfl⟩
      have hgz : ((cur.size : Int) - 1) % 9 + 1 = (g : Int) := by omega
      have hg1 : 1 ≤ g := by omega
      have hg9 : g ≤ 9 := by omega
      have hgc : g ≤ cur.size := by omega
      have Hlen := Lib.hid hlen
      have Hg := Lib.hid hg
      have Hgz := Lib.hid hgz
      clear hlen hg hgz
      go_wp2_with fail
      have hsz1 : (cur.extract 0 ((cur.size - 1) % 9 + 1)).size = g := by rw [Hg.out]; simp; omega
      have hB1 : Bt (cur.extract 0 ((cur.size - 1) % 9 + 1)) = (Bt cur).take g := by rw [Hg.out, Bt_extract _ _ _ hgc, List.drop_zero]
      have hallc : Nm.alldec (Bt cur) := fun c hc => Hall.out c (by rw [hsplit.out]; exact List.mem_append_right _ hc)
      have hr := Nm.dval_lt _ (hallc.take g)
      have hrl : ((Bt cur).take g).length = g := by rw [List.length_take, Bt_length]; omega
      have hr9 : 10 ^ g ≤ 10 ^ 9 := Nat.pow_le_pow_right (by omega) hg9
      refine (group_any _ wr (by omega) (by rw [hB1]; exact hallc.take g)).mono ?_
      rintro e w2 ⟨rfl, rfl⟩
      rw [hB1]
      obtain ⟨r, hrr⟩ : ∃ r, Nm.dval ((Bt cur).take g) = r := ⟨_, rfl⟩
      rw [hrr] at hr ⊢
      rw [hrl] at hr
      have Hrr := Lib.hid hrr
      have HB1 := Lib.hid hB1
      have hr1 : r < 1000000000 := by omega
      have Hrl := Lib.hid hrl
      have hval2 : Nm.val zs * 1000000000 + r = Nm.dval (done ++ (Bt cur).take g) := by
        rw [Nm.dval_append, hrl, hval.out, hrr]
        rcases hmod.out with h | h
        · subst h; simp [Nm.dval]
        · have : g = 9 := by have := Hg.out; omega
          subst this; omega
      have Hval2 := Lib.hid hval2
      clear hsz1 hB1 hr hr9 hrl hrr hval2 hallc
      go_wp2_with fail
      refine (timesGroupPlus_any A n r zs wr hf.rd hzd hzl.out (by omega) hr1).mono ?_
      rintro e w2 ⟨A2, rs, rfl, hrsl, hrsd, hrsv, hf2, hb2⟩
      go_wp2_with fail
      have hsz2 : (cur.extract ((cur.size - 1) % 9 + 1) cur.size).size = cur.size - g := by rw [Hg.out]; simp
      have hB2 : Bt (cur.extract ((cur.size - 1) % 9 + 1) cur.size) = (Bt cur).drop g := by
        rw [Hg.out, Bt_extract _ _ _ (Nat.le_refl _), List.take_of_length_le (Nat.le_of_eq (Bt_length cur))]
      go_roundg (cur.size - g)
      case measure => have := hgk.out; omega
      case rel =>
        refine ⟨cur.extract ((cur.size - 1) % 9 + 1) cur.size, A2, n + 1, rs, done ++ (Bt cur).take g, rfl, rfl, hsz2.symm, ?_, ?_, hrsl, ?_, hrsd, hf2.mono hb.size, ?_, up hb hb2⟩
        · show _ = _
          rw [hB2, List.append_assoc, List.take_append_drop]
          exact hsplit.out
        · show _ = _
          rw [← Hval2.out, hrsv.out]
        · rw [List.length_append, Hrl.out]; omega
        · right
          rw [hsz2]
          have := Hg.out
          omega
end Go.Proofs.YtaiceebhifecbaaDoor

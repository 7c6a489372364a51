/-
  The tables of utf8 read as they were laid, out of the rows' own condition; the law of unframing over values as they come in. No conditions beyond the row's own.
-/
import Derived.Test.YtcjaaijohapeaaaDoorM17
import Derived.Test.YtcjaaijohapeaaaDoorShelfC
import Derived.Lib.LaidU8
import Derived.PinnedBridge
import Derived.MakeChecks
import Derived.KernelRfl
import Derived.Test.YtcjaaijohapeaaaDoorM13
namespace Go.Proofs.YtcjaaijohapeaaaDoor
open Go.RowKit Go.Lib
theorem u8extra : U8Extra Tryd.prog Tryd.lays260_ren := { n3 := by kernel_rfl, n4 := by kernel_rfl, y3 := by kernel_rfl, y4 := by kernel_rfl, c5 := by kernel_rfl, c119 := by kernel_rfl, c138 := by kernel_rfl }
theorem first_is : Rows.laid_unicode_utf8_first = firstData := Pinned.utf8First_eq
theorem accept_is : (Rows.laid_unicode_utf8_acceptRanges : DataW Unit) = acceptData := by kernel_rfl
theorem tabs_laid {w : World} (hl : laidMetH Tryd.prog [("unicode/utf8.acceptRanges", Rows.laid_unicode_utf8_acceptRanges), ("unicode/utf8.first", Rows.laid_unicode_utf8_first)] w) : Tabs w := by
  rw [MakeChecks.laidMetH_plain _ _ _ (by kernel_rfl)] at hl
  have h3 := laidMet.reads hl (n := "unicode/utf8.first") (d := Rows.laid_unicode_utf8_first) (List.Mem.tail _ (List.Mem.head _))
  have h4 := laidMet.reads hl (n := "unicode/utf8.acceptRanges") (d := Rows.laid_unicode_utf8_acceptRanges) (List.Mem.head _)
  rw [first_is] at h3
  rw [accept_is] at h4
  exact utf8Tabs_of_reads Tryd.lays260 u8extra h3 h4
theorem unframes_row (s : ByteArray) (id ix ct : Int) (t : ByteArray) (w : World) (hs : s.size ≤ 9223372036854775807) (ht : t.size ≤ 9223372036854775807) (hl : laidMetH Tryd.prog Rows.packetUnframesRow.laid w) :
    Calls Tryd.prog 5 #[.string s, .agg #[.int .i64 id, .int .i64 ix, .int .i64 ct, .string t]] w (Ib (.bool true) w) := unframes_law s id ix ct t w hs ht (tabs_laid hl)
end Go.Proofs.YtcjaaijohapeaaaDoor
/-
  A fragment that is framed is unframed as it was; what is unframed was framed so. No conditions.
-/
namespace Go.Proofs.YtcjaaijohapeaaaDoor
open Go.RowKit
theorem opn_seal (l : List UInt8) : opn (seal_ l) = (l, 0) := by
  have h1 : (seal_ l).length = 4 + l.length := seal_length l
  have h2 : (seal_ l).drop 4 = l := by
    unfold seal_
    rw [List.drop_append_of_le_length (by rw [le_length]; exact Nat.le_refl _), List.drop_of_length_le (by rw [le_length]; exact Nat.le_refl _), List.nil_append]
  unfold opn
  rw [if_neg (by omega), h2, if_pos rfl]
theorem uf_front {x : Fg} (h : fvB x = true) : ufF (fby x) = x ∧ ufE (fby x) = 0 := by
  obtain ⟨id, ix, ct, dat⟩ := x
  obtain ⟨h0, h1, h2, h3⟩ := fv_rng h
  simp only at h0 h1 h2 h3
  obtain ⟨a, rfl⟩ := Int.eq_ofNat_of_zero_le h0.1
  obtain ⟨b, rfl⟩ := Int.eq_ofNat_of_zero_le h2.1
  obtain ⟨c, rfl⟩ := Int.eq_ofNat_of_zero_le (show 0 ≤ ct by omega)
  have e : fby ⟨a, b, c, dat⟩ = uv a ++ (uv b ++ (uv c ++ (tv dat ++ []))) := by unfold fby; simp
  rw [e]
  obtain ⟨r1, v1⟩ := Rs.small_front (n := a) (M := 1099511627776) (uv b ++ (uv c ++ (tv dat ++ []))) (by omega) (by omega)
  obtain ⟨r2, v2⟩ := Rs.small_front (n := b) (M := 64) (uv c ++ (tv dat ++ [])) (by omega) (by omega)
  obtain ⟨r3, v3⟩ := Rs.small_front (n := c) (M := 64) (tv dat ++ []) (by omega) (by omega)
  obtain ⟨r4, v4⟩ := Rs.text_front (s := dat) (M := 4000) [] (by omega) (by omega)
  constructor
  · unfold ufF ur3 ur2 ur1
    rw [r1, r2, r3, v1, v2, v3, v4]
  · unfold ufE ur4 ur3 ur2 ur1
    rw [r1, r2, r3, r4]; rfl
theorem unf_fr {x : Fg} (h : fvB x = true) : unf (fr x) = (x, 0) := by
  obtain ⟨h1, h2⟩ := uf_front h
  unfold unf fr
  rw [h, if_pos rfl, opn_seal, if_pos rfl]
  simp only
  rw [h1, h2, h, if_pos rfl, if_pos rfl]
theorem unf_only {s : List UInt8} {x : Fg} (h : unf s = (x, 0)) : fr x = s := by
  unfold unf at h
  by_cases h0 : (opn s).2 = 0
  · rw [if_pos h0] at h
    have hs : seal_ (s.drop 4) = s ∧ (opn s).1 = s.drop 4 := by
      unfold opn at h0 ⊢
      by_cases h1 : s.length < 4
      · rw [if_pos h1] at h0; cases h0
      · rw [if_neg h1] at h0 ⊢
        by_cases h2 : seal_ (s.drop 4) = s
        · rw [if_pos h2]; exact ⟨h2, rfl⟩
        · rw [if_neg h2] at h0; cases h0
    rw [hs.2] at h
    generalize s.drop 4 = b at *
    by_cases h1 : ufE b = 0
    · rw [if_pos h1] at h
      by_cases h2 : fvB (ufF b) = true
      · rw [if_pos h2] at h
        injection h with h _
        subst h
        unfold fr
        rw [if_pos h2, show fby (ufF b) = b from ?_, hs.1]
        have hr : (ur4 b).e = 0 ∧ (ur4 b).l = [] := by
          unfold ufE eN at h1
          by_cases e : (ur4 b).e = 0
          · rw [if_neg (by omega)] at h1
            by_cases e2 : (ur4 b).l.isEmpty = true
            · exact ⟨e, by simpa using e2⟩
            · rw [if_neg e2] at h1; cases h1
          · rw [if_pos e] at h1; exact absurd h1 e
        obtain ⟨a3, b3⟩ := Rs.text_back (r := ur3 b) (M := 4000) hr.1
        obtain ⟨a2, b2⟩ := Rs.small_back (r := ur2 b) (M := 64) a3
        obtain ⟨a1, b1⟩ := Rs.small_back (r := ur1 b) (M := 64) a2
        obtain ⟨-, b0⟩ := Rs.small_back (r := Rs.mk b 0) (M := 1099511627776) a1
        have c0 : b = uv ((Rs.mk b 0).sval 1099511627776) ++ (ur1 b).l := b0
        have c1 : (ur1 b).l = uv ((ur1 b).sval 64) ++ (ur2 b).l := b1
        have c2 : (ur2 b).l = uv ((ur2 b).sval 64) ++ (ur3 b).l := b2
        have c3 : (ur3 b).l = tv ((ur3 b).tval 4000) ++ (ur4 b).l := b3
        rw [hr.2, List.append_nil] at c3
        show (uv _ ++ uv _) ++ uv _ ++ tv _ = b
        conv => rhs; rw [c0, c1, c2, c3]
        simp [ufF]
      · rw [if_neg h2] at h; injection h with _ h; cases h
    · rw [if_neg h1] at h; injection h with _ h; exact absurd h h1
  · rw [if_neg h0] at h; injection h with _ h; exact absurd h h0
end Go.Proofs.YtcjaaijohapeaaaDoor
/-
  Dividing a string into fragments: Split. No conditions beyond those that each names.
-/
namespace Go.Proofs.YtcjaaijohapeaaaDoor
open Go.RowKit Go.Sort Go.Lib Go.Shelf
/-- How many fragments. -/
def spN (n z : Nat) : Nat := max 1 ((n + z - 1) / z)
def spP (id : Int) (s : List UInt8) (z i : Nat) : Fg := ⟨id, (i : Int), (spN s.length z : Int), (s.take (i * z + z)).drop (i * z)⟩
/-- The fragments of a string. -/
def spL (id : Int) (s : List UInt8) (z : Nat) : List Fg := (List.range (spN s.length z)).map (spP id s z)
def spE (id : Int) (s : List UInt8) (sz : Int) : Int := if inB id 0 1099511627776 = true then (if inB sz 1 4000 = true then (if 64 < spN s.length sz.toNat then 3 else 0) else 4) else 4
theorem spL_len (id : Int) (s : List UInt8) (z : Nat) : (spL id s z).length = spN s.length z := by unfold spL; rw [List.length_map, List.length_range]
theorem spL_at (id : Int) (s : List UInt8) (z i : Nat) (h : i < (spL id s z).length) : (spL id s z)[i]'h = spP id s z i := by simp [spL]
/-- One cell of an owned row, written. -/
theorem own_set {w : World} {B : Nat} {e : TypeId} {z n c g : Nat} {xs : List Value} (h : w.ownsRow B e z (.slice (some ⟨g, 0, none⟩) n c) n xs) (k : Nat) (u : Value) : (w.setCell ⟨g, k, none⟩ u).ownsRow B e z (.slice (some ⟨g, 0, none⟩) n c) n (xs.set k u) := by
  obtain ⟨hl, ⟨h, -⟩ | ⟨g', cap, cur, h, h1, h2, h3, h4, h5, h6⟩⟩ := h
  · cases h
  · injection h with h _ hc
    injection h with h
    injection h with h
    subst h
    refine ⟨by rw [List.length_set]; exact hl, .inr ⟨g, cap, cur.setIfInBounds k u, by rw [hc], h1, heap_setCell_same w g k cur e u h2, h3, h4, by rw [Array.size_setIfInBounds]; exact h5, ?_⟩⟩
    rw [Array.toList_setIfInBounds, ← h6, List.take_set]
/-- Four cells of a row of fragments are one fragment. -/
theorem tcF_set (a : Fg) : ∀ (l : List Fg) (j : Nat) (_ : j < l.length), (((((tc eF l).set (j * 4) (.int .i64 a.id)).set (j * 4 + 1) (.int .i64 a.ix)).set (j * 4 + 2) (.int .i64 a.ct)).set (j * 4 + 3) (.string (bs a.dat))) = tc eF (l.set j a)
  | x :: l, 0, _ => rfl
  | x :: l, j + 1, h => by
    have ih := tcF_set a l j (by simpa using h)
    have e0 : (j + 1) * 4 = j * 4 + 4 := by omega
    show _ = eF x ++ tc eF (l.set j a)
    rw [← ih, e0]
    show _ = eF x ++ _
    rfl
theorem OwF.set {w : World} {B g n c : Nat} {l : List Fg} (h : OwF B w (.slice (some ⟨g, 0, none⟩) n c) l) (hn : l.length = n) (j : Nat) (hj : j < l.length) (a : Fg) :
    OwF B ((((w.setCell ⟨g, j * 4, none⟩ (.int .i64 a.id)).setCell ⟨g, j * 4 + 1, none⟩ (.int .i64 a.ix)).setCell ⟨g, j * 4 + 2, none⟩ (.int .i64 a.ct)).setCell ⟨g, j * 4 + 3, none⟩ (.string (bs a.dat))) (.slice (some ⟨g, 0, none⟩) n c) (l.set j a) := by
  subst hn
  unfold OwF at h ⊢
  rw [← tcF_set a l j hj, List.length_set]
  exact own_set (own_set (own_set (own_set h _ _) _ _) _ _) _ _
theorem OwF.fro {B : Nat} {w : World} {g c n : Nat} {l : List Fg} (h : OwF B w (.slice (some ⟨g, 0, none⟩) n c) l) (k : Nat) : w.frozen? ⟨g, k, none⟩ = false := by
  rcases h.2 with ⟨h1, -⟩ | ⟨g', cap, cur, h1, h2, h3, -⟩
  · cases h1
  · injection h1 with h1 _ _
    injection h1 with h1
    injection h1 with h1
    subst h1
    exact frozen_lit h3
/-- A row of fragments, made. -/
theorem make_fgs (w : World) (m : Nat) (h1 : 1 ≤ m) (hm : m ≤ 1000) : ∃ W, (Instr.makeSlice 37 (.int .i64 (m : Int)) (.int .i64 (m : Int))).run Tryd.prog w = .ok (.slice (some ⟨w.heap.size, 0, none⟩) m m) W ∧ OwF w.heap.size W (.slice (some ⟨w.heap.size, 0, none⟩) m m) (List.replicate m ⟨0, 0, 0, []⟩) ∧ Below w.heap.size w W := by
  obtain ⟨i, hi, hz, hs, hb⟩ := info_parts infoFg
  have hr := run_make (P := Tryd.prog) w 37 32 i _ Tryd.underlying37 hi hz .i64 .i64 (m : Int) (m : Int) (by omega) (Int.le_refl _) (by rw [hb]; omega) (by omega)
  simp only [Int.toNat_natCast] at hr
  rw [hs] at hr
  refine ⟨_, hr, ?_, ab1 _ _⟩
  have hh := heap_alloc_new w (Obj.cells (madeCells (Value.agg #[.int .i64 0, .int .i64 0, .int .i64 0, .string ByteArray.empty]).cells (m * 4)) 32)
  have hlz : (madeCells (Value.agg #[.int .i64 0, .int .i64 0, .int .i64 0, .string ByteArray.empty]).cells (m * 4)).size = m * 4 := by simp [madeCells]
  refine ⟨by rw [tc_len eF_len], .inr ⟨w.heap.size, m, _, by rw [List.length_replicate], Nat.le_refl _, hh, by rw [List.length_replicate]; exact Nat.le_refl _, by unfold maxLen; omega, hlz, ?_⟩⟩
  rw [List.length_replicate, List.take_of_length_le (by rw [Array.length_toList, hlz]; exact Nat.le_refl _)]
  apply List.ext_getElem
  · rw [Array.length_toList, hlz, tc_len eF_len, List.length_replicate]
  · intro k hk1 hk2
    have hk : k < m * 4 := by rw [Array.length_toList, hlz] at hk1; exact hk1
    have e1 := tc_get eF_len (List.replicate m (⟨0, 0, 0, []⟩ : Fg)) (k / 4) (k % 4) (by rw [List.length_replicate]; omega) (by omega)
    rw [List.getElem_replicate, show k / 4 * 4 + k % 4 = k by omega, List.getElem?_eq_getElem hk2] at e1
    have e2 : k % 4 = 0 ∨ k % 4 = 1 ∨ k % 4 = 2 ∨ k % 4 = 3 := by omega
    have e3 : ((madeCells (Value.agg #[.int .i64 0, .int .i64 0, .int .i64 0, .string ByteArray.empty]).cells (m * 4)).toList)[k]? = (eF ⟨0, 0, 0, []⟩)[k % 4]? := by
      rw [Array.getElem?_toList]
      simp only [madeCells]
      rw [Array.getElem?_map, Array.getElem?_range, if_pos hk]
      rcases e2 with e | e | e | e <;> (simp [Value.cells, e, eF]; try rfl)
    rw [List.getElem?_eq_getElem hk1, ← e1] at e3
    exact Option.some.inj e3
end Go.Proofs.YtcjaaijohapeaaaDoor
/-
  Split. No conditions beyond those that each names.
-/
namespace Go.Proofs.YtcjaaijohapeaaaDoor
open Go.RowKit Go.Sort Go.Lib Go.Shelf
/-- What Split returns. -/
def SpP (id : Int) (s : List UInt8) (sz : Int) (w : World) (e : Ending) (w' : World) : Prop := Below w.heap.size w w' ∧ ((spE id s sz ≠ 0 ∧ e = .returned (.tuple #[.slice none 0 0, .int .i64 (spE id s sz)])) ∨
  (spE id s sz = 0 ∧ ∃ g c, e = .returned (.tuple #[.slice (some ⟨g, 0, none⟩) (spN s.length sz.toNat) c, .int .i64 0]) ∧ OwF w.heap.size w' (.slice (some ⟨g, 0, none⟩) (spN s.length sz.toNat) c) (spL id s sz.toNat)))
set_option maxRecDepth 100000 in
set_option maxHeartbeats 4000000 in
theorem split_any (id : Int) (s : List UInt8) (sz : Int) (w : World) (hs : s.length ≤ 1000000) :
    Calls Tryd.prog 12 #[.int .i64 id, .string (bs s), .int .i64 sz] w (SpP id s sz w) := by
  have hsz : (bs s).size = s.length := rfl
  cases h1 : inB id 0 1099511627776
  · have HE : Hid (spE id s sz = 4) := Lib.hid (by unfold spE; rw [h1]; rfl)
    go_enter Tryd.func12, Tryd.ntmps12
    go_wp2_with (go_at_call 39; refine (isIn_any _ _ _ _).mono ?_; (first | rw [h1]); rintro e w9 ⟨rfl, rfl⟩)
    go_ret2
    exact ⟨Below.refl _ _, .inl ⟨by rw [HE.out]; decide, by rw [HE.out]; rfl⟩⟩
  cases h2 : inB sz 1 4000
  · have HE : Hid (spE id s sz = 4) := Lib.hid (by unfold spE; rw [h1, h2]; rfl)
    go_enter Tryd.func12, Tryd.ntmps12
    go_wp2_with (go_at_call 39; refine (isIn_any _ _ _ _).mono ?_; (first | rw [h1] | rw [h2]); rintro e w9 ⟨rfl, rfl⟩)
    go_ret2
    exact ⟨Below.refl _ _, .inl ⟨by rw [HE.out]; decide, by rw [HE.out]; rfl⟩⟩
  have hz : 1 ≤ sz ∧ sz ≤ 4000 := of_decide_eq_true h2
  obtain ⟨z, rfl⟩ := Int.eq_ofNat_of_zero_le (show 0 ≤ sz by omega)
  have HZ := Lib.hid hz
  obtain ⟨n, hn⟩ : ∃ n, s.length = n := ⟨_, rfl⟩
  obtain ⟨m, hm⟩ : ∃ m, spN n z = m := ⟨_, rfl⟩
  have HN := Lib.hid hn
  have HM := Lib.hid hm
  have hmx : max (1 : Int) (((n : Int) + (z : Int) - 1) / (z : Int)) = (m : Int) := by
    rw [← hm]
    unfold spN
    rw [show (n : Int) + (z : Int) - 1 = ((n + z - 1 : Nat) : Int) by omega, ← Int.natCast_ediv]
    omega
  rw [hn] at hs hsz
  by_cases hmb : 64 < m
  · have d1 : decide ((64 : Int) < (m : Int)) = true := decide_eq_true (by omega)
    have d1n : decide (64 < m) = true := decide_eq_true hmb
    have HE : Hid (spE id s (z : Int) = 3) := Lib.hid (by unfold spE; rw [h1, h2, hn, Int.toNat_natCast, hm, if_pos rfl, if_pos rfl, if_pos hmb])
    clear hm hmb hn
    go_enter Tryd.func12, Tryd.ntmps12
    go_wp2_with (go_at_call 39; refine (isIn_any _ _ _ _).mono ?_; (first | rw [h1] | rw [h2]); rintro e w9 ⟨rfl, rfl⟩)
    go_ret2
    exact ⟨Below.refl _ _, .inl ⟨by rw [HE.out]; decide, by rw [HE.out]; rfl⟩⟩
  have d1 : decide ((64 : Int) < (m : Int)) = false := decide_eq_false (by omega)
  have d1n : decide (64 < m) = false := decide_eq_false hmb
  have HE : Hid (spE id s (z : Int) = 0) := Lib.hid (by unfold spE; rw [h1, h2, hn, Int.toNat_natCast, hm, if_pos rfl, if_pos rfl, if_neg hmb])
  have hm64 : m ≤ 64 := by omega
  have hm1 : 1 ≤ m := by rw [← hm]; unfold spN; omega
  obtain ⟨W, hmk, hoW, hbW⟩ := make_fgs w m hm1 (by omega)
  have HO := Lib.hid hoW
  have HB := Lib.hid hbW
  have HIZ : Hid (∀ i, i < m → i * z ≤ n) := Lib.hid fun i hi => by
    rw [← hm] at hi
    unfold spN at hi
    rcases Nat.eq_zero_or_pos i with rfl | hp
    · omega
    · have h9 : i + 1 ≤ (n + z - 1) / z := by omega
      have h8 := Nat.mul_le_mul_right z h9
      have h7 := Nat.div_mul_le_self (n + z - 1) z
      rw [Nat.add_mul, Nat.one_mul] at h8
      omega
  have HL : Hid ((spL id s z).length = m) := Lib.hid (by rw [spL_len, hn, hm])
  have hz4 : z ≤ 4000 := by omega
  clear hm hmb hn hoW hbW
  go_enter Tryd.func12, Tryd.ntmps12
  go_wp2_with (go_at_call 39; refine (isIn_any _ _ _ _).mono ?_; (first | rw [h1] | rw [h2]); rintro e w9 ⟨rfl, rfl⟩)
  clear hmk
  go_loopg [35] m (fun kx s35 wr => ∃ i : Nat, s35 = .int .i64 (i : Int) ∧ i ≤ m ∧ m - i ≤ kx ∧ Hid (Below w.heap.size w wr ∧ OwF w.heap.size wr (.slice (some ⟨w.heap.size, 0, none⟩) m m) ((spL id s z).take i ++ List.replicate (m - i) ⟨0, 0, 0, []⟩)))
  case atStart => exact ⟨0, rfl, Nat.zero_le _, Nat.le_refl _, Lib.hid ⟨HB.out, HO.out⟩⟩
  case round =>
    obtain ⟨i, rfl, hin, hkx, HI⟩ := hrel
    by_cases hi : i < m
    · have di : decide (i < m) = true := decide_eq_true hi
      have hil : i < (spL id s z).length := by rw [HL.out]; exact hi
      have hlen : ((spL id s z).take i ++ List.replicate (m - i) (⟨0, 0, 0, []⟩ : Fg)).length = m := by rw [List.length_append, List.length_take, List.length_replicate]; omega
      have hl2 : i < ((spL id s z).take i ++ List.replicate (m - i) (⟨0, 0, 0, []⟩ : Fg)).length := by rw [hlen]; exact hi
      have cx := fun j v hv => OwF.cell HI.out.2 hlen i hl2 j v hv
      have x0 := cx 0 _ rfl
      have x1 := cx 1 _ rfl
      have x2 := cx 2 _ rfl
      have x3 := cx 3 _ rfl
      have f0 := HI.out.2.fro (i * 4)
      have f1 := HI.out.2.fro (i * 4 + 1)
      have f2 := HI.out.2.fro (i * 4 + 2)
      have f3 := HI.out.2.fro (i * 4 + 3)
      have gl := blk_lt x0
      simp only [Nat.add_zero] at x0
      obtain ⟨st, hst⟩ : ∃ st, i * z = st := ⟨_, rfl⟩
      have hsn : st ≤ n := by rw [← hst]; exact HIZ.out i hi
      have m1 : (i : Int) * (z : Int) = (st : Int) := by rw [← hst, Int.natCast_mul]
      have m2 : IntKind.i64.wrap ((st : Int) + (z : Int)) = ((st : Int) + (z : Int)) := IntWalk.i64_in _ (by omega)
      have m3 : IntKind.i64.wrap ((i : Int) * (z : Int)) = (st : Int) := by rw [m1]; exact IntWalk.i64_in _ (by omega)
      obtain ⟨en, hen⟩ : ∃ en, min (st + z) n = en := ⟨_, rfl⟩
      have m4 : min ((st : Int) + (z : Int)) (n : Int) = (en : Int) := by omega
      have hse : st ≤ en := by omega
      have hen2 : en ≤ n := by omega
      have x9 : (bs s).extract st en = bs ((s.take en).drop st) := bs_slice s st en
      have HP : Hid (spP id s z i = ⟨id, (i : Int), (m : Int), (s.take en).drop st⟩) := Lib.hid (by
        unfold spP
        rw [HN.out, HM.out, hst]
        congr 2
        rw [← hen, ← HN.out]
        rcases Nat.le_total (st + z) s.length with h | h
        · rw [Nat.min_eq_left h]
        · rw [Nat.min_eq_right h, List.take_of_length_le h, List.take_of_length_le (Nat.le_refl _)])
      generalize (s.take en).drop st = dt at *
      have HS := Lib.hid (HI.out.2.set hlen i hl2 ⟨id, (i : Int), (m : Int), dt⟩)
      have HT : Hid (((spL id s z).take i ++ List.replicate (m - i) (⟨0, 0, 0, []⟩ : Fg)).set i ⟨id, (i : Int), (m : Int), dt⟩ = (spL id s z).take (i + 1) ++ List.replicate (m - (i + 1)) ⟨0, 0, 0, []⟩) := Lib.hid (by
        rw [List.take_succ_eq_append_getElem hil, spL_at, HP.out, List.set_append_right _ _ (by rw [List.length_take]; omega), List.length_take, Nat.min_eq_left (by omega), Nat.sub_self, show m - i = (m - (i + 1)) + 1 by omega, List.replicate_succ, List.set_cons_zero, List.append_assoc]
        rfl)
      have hi1 : i + 1 ≤ m := by omega
      have HBl := Lib.hid HI.out.1
      obtain ⟨⟨oi, ox, oc, od⟩, ho⟩ : ∃ x, ((spL id s z).take i ++ List.replicate (m - i) (⟨0, 0, 0, []⟩ : Fg))[i]'hl2 = x := ⟨_, rfl⟩
      rw [ho] at x0 x1 x2 x3
      simp only at x0 x1 x2 x3 gl
      clear cx hil hl2 hlen hst hen hi ho
      go_wp2_with fail
      go_roundg (m - (i + 1))
      case measure => omega
      case rel => exact ⟨i + 1, rfl, hi1, Nat.le_refl _, Lib.hid ⟨(((HBl.out.setCell (p := ⟨w.heap.size, i * 4, none⟩) (Nat.le_refl _) _).setCell (p := ⟨w.heap.size, i * 4 + 1, none⟩) (Nat.le_refl _) _).setCell (p := ⟨w.heap.size, i * 4 + 2, none⟩) (Nat.le_refl _) _).setCell (p := ⟨w.heap.size, i * 4 + 3, none⟩) (Nat.le_refl _) _, by rw [← HT.out]; exact HS.out⟩⟩
    · obtain rfl : i = m := by omega
      have di : decide (i < i) = false := decide_eq_false hi
      have h9 := HI.out.2
      rw [Nat.sub_self, List.replicate_zero, List.append_nil, List.take_of_length_le (Nat.le_of_eq HL.out)] at h9
      have H9 := Lib.hid h9
      clear h9 hi hkx
      go_wp2_with fail
      go_ret2
      refine ⟨HI.out.1, .inr ⟨HE.out, w.heap.size, i, ?_, ?_⟩⟩
      · rw [HN.out, Int.toNat_natCast, HM.out]; rfl
      · rw [HN.out, Int.toNat_natCast, HM.out]; exact H9.out
end Go.Proofs.YtcjaaijohapeaaaDoor
/-
  The reference's Split. No conditions beyond those that each names.
-/
namespace Go.Proofs.YtcjaaijohapeaaaDoor
open Go.RowKit Go.Sort Go.Lib Go.Shelf
theorem wpList_pushFg {w : World} {ops : Array Oper} {rest : List Oper} {o : Oper} {a : Act} {Q : Exit → Act → World → Prop} (hgd : o.guard = none) (sv xv : Operand)
    (ho : o.op = .call { callee := .builtin .append, args := #[sv, xv], argTypes := #[37, 37] }) (B : Nat) (v : Value) (l : List Fg) (y : Fg) (g d : Nat) (hs : a.eval sv = v) (hx : a.eval xv = .slice (some ⟨g, 0, none⟩) 1 d)
    (hown : OwF B w v l) (hc : Bx w g (eF y)) (hm : l.length ≤ 1000000) (hB : B ≤ w.heap.size) (k : Nat) (hk : (l ++ [y]).length = k)
    (h : ∀ A c w', OwF B w' (.slice A k c) (l ++ [y]) → w.grownBy w' v.ownBlock → wpList Tryd.prog ops Q rest (a.put o.dst (.slice A k c)) w') : wpList Tryd.prog ops Q (o :: rest) a w := by
  obtain ⟨i, hi, hz, hs5, hby⟩ := info_parts infoFg
  refine wpList_append_own_at w hgd sv xv 37 ho B 32 i _ 4 40 Tryd.underlying37 hi hz hs5 hby rfl (by omega) v l.length (tc eF l) hs hown ⟨g, 0, none⟩ 1 d (eF y) hx rfl
    (by intro j u hj; rw [Addr.add_lit, Nat.zero_add]; exact (hc.at_ j u hj).1) (eF_one y) (by simp only [maxLen]; omega) (by omega) hB ?_
  intro v' w' h1 h2 _ _
  have h3 : OwF B w' v' (l ++ [y]) := by unfold OwF; rw [tc_app, tc_one, List.length_append]; exact h1
  obtain ⟨A, c, rfl, -⟩ := own_nil_or h3
  rw [hk] at h3 ⊢
  exact h A c w' h3 h2
/-- What the reference's Split returns. -/
def SqP (id : Int) (s : List UInt8) (sz : Int) (w : World) (e : Ending) (w' : World) : Prop := Below w.heap.size w w' ∧ ((spE id s sz ≠ 0 ∧ e = .returned (.tuple #[.slice none 0 0, .int .i64 (spE id s sz)])) ∨
  (spE id s sz = 0 ∧ ∃ A c, e = .returned (.tuple #[.slice A (spN s.length sz.toNat) c, .int .i64 0]) ∧ OwF w.heap.size w' (.slice A (spN s.length sz.toNat) c) (spL id s sz.toNat)))
set_option maxRecDepth 100000 in
set_option maxHeartbeats 4000000 in
theorem refSplit_any (id : Int) (s : List UInt8) (sz : Int) (w : World) (hs : s.length ≤ 1000000) :
    Calls Tryd.prog 13 #[.int .i64 id, .string (bs s), .int .i64 sz] w (SqP id s sz w) := by
  have hsz : (bs s).size = s.length := rfl
  have bad : spE id s sz = 4 → ∀ e w', e = .returned (.tuple #[.slice none 0 0, .int .i64 4]) → w' = w → SqP id s sz w e w' := fun h e w' h1 h2 => by
    subst h1 h2
    exact ⟨Below.refl _ _, .inl ⟨by rw [h]; decide, by rw [h]⟩⟩
  by_cases k1 : id < 0
  · have HB := Lib.hid (bad (by unfold spE inB; rw [if_neg (by simp; omega)]))
    have e1 : decide (id < 0) = true := decide_eq_true k1
    clear bad k1 hs
    go_enter Tryd.func13, Tryd.ntmps13
    go_wp2_with fail
    go_ret2
    exact HB.out _ _ rfl rfl
  have e1 : decide (id < 0) = false := decide_eq_false k1
  by_cases k2 : 1099511627776 < id
  · have HB := Lib.hid (bad (by unfold spE inB; rw [if_neg (by simp; omega)]))
    have e2 : decide (1099511627776 < id) = true := decide_eq_true k2
    clear bad k1 k2 hs
    go_enter Tryd.func13, Tryd.ntmps13
    go_wp2_with fail
    go_ret2
    exact HB.out _ _ rfl rfl
  have e2 : decide (1099511627776 < id) = false := decide_eq_false k2
  have h1 : inB id 0 1099511627776 = true := decide_eq_true (by omega)
  by_cases k3 : sz < 1
  · have HB := Lib.hid (bad (by unfold spE; rw [h1, if_pos rfl]; unfold inB; rw [if_neg (by simp; omega)]))
    have e3 : decide (sz < 1) = true := decide_eq_true k3
    clear bad k1 k2 k3 hs
    go_enter Tryd.func13, Tryd.ntmps13
    go_wp2_with fail
    go_ret2
    exact HB.out _ _ rfl rfl
  have e3 : decide (sz < 1) = false := decide_eq_false k3
  by_cases k4 : 4000 < sz
  · have HB := Lib.hid (bad (by unfold spE; rw [h1, if_pos rfl]; unfold inB; rw [if_neg (by simp; omega)]))
    have e4 : decide (4000 < sz) = true := decide_eq_true k4
    clear bad k1 k2 k3 k4 hs
    go_enter Tryd.func13, Tryd.ntmps13
    go_wp2_with fail
    go_ret2
    exact HB.out _ _ rfl rfl
  have e4 : decide (4000 < sz) = false := decide_eq_false k4
  have h2 : inB sz 1 4000 = true := decide_eq_true (by omega)
  obtain ⟨z, rfl⟩ := Int.eq_ofNat_of_zero_le (show 0 ≤ sz by omega)
  have hz4 : z ≤ 4000 := by omega
  have hz1 : 1 ≤ z := by omega
  obtain ⟨n, hn⟩ : ∃ n, s.length = n := ⟨_, rfl⟩
  obtain ⟨m, hm⟩ : ∃ m, spN n z = m := ⟨_, rfl⟩
  have HN := Lib.hid hn
  have HM := Lib.hid hm
  rw [hn] at hs hsz
  have hq : (64 < m) ↔ (64 * z < n) := by
    rw [← hm]
    unfold spN
    have a1 := Nat.div_mul_le_self (n + z - 1) z
    have a2 := Nat.lt_div_mul_add (a := n + z - 1) (b := z) (by omega)
    generalize (n + z - 1) / z = q at *
    constructor
    · intro h
      have : 65 * z ≤ q * z := Nat.mul_le_mul_right z (by omega)
      omega
    · intro h
      rcases Nat.lt_or_ge 64 q with h9 | h9
      · omega
      · have : q * z ≤ 64 * z := Nat.mul_le_mul_right z h9
        omega
  have mz : IntKind.i64.wrap (64 * (z : Int)) = 64 * (z : Int) := IntWalk.i64_in _ (by omega)
  by_cases hmb : 64 < m
  · have d1 : decide (64 * (z : Int) < (n : Int)) = true := decide_eq_true (by have := hq.1 hmb; omega)
    have d1n : decide (64 * z < n) = true := decide_eq_true (hq.1 hmb)
    have HE : Hid (spE id s (z : Int) = 3) := Lib.hid (by unfold spE; rw [h1, h2, hn, Int.toNat_natCast, hm, if_pos rfl, if_pos rfl, if_pos hmb])
    clear hm hmb hn hq bad k1 k2 k3 k4
    go_enter Tryd.func13, Tryd.ntmps13
    go_wp2_with fail
    go_ret2
    exact ⟨Below.refl _ _, .inl ⟨by rw [HE.out]; decide, by rw [HE.out]; rfl⟩⟩
  have d1 : decide (64 * (z : Int) < (n : Int)) = false := decide_eq_false (by have := mt hq.2 hmb; omega)
  have d1n : decide (64 * z < n) = false := decide_eq_false (mt hq.2 hmb)
  have HE : Hid (spE id s (z : Int) = 0) := Lib.hid (by unfold spE; rw [h1, h2, hn, Int.toNat_natCast, hm, if_pos rfl, if_pos rfl, if_neg hmb])
  have hm64 : m ≤ 64 := by omega
  have hm1 : 1 ≤ m := by rw [← hm]; unfold spN; omega
  have HIZ : Hid (∀ i, i < m → i * z ≤ n) := Lib.hid fun i hi => by
    rw [← hm] at hi
    unfold spN at hi
    rcases Nat.eq_zero_or_pos i with rfl | hp
    · omega
    · have h9 : i + 1 ≤ (n + z - 1) / z := by omega
      have h8 := Nat.mul_le_mul_right z h9
      have h7 := Nat.div_mul_le_self (n + z - 1) z
      rw [Nat.add_mul, Nat.one_mul] at h8
      omega
  have HL : Hid ((spL id s z).length = m) := Lib.hid (by rw [spL_len, hn, hm])
  obtain ⟨q, hqq⟩ : ∃ q, (n + z - 1) / z = q := ⟨_, rfl⟩
  have hqi : ((n : Int) + (z : Int) - 1) / (z : Int) = (q : Int) := by rw [show (n : Int) + (z : Int) - 1 = ((n + z - 1 : Nat) : Int) by omega, ← Int.natCast_ediv, hqq]
  have hqm : (q = 0 ∧ m = 1) ∨ (q ≠ 0 ∧ q = m) := by rw [← hm]; unfold spN; rw [hqq]; omega
  have HQM := Lib.hid hqm
  have HOW : Hid (OwF w.heap.size w (.slice none 0 0) []) := Lib.hid (World.ownsRow_nil _ _ _ _)
  clear hm hmb hn hq bad k1 k2 k3 k4 hqq hqm
  have HRD : ∀ {p : Prop}, ((hq0 : ((q : Int) == 0) = true) → m = 1 → p) → ((hq0 : ((q : Int) == 0) = false) → q = m → p) → p := fun a b => by
    rcases HQM.out with ⟨h, h'⟩ | ⟨h, h'⟩
    · exact a (by rw [h]; rfl) h'
    · exact b (by simpa using h) h'
  refine HRD (fun hq0 hm9 => ?_) (fun hq0 hm9 => ?_)
  · have HM1 : Hid (m = 1) := Lib.hid hm9
    clear HRD HQM hm9
    go_enter Tryd.func13, Tryd.ntmps13
    go_wp2_with fail
    clear hqi hq0
    go_loopg [9, 10] m (fun kx s9 s10 wr => ∃ i : Nat, s10 = .int .i64 (i : Int) ∧ i ≤ m ∧ m - i ≤ kx ∧ ∃ A c, s9 = .slice A i c ∧ Hid (Below w.heap.size w wr ∧ OwF w.heap.size wr (.slice A i c) ((spL id s z).take i) ∧ ((spL id s z).take i).length ≤ 1000000))
    case atStart => exact ⟨0, rfl, Nat.zero_le _, Nat.le_refl _, none, 0, rfl, Lib.hid ⟨Below.refl _ _, HOW.out, by simp⟩⟩
    case round =>
      obtain ⟨i, rfl, hin, hkx, A, c, rfl, HI⟩ := hrel
      by_cases hi : i < m
      · have di : decide ((i : Int) < 1) = true := decide_eq_true (by have := HM1.out; omega)
        have din : decide (i < 1) = true := decide_eq_true (by have := HM1.out; omega)
        have hil : i < (spL id s z).length := by rw [HL.out]; exact hi
        obtain ⟨st, hst⟩ : ∃ st, i * z = st := ⟨_, rfl⟩
        have hsn : st ≤ n := by rw [← hst]; exact HIZ.out i hi
        obtain ⟨kz, hkz⟩ : ∃ kz, (i + 1) * z = kz := ⟨_, rfl⟩
        have hkz2 : st + z = kz := by rw [← hkz, Nat.add_mul, Nat.one_mul, hst]
        have m1 : (i : Int) * (z : Int) = (st : Int) := by rw [← hst, Int.natCast_mul]
        have m3 : IntKind.i64.wrap ((i : Int) * (z : Int)) = (st : Int) := by rw [m1]; exact IntWalk.i64_in _ (by omega)
        have m5 : ((i : Int) + 1) * (z : Int) = (kz : Int) := by rw [← hkz, Int.natCast_mul]; rfl
        have m6 : IntKind.i64.wrap (((i : Int) + 1) * (z : Int)) = (kz : Int) := by rw [m5]; exact IntWalk.i64_in _ (by omega)
        have hkb : kz ≤ 2000000 := by omega
        have hi1 : i + 1 ≤ m := by omega
        have hi64 : i ≤ 64 := by omega
        clear hkz
        by_cases hgt : n < kz
        · have x9 : (bs s).extract st n = bs ((s.take n).drop st) := bs_slice s st n
          have hse : st ≤ n := by omega
          have hen2 : n ≤ n := by omega
          have dg : decide ((n : Int) < (kz : Int)) = true := decide_eq_true (by omega)
          have dgn : decide (n < kz) = true := decide_eq_true hgt
          have HP : Hid (spP id s z i = ⟨id, (i : Int), 1, (s.take n).drop st⟩) := Lib.hid (by
            unfold spP
            rw [HN.out, HM.out, hst, hkz2]
            rw [show ((m : Nat) : Int) = 1 by have := HM1.out; omega]
            congr 2; rw [List.take_of_length_le (by rw [HN.out]; omega), List.take_of_length_le (by rw [HN.out]; exact Nat.le_refl _)])
          generalize (s.take n).drop st = dt at *
          have HT : Hid ((spL id s z).take (i + 1) = (spL id s z).take i ++ [⟨id, (i : Int), 1, dt⟩]) := Lib.hid (by rw [List.take_succ_eq_append_getElem hil, spL_at, HP.out])
          have HF9 := Lib.hid (Bx.newF wr 32 ⟨id, (i : Int), 1, dt⟩)
          have HN2 : Hid (((spL id s z).take i ++ [(⟨id, (i : Int), 1, dt⟩ : Fg)]).length = i + 1) := Lib.hid (by rw [List.length_append, List.length_take, HL.out, Nat.min_eq_left (by omega)]; rfl)
          clear hil hst hkz2 hgt hi
          go_wp2_with (at_builtin; refine wpList_pushFg rfl _ _ rfl w.heap.size _ _ ⟨id, (i : Int), 1, dt⟩ _ _ rfl rfl (own_next HI.out.2.1 (ab1 _ _)) HF9.out HI.out.2.2 (Nat.le_trans HI.out.1.size (ab1 wr _).size) (i + 1) HN2.out ?_; intro A2 c2 w2 ho2 hg2)
          have HB2 := Lib.hid ((HI.out.1.alloc HI.out.1.size _).grown hg2 (Nat.le_trans HI.out.1.size (ab1 wr _).size) (fun g e => (HI.out.2.1.lt g e).1))
          have HO2 := Lib.hid ho2
          clear ho2 hg2
          go_wp2_with fail
          go_roundg (m - (i + 1))
          case measure => omega
          case rel => exact ⟨i + 1, by simp, hi1, Nat.le_refl _, A2, c2, rfl, Lib.hid ⟨HB2.out, by have h9 := HO2.out; rw [← HT.out] at h9; exact h9, by rw [List.length_take]; omega⟩⟩
        · have x9 : (bs s).extract st kz = bs ((s.take kz).drop st) := bs_slice s st kz
          have hse : st ≤ kz := by omega
          have hen2 : kz ≤ n := by omega
          have dg : decide ((n : Int) < (kz : Int)) = false := decide_eq_false (by omega)
          have dgn : decide (n < kz) = false := decide_eq_false hgt
          have HP : Hid (spP id s z i = ⟨id, (i : Int), 1, (s.take kz).drop st⟩) := Lib.hid (by
            unfold spP
            rw [HN.out, HM.out, hst, hkz2]
            rw [show ((m : Nat) : Int) = 1 by have := HM1.out; omega]
            skip)
          generalize (s.take kz).drop st = dt at *
          have HT : Hid ((spL id s z).take (i + 1) = (spL id s z).take i ++ [⟨id, (i : Int), 1, dt⟩]) := Lib.hid (by rw [List.take_succ_eq_append_getElem hil, spL_at, HP.out])
          have HF9 := Lib.hid (Bx.newF wr 32 ⟨id, (i : Int), 1, dt⟩)
          have HN2 : Hid (((spL id s z).take i ++ [(⟨id, (i : Int), 1, dt⟩ : Fg)]).length = i + 1) := Lib.hid (by rw [List.length_append, List.length_take, HL.out, Nat.min_eq_left (by omega)]; rfl)
          clear hil hst hkz2 hgt hi
          go_wp2_with (at_builtin; refine wpList_pushFg rfl _ _ rfl w.heap.size _ _ ⟨id, (i : Int), 1, dt⟩ _ _ rfl rfl (own_next HI.out.2.1 (ab1 _ _)) HF9.out HI.out.2.2 (Nat.le_trans HI.out.1.size (ab1 wr _).size) (i + 1) HN2.out ?_; intro A2 c2 w2 ho2 hg2)
          have HB2 := Lib.hid ((HI.out.1.alloc HI.out.1.size _).grown hg2 (Nat.le_trans HI.out.1.size (ab1 wr _).size) (fun g e => (HI.out.2.1.lt g e).1))
          have HO2 := Lib.hid ho2
          clear ho2 hg2
          go_wp2_with fail
          go_roundg (m - (i + 1))
          case measure => omega
          case rel => exact ⟨i + 1, by simp, hi1, Nat.le_refl _, A2, c2, rfl, Lib.hid ⟨HB2.out, by have h9 := HO2.out; rw [← HT.out] at h9; exact h9, by rw [List.length_take]; omega⟩⟩
      · obtain rfl : i = m := by omega
        have di : decide ((i : Int) < 1) = false := decide_eq_false (by have := HM1.out; omega)
        have din : decide (i < 1) = false := decide_eq_false (by have := HM1.out; omega)
        have h9 := HI.out.2.1
        rw [List.take_of_length_le (Nat.le_of_eq HL.out)] at h9
        have H9 := Lib.hid h9
        clear h9 hi hkx
        go_wp2_with fail
        go_ret2
        refine ⟨HI.out.1, .inr ⟨HE.out, A, c, ?_, ?_⟩⟩
        · rw [HN.out, Int.toNat_natCast, HM.out]; rfl
        · rw [HN.out, Int.toNat_natCast, HM.out]; exact H9.out
  · obtain rfl : m = q := hm9.symm
    have HM1 : Hid True := Lib.hid trivial
    clear HRD HQM
    go_enter Tryd.func13, Tryd.ntmps13
    go_wp2_with fail
    clear hqi hq0
    go_loopg [9, 10] m (fun kx s9 s10 wr => ∃ i : Nat, s10 = .int .i64 (i : Int) ∧ i ≤ m ∧ m - i ≤ kx ∧ ∃ A c, s9 = .slice A i c ∧ Hid (Below w.heap.size w wr ∧ OwF w.heap.size wr (.slice A i c) ((spL id s z).take i) ∧ ((spL id s z).take i).length ≤ 1000000))
    case atStart => exact ⟨0, rfl, Nat.zero_le _, Nat.le_refl _, none, 0, rfl, Lib.hid ⟨Below.refl _ _, HOW.out, by simp⟩⟩
    case round =>
      obtain ⟨i, rfl, hin, hkx, A, c, rfl, HI⟩ := hrel
      by_cases hi : i < m
      · have di : decide ((i : Int) < (m : Int)) = true := decide_eq_true (by have := HM1.out; omega)
        have din : decide (i < m) = true := decide_eq_true (by have := HM1.out; omega)
        have hil : i < (spL id s z).length := by rw [HL.out]; exact hi
        obtain ⟨st, hst⟩ : ∃ st, i * z = st := ⟨_, rfl⟩
        have hsn : st ≤ n := by rw [← hst]; exact HIZ.out i hi
        obtain ⟨kz, hkz⟩ : ∃ kz, (i + 1) * z = kz := ⟨_, rfl⟩
        have hkz2 : st + z = kz := by rw [← hkz, Nat.add_mul, Nat.one_mul, hst]
        have m1 : (i : Int) * (z : Int) = (st : Int) := by rw [← hst, Int.natCast_mul]
        have m3 : IntKind.i64.wrap ((i : Int) * (z : Int)) = (st : Int) := by rw [m1]; exact IntWalk.i64_in _ (by omega)
        have m5 : ((i : Int) + 1) * (z : Int) = (kz : Int) := by rw [← hkz, Int.natCast_mul]; rfl
        have m6 : IntKind.i64.wrap (((i : Int) + 1) * (z : Int)) = (kz : Int) := by rw [m5]; exact IntWalk.i64_in _ (by omega)
        have hkb : kz ≤ 2000000 := by omega
        have hi1 : i + 1 ≤ m := by omega
        have hi64 : i ≤ 64 := by omega
        clear hkz
        by_cases hgt : n < kz
        · have x9 : (bs s).extract st n = bs ((s.take n).drop st) := bs_slice s st n
          have hse : st ≤ n := by omega
          have hen2 : n ≤ n := by omega
          have dg : decide ((n : Int) < (kz : Int)) = true := decide_eq_true (by omega)
          have dgn : decide (n < kz) = true := decide_eq_true hgt
          have HP : Hid (spP id s z i = ⟨id, (i : Int), (m : Int), (s.take n).drop st⟩) := Lib.hid (by
            unfold spP
            rw [HN.out, HM.out, hst, hkz2]
            skip
            congr 2; rw [List.take_of_length_le (by rw [HN.out]; omega), List.take_of_length_le (by rw [HN.out]; exact Nat.le_refl _)])
          generalize (s.take n).drop st = dt at *
          have HT : Hid ((spL id s z).take (i + 1) = (spL id s z).take i ++ [⟨id, (i : Int), (m : Int), dt⟩]) := Lib.hid (by rw [List.take_succ_eq_append_getElem hil, spL_at, HP.out])
          have HF9 := Lib.hid (Bx.newF wr 32 ⟨id, (i : Int), (m : Int), dt⟩)
          have HN2 : Hid (((spL id s z).take i ++ [(⟨id, (i : Int), (m : Int), dt⟩ : Fg)]).length = i + 1) := Lib.hid (by rw [List.length_append, List.length_take, HL.out, Nat.min_eq_left (by omega)]; rfl)
          clear hil hst hkz2 hgt hi
          go_wp2_with (at_builtin; refine wpList_pushFg rfl _ _ rfl w.heap.size _ _ ⟨id, (i : Int), (m : Int), dt⟩ _ _ rfl rfl (own_next HI.out.2.1 (ab1 _ _)) HF9.out HI.out.2.2 (Nat.le_trans HI.out.1.size (ab1 wr _).size) (i + 1) HN2.out ?_; intro A2 c2 w2 ho2 hg2)
          have HB2 := Lib.hid ((HI.out.1.alloc HI.out.1.size _).grown hg2 (Nat.le_trans HI.out.1.size (ab1 wr _).size) (fun g e => (HI.out.2.1.lt g e).1))
          have HO2 := Lib.hid ho2
          clear ho2 hg2
          go_wp2_with fail
          go_roundg (m - (i + 1))
          case measure => omega
          case rel => exact ⟨i + 1, by simp, hi1, Nat.le_refl _, A2, c2, rfl, Lib.hid ⟨HB2.out, by have h9 := HO2.out; rw [← HT.out] at h9; exact h9, by rw [List.length_take]; omega⟩⟩
        · have x9 : (bs s).extract st kz = bs ((s.take kz).drop st) := bs_slice s st kz
          have hse : st ≤ kz := by omega
          have hen2 : kz ≤ n := by omega
          have dg : decide ((n : Int) < (kz : Int)) = false := decide_eq_false (by omega)
          have dgn : decide (n < kz) = false := decide_eq_false hgt
          have HP : Hid (spP id s z i = ⟨id, (i : Int), (m : Int), (s.take kz).drop st⟩) := Lib.hid (by
            unfold spP
            rw [HN.out, HM.out, hst, hkz2]
            skip
            skip)
          generalize (s.take kz).drop st = dt at *
          have HT : Hid ((spL id s z).take (i + 1) = (spL id s z).take i ++ [⟨id, (i : Int), (m : Int), dt⟩]) := Lib.hid (by rw [List.take_succ_eq_append_getElem hil, spL_at, HP.out])
          have HF9 := Lib.hid (Bx.newF wr 32 ⟨id, (i : Int), (m : Int), dt⟩)
          have HN2 : Hid (((spL id s z).take i ++ [(⟨id, (i : Int), (m : Int), dt⟩ : Fg)]).length = i + 1) := Lib.hid (by rw [List.length_append, List.length_take, HL.out, Nat.min_eq_left (by omega)]; rfl)
          clear hil hst hkz2 hgt hi
          go_wp2_with (at_builtin; refine wpList_pushFg rfl _ _ rfl w.heap.size _ _ ⟨id, (i : Int), (m : Int), dt⟩ _ _ rfl rfl (own_next HI.out.2.1 (ab1 _ _)) HF9.out HI.out.2.2 (Nat.le_trans HI.out.1.size (ab1 wr _).size) (i + 1) HN2.out ?_; intro A2 c2 w2 ho2 hg2)
          have HB2 := Lib.hid ((HI.out.1.alloc HI.out.1.size _).grown hg2 (Nat.le_trans HI.out.1.size (ab1 wr _).size) (fun g e => (HI.out.2.1.lt g e).1))
          have HO2 := Lib.hid ho2
          clear ho2 hg2
          go_wp2_with fail
          go_roundg (m - (i + 1))
          case measure => omega
          case rel => exact ⟨i + 1, by simp, hi1, Nat.le_refl _, A2, c2, rfl, Lib.hid ⟨HB2.out, by have h9 := HO2.out; rw [← HT.out] at h9; exact h9, by rw [List.length_take]; omega⟩⟩
      · obtain rfl : i = m := by omega
        have di : decide ((i : Int) < (i : Int)) = false := decide_eq_false (by have := HM1.out; omega)
        have din : decide (i < i) = false := decide_eq_false (by have := HM1.out; omega)
        have h9 := HI.out.2.1
        rw [List.take_of_length_le (Nat.le_of_eq HL.out)] at h9
        have H9 := Lib.hid h9
        clear h9 hi hkx
        go_wp2_with fail
        go_ret2
        refine ⟨HI.out.1, .inr ⟨HE.out, A, c, ?_, ?_⟩⟩
        · rw [HN.out, Int.toNat_natCast, HM.out]; rfl
        · rw [HN.out, Int.toNat_natCast, HM.out]; exact H9.out
end Go.Proofs.YtcjaaijohapeaaaDoor

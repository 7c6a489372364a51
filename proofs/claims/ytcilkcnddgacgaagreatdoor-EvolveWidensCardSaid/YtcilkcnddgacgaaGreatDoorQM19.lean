/-
  slices.Concat of two lists of fields. No conditions beyond those that each names.
-/
import Derived.Test.YtcilkcnddgacgaaGreatDoorQM18
import Derived.Test.YtcilkcnddgacgaaGreatDoorQM17
import Derived.Lib.AppendZeros
import Derived.Test.YtcilkcnddgacgaaGreatDoorQM15
namespace Go.Proofs.YtcilkcnddgacgaaGreatDoor
open Go.RowKit Go.Sort
def encF (f : Fd) (s : Option Addr × Nat) : List Value := [.int .i64 f.num, .string (bs f.name), .int .i64 f.type.kind, .int .i64 f.type.size, .string (bs f.type.name), .slice s.1 f.type.elem.length s.2, .bool f.opt]
theorem encF_one (x : Fd) (s : Option Addr × Nat) (u : Value) (hu : u ∈ encF x s) : u.oneCell' = true := by
  simp only [encF, List.mem_cons, List.not_mem_nil, or_false] at hu
  rcases hu with rfl | rfl | rfl | rfl | rfl | rfl | rfl <;> rfl
theorem infoFd : (Tryz.prog.info? 61).map (fun i => (i.zero, i.size, i.bytes)) = some (some (.agg #[.int .i64 0, .string ⟨#[]⟩, .int .i64 0, .int .i64 0, .string ⟨#[]⟩, .slice none 0 0, .bool false]), 7, 88) := by kernel_rfl
/-- A block that a reading needs in every world that keeps blocks from lo on. -/
theorem nwf_block {lo : Nat} {w : World} {l : List Fd} {a : Addr} (h : NwF lo w l (some a)) (hl : 0 < l.length) : lo ≤ a.block := by
  rcases Nat.lt_or_ge a.block lo with h1 | h1
  · exfalso
    have g1 := gb_set1 w a undef
    have h0 := (h w (Kpl.refl _ _)).get hl
    have hr := (h (w.setCell a undef) ⟨g1.size, fun i h2 h3 => g1.block i h3 (fun e => by injection e with e; omega)⟩).get hl
    obtain ⟨a', e, h2⟩ := hr
    obtain ⟨a2, e2, h4⟩ := h0
    injection e with e
    subst e
    injection e2 with e2
    subst e2
    have h3 := h2.1
    have h5 := h4.1
    rw [Nat.zero_mul] at h3 h5
    have h5 : w.cell? a = some (.int .i64 (l[0]'hl).num) := h5
    have h3 : (w.setCell a undef).cell? a = some (.int .i64 (l[0]'hl).num) := h3
    rw [World.cell?_setCell_same (h := h5)] at h3
    cases h3
  · exact h1
theorem nx1_add (a : Addr) (n k : Nat) (hk : 0 < k) : nx1 (a.add n) k = a.add (n + k) := by
  have e : nx1 (a.add n) k = (a.add n).add k := by
    rw [Addr.add.eq_1 (a.add n) k, if_neg (by omega)]
  rw [e, Addr.add_add]
theorem add_blockE (a : Addr) (n : Nat) : (a.add n).block = a.block := by
  unfold Addr.add
  split <;> rfl
/-- A field's cells, and its elements in every world that keeps blocks from lo on. -/
theorem nwf_at {lo : Nat} {w : World} {l : List Fd} {a : Addr} (h : NwF lo w l (some a)) (q : Nat) (hq : q < l.length) : ∃ s : Option Addr × Nat, (∀ i, i < 7 → w.cell? (a.add (q * 7 + i)) = (encF (l[q]'hq) s)[i]?) ∧ ∀ W, Kpl lo w W → Rw TyA 4 W (l[q]'hq).type.elem s.1 := by
  have hb : lo ≤ a.block := nwf_block h (by omega)
  obtain ⟨a1, e1, h1⟩ := (h w (Kpl.refl _ _)).get hq
  injection e1 with e1
  subst e1
  obtain ⟨x0, x1, x2, x3, x4, ⟨A8, c8, x5, x7⟩, x6⟩ := h1
  rw [nx1_add _ _ _ (by decide)] at x1 x2 x3 x4 x5 x6
  refine ⟨(A8, c8), fun i hi => ?_, fun W hk => ?_⟩
  · match i, hi with
    | 0, _ => exact x0
    | 1, _ => exact x1
    | 2, _ => exact x2
    | 3, _ => exact x3
    | 4, _ => exact x4
    | 5, _ => exact x5
    | 6, _ => exact x6
  · obtain ⟨a2, e2, h2⟩ := (h W hk).get hq
    injection e2 with e2
    subst e2
    obtain ⟨y0, y1, y2, y3, y4, ⟨B8, d8, y5, y7⟩, y6⟩ := h2
    rw [nx1_add _ _ _ (by decide)] at y5
    have hlt : a.block < w.heap.size := by have := blk_lt x5; rwa [add_blockE] at this
    have hc : W.cell? (a.add (q * 7 + 5)) = w.cell? (a.add (q * 7 + 5)) := World.cell?_of_block (by rw [add_blockE]; exact hk.blk a.block hb hlt)
    rw [hc, x5] at y5
    injection y5 with y5
    injection y5 with y5
    rw [y5]
    exact y7
theorem news_ad {α β : Type} {z : Nat} {enc : α → β → List Value} {P : Nat → α → β → Prop} (hz : ∀ x b, (enc x b).length = z) (h0 : 0 < z) (hone : ∀ x b u, u ∈ enc x b → u.oneCell' = true) {w : World} {a : Addr} {l : List α}
    (h : ∀ q (hq : q < l.length), ∃ bb, (∀ i, i < z → w.cell? (a.add (q * z + i)) = (enc (l[q]'hq) bb)[i]?) ∧ P q (l[q]'hq) bb) :
    ∃ xs : List Value, (∀ j u, xs[j]? = some u → w.cell? (a.add j) = some u) ∧ (∀ u ∈ xs, u.oneCell' = true) ∧ IL z enc P l xs := by
  have hs : ∀ j, j < l.length * z → ∃ u, w.cell? (a.add j) = some u ∧ u.oneCell' = true := fun j hj => by
    have hq : j / z < l.length := (Nat.div_lt_iff_lt_mul h0).2 hj
    obtain ⟨bb, h1, -⟩ := h (j / z) hq
    have hm : j % z < z := Nat.mod_lt _ h0
    have h2 := h1 (j % z) hm
    rw [show j / z * z + j % z = j by rw [Nat.mul_comm]; exact Nat.div_add_mod j z, List.getElem?_eq_getElem (by rw [hz]; exact hm)] at h2
    exact ⟨_, h2, hone _ _ _ (List.getElem_mem _)⟩
  have hget : ∀ j, j < l.length * z → ((List.range (l.length * z)).map fun j => (w.cell? (a.add j)).getD undef)[j]? = some ((w.cell? (a.add j)).getD undef) := fun j hj => by simp [hj]
  refine ⟨(List.range (l.length * z)).map fun j => (w.cell? (a.add j)).getD undef, fun j u hu => ?_, fun u hu => ?_, by simp, fun q hq => ?_⟩
  · have hj : j < l.length * z := by
      have := (List.getElem?_eq_some_iff.1 hu).1
      simpa using this
    rw [hget j hj] at hu
    obtain ⟨v, hv, -⟩ := hs j hj
    rw [hv] at hu ⊢
    exact hu
  · obtain ⟨j, hj, rfl⟩ := List.mem_map.1 hu
    obtain ⟨v, hv, h1⟩ := hs j (List.mem_range.1 hj)
    rw [hv]
    exact h1
  · obtain ⟨bb, h1, h2⟩ := h q hq
    refine ⟨bb, fun i hi => ?_, h2⟩
    have hj := mulz hq hi
    rw [hget _ hj, ← h1 i hi]
    obtain ⟨v, hv, -⟩ := hs _ hj
    rw [hv]
    rfl
theorem IL.app {α β : Type} {z : Nat} {enc : α → β → List Value} {P : α → β → Prop} {l m : List α} {xs ys : List Value} (h : IL z enc (fun _ x s => P x s) l xs) (k : IL z enc (fun _ x s => P x s) m ys) : IL z enc (fun _ x s => P x s) (l ++ m) (xs ++ ys) := by
  refine ⟨by rw [List.length_append, List.length_append, h.1, k.1, Nat.add_mul], fun j hj => ?_⟩
  by_cases hl : j < l.length
  · obtain ⟨b, h1, h2⟩ := h.2 j hl
    refine ⟨b, fun i hi => ?_, by rw [List.getElem_append_left hl]; exact h2⟩
    rw [List.getElem?_append_left (by rw [h.1]; exact mulz hl hi), List.getElem_append_left hl]
    exact h1 i hi
  · have hj2 : j - l.length < m.length := by rw [List.length_append] at hj; omega
    obtain ⟨b, h1, h2⟩ := k.2 (j - l.length) hj2
    have hge : l.length ≤ j := by omega
    have hm : l.length * z ≤ j * z := Nat.mul_le_mul_right z hge
    refine ⟨b, fun i hi => ?_, by rw [List.getElem_append_right hge]; exact h2⟩
    rw [List.getElem?_append_right (by rw [h.1]; omega), List.getElem_append_right hge, h.1, ← h1 i hi, Nat.sub_mul]
    congr 1
    omega
/-- The cells of fields, to be appended. -/
theorem nwf_news {lo : Nat} {w : World} {l : List Fd} {a : Addr} (h : NwF lo w l (some a)) : ∃ xs : List Value, (∀ j u, xs[j]? = some u → w.cell? (a.add j) = some u) ∧ (∀ u ∈ xs, u.oneCell' = true) ∧ IL 7 encF (fun _ x s => ∀ W, Kpl lo w W → Rw TyA 4 W x.type.elem s.1) l xs :=
  news_ad (z := 7) (enc := encF) (P := fun _ x s => ∀ W, Kpl lo w W → Rw TyA 4 W x.type.elem s.1) (fun _ _ => rfl) (by decide) encF_one (fun q hq => nwf_at h q hq)
set_option maxRecDepth 100000 in
set_option maxHeartbeats 4000000 in
theorem growF_any (n : Nat) (w : World) (hn : n ≤ 100000) :
    Calls Tryz.prog 158 #[.slice none 0 0, .int .i64 (n : Int)] w (fun e W => ∃ v, e = .returned v ∧ W.ownsRow w.heap.size 61 7 v 0 [] ∧ Below w.heap.size w W) := by
  have d0 : decide ((n : Int) < 0) = false := by rw [decide_eq_false_iff_not]; omega
  by_cases h0 : n = 0
  · subst h0
    go_enter Tryz.func158, Tryz.ntmps158
    go_wp2_with fail
    go_ret
    exact ⟨_, rfl, World.ownsRow_nil _ _ _ _, Below.refl _ _⟩
  · obtain ⟨i, hi, hz, hs5, hby⟩ := info_parts infoFd
    have h1 : 0 < n := by omega
    have d1 : decide ((0 : Int) < (n : Int)) = true := by rw [decide_eq_true_iff]; omega
    have d2 : decide ((n : Int) > 0) = true := d1
    have hr := Lib.run_append_nil_zeros (P := Tryz.prog) w 35 3 35 61 i _ .i64 .i64 Tryz.underlying35 Tryz.underlying3 hi hz n h1 (by rw [hs5]; decide) (by omega) (by rw [hby]; omega)
    have hge := grownCap_ge w n 0 61
    have hcm := grownCap_le_maxLen w n 0 61 (by simp only [maxLen]; omega)
    have hown := World.ownsRow_made (base := w.heap.size) (e := 61) (size := 7) w (Builtin.zeroCells #[.int .i64 0, .string ⟨#[]⟩, .int .i64 0, .int .i64 0, .string ⟨#[]⟩, .slice none 0 0, .bool false] n ++ Builtin.zeroCells #[.int .i64 0, .string ⟨#[]⟩, .int .i64 0, .int .i64 0, .string ⟨#[]⟩, .slice none 0 0, .bool false] (grownCap w n 0 61 - n)) (grownCap w n 0 61) (Nat.le_refl _) hcm (by
      rw [Array.size_append, size_zeroCells, size_zeroCells]
      show n * 7 + (_ - n) * 7 = _
      rw [← Nat.add_mul]
      congr 1
      try omega)
    clear h0 hge hcm
    go_enter Tryz.func158, Tryz.ntmps158
    go_wp2_with (at_builtin; refine Lib.wpList_append_run _ rfl _ _ _ _ rfl _ _ rfl rfl _ _ hr ?_)
    go_ret
    exact ⟨_, rfl, own_next hown (Below.refl _ _).drew, (ab1 _ _).drew⟩
theorem nwf_row {lo n : Nat} {w wr : World} {l : List Fd} {v : Value} {xs : List Value} (hi : IL 7 encF (fun _ x s => ∀ W, Kpl lo w W → Rw TyA 4 W x.type.elem s.1) l xs) (ho : wr.ownsRow w.heap.size 61 7 v n xs) (hb : Below w.heap.size w wr) (hlo : lo ≤ w.heap.size) (hl : l.length = n) :
    ∃ A d, Ending.returned v = .returned (.slice A l.length d) ∧ NwF lo wr l A ∧ Below w.heap.size w wr := by
  obtain ⟨A, c, rfl⟩ := own_form ho
  refine ⟨A, c, by rw [hl], fun W hk => ?_, hb⟩
  by_cases h0 : n = 0
  · exact .inl (List.eq_nil_of_length_eq_zero (by omega))
  · obtain ⟨g, rfl⟩ := own_some ho h0
    have hg := own_low ho g rfl
    have hkw : Kpl lo w W := ⟨Nat.le_trans hb.size hk.size, fun i h1 h2 => (hk.blk i h1 (Nat.lt_of_lt_of_le h2 hb.size)).trans (hb.block i h2)⟩
    refine .inr ⟨_, rfl, fun q hq => ?_⟩
    obtain ⟨s, h1, h2⟩ := hi.2 q hq
    have hx : ∀ i, i < 7 → W.cell? ⟨g, q * 7 + i, none⟩ = (encF (l[q]'hq) s)[i]? := fun i hi7 => by
      have hj : q * 7 + i < n * 7 := by have := mulz hq hi7; rw [hl] at this; exact this
      have hc := World.ownsRow.cellAt ho (q * 7 + i) hj
      have hlt : g < wr.heap.size := blk_lt (show wr.cell? ⟨g, q * 7 + i, none⟩ = some _ from hc.trans (List.getElem?_eq_getElem (by rw [ho.1]; exact hj)))
      rw [World.cell?_of_block (hk.blk g (Nat.le_trans hlo hg) hlt), hc]
      exact h1 i hi7
    have e : ∀ k, nx1 ((⟨g, 0, none⟩ : Addr).add (q * 7)) k = ⟨g, q * 7 + k, none⟩ := fun k => by
      rw [Addr.add_lit, Nat.zero_add]
      try rfl
    refine ⟨?_, ?_, ?_, ?_, ?_, ⟨s.1, s.2, ?_, h2 W hkw⟩, ?_⟩
    · rw [Addr.add_lit, Nat.zero_add]; exact hx 0 (by decide)
    · rw [e]; exact hx 1 (by decide)
    · rw [e]; exact hx 2 (by decide)
    · rw [e]; exact hx 3 (by decide)
    · rw [e]; exact hx 4 (by decide)
    · rw [e]; exact hx 5 (by decide)
    · rw [e]; exact hx 6 (by decide)
/-- The lengths of the first lists together. -/
def sz2 (n m : Nat) : Nat → Int
  | 0 => 0
  | 1 => n
  | _ => n + m
def ct2 (n m : Nat) : Nat → Nat
  | 0 => 0
  | 1 => n
  | _ => n + m
def rw2 (xs ys : List Value) : Nat → List Value
  | 0 => []
  | 1 => xs
  | _ => xs ++ ys
set_option maxRecDepth 100000 in
set_option maxHeartbeats 8000000 in
theorem concat_any (lo : Nat) (fa fb : List Fd) (a a' : Addr) (c c' r : Nat) (w : World) (hr : Bx w r [.slice (some a) fa.length c, .slice (some a') fb.length c']) (hA : NwF lo w fa (some a)) (hB : NwF lo w fb (some a')) (hn : fa.length ≤ 1000) (hn' : fb.length ≤ 1000) (hlo : lo ≤ w.heap.size) :
    Calls Tryz.prog 117 #[.slice (some ⟨r, 0, none⟩) 2 2] w (fun e W => ∃ A d, e = .returned (.slice A (fa ++ fb).length d) ∧ NwF lo W (fa ++ fb) A ∧ Below w.heap.size w W) := by
  obtain ⟨xs, x1, x2, x3⟩ := nwf_news hA
  obtain ⟨ys, y1, y2, y3⟩ := nwf_news hB
  have HIL := Lib.hid (IL.app x3 y3)
  have hxl := x3.1
  have hyl := y3.1
  obtain ⟨n, hN⟩ : ∃ n, fa.length = n := ⟨_, rfl⟩
  obtain ⟨m, hM⟩ : ∃ m, fb.length = m := ⟨_, rfl⟩
  rw [hN] at hr hn hxl
  rw [hM] at hr hn' hyl
  have HL := Lib.hid (show (fa ++ fb).length = n + m by rw [List.length_append, hN, hM])
  have c0 := hr.c 0 rfl
  have c1 := hr.c 1 rfl
  have lr := hr.lt
  have cG := growF_any (n + m) w (by omega)
  have e1 : ((n + m : Nat) : Int) = (n : Int) + (m : Int) := by omega
  rw [e1] at cG
  have d0 : decide ((n : Int) < 0) = false := by rw [decide_eq_false_iff_not]; omega
  have d1 : decide ((n : Int) + (m : Int) < 0) = false := by rw [decide_eq_false_iff_not]; omega
  obtain ⟨i, hi, hz, hs5, hby⟩ := info_parts infoFd
  clear hN hM x3 y3 hA hB
  go_enter Tryz.func117, Tryz.ntmps117
  go_wp2_with fail
  go_loopw [3, 11] (fun s i wr => ∃ k : Nat, k ≤ 2 ∧ i = .int .i64 (k : Int) ∧ s = .int .i64 (sz2 n m k) ∧ w = wr) (fun _ i _ => 2 - (intOf i).toNat)
  case atStart => exact ⟨0, by omega, rfl, rfl, rfl⟩
  case round =>
    obtain ⟨k, hk, rfl, rfl, rfl⟩ := hrel
    rcases (show k = 0 ∨ k = 1 ∨ k = 2 by omega) with rfl | rfl | rfl
    · simp only [sz2]
      go_wp2_with fail
      go_roundw
      case rel => exact ⟨1, by omega, rfl, rfl, by first | trivial | rfl⟩
      case measure => simp [intOf]
    · simp only [sz2]
      go_wp2_with fail
      go_roundw
      case rel => exact ⟨2, by omega, rfl, rfl, by first | trivial | rfl⟩
      case measure => simp [intOf]
    · simp only [sz2]
      go_wp2_with fail
      refine cG.mono ?_
      rintro e w2 ⟨v, rfl, hO, hb⟩
      have X0 := Lib.hid x1
      have Y0 := Lib.hid y1
      have HO := Lib.hid hO
      clear cG hO x1 y1 c0 c1 lr e1 d0 d1
      go_wp2_with fail
      go_loopw [6, 27] (fun x i wr => ∃ k : Nat, k ≤ 2 ∧ i = .int .i64 (k : Int) ∧ Hid (wr.ownsRow w.heap.size 61 7 x (ct2 n m k) (rw2 xs ys k)) ∧ Below w.heap.size w wr) (fun _ i _ => 2 - (intOf i).toNat)
      case atStart => exact ⟨0, by omega, rfl, HO, hb⟩
      case round =>
        obtain ⟨k, hk, rfl, HP, hb3⟩ := hrel
        clear HO hb
        have hZ : w.heap.size ≤ wr.heap.size := hb3.size
        have hr3 := hr.next hb3
        have c0 := hr3.c 0 rfl
        have c1 := hr3.c 1 rfl
        have lr := hr3.lt
        rcases (show k = 0 ∨ k = 1 ∨ k = 2 by omega) with rfl | rfl | rfl
        · have HP : Hid (wr.ownsRow w.heap.size 61 7 u6 0 []) := HP
          go_wp2_with (at_builtin; refine wpList_append_own_at _ rfl _ _ 35 rfl w.heap.size 61 i _ 7 88 Tryz.underlying35 hi hz hs5 hby rfl (by omega) u6 0 [] rfl HP.out a n _ xs rfl hxl (fun j u h => cell_next hb3 (X0.out j u h)) x2 (by simp only [maxLen]; omega) (by omega) hZ ?_; intro v3 w4 hown hgrow _ _)
          have hb4 := hb3.grown hgrow hb3.size fun q e => own_low HP.out q e
          have HN1 : Hid (w4.ownsRow w.heap.size 61 7 v3 n xs) := Lib.hid (by rw [Nat.zero_add] at hown; exact hown)
          clear hown hgrow hb3 c0 c1 lr hr3 HP hZ
          go_wp2_with fail
          go_roundw
          case rel => exact ⟨1, by omega, rfl, HN1, hb4⟩
          case measure => simp [intOf]
        · have HP : Hid (wr.ownsRow w.heap.size 61 7 u6 n xs) := HP
          go_wp2_with (at_builtin; refine wpList_append_own_at _ rfl _ _ 35 rfl w.heap.size 61 i _ 7 88 Tryz.underlying35 hi hz hs5 hby rfl (by omega) u6 n xs rfl HP.out a' m _ ys rfl hyl (fun j u h => cell_next hb3 (Y0.out j u h)) y2 (by simp only [maxLen]; omega) (by omega) hZ ?_; intro v3 w4 hown hgrow _ _)
          have hb4 := hb3.grown hgrow hb3.size fun q e => own_low HP.out q e
          have HN1 : Hid (w4.ownsRow w.heap.size 61 7 v3 (n + m) (xs ++ ys)) := Lib.hid hown
          clear hown hgrow hb3 c0 c1 lr hr3 HP hZ
          go_wp2_with fail
          go_roundw
          case rel => exact ⟨2, by omega, rfl, HN1, hb4⟩
          case measure => simp [intOf]
        · have HP : Hid (wr.ownsRow w.heap.size 61 7 u6 (n + m) (xs ++ ys)) := HP
          go_wp2_with fail
          go_ret
          exact nwf_row HIL.out HP.out hb3 hlo HL.out
end Go.Proofs.YtcilkcnddgacgaaGreatDoor
/-
  The fields of two structs, compared. No conditions beyond those that each names.
-/
namespace Go.Proofs.YtcilkcnddgacgaaGreatDoor
open Go.RowKit Go.Sort
/-- The same, of one number, as a list. -/
noncomputable def lsF (o p : Option Fd) (f : Fd) (nm : List UInt8) (L : List Iss) : List Iss :=
  if o.isSome = false ∨ p.isSome = false then (if f.opt then L else adI L ⟨2, f.num, nm⟩) else
  let L1 := if wdB (o.getD fd0).type (p.getD fd0).type then L else adI L ⟨1, f.num, nm⟩
  if (o.getD fd0).opt = (p.getD fd0).opt then L1 else adI L1 ⟨3, f.num, nm⟩
theorem lsF_len (o p : Option Fd) (f : Fd) (nm : List UInt8) (L : List Iss) : (lsF o p f nm L).length ≤ L.length + 2 := by
  have h := fun l x => adI_len l x
  unfold lsF
  split
  · split
    · omega
    · have := h L ⟨2, f.num, nm⟩; omega
  · dsimp only
    split
    · split
      · omega
      · have := h L ⟨1, f.num, nm⟩; omega
    · split
      · have := h L ⟨3, f.num, nm⟩; omega
      · have h1 := h L ⟨1, f.num, nm⟩
        have h2 := h (adI L ⟨1, f.num, nm⟩) ⟨3, f.num, nm⟩
        omega
theorem kpl_ad {lo g : Nat} {w W : World} {q q' : Option Nat} (h : Ad w q g W q') (hg : g < lo) (hq : ∀ k, q = some k → k < lo) : Kpl lo w W :=
  ⟨h.size, fun i h1 h2 => h.block i h2 (fun e => by have := hq i e.symm; omega) (by omega)⟩
end Go.Proofs.YtcilkcnddgacgaaGreatDoor
/-
  The developers' comparison of fields. No conditions beyond those that each names.
-/
namespace Go.Proofs.YtcilkcnddgacgaaGreatDoor
open Go.RowKit Go.Sort
/-- What a comparison holds behind a call: some list of issues. -/
def CfP (g B : Nat) (O : List Value) (v : Value) (Q : List Iss → Prop) (w : World) (e : Ending) (W : World) : Prop := e = .returned (.tuple #[]) ∧ ∃ v' l, Bx W g (O ++ [v']) ∧ OwS B W v' l ∧ Ad w v.ownBlock g W v'.ownBlock ∧ Q l
/-- What holds in the course of a comparison of two structs. -/
structure RelI (w2 : World) (g B : Nat) (O : List Value) (qI : Option Nat) (b4 b5 : Nat) (x4 x5 : List Value) (v : Value) (l : List Iss) (W : World) : Prop where
  c : Bx W g (O ++ [v])
  o : OwS B W v l
  d4 : Bx W b4 x4
  d5 : Bx W b5 x5
  ad : Ad w2 qI g W v.ownBlock
theorem RelI.below {w2 W W' : World} {g B b4 b5 : Nat} {O x4 x5 : List Value} {qI : Option Nat} {v : Value} {l : List Iss} (h : RelI w2 g B O qI b4 b5 x4 x5 v l W) (hb : Below W.heap.size W W') : RelI w2 g B O qI b4 b5 x4 x5 v l W' :=
  ⟨h.c.next hb, own_next h.o hb, h.d4.next hb, h.d5.next hb, h.ad.trans (Ad.of _ hb)⟩
theorem RelI.add {w2 W W' : World} {g B b4 b5 : Nat} {O x4 x5 : List Value} {qI : Option Nat} {v v' : Value} {l l' : List Iss} (h : RelI w2 g B O qI b4 b5 x4 x5 v l W) (hC : Bx W' g (O ++ [v'])) (hO : OwS B W' v' l') (hA : Ad W v.ownBlock g W' v'.ownBlock) (hg : g < b4) (h45 : b4 < b5) (h5 : b5 < w2.heap.size) (hq : ∀ k, qI = some k → k < b4) : RelI w2 g B O qI b4 b5 x4 x5 v' l' W' := by
  have ho : ∀ k, v.ownBlock = some k → k < b4 ∨ b5 < k := fun k e => by
    rcases h.ad.own k e with h1 | h1
    · exact .inl (hq k h1)
    · exact .inr (by omega)
  refine ⟨hC, hO, h.d4.ad hA (by omega) (fun e => ?_), h.d5.ad hA (by omega) (fun e => ?_), h.ad.trans hA⟩
  · have := ho _ e; omega
  · have := ho _ e; omega
theorem RelI.set {w2 W W' : World} {g B b4 b5 b : Nat} {O x4 x5 : List Value} {qI : Option Nat} {v : Value} {l : List Iss} (h : RelI w2 g B O qI b4 b5 x4 x5 v l W) (hg : W.grownBy W' (some b)) (h1 : g ≠ b) (h4 : b4 ≠ b) (h5 : b5 ≠ b) (hv : v.ownBlock ≠ some b) (h2 : w2.heap.size ≤ b) : RelI w2 g B O qI b4 b5 x4 x5 v l W' :=
  ⟨h.c.gb hg h1, h.o.kept hg (.inr hv), h.d4.gb hg h4, h.d5.gb hg h5, ⟨hg.os.trans h.ad.os, hg.tape.trans h.ad.tape, hg.output.trans h.ad.output, Nat.le_trans h.ad.size hg.size, fun k a1 a2 a3 => (hg.block k (Nat.lt_of_lt_of_le a1 h.ad.size) (fun e => by injection e with e; omega)).trans (h.ad.block k a1 a2 a3), h.ad.own⟩⟩
theorem kpl_below {lo : Nat} {w W : World} (h : Below w.heap.size w W) : Kpl lo w W := ⟨h.size, fun i _ h2 => h.block i h2⟩
theorem lok_getD {l : List Fd} {z : Int} (h : ∀ f ∈ l, lok f.type) : lok ((fst_ Fd.num l z).getD fd0).type := by
  cases e : fst_ Fd.num l z with
  | none => show lok fd0.type; simp [fd0, lok, lok.loks]
  | some f => exact h f (fst_mem e).1
theorem lsF_eq (o p : Option Fd) (f : Fd) (nm : List UInt8) (L : List Iss) :
    (o.isSome = false ∨ p.isSome = false → f.opt = true → lsF o p f nm L = L) ∧ (o.isSome = false ∨ p.isSome = false → f.opt = false → lsF o p f nm L = adI L ⟨2, f.num, nm⟩) ∧
    (o.isSome = true → p.isSome = true → lsF o p f nm L = if (o.getD fd0).opt = (p.getD fd0).opt then (if wdB (o.getD fd0).type (p.getD fd0).type then L else adI L ⟨1, f.num, nm⟩) else adI (if wdB (o.getD fd0).type (p.getD fd0).type then L else adI L ⟨1, f.num, nm⟩) ⟨3, f.num, nm⟩) := by
  refine ⟨fun h1 h2 => ?_, fun h1 h2 => ?_, fun h1 h2 => ?_⟩
  · unfold lsF; rw [if_pos h1, if_pos h2]
  · unfold lsF; rw [if_pos h1, if_neg (by rw [h2]; simp)]
  · unfold lsF; rw [if_neg (by rw [h1, h2]; simp)]
theorem FdV.cells {w : World} {f : Fd} {v : Value} (h : FdV w f v) : ∃ A8 c8, v = .agg #[.int .i64 f.num, .string (bs f.name), .int .i64 f.type.kind, .int .i64 f.type.size, .string (bs f.type.name), .slice A8 f.type.elem.length c8, .bool f.opt] ∧ Rw TyA 4 w f.type.elem A8 := h
set_option maxRecDepth 100000 in
set_option maxHeartbeats 16000000 in
theorem cmpFields_any (lo g B : Nat) (a0 a1 a2 a3 a4 a5 vI : Value) (L : List Iss) (sa sb : St) (a a' : Addr) (c c' : Nat) (w : World)
    (hC : Bx w g [a0, a1, a2, a3, a4, a5, vI]) (hO : OwS B w vI L) (hB : B ≤ w.heap.size) (hgB : g < B) (hgl : g < lo) (hql : ∀ q, vI.ownBlock = some q → q < lo) (hlo : lo ≤ w.heap.size) (hL : L.length ≤ 50000)
    (hA : NwF lo w sa.fields (some a)) (hA' : NwF lo w sb.fields (some a')) (hn : sa.fields.length ≤ 1000) (hn' : sb.fields.length ≤ 1000) (hfa : ∀ f ∈ sa.fields, fewT f.type = true ∧ lok f.type) (hfb : ∀ f ∈ sb.fields, fewT f.type = true ∧ lok f.type) :
    Calls Tryz.prog 72 #[.pointer (some ⟨g, 0, none⟩), .agg #[.string (bs sa.name), .slice (some a) sa.fields.length c], .agg #[.string (bs sb.name), .slice (some a') sb.fields.length c']] w
      (CfP g B [a0, a1, a2, a3, a4, a5] vI (fun l => l = (sa.fields ++ sb.fields).foldl (fun l f => lsF (fst_ Fd.num sa.fields f.num) (fst_ Fd.num sb.fields f.num) f sa.name l) L) w) := by
  obtain ⟨nm, fa⟩ := sa
  obtain ⟨nm', fb⟩ := sb
  simp only at *
  obtain ⟨n, hN⟩ : ∃ n, fa.length = n := ⟨_, rfl⟩
  obtain ⟨m, hM⟩ : ∃ m, fb.length = m := ⟨_, rfl⟩
  have HN := Lib.hid (And.intro hN hM)
  have HA := Lib.hid hA
  have HA' := Lib.hid hA'
  rw [hN] at hn ⊢
  rw [hM] at hn' ⊢
  obtain ⟨R, hR⟩ : ∃ R, (fa ++ fb).foldl (fun l f => lsF (fst_ Fd.num fa f.num) (fst_ Fd.num fb f.num) f nm l) L = R := ⟨_, rfl⟩
  rw [hR]
  have HR := Lib.hid hR
  clear hR hN hM
  have hab := ab2 w (Obj.cells #[.string (bs nm), .slice (some a) n c] 37) (Obj.cells #[.string (bs nm'), .slice (some a') m c'] 37)
  have D4 := (Bx.new2 w 37 (.string (bs nm)) (.slice (some a) n c)).next (ab1 _ (Obj.cells #[.string (bs nm'), .slice (some a') m c'] 37))
  have D5 := Bx.new2 (w.alloc (Obj.cells #[.string (bs nm), .slice (some a) n c] 37)) 37 (.string (bs nm')) (.slice (some a') m c')
  rw [show (w.alloc (Obj.cells #[.string (bs nm), .slice (some a) n c] 37)).heap.size = w.heap.size + 1 by simp] at D5
  go_enter Tryz.func72, Tryz.ntmps72
  go_upto_region 1 with (fail)
  generalize (w.alloc (Obj.cells #[.string (bs nm), .slice (some a) n c] 37)).alloc (Obj.cells #[.string (bs nm'), .slice (some a') m c'] 37) = w1 at *
  have hk1 := kpl_ad (Ad.of (g := g) vI.ownBlock hab) hgl hql
  have hA1 := NwF.next HA.out hk1
  have hA1' := NwF.next HA'.out hk1
  have D6 := Bx.new2 w1 35 (.slice (some a) n c) (.slice (some a') m c')
  have hbx := ab1 w1 (Obj.cells #[.slice (some a) n c, .slice (some a') m c'] 35)
  have f0 := D4.c 0 rfl
  have f1 := D4.c 1 rfl
  have fl := D4.lt
  have k0 := D5.c 0 rfl
  have k1 := D5.c 1 rfl
  have kl := D5.lt
  go_wp2_with fail
  refine (concat_any lo fa fb a a' c c' w1.heap.size _ (by rw [HN.out.1, HN.out.2]; exact D6) (hA1.next (kpl_below hbx)) (hA1'.next (kpl_below hbx)) (by rw [HN.out.1]; exact hn) (by rw [HN.out.2]; exact hn') (Nat.le_trans hlo (Nat.le_trans hab.size hbx.size))).mono ?_
  rintro en w2 ⟨G, d, rfl, hG, hb2⟩
  have hbT := Below.next hbx hb2
  have hb02 := Below.next hab hbT
  have HG := Lib.hid hG
  have hA2 := Lib.hid (NwF.next hA1 (kpl_below hbT))
  have hA2' := Lib.hid (NwF.next hA1' (kpl_below hbT))
  have R0 : RelI w2 g B [a0, a1, a2, a3, a4, a5] vI.ownBlock w.heap.size (w.heap.size + 1) [.string (bs nm), .slice (some a) n c] [.string (bs nm'), .slice (some a') m c'] vI L w2 := ⟨hC.next hb02, own_next hO hb02, D4.next hbT, D5.next hbT, Ad.of _ (Below.refl _ _)⟩
  have hlt5 : w.heap.size + 1 < w2.heap.size := Nat.lt_of_lt_of_le D5.lt hbT.size
  have HB0 := Lib.hid hb02
  have HRl := Lib.hid R0
  have hq4 : ∀ k, vI.ownBlock = some k → k < w.heap.size := fun k h => Nat.lt_of_lt_of_le (hql k h) hlo
  obtain ⟨N, hNN⟩ : ∃ N, (fa ++ fb).length = N := ⟨_, rfl⟩
  have HNN := Lib.hid hNN
  have hN2 : N ≤ 2000 := by rw [← hNN, List.length_append, HN.out.1, HN.out.2]; omega
  rw [hNN]
  have HF0 := Lib.hid (show ((fa ++ fb).drop 0).foldl (fun l f => lsF (fst_ Fd.num fa f.num) (fst_ Fd.num fb f.num) f nm l) L = R from HR.out)
  clear hNN hA1 hA1' D4 D5 D6 hbx f0 f1 fl k0 k1 kl hab hb2 hG hk1 HR hC hO R0 hb02
  go_wp2_with fail
  go_loopw [20] (fun i wr => ∃ (k : Nat) (v : Value) (l : List Iss), k ≤ N ∧ i = .int .i64 (k : Int) ∧ Hid (RelI w2 g B [a0, a1, a2, a3, a4, a5] vI.ownBlock w.heap.size (w.heap.size + 1) [.string (bs nm), .slice (some a) n c] [.string (bs nm'), .slice (some a') m c'] v l wr) ∧ Hid (l.length ≤ L.length + 2 * k) ∧ Hid (((fa ++ fb).drop k).foldl (fun l f => lsF (fst_ Fd.num fa f.num) (fst_ Fd.num fb f.num) f nm l) l = R)) (fun i _ => N - (intOf i).toNat)
  case atStart => exact ⟨0, vI, L, by omega, rfl, HRl, Lib.hid (by omega), HF0⟩
  case round =>
    obtain ⟨k, v, l, hk, rfl, HRk, HLk, HFk⟩ := hrel
    clear HRl HF0 hbT
    by_cases hlt : k < N
    · have hk1 := Lib.hid hlt
      have hkl : k < (fa ++ fb).length := by rw [HNN.out]; exact hlt
      have hkp := Lib.hid (kpl_ad HRk.out.ad hgl hql)
      obtain ⟨aq, rfl, hFd⟩ := (HG.out wr hkp.out).get hkl
      have HD := Lib.hid (show (((fa ++ fb).drop (k + 1)).foldl (fun l f => lsF (fst_ Fd.num fa f.num) (fst_ Fd.num fb f.num) f nm l) (lsF (fst_ Fd.num fa ((fa ++ fb)[k]'hkl).num) (fst_ Fd.num fb ((fa ++ fb)[k]'hkl).num) ((fa ++ fb)[k]'hkl) nm l)) = R by rw [← HFk.out, List.drop_eq_getElem_cons hkl, List.foldl_cons])
      generalize (fa ++ fb)[k]'hkl = f at *
      obtain ⟨x0, x1, x2, x3, x4, ⟨A6, c6, x5, x7⟩, x6⟩ := hFd
      have hblk : (aq.add (k * 7)).block < wr.heap.size := blk_lt x0
      have cF1 := fun W (hb : Below wr.heap.size wr W) => devFieldOf_any ⟨nm, fa⟩ f.num (.agg #[.string (bs nm), .slice (some a) n c]) W ⟨some a, c, by rw [← HN.out.1], hA2.out W (hkp.out.trans (kpl_below hb))⟩ (by rw [HN.out.1]; exact hn) (fun f h => (hfa f h).1)
      have cF2 := fun W (hb : Below wr.heap.size wr W) => devFieldOf_any ⟨nm', fb⟩ f.num (.agg #[.string (bs nm'), .slice (some a') m c']) W ⟨some a', c', by rw [← HN.out.2], hA2'.out W (hkp.out.trans (kpl_below hb))⟩ (by rw [HN.out.2]; exact hn') (fun f h => (hfb f h).1)
      simp only at cF1 cF2
      have HLF := Lib.hid (lsF_eq (fst_ Fd.num fa f.num) (fst_ Fd.num fb f.num) f nm l)
      have HLN := Lib.hid (lsF_len (fst_ Fd.num fa f.num) (fst_ Fd.num fb f.num) f nm l)
      have HTo := Lib.hid (show lok ((fst_ Fd.num fa f.num).getD fd0).type from lok_getD fun f h => (hfa f h).2)
      have HTp := Lib.hid (show lok ((fst_ Fd.num fb f.num).getD fd0).type from lok_getD fun f h => (hfb f h).2)
      generalize hLs : lsF (fst_ Fd.num fa f.num) (fst_ Fd.num fb f.num) f nm l = Ls at *
      clear hLs
      generalize fst_ Fd.num fa f.num = o at *
      generalize fst_ Fd.num fb f.num = o' at *
      unfold FdO at cF1 cF2
      generalize o.getD fd0 = fo at *
      generalize o.isSome = p at *
      generalize o'.getD fd0 = fp at *
      generalize o'.isSome = p' at *
      clear HFk
      have E4 := HRk.out.d4
      have E5 := HRk.out.d5
      have hbx := ab1 wr (Obj.cells #[.int .i64 f.num, .string (bs f.name), .int .i64 f.type.kind, .int .i64 f.type.size, .string (bs f.type.name), .slice A6 f.type.elem.length c6, .bool f.opt] 61)
      have D7 := Bx.new7 wr 61 (.int .i64 f.num) (.string (bs f.name)) (.int .i64 f.type.kind) (.int .i64 f.type.size) (.string (bs f.type.name)) (.slice A6 f.type.elem.length c6) (.bool f.opt)
      go_upto_region 4 with (fail)
      generalize wr.alloc (Obj.cells #[.int .i64 f.num, .string (bs f.name), .int .i64 f.type.kind, .int .i64 f.type.size, .string (bs f.type.name), .slice A6 f.type.elem.length c6, .bool f.opt] 61) = w3 at *
      clear x0 x1 x2 x3 x4 x5 x6 x7 hblk
      replace E4 := E4.next hbx
      replace E5 := E5.next hbx
      have hbT := hbx
      have f0 := D7.c 0 rfl
      have f3 := D7.c 3 rfl
      have f6 := D7.c 6 rfl
      have fl := D7.lt
      have u0 := E4.c 0 rfl
      have u1 := E4.c 1 rfl
      have ul := E4.lt
      have c1 := cF1 w3 hbT
      clear cF1
      go_wp2_with fail
      refine c1.mono ?_
      rintro en w4 ⟨vo, rfl, ⟨A8, c8, rfl, hTo⟩, hb4⟩
      have z4 : wr.heap.size ≤ w4.heap.size := (Below.next hbT hb4).size
      have hbx4 := ab1 w4 (Obj.cells #[.int .i64 fo.num, .string (bs fo.name), .int .i64 fo.type.kind, .int .i64 fo.type.size, .string (bs fo.type.name), .slice A8 fo.type.elem.length c8, .bool fo.opt] 61)
      have D8 := Bx.new7 w4 61 (.int .i64 fo.num) (.string (bs fo.name)) (.int .i64 fo.type.kind) (.int .i64 fo.type.size) (.string (bs fo.type.name)) (.slice A8 fo.type.elem.length c8) (.bool fo.opt)
      have hb5 := Below.next hb4 hbx4
      clear c1 f0 f3 f6 fl u0 u1 ul hbx
      go_upto_region 5 with (fail)
      generalize w4.alloc (Obj.cells #[.int .i64 fo.num, .string (bs fo.name), .int .i64 fo.type.kind, .int .i64 fo.type.size, .string (bs fo.type.name), .slice A8 fo.type.elem.length c8, .bool fo.opt] 61) = w5 at *
      replace hTo := hTo.next fun x p => TyA.next hbx4 x p
      replace hbT := Below.next hbT hb5
      replace D7 := D7.next hb5
      replace E4 := E4.next hb5
      replace E5 := E5.next hb5
      have f0 := D7.c 0 rfl
      have f3 := D7.c 3 rfl
      have f6 := D7.c 6 rfl
      have fl := D7.lt
      have u0 := E5.c 0 rfl
      have u1 := E5.c 1 rfl
      have ul := E5.lt
      have c1 := cF2 w5 hbT
      clear cF2 hb4 hbx4 hb5
      go_wp2_with fail
      refine c1.mono ?_
      rintro en w6 ⟨vp, rfl, ⟨A9, c9, rfl, hTp⟩, hb6⟩
      have z6 : wr.heap.size ≤ w6.heap.size := (Below.next hbT hb6).size
      have hbx6 := ab1 w6 (Obj.cells #[.int .i64 fp.num, .string (bs fp.name), .int .i64 fp.type.kind, .int .i64 fp.type.size, .string (bs fp.type.name), .slice A9 fp.type.elem.length c9, .bool fp.opt] 61)
      have D10 := Bx.new7 w6 61 (.int .i64 fp.num) (.string (bs fp.name)) (.int .i64 fp.type.kind) (.int .i64 fp.type.size) (.string (bs fp.type.name)) (.slice A9 fp.type.elem.length c9) (.bool fp.opt)
      have hb7 := Below.next hb6 hbx6
      clear c1 f0 f3 f6 fl u0 u1 ul
      go_upto_region 6 with (fail)
      generalize w6.alloc (Obj.cells #[.int .i64 fp.num, .string (bs fp.name), .int .i64 fp.type.kind, .int .i64 fp.type.size, .string (bs fp.type.name), .slice A9 fp.type.elem.length c9, .bool fp.opt] 61) = w7 at *
      replace hTo := hTo.next fun x p => TyA.next hb7 x p
      replace hTp := hTp.next fun x p => TyA.next hbx6 x p
      replace hbT := Below.next hbT hb7
      replace D7 := D7.next hb7
      replace D8 := D8.next hb7
      replace E4 := E4.next hb7
      replace E5 := E5.next hb7
      clear hb6 hbx6 hb7
      have f0 := D7.c 0 rfl
      have f3 := D7.c 3 rfl
      have f6 := D7.c 6 rfl
      have fl := D7.lt
      have u0 := E4.c 0 rfl
      have u1 := E4.c 1 rfl
      have ul := E4.lt
      have z7 : wr.heap.size ≤ w7.heap.size := hbT.size
      have zl8 : w4.heap.size < w7.heap.size := D8.lt
      have zl10 : w6.heap.size < w7.heap.size := D10.lt
      have hbx8 := ab1 w7 (Obj.cells #[.int .i64 0, .int .i64 f.num, .string (bs nm)] 33)
      have D12 := Bx.new3 w7 33 (.int .i64 0) (.int .i64 f.num) (.string (bs nm))
      go_upto_region 7 with (fail)
      generalize w7.alloc (Obj.cells #[.int .i64 0, .int .i64 f.num, .string (bs nm)] 33) = w8 at *
      replace hTo := Lib.hid (hTo.next fun x p => TyA.next hbx8 x p)
      replace hTp := Lib.hid (hTp.next fun x p => TyA.next hbx8 x p)
      replace hbT := Below.next hbT hbx8
      clear f0 f3 f6 fl u0 u1 ul
      replace D7 := D7.next hbx8
      replace D8 := D8.next hbx8
      replace D10 := D10.next hbx8
      clear hbx8 E4 E5
      have hvo : ∀ q, v.ownBlock = some q → q < wr.heap.size := fun q e => (HRk.out.o.lt q e).2
      have hg4 : g < w.heap.size := Nat.lt_of_lt_of_le hgl hlo
      have z2 : w2.heap.size ≤ wr.heap.size := HRk.out.ad.size
      have hB2 : B ≤ w2.heap.size := Nat.le_trans hB HB0.out.size
      have f6 := D7.c 6 rfl
      have fl := D7.lt
      cases p
      case false =>
        obtain ⟨y, hy⟩ : ∃ y, f.opt = y := ⟨_, rfl⟩
        rw [hy] at f6
        have HY := Lib.hid hy
        clear hy
        cases y
        case true =>
          have hE : Ls = l := HLF.out.1 (.inl rfl) HY.out
          subst hE
          have RS := Lib.hid (HRk.out.below hbT)
          clear HRk
          go_wp2_with fail
          go_roundw
          case rel => exact ⟨k + 1, v, _, hk1.out, by go_num, RS, Lib.hid (by have := HLN.out; have := HLk.out; omega), HD⟩
          case measure => simp [intOf]; omega
        case false =>
          have hE : Ls = adI l ⟨2, f.num, nm⟩ := HLF.out.2.1 (.inl rfl) HY.out
          subst hE
          have G1 := gb_set1 w8 ⟨w7.heap.size, 0, none⟩ (.int .i64 2)
          have F12 : Bx (w8.setCell ⟨w7.heap.size, 0, none⟩ (.int .i64 2)) w7.heap.size [.int .i64 2, .int .i64 f.num, .string (bs nm)] := D12.put1 0 _
          have m0 := D12.c 0 rfl
          have m1 := D12.f 0 rfl
          have ml := D12.lt
          have hbS := hbT.grown G1 hbT.size fun b e => by cases e; exact z7
          have RS := Lib.hid (HRk.out.below hbS)
          go_upto_region 10 with (fail)
          clear m0 m1 ml G1 D12
          generalize w8.setCell ⟨w7.heap.size, 0, none⟩ (.int .i64 2) = w9 at *
          have m0 := F12.c 0 rfl
          have m1 := F12.c 1 rfl
          have m2 := F12.c 2 rfl
          have ml := F12.lt
          have cA := add_any g B a0 a1 a2 a3 a4 a5 v l ⟨2, f.num, nm⟩ w9 RS.out.c RS.out.o (by have := HLk.out; omega) (Nat.le_trans hB2 RS.out.ad.size) hgB
          go_wp2_with fail
          refine cA.mono ?_
          rintro en wA ⟨rfl, v2, hC1, hO1, hA1⟩
          have R2 := Lib.hid (RS.out.add hC1 hO1 hA1 hg4 (by omega) hlt5 hq4)
          clear cA m0 m1 m2 ml
          go_wp2_with fail
          go_roundw
          case rel => exact ⟨k + 1, v2, _, hk1.out, by go_num, R2, Lib.hid (by have := HLN.out; have := HLk.out; omega), HD⟩
          case measure => simp [intOf]; omega
      case true =>
      cases p'
      case false =>
        obtain ⟨y, hy⟩ : ∃ y, f.opt = y := ⟨_, rfl⟩
        rw [hy] at f6
        have HY := Lib.hid hy
        clear hy
        cases y
        case true =>
          have hE : Ls = l := HLF.out.1 (.inr rfl) HY.out
          subst hE
          have RS := Lib.hid (HRk.out.below hbT)
          clear HRk
          go_wp2_with fail
          go_roundw
          case rel => exact ⟨k + 1, v, _, hk1.out, by go_num, RS, Lib.hid (by have := HLN.out; have := HLk.out; omega), HD⟩
          case measure => simp [intOf]; omega
        case false =>
          have hE : Ls = adI l ⟨2, f.num, nm⟩ := HLF.out.2.1 (.inr rfl) HY.out
          subst hE
          have G1 := gb_set1 w8 ⟨w7.heap.size, 0, none⟩ (.int .i64 2)
          have F12 : Bx (w8.setCell ⟨w7.heap.size, 0, none⟩ (.int .i64 2)) w7.heap.size [.int .i64 2, .int .i64 f.num, .string (bs nm)] := D12.put1 0 _
          have m0 := D12.c 0 rfl
          have m1 := D12.f 0 rfl
          have ml := D12.lt
          have hbS := hbT.grown G1 hbT.size fun b e => by cases e; exact z7
          have RS := Lib.hid (HRk.out.below hbS)
          go_upto_region 10 with (fail)
          clear m0 m1 ml G1 D12
          generalize w8.setCell ⟨w7.heap.size, 0, none⟩ (.int .i64 2) = w9 at *
          have m0 := F12.c 0 rfl
          have m1 := F12.c 1 rfl
          have m2 := F12.c 2 rfl
          have ml := F12.lt
          have cA := add_any g B a0 a1 a2 a3 a4 a5 v l ⟨2, f.num, nm⟩ w9 RS.out.c RS.out.o (by have := HLk.out; omega) (Nat.le_trans hB2 RS.out.ad.size) hgB
          go_wp2_with fail
          refine cA.mono ?_
          rintro en wA ⟨rfl, v2, hC1, hO1, hA1⟩
          have R2 := Lib.hid (RS.out.add hC1 hO1 hA1 hg4 (by omega) hlt5 hq4)
          clear cA m0 m1 m2 ml
          go_wp2_with fail
          go_roundw
          case rel => exact ⟨k + 1, v2, _, hk1.out, by go_num, R2, Lib.hid (by have := HLN.out; have := HLk.out; omega), HD⟩
          case measure => simp [intOf]; omega
      case true =>
      have hE := HLF.out.2.2 rfl rfl
      clear HLF f6 fl D7
      have o2 := D8.c 2 rfl
      have o3 := D8.c 3 rfl
      have o4 := D8.c 4 rfl
      have o5 := D8.c 5 rfl
      have ol := D8.lt
      have p2 := D10.c 2 rfl
      have p3 := D10.c 3 rfl
      have p4 := D10.c 4 rfl
      have p5 := D10.c 5 rfl
      have pl := D10.lt
      have c1 := devWidens_any fo.type fp.type (.agg #[.int .i64 fo.type.kind, .int .i64 fo.type.size, .string (bs fo.type.name), .slice A8 fo.type.elem.length c8]) (.agg #[.int .i64 fp.type.kind, .int .i64 fp.type.size, .string (bs fp.type.name), .slice A9 fp.type.elem.length c9]) w8 HTo.out HTp.out ⟨A8, c8, rfl, hTo.out⟩ ⟨A9, c9, rfl, hTp.out⟩
      generalize wdB fo.type fp.type = r at *
      have HE := Lib.hid hE
      clear hE
      go_wp2_with fail
      refine c1.mono ?_
      rintro en w9 ⟨rfl, hb9⟩
      replace hbT := Below.next hbT hb9
      replace D8 := D8.next hb9
      replace D10 := D10.next hb9
      replace D12 := D12.next hb9
      clear c1 o2 o3 o4 o5 ol p2 p3 p4 p5 pl hb9
      have q8 : w4.heap.size ≠ g := by omega
      have q10 : w6.heap.size ≠ g := by omega
      have q12 : w7.heap.size ≠ g := by omega
      have r12 : g ≠ w7.heap.size := by omega
      have r4 : w.heap.size ≠ w7.heap.size := by omega
      have r5 : w.heap.size + 1 ≠ w7.heap.size := by omega
      have r2 : w2.heap.size ≤ w7.heap.size := by omega
      have hv12 : v.ownBlock ≠ some w7.heap.size := fun e => by have := hvo _ e; omega
      have hv8 : v.ownBlock ≠ some w4.heap.size := fun e => by have := hvo _ e; omega
      have hv10 : v.ownBlock ≠ some w6.heap.size := fun e => by have := hvo _ e; omega
      cases r
      case true =>
        have o6 := D8.c 6 rfl
        have ol := D8.lt
        have p6 := D10.c 6 rfl
        have pl := D10.lt
        obtain ⟨y, hy⟩ : ∃ y, fo.opt = y := ⟨_, rfl⟩
        obtain ⟨z, hz⟩ : ∃ z, fp.opt = z := ⟨_, rfl⟩
        rw [hy] at o6
        rw [hz] at p6
        have HYZ := Lib.hid (And.intro hy hz)
        clear hy hz
        by_cases hq : y = z
        case pos =>
          have hE : Ls = l := by rw [HE.out, if_pos (by rw [HYZ.out.1, HYZ.out.2, hq]), if_pos rfl]
          subst hE
          subst hq
          have d9 : (y != y) = false := by simp
          have RS := Lib.hid (HRk.out.below hbT)
          clear HRk HYZ
          go_wp2_with fail
          go_roundw
          case rel => exact ⟨k + 1, v, _, hk1.out, by go_num, RS, Lib.hid (by have := HLN.out; have := HLk.out; omega), HD⟩
          case measure => simp [intOf]; omega
        case neg =>
          have hE : Ls = adI l ⟨3, f.num, nm⟩ := by rw [HE.out, if_neg (by rw [HYZ.out.1, HYZ.out.2]; exact hq), if_pos rfl]
          subst hE
          have hyz : (y = true ∧ z = false) ∨ (y = false ∧ z = true) := by cases y <;> cases z <;> simp_all
          clear hq HYZ
          rcases hyz with ⟨rfl, rfl⟩ | ⟨rfl, rfl⟩
          all_goals (
            have G1 := gb_set1 w9 ⟨w7.heap.size, 0, none⟩ (.int .i64 3)
            have F12 : Bx (w9.setCell ⟨w7.heap.size, 0, none⟩ (.int .i64 3)) w7.heap.size [.int .i64 3, .int .i64 f.num, .string (bs nm)] := D12.put1 0 _
            have m0 := D12.c 0 rfl
            have m1 := D12.f 0 rfl
            have ml := D12.lt
            have hbS := hbT.grown G1 hbT.size fun b e => by cases e; exact z7
            have RS := Lib.hid (HRk.out.below hbS)
            go_upto_region 16 with (fail)
            clear m0 m1 ml G1 D12
            generalize w9.setCell ⟨w7.heap.size, 0, none⟩ (.int .i64 3) = w10 at *
            have m0 := F12.c 0 rfl
            have m1 := F12.c 1 rfl
            have m2 := F12.c 2 rfl
            have ml := F12.lt
            have cA := add_any g B a0 a1 a2 a3 a4 a5 v l ⟨3, f.num, nm⟩ w10 RS.out.c RS.out.o (by have := HLk.out; omega) (Nat.le_trans hB2 RS.out.ad.size) hgB
            go_wp2_with fail
            refine cA.mono ?_
            rintro en wA ⟨rfl, v2, hC1, hO1, hA1⟩
            have R2 := Lib.hid (RS.out.add hC1 hO1 hA1 hg4 (by omega) hlt5 hq4)
            clear cA m0 m1 m2 ml
            go_wp2_with fail
            go_roundw
            case rel => exact ⟨k + 1, v2, _, hk1.out, by go_num, R2, Lib.hid (by have := HLN.out; have := HLk.out; omega), HD⟩
            case measure => simp [intOf]; omega)
      case false =>
        have G1 := gb_set1 w9 ⟨w7.heap.size, 0, none⟩ (.int .i64 1)
        have F12 : Bx (w9.setCell ⟨w7.heap.size, 0, none⟩ (.int .i64 1)) w7.heap.size [.int .i64 1, .int .i64 f.num, .string (bs nm)] := D12.put1 0 _
        have m0 := D12.c 0 rfl
        have m1 := D12.f 0 rfl
        have ml := D12.lt
        have hbS := hbT.grown G1 hbT.size fun b e => by cases e; exact z7
        have RS := Lib.hid (HRk.out.below hbS)
        replace D8 := D8.gb G1 (by show w4.heap.size ≠ w7.heap.size; omega)
        replace D10 := D10.gb G1 (by show w6.heap.size ≠ w7.heap.size; omega)
        go_upto_region 13 with (fail)
        clear m0 m1 ml G1 D12
        generalize w9.setCell ⟨w7.heap.size, 0, none⟩ (.int .i64 1) = w10 at *
        have m0 := F12.c 0 rfl
        have m1 := F12.c 1 rfl
        have m2 := F12.c 2 rfl
        have ml := F12.lt
        have cA := add_any g B a0 a1 a2 a3 a4 a5 v l ⟨1, f.num, nm⟩ w10 RS.out.c RS.out.o (by have := HLk.out; omega) (Nat.le_trans hB2 RS.out.ad.size) hgB
        go_wp2_with fail
        refine cA.mono ?_
        rintro en wA ⟨rfl, v2, hC1, hO1, hA1⟩
        have R2 := Lib.hid (RS.out.add hC1 hO1 hA1 hg4 (by omega) hlt5 hq4)
        clear cA m0 m1 m2 ml
        replace D8 := D8.ad hA1 q8 hv8
        replace D10 := D10.ad hA1 q10 hv10
        have D13 := F12.ad hA1 q12 hv12
        have hv12 : v2.ownBlock ≠ some w7.heap.size := fun e => by
          rcases hA1.own _ e with h1 | h1
          · exact hv12 h1
          · have := F12.lt; omega
        have o6 := D8.c 6 rfl
        have ol := D8.lt
        have p6 := D10.c 6 rfl
        have pl := D10.lt
        obtain ⟨y, hy⟩ : ∃ y, fo.opt = y := ⟨_, rfl⟩
        obtain ⟨z, hz⟩ : ∃ z, fp.opt = z := ⟨_, rfl⟩
        rw [hy] at o6
        rw [hz] at p6
        have HYZ := Lib.hid (And.intro hy hz)
        clear hy hz
        by_cases hq : y = z
        case pos =>
          have hE : Ls = adI l ⟨1, f.num, nm⟩ := by rw [HE.out, if_pos (by rw [HYZ.out.1, HYZ.out.2, hq]), if_neg (by simp)]
          subst hE
          subst hq
          have d9 : (y != y) = false := by simp
          clear HRk HYZ
          go_wp2_with fail
          go_roundw
          case rel => exact ⟨k + 1, v2, _, hk1.out, by go_num, R2, Lib.hid (by have := HLN.out; have := HLk.out; omega), HD⟩
          case measure => simp [intOf]; omega
        case neg =>
          have hE : Ls = adI (adI l ⟨1, f.num, nm⟩) ⟨3, f.num, nm⟩ := by rw [HE.out, if_neg (by rw [HYZ.out.1, HYZ.out.2]; exact hq), if_neg (by simp)]
          subst hE
          have hyz : (y = true ∧ z = false) ∨ (y = false ∧ z = true) := by cases y <;> cases z <;> simp_all
          have hl1 := adI_len l ⟨1, f.num, nm⟩
          clear hq HYZ RS F12 hC1 hO1 hA1
          rcases hyz with ⟨rfl, rfl⟩ | ⟨rfl, rfl⟩
          all_goals (
            have G1 := gb_set1 wA ⟨w7.heap.size, 0, none⟩ (.int .i64 3)
            have F12 : Bx (wA.setCell ⟨w7.heap.size, 0, none⟩ (.int .i64 3)) w7.heap.size [.int .i64 3, .int .i64 f.num, .string (bs nm)] := D13.put1 0 _
            have m0 := D13.c 0 rfl
            have m1 := D13.f 0 rfl
            have ml := D13.lt
            have RS := Lib.hid (R2.out.set G1 r12 r4 r5 hv12 r2)
            go_upto_region 16 with (fail)
            clear m0 m1 ml G1 D13
            generalize wA.setCell ⟨w7.heap.size, 0, none⟩ (.int .i64 3) = w11 at *
            have m0 := F12.c 0 rfl
            have m1 := F12.c 1 rfl
            have m2 := F12.c 2 rfl
            have ml := F12.lt
            have cA := add_any g B a0 a1 a2 a3 a4 a5 v2 (adI l ⟨1, f.num, nm⟩) ⟨3, f.num, nm⟩ w11 RS.out.c RS.out.o (by have := HLk.out; omega) (Nat.le_trans hB2 RS.out.ad.size) hgB
            go_wp2_with fail
            refine cA.mono ?_
            rintro en wB ⟨rfl, v3, hC1, hO1, hA1⟩
            have R3 := Lib.hid (RS.out.add hC1 hO1 hA1 hg4 (by omega) hlt5 hq4)
            clear cA m0 m1 m2 ml
            go_wp2_with fail
            go_roundw
            case rel => exact ⟨k + 1, v3, _, hk1.out, by go_num, R3, Lib.hid (by have := HLN.out; have := HLk.out; omega), HD⟩
            case measure => simp [intOf]; omega)
    · obtain rfl : k = N := by omega
      have hF : l = R := by
        have h := HFk.out
        rw [List.drop_of_length_le (by rw [HNN.out]; exact Nat.le_refl _)] at h
        exact h
      subst hF
      have HQ := Lib.hid (show CfP g B [a0, a1, a2, a3, a4, a5] vI (fun l' => l' = l) w (.returned (.tuple #[])) wr from ⟨rfl, v, l, HRk.out.c, HRk.out.o, (Ad.of _ HB0.out).trans HRk.out.ad, rfl⟩)
      clear HRk HFk HG HB0 hA2 hA2' HA HA'
      go_wp2_with fail
      go_end0
      exact HQ.out
end Go.Proofs.YtcilkcnddgacgaaGreatDoor


/-
  Contract of Format. Conditions: slices of at most 900 digits.
-/
import Derived.Test.YtaiceebhifecbaaDoorT18
import Derived.Test.YtaiceebhifecbaaDoorDec
import Derived.Maps.AppendAt
import Derived.Laws.BytesArg
namespace Go.Proofs.YtaiceebhifecbaaDoor
open Go.RowKit
/-- The cells of a list of bytes. -/
def bcells (bs : List Nat) : List Value := bs.map fun z : Nat => .int .u8 (z : Int)
theorem bcells_snoc (bs : List Nat) (z : Nat) : bcells (bs ++ [z]) = bcells bs ++ [.int .u8 (z : Int)] := by simp [bcells]
theorem wpList_rev {w : World} {ops : Array Oper} {rest : List Oper} {o : Oper} {a : Act} {Q : Exit → Act → World → Prop} (hgd : o.guard = none) (s x : Operand)
    (ho : o.op = .call { callee := .builtin .append, args := #[s, x], argTypes := #[62, 62] }) (B : Nat) (v : Value) (m : Nat) (bs : List Nat) (z : Nat) (ad : Addr) (d : Nat) (hs : a.eval s = v) (hx : a.eval x = .slice (some ad) 1 d)
    (hown : w.ownsRow B 5 1 v m (bcells bs)) (hc : w.cell? ad = some (.int .u8 (z : Int))) (hm : m ≤ 100000) (hB : B ≤ w.heap.size)
    (h : ∀ v' w', w'.ownsRow B 5 1 v' (m + 1) (bcells (bs ++ [z])) → w.grownBy w' v.ownBlock → (v'.ownBlock = v.ownBlock ∨ v'.ownBlock = some w.heap.size) → wpList Tryd.prog ops Q rest (a.put o.dst v') w') : wpList Tryd.prog ops Q (o :: rest) a w := by
  obtain ⟨i, hi, hz, hs5, hby⟩ := info5_parts
  obtain ⟨v', w', hrun, h1, h2, _, h3⟩ := run_append_own_at (P := Tryd.prog) w B 62 o.type 5 i _ 1 1 u62 hi hz hs5 hby rfl (by omega) v m (bcells bs) hown ad 1 d [.int .u8 (z : Int)] rfl
    (by intro j u hj
        cases j with
        | zero => simp at hj; subst hj; rw [Addr.add_zero']; exact hc
        | succ j => simp at hj) (by simp [Value.oneCell']) (by simp only [maxLen]; omega) (by omega) hB
  exact wpList_append32 hgd s x ho hs hx hrun (h v' w' (by rw [bcells_snoc]; exact h1) h2 h3)
/-- A slice of digits and one of bytes do not share a block. -/
def Apart (v : Value) (A : Option Addr) (zs : List Nat) : Prop := ∀ g, v.ownBlock = some g → Off g A zs
theorem trim_nn {A : Option Addr} {n c m : Nat} {zs : List Nat} {w : World} (h : Rd w A zs) (hn : zs.length = n) (hc : n ≤ c) (hm : n ≤ 1000) (ht : Hid (Nm.tlen zs = m)) :
    Calls Tryd.prog 38 #[.slice A n c] w fun e w' => e = .returned (.slice A m m) ∧ w = w' := by
  subst hn
  exact trim_n h hc hm ht
theorem Fr.other {B : Nat} {w w' : World} {A : Option Addr} {zs : List Nat} {row : Option Nat} (h : Fr B w A zs) (hg : w.grownBy w' row) (ho : ∀ g, row = some g → Off g A zs) : Fr B w' A zs := by
  rcases h with h | ⟨g, off, hA, hB, hown⟩
  · exact .inl h
  · rcases Nat.eq_zero_or_pos zs.length with h0 | h0
    · exact .inl (List.eq_nil_of_length_eq_zero h0)
    · refine .inr ⟨g, off, hA, hB, hown.of_block (hg.block g (hown.1.lt h0) fun e => ?_)⟩
      rcases ho g e.symm with h1 | ⟨g', o', h1, h2⟩
      · rw [h1] at h0; simp at h0
      · rw [hA] at h1; injection h1 with h1; injection h1 with h1; exact h2 h1.symm
theorem Fr.offOf {B : Nat} {w : World} {A : Option Addr} {zs : List Nat} (h : Fr B w A zs) {g : Nat} (hg : w.heap.size ≤ g) : Off g A zs := h.rd.offOf hg
theorem byte_cell (w : World) (q : Nat) : (w.alloc (Obj.cells #[Value.int IntKind.u8 (48 + (q : Int) % 10)] 5)).cell? ⟨w.heap.size, 0, none⟩ = some (.int .u8 ((48 + q % 10 : Nat) : Int)) := by
  simp
theorem grown_alloc {w w' : World} {o : Obj} {row : Option Nat} (h : (w.alloc o).grownBy w' row) : w.grownBy w' row :=
  ⟨h.os, h.tape, h.output, Nat.le_trans (by simp) h.size, fun k hk hne => (h.block k (by simp; omega) hne).trans (Below.heap_alloc w o k hk)⟩
/-- The outer loop of Format: the number that is left, and the digits that were written. -/
def OutRel (B V : Nat) (w : World) (gk : Nat) (rest rev : Value) (wr : World) : Prop :=
  ∃ (A2 : Option Addr) (n c2 j : Nat) (zs : List Nat) (v : Value), rest = .slice A2 n c2 ∧ rev = v ∧ Hid (zs.length = n) ∧ n ≤ c2 ∧ n ≤ 900 ∧ Nm.Dig zs ∧ Hid (Nm.tlen zs = n) ∧ Fr B wr A2 zs ∧ wr.ownsRow B 5 1 v (9 * j) (bcells (Nm.digs (9 * j) V)) ∧ Apart v A2 zs ∧
    Hid (Nm.val zs = V / 10 ^ (9 * j)) ∧ Hid (gk = Nm.val zs) ∧ Below B w wr ∧ B ≤ wr.heap.size ∧ 9 * j ≤ 30000
/-- The inner loop: t digits of the group r were written. -/
def InRel (B V j r : Nat) (A2 : Option Addr) (zs : List Nat) (w : World) (gk : Nat) (rev low iv : Value) (wr : World) : Prop :=
  ∃ (t q : Nat) (v : Value), t ≤ 9 ∧ Hid (gk = 9 - t) ∧ rev = v ∧ low = .int .u32 (q : Int) ∧ Hid (q = r / 10 ^ t) ∧ q < 1000000000 ∧ iv = .int .i64 (t : Int) ∧ wr.ownsRow B 5 1 v (9 * j + t) (bcells (Nm.digs (9 * j) V ++ Nm.digs t r)) ∧ Fr B wr A2 zs ∧ Apart v A2 zs ∧ Below B w wr ∧ B ≤ wr.heap.size
theorem pow_bound {k L V : Nat} (h : 10 ^ k ≤ V) (hL : V < 2 ^ L) : k < L := by
  rcases Nat.lt_or_ge k L with h1 | h1
  · exact h1
  · have h2 : 2 ^ L ≤ 2 ^ k := Nat.pow_le_pow_right (by omega) h1
    have h3 : 2 ^ k ≤ 10 ^ k := Nat.pow_le_pow_left (by omega) k
    omega
set_option maxHeartbeats 1000000 in
theorem format_any (A : Option Addr) (c : Nat) (xs : List Nat) (w : World) (hx : Rd w A xs) (hxd : Nm.Dig xs) (hc : xs.length ≤ c) (hm : xs.length ≤ 900) :
    Calls Tryd.prog 33 #[nt A xs.length c] w fun e w' => ∃ s : ByteArray, e = .returned (.string s) ∧ Bt s = Nm.dec (Nm.val xs) ∧ Below w.heap.size w w' := by
  have hx' := hx.alloc (Obj.cells #[Value.slice A xs.length c] 24)
  have htx := Nm.tlen_le xs
  obtain ⟨m, hmx⟩ : ∃ m, Nm.tlen xs = m := ⟨_, rfl⟩
  have Hmx := Lib.hid hmx
  obtain ⟨X, hX⟩ : ∃ X, xs.take m = X := ⟨_, rfl⟩
  have hXl : X.length = m := by rw [← hX, List.length_take]; omega
  have rX : Rd (w.alloc (Obj.cells #[Value.slice A xs.length c] 24)) A X := by rw [← hX]; exact hx'.take m
  have dX : Nm.Dig X := by rw [← hX]; exact hxd.take m
  have vX : Nm.val X = Nm.val xs := by rw [← hX, ← hmx]; exact Nm.val_tlen xs
  have tX : Nm.tlen X = m := by rw [Nm.tlen_eq dX, vX, ← Nm.tlen_eq hxd, hmx]
  rw [hmx] at htx
  have HXl := Lib.hid hXl
  have VX := Lib.hid vX
  have TX := Lib.hid tX
  obtain ⟨V, hV⟩ : ∃ V, Nm.val xs = V := ⟨_, rfl⟩
  rw [hV] at VX ⊢
  clear hmx hX hXl vX tX hV
  go_enter Tryd.func33, Tryd.ntmps33
  go_wp2_with fail
  refine (trim_n hx' hc (by omega) Hmx).mono ?_
  rintro e w1 ⟨rfl, rfl⟩
  go_wp2_with fail
  refine (clone_any A m X _ rX HXl.out (by rw [HXl.out]; omega)).mono ?_
  rintro e w1 ⟨A1, c1, rfl, hc1, hf1, hb1⟩
  have hb1' : Below w.heap.size w w1 := up (one _ _) hb1
  rcases Nat.eq_zero_or_pos m with h0 | h0
  · have hfin : V = 0 := by
      have h1 := HXl.out
      rw [h0] at h1
      have h2 := List.eq_nil_of_length_eq_zero h1
      rw [← VX.out, h2]; rfl
    have Hfin := Lib.hid hfin
    have hb0 : ((m : Int) == 0) = true := by rw [beq_iff_eq]; omega
    clear hfin h0
    go_wp2_with fail
    go_ret
    exact ⟨⟨#[48]⟩, rfl, by rw [Hfin.out]; rfl, hb1'⟩
  · have hb0 : ((m : Int) == 0) = false := digit_ne (by omega)
    go_wp2_with fail
    obtain ⟨L, hL, hVL⟩ : ∃ L, L ≤ 28800 ∧ Hid (V < 2 ^ L) := ⟨32 * m, by omega, by
      show _ < _
      rw [← Nm.pow_two, ← VX.out, ← HXl.out]; exact Nm.val_lt dX⟩
    have hstart : OutRel w.heap.size V w V (.slice A1 m c1) (.slice none 0 0) w1 :=
      ⟨A1, m, c1, 0, X, .slice none 0 0, rfl, rfl, HXl.out, hc1, by omega, dX, TX.out, hf1.base (one _ _), World.ownsRow_nil _ _ _ _, fun g h => by simp [Value.ownBlock] at h, by show _ = _; rw [VX.out]; simp, by show _ = _; rw [VX.out], hb1', hb1'.size, by omega⟩
    have hV0 : V ≠ 0 := by
      rw [← VX.out]
      intro e
      have := Nm.tlen_eq dX
      rw [e, Nm.nat_zero, TX.out] at this
      simp at this; omega
    have HS := Lib.hid hstart
    have HV0 := Lib.hid hV0
    obtain ⟨B, hB⟩ : ∃ B, w.heap.size = B := ⟨_, rfl⟩
    rw [hB] at HS ⊢
    have HBe := Lib.hid hB
    clear hstart hV0 hf1 hb1 rX hx hx' h0 dX hB
    go_wp2_with fail
    go_loopg [3, 4] V (fun gk rest rev wr => OutRel B V w gk rest rev wr)
    case atStart => exact HS.out
    case round =>
      obtain ⟨A2, n, c2, j, zs, v, rfl, hve, hzl, hnc, hn9, hzd, htl, hf, hown, hap, hval, hgk, hb, hB, hj3⟩ := hrel
      obtain rfl := hve.symm
      rcases Nat.eq_zero_or_pos n with hn0 | hn0
      · subst hn0
        have hlt : V < 10 ^ (9 * j) := by
          have h1 := hval.out
          have h2 := hzl.out
          have h3 := List.eq_nil_of_length_eq_zero h2
          rw [h3] at h1
          rcases Nat.lt_or_ge V (10 ^ (9 * j)) with h5 | h5
          · exact h5
          · have h6 : 0 < V / 10 ^ (9 * j) := Nat.div_pos h5 (Nat.pow_pos (by omega))
            rw [← h1] at h6
            simp [Nm.val] at h6
        have hnd := Nm.nd_le_of_lt hlt
        have hnd0 := Nm.nd_gt HV0.out
        obtain ⟨gb, cap, hvb, hgb, _⟩ := hown.form (by omega)
        subst hvb
        have hcap : 9 * j ≤ cap := by
          rcases hown.2 with ⟨h1, _⟩ | ⟨g1, cap1, cur1, h1, _, _, h2, _⟩
          · cases h1
          · injection h1 with _ _ h3; omega
        have hrow : Own8 wr gb 0 (Nm.digs (9 * j) V) := by
          refine ⟨fun i hi => ?_, fun i hi => by rw [Nat.zero_add]; exact hown.frozenAt i⟩
          have hi' : i < 9 * j := by rw [Nm.digs_length] at hi; exact hi
          rw [Nat.zero_add, hown.cellAt i (by omega)]
          simp only [bcells, List.getElem?_map, List.getElem?_eq_getElem hi, Option.map_some]
        obtain ⟨k, hk⟩ : ∃ k, Nm.nd V = k := ⟨_, rfl⟩
        rw [hk] at hnd hnd0
        have htake := Nm.digs_take k (9 * j) V hnd
        have hrow2 : Own8 wr gb 0 (Nm.digs k V) := by
          rw [← htake]
          exact ⟨fun i hi => by simpa using hrow.1 i (by simp at hi; omega), fun i hi => hrow.2 i (by simp at hi; omega)⟩
        have hcall := Lib.hid (trimRight_any gb 0 (9 * j) cap k (Nm.digs (9 * j) V) wr hrow.1 (Nm.digs_length _ _) (by omega) hcap (by omega) hnd (fun i h1 h2 => by
            rw [Nm.digs_at _ _ _ h2, Nm.zero_above (by omega)]) (fun i h1 => by
            subst h1
            rw [Nm.digs_at _ _ _ (by omega)]
            intro e
            injection e with e
            have h7 := Nm.top_ne HV0.out
            rw [hk, Nat.add_sub_cancel] at h7
            omega))
        have Hk := Lib.hid hk
        clear hlt hk htake
        go_wp2_with fail
        refine hcall.out.mono ?_
        rintro e w2 ⟨rfl, rfl⟩
        go_wp2_with fail
        refine (reverse_any gb 0 k cap (Nm.digs k V) _ hrow2 (Nm.digs_length _ _) (by omega)).mono ?_
        rintro e w3 ⟨rfl, hrev, hgr⟩
        have hb3 : Below B w w3 := hb.grown hgr hB (fun k' hk' => by injection hk' with hk'; omega)
        have hu5 : Tryd.prog.underlying 5 = some (.int .u8) := by kernel_rfl
        have hu9 : Tryd.prog.underlying 9 = some .string := by kernel_rfl
        have hrl : (Nm.digs k V).reverse.length = k := by rw [List.length_reverse, Nm.digs_length]
        have hcells : ∀ (R : List Nat), Row8 w3 gb 0 R → ∀ i, i < R.length → w3.cell? ⟨gb, 0 + i, none⟩ = some (.int .u8 ((R.map (fun z : Nat => (z : Int))).getD i 0)) := fun R hR i hi => by
          rw [hR i hi]
          simp [List.getD, List.getElem?_eq_getElem hi]
        have hconv := run_convert_bytes_arg (P := Tryd.prog) w3 62 5 u62 hu5 gb 0 k cap ((Nm.digs k V).reverse.map (fun z : Nat => (z : Int))) (by simp [Nm.digs_length]) (fun i hi => hcells _ hrev.1 i (by omega)) 9 hu9
        obtain ⟨st, hst⟩ : ∃ st, strOfNums ((Nm.digs k V).reverse.map (fun z : Nat => (z : Int))) = st := ⟨_, rfl⟩
        rw [hst] at hconv
        have hBt : Bt st = Nm.dec V := by
          rw [← hst]
          unfold Bt Nm.dec
          rw [if_neg HV0.out, Hk.out, strOfNums_data, List.map_map, List.map_map]
          conv => rhs; rw [← List.map_id (Nm.digs k V).reverse]
          refine List.map_congr_left fun z hz => ?_
          have := Nm.digs_lt k V z (by simpa using hz)
          simp
          omega
        have HBt := Lib.hid hBt
        clear hst hBt hrl hcells
        go_wp2_with fail
        go_ret
        exact ⟨st, rfl, HBt.out, by rw [HBe.out]; exact hb3⟩
      · have hzne : zs ≠ [] := by intro e; have := hzl.out; rw [e] at this; simp at this; omega
        obtain ⟨g, off, rfl, hg, ho⟩ := hf.own hzne
        have hvpos : 0 < Nm.val zs := by
          have := Nm.tlen_pos_val (zs := zs) (by rw [htl.out]; exact hn0)
          have : 0 < 4294967296 ^ (Nm.tlen zs - 1) := Nat.pow_pos (by omega)
          omega
        have hj9 : 9 * j < L := by
          refine pow_bound (V := V) ?_ hVL.out
          rcases Nat.lt_or_ge V (10 ^ (9 * j)) with h5 | h5
          · have := hval.out
            rw [Nat.div_eq_of_lt h5] at this
            omega
          · exact h5
        have hvne : v.ownBlock ≠ some g := by
          intro e
          rcases hap g e with h5 | ⟨g', o', h5, h6⟩
          · exact hzne h5
          · injection h5 with h5; injection h5 with h5; exact h6 h5.symm
        have Hvpos := Lib.hid hvpos
        have Hvne := Lib.hid hvne
        clear hzne hvpos hvne
        go_wp2_with fail
        refine (divideByDigit_n g off n c2 1000000000 zs wr ho hzd hzl.out (by omega) (by omega) (by omega)).mono ?_
        rintro e w2 ⟨rs, r, rfl, hrl, hrd, hr, hv, hwr⟩
        have hown2 := hown.kept hwr.grown (.inr Hvne.out)
        have hf2 : Fr B w2 (some ⟨g, off, none⟩) rs := .inr ⟨g, off, rfl, hg, hwr.own⟩
        have hb2 : Below B w w2 := hwr.below hb hg hB
        have hB2 : B ≤ w2.heap.size := by rw [hwr.size]; exact hB
        have hdm : Nm.val rs = Nm.val zs / 1000000000 ∧ r = Nm.val zs % 1000000000 := by
          have h2 := hv.out
          constructor
          · rw [← h2, Nat.mul_comm, Nat.mul_add_div (by omega), Nat.div_eq_of_lt hr, Nat.add_zero]
          · rw [← h2, Nat.mul_comm, Nat.mul_add_mod, Nat.mod_eq_of_lt hr]
        obtain ⟨nn, hnn⟩ : ∃ nn, Nm.tlen rs = nn := ⟨_, rfl⟩
        have htr := Nm.tlen_le rs
        rw [hnn, hrl.out] at htr
        have hap2 : Apart v (some ⟨g, off, none⟩) (rs.take nn) := fun g' h' => .inr ⟨g, off, rfl, fun e => Hvne.out (by rw [h', e])⟩
        have HD := Lib.hid hdm
        have Hnn := Lib.hid hnn
        clear hdm hnn
        go_wp2_with fail
        refine (trim_nn hf2.rd hrl.out hnc (by omega) Hnn).mono ?_
        rintro e w3 ⟨rfl, rfl⟩
        have hstart : InRel B V j r (some ⟨g, off, none⟩) (rs.take nn) w 9 v (.int .u32 (r : Int)) (.int .i64 0) w2 :=
          ⟨0, r, v, by omega, rfl, rfl, rfl, by show _ = _; simp, hr, rfl, by simpa [Nm.digs] using hown2, hf2.take nn, hap2, hb2, hB2⟩
        have HS2 := Lib.hid hstart
        clear hstart
        go_wp2_with fail
        go_loopg [4, 5, 21] 9 (fun gk2 rev low iv wr2 => InRel B V j r (some ⟨g, off, none⟩) (rs.take nn) w gk2 rev low iv wr2)
        case atStart => exact HS2.out
        case round =>
          obtain ⟨t, q, v2, ht, hgk2, hve2, rfl, hq, hqlt, rfl, hown3, hf3, hap3, hb3, hB3⟩ := hrel
          obtain rfl := hve2.symm
          by_cases ht9 : t < 9
          · go_wp2_with (at_builtin
                         refine wpList_rev rfl (.tmp 23) (.tmp 28) rfl B v2 (9 * j + t) (Nm.digs (9 * j) V ++ Nm.digs t r) (48 + q % 10) _ 1 rfl rfl (hown3.alloc _) (by exact byte_cell _ q) (by omega) (by simp; omega) ?_
                         intro v4 w4 hown4 hg4 hat4)
            have hg5 := grown_alloc hg4
            have hoff : ∀ g', v4.ownBlock = some g' → Off g' (some ⟨g, off, none⟩) (rs.take nn) := by
              intro g' h'
              rcases hat4 with e | e
              · exact hap3 g' (by rw [← e]; exact h')
              · rw [h'] at e
                injection e with e
                exact hf3.offOf (by rw [e]; simp)
            have hf5 := hf3.other hg5 (fun g' h' => hap3 g' h')
            have hb5 : Below B w w4 := hb3.grown hg5 hB3 (fun k' hk' => (hown3.lt k' hk').1)
            have hB5 : B ≤ w4.heap.size := Nat.le_trans hB3 hg5.size
            have hd1 : Nm.digs (9 * j) V ++ Nm.digs t r ++ [48 + q % 10] = Nm.digs (9 * j) V ++ Nm.digs (t + 1) r := by
              rw [Nm.digs_succ, ← hq.out, List.append_assoc]
            rw [hd1, Nat.add_assoc] at hown4
            clear hd1
            go_roundg (8 - t)
            case measure => have := hgk2.out; omega
            case rel =>
              refine ⟨t + 1, q / 10, v4, by omega, ?_, rfl, by simp, ?_, by omega, by go_num, hown4, hf5, hoff, hb5, hB5⟩
              · show _ = _; omega
              · show _ = _
                rw [hq.out, Nat.pow_succ, Nat.div_div_eq_div_mul]
          · have ht10 : t = 9 := by omega
            have hT := Lib.hid ht10
            have hfin : OutRel B V w (Nm.val rs) (.slice (some ⟨g, off, none⟩) nn nn) v2 wr := by
              subst ht10
              have hd2 : Nm.digs (9 * j) V ++ Nm.digs 9 r = Nm.digs (9 * (j + 1)) V := by
                rw [show 9 * (j + 1) = 9 * j + 9 from by omega, Nm.digs_add, ← hval.out]
                have h5 := hv.out
                rw [← h5, Nm.digs_mod _ _ _ (Nat.le_refl _)]
              rw [hd2, show 9 * j + 9 = 9 * (j + 1) from by omega] at hown3
              refine ⟨some ⟨g, off, none⟩, nn, nn, j + 1, rs.take nn, v2, rfl, rfl, ?_, Nat.le_refl _, by omega, hrd.take nn, ?_, hf3, hown3, hap3, ?_, ?_, hb3, hB3, by omega⟩
              · show _ = _; rw [List.length_take, hrl.out]; omega
              · show _ = _
                rw [Nm.tlen_eq (hrd.take nn), ← Hnn.out, Nm.val_tlen, ← Nm.tlen_eq hrd]
              · show _ = _
                rw [← Hnn.out, Nm.val_tlen, HD.out.1, hval.out, Nat.div_div_eq_div_mul, show (1000000000 : Nat) = 10 ^ 9 from rfl, ← Nat.pow_add, show 9 * j + 9 = 9 * (j + 1) from by omega]
              · show _ = _
                rw [← Hnn.out, Nm.val_tlen]
            have HF := Lib.hid hfin
            clear hfin ht10
            go_wp2_with fail
            go_roundg (Nm.val rs)
            case measure => have := hgk.out; have := HD.out.1; have := Hvpos.out; omega
            case rel => exact HF.out
end Go.Proofs.YtaiceebhifecbaaDoor

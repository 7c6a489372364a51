import Derived.Test.YtndidbanbklonaaBj
import Derived.Test.YtndidbanbklonaaBm
/-
  A network in memory; a new one. No conditions beyond those that each names.
-/
namespace Go.Proofs.Ytndidbanbklonaa
open Go.RowKit Go.Sort Go.Lib Go.Shelf
/-- A slice that holds the faults l. -/
def FtS (w : World) (A : Option Addr) (l : List Ft) : Prop := l = [] ∨ ∃ ab ao, A = some ⟨ab, ao, none⟩ ∧ ab < w.heap.size ∧ ∀ j v, (tc e6 l)[j]? = some v → w.cell? ⟨ab, ao + j, none⟩ = some v
theorem FtS.next {w w' : World} {A : Option Addr} {l : List Ft} (h : FtS w A l) (hb : Below w.heap.size w w') : FtS w' A l := by
  rcases h with h | ⟨ab, ao, e, h1, h2⟩
  · exact .inl h
  · exact .inr ⟨ab, ao, e, Nat.lt_of_lt_of_le h1 hb.size, fun j v hv => cell_next hb (h2 j v hv)⟩
set_option maxRecDepth 100000 in
set_option maxHeartbeats 2000000 in
theorem cloneY_any (A : Option Addr) (cap n : Nat) (l : List Ft) (w : World) (hn : l.length = n) (hl : n ≤ 1000) (h : FtS w A l) :
    Calls Try.prog 21 #[.slice A n cap] w (fun e w' => ∃ v', e = .returned v' ∧ OwY w.heap.size w' v' l ∧ Below w.heap.size w w') := by
  have q22 : ∀ (w : World) (a : Option Addr) (n c n' c' : Nat), (binOp .eql 36 (.slice a n c) (.slice none n' c')).run Try.prog w = .ok (.bool a.isNone) w := fun w a n c n' c' => Lib.run_eql_slice_nil w _ _ a n c n' c' Try.underlying36
  cases A with
  | none =>
    obtain rfl : l = [] := by
      rcases h with h | ⟨ab, ao, e, -⟩
      · exact h
      · cases e
    clear h hn hl
    go_enter Try.func21, Try.ntmps21
    go_wp2_with fail
    go_ret
    exact ⟨_, rfl, World.ownsRow_nil _ _ _ _, Below.refl _ _⟩
  | some a =>
    obtain ⟨i, hi, hz, hs5, hby⟩ := info_parts infoY
    have hrow : ∀ j u, (tc e6 l)[j]? = some u → w.cell? (a.add j) = some u := fun j u hu => by
      rcases h with h | ⟨ab, ao, e, -, h2⟩
      · subst h; cases hu
      · injection e with e
        subst e
        rw [Addr.add_lit]
        exact h2 j u hu
    have HN := Lib.hid hn
    have HR := Lib.hid hrow
    have hb1 : Below w.heap.size w (w.alloc (Obj.cells #[] 41)) := ab1 _ _
    clear h hrow hn
    go_enter Try.func21, Try.ntmps21
    go_wp2_with (at_builtin; refine wpList_append_own _ rfl _ _ 36 rfl w.heap.size 41 i _ 6 48 Try.underlying36 hi hz hs5 hby rfl (by decide) _ _ _ rfl (World.ownsRow_made w #[] 0 (Nat.le_refl _) (Nat.zero_le _) rfl) a n cap (tc e6 l) rfl (by rw [tc_len e6_len, HN.out]) (fun j u hj => cell_next hb1 (HR.out j u hj)) (tc_one' e6_one l) (by unfold maxLen; omega) (by omega) (by simp) ?_)
    intro v' w1 hown hgrow hnil
    have HF := Lib.hid (show OwY w.heap.size w1 v' l ∧ Below w.heap.size w w1 by
      refine ⟨?_, ((Below.refl _ w).alloc (Nat.le_refl _) _).grown hgrow (by simp) (by intro k hk; simp [Value.ownBlock] at hk; omega)⟩
      unfold OwY
      rw [HN.out]
      simpa using hown)
    clear hown hgrow hnil hb1 hi hz hs5 hby
    go_wp2
    go_ret
    exact ⟨v', rfl, HF.out⟩
set_option maxRecDepth 100000 in
set_option maxHeartbeats 2000000 in
theorem newSchedule_any (w : World) : Calls Try.prog 22 #[] w (fun e w' => ∃ b, e = .returned (.agg #[.map (some b), .slice none 0 0, .int .i64 0]) ∧ Mi w' b [] (fun _ => .slice none 0 0) ∧ w.heap.size ≤ b ∧ Below w.heap.size w w') := by
  have hmm := @run_makeMap Try.prog
  obtain ⟨M, hM0⟩ : ∃ M, w.heap.size + 1 = M := ⟨_, rfl⟩
  have hsz : (w.alloc (Obj.cells #[.map (some M), .slice none 0 0, .int .i64 0] 60)).heap.size = M := by rw [← hM0]; simp
  have B1 := (Bx.new3 w 60 (.map (some M)) (.slice none 0 0) (.int .i64 0)).next (ab1 _ (.map #[] 0))
  have h1 := Below.next (ab1 w (Obj.cells #[.map (some M), .slice none 0 0, .int .i64 0] 60)) (ab1 _ (.map #[] 0))
  have hM := Mi.made (w.alloc (Obj.cells #[.map (some M), .slice none 0 0, .int .i64 0] 60))
  rw [hsz] at hM
  have b0 := B1.c 0 rfl
  have b1 := B1.c 1 rfl
  have b2 := B1.c 2 rfl
  have HM := Lib.hid hM
  have hMw : w.heap.size ≤ M := by omega
  clear B1 hsz hM
  have HW := Lib.hid hM0
  clear hM0
  go_enter Try.func22, Try.ntmps22
  go_wp2_with fail
  rw [HW.out]
  generalize (w.alloc (Obj.cells #[.map (some M), .slice none 0 0, .int .i64 0] 60)).alloc (.map #[] 0) = w2 at *
  refine bodyPost_ret (v := .agg #[.map (some M), .slice none 0 0, .int .i64 0]) (by simp [results, Try.results22, go_sem, b0, b1, b2]) rfl ?_
  exact ⟨M, rfl, HM.out, hMw, h1⟩
theorem own_blk {w w' : World} {B : Nat} {e : TypeId} {z n : Nat} {v : Value} {xs : List Value} (h : w.ownsRow B e z v n xs) (hb : ∀ g, v.ownBlock = some g → w'.heap[g]? = w.heap[g]?) : w'.ownsRow B e z v n xs := by
  refine ⟨h.1, ?_⟩
  rcases h.2 with h1 | ⟨g, cap, cur, h1, h2, h3, h4⟩
  · exact .inl h1
  · exact .inr ⟨g, cap, cur, h1, h2, (hb g (by rw [h1]; rfl)).trans h3, h4⟩
theorem Bx.newL (w : World) (t : TypeId) (vs : List Value) : Bx (w.alloc (Obj.cells vs.toArray t)) w.heap.size vs :=
  ⟨by simp, fun j v e => ⟨by rw [cell_lit (heap_newI w _), List.getElem?_toArray]; exact e, frozen_lit (heap_newI w _)⟩⟩
/-- A network as it must be. -/
structure Okn (S : Ns) : Prop where
  nd : 1 ≤ S.nodes ∧ S.nodes ≤ 8
  lt : 0 ≤ S.lat ∧ S.lat ≤ 1099511627776
  fl : S.fs.length ≤ 64
  fo : ∀ y ∈ S.fs, FtOk S.nodes y
  oq : Okq S.q
  qn : S.q.n ≤ 100000
/-- A network at block c. -/
structure Nw (c : Nat) (w : World) (m : Nat) (V : Int → Value) (tv fv : Value) (S : Ns) : Prop where
  c0 : w.cell? ⟨c, 0, none⟩ = some (.int .i64 S.nodes)
  c1 : w.cell? ⟨c, 1, none⟩ = some (.int .i64 S.lat)
  c2 : w.cell? ⟨c, 2, none⟩ = some fv
  c3 : w.cell? ⟨c, 3, none⟩ = some (.int .i64 (S.sent : Int))
  f3 : w.frozen? ⟨c, 3, none⟩ = false
  c4 : w.cell? ⟨c, 4, none⟩ = some (.int .i64 S.rch)
  f4 : w.frozen? ⟨c, 4, none⟩ = false
  sb : Sb c 5 w m V tv S.q.T S.q.T S.q.G (S.q.n : Int)
  fo : OwY 0 w fv S.fs
  fn : ∀ g, fv.ownBlock = some g → ¬ Fp c m V tv g
  ok : Okn S
theorem Nw.lt {c : Nat} {w : World} {m : Nat} {V : Int → Value} {tv fv : Value} {S : Ns} (h : Nw c w m V tv fv S) : c < w.heap.size := blk_lt h.c0
/-- It stays where none of its blocks changes. -/
theorem Nw.blk {c : Nat} {w w' : World} {m : Nat} {V : Int → Value} {tv fv : Value} {S : Ns} (h : Nw c w m V tv fv S) (hs : w.heap.size ≤ w'.heap.size) (hb : ∀ i, Fp c m V tv i ∨ fv.ownBlock = some i → w'.heap[i]? = w.heap[i]?) : Nw c w' m V tv fv S := by
  have hp := hb c (.inl (.inl rfl))
  have c_ := fun j => World.cell?_of_block (w := w) (w' := w') (a := ⟨c, j, none⟩) hp
  have f_ := fun j => World.frozen?_of_block (w := w) (w' := w') (a := ⟨c, j, none⟩) hp
  exact ⟨(c_ _).trans h.c0, (c_ _).trans h.c1, (c_ _).trans h.c2, (c_ _).trans h.c3, (f_ _).trans h.f3, (c_ _).trans h.c4, (f_ _).trans h.f4, h.sb.blk hs fun i hi => hb i (.inl hi), own_blk h.fo fun g e => hb g (.inr e), h.fn, h.ok⟩
theorem Nw.bl_lt {c : Nat} {w : World} {m : Nat} {V : Int → Value} {tv fv : Value} {S : Ns} (h : Nw c w m V tv fv S) (i : Nat) (hi : Fp c m V tv i ∨ fv.ownBlock = some i) : i < w.heap.size := by
  rcases hi with hi | hi
  · exact h.sb.fp_lt i hi
  · exact (h.fo.lt i hi).2
theorem Nw.next {c : Nat} {w w' : World} {m : Nat} {V : Int → Value} {tv fv : Value} {S : Ns} (h : Nw c w m V tv fv S) (hb : Below w.heap.size w w') : Nw c w' m V tv fv S := h.blk hb.size fun i hi => hb.block i (h.bl_lt i hi)
/-- The error of the first fault that has one. -/
def ckL (n : Int) : List Ft → Int
  | [] => 0
  | y :: ys => if ckI n y = 0 then ckL n ys else 4
theorem ckI_or (n : Int) (y : Ft) : ckI n y = 0 ∨ ckI n y = 4 := by
  unfold ckI ckP
  split
  · exact .inl rfl
  · exact .inr rfl
theorem ckI_ok {n : Int} {y : Ft} (h : ckI n y = 0) : FtOk n y := by
  unfold ckI ckP at h
  split at h
  · assumption
  · cases h
theorem ckL_ok {n : Int} : ∀ {l : List Ft}, ckL n l = 0 → ∀ y ∈ l, FtOk n y
  | [], _, y, hy => by cases hy
  | z :: l, h, y, hy => by
    unfold ckL at h
    split at h
    · rename_i hz
      rcases List.mem_cons.1 hy with rfl | hy
      · exact ckI_ok hz
      · exact ckL_ok h y hy
    · cases h
/-- The error of New. -/
def nwE (nodes lat : Int) (fs : List Ft) : Int := if ndB nodes = true ∧ tmB lat = true then (if 64 < fs.length then 3 else ckL nodes fs) else 4
def Ns.new (nodes lat : Int) (fs : List Ft) : Ns := ⟨nodes, lat, fs, 0, 0, Sq.nil⟩
/-- What New leaves. -/
def NwP (nodes lat : Int) (fs : List Ft) (w : World) (e : Ending) (w' : World) : Prop := Below w.heap.size w w' ∧ (nwE nodes lat fs ≠ 0 ∧ e = .returned (.tuple #[.pointer none, .int .i64 (nwE nodes lat fs)]) ∨
  nwE nodes lat fs = 0 ∧ ∃ c m fv, e = .returned (.tuple #[.pointer (some ⟨c, 0, none⟩), .int .i64 0]) ∧ Nw c w' m (fun _ => .slice none 0 0) (.slice none 0 0) fv (Ns.new nodes lat fs) ∧ ∀ i, Fp c m (fun _ => .slice none 0 0) (.slice none 0 0) i ∨ fv.ownBlock = some i → w.heap.size ≤ i)
set_option maxRecDepth 100000 in
set_option maxHeartbeats 8000000 in
theorem new_any (nodes lat : Int) (A : Option Addr) (cap n : Nat) (fs : List Ft) (w : World) (hn : fs.length = n) (hn9 : n ≤ 9223372036854775807) (h : FtS w A fs) :
    Calls Try.prog 8 #[.int .i64 nodes, .int .i64 lat, .slice A n cap] w (NwP nodes lat fs w) := by
  cases hnd : ndB nodes with
  | false =>
    have HR : Hid (nwE nodes lat fs = 4) := Lib.hid (if_neg (by rw [hnd]; exact fun h => absurd h.1 (by decide)))
    clear h hn
    go_enter Try.func8, Try.ntmps8
    go_wp2_with (first | (go_at_call 19; refine (node_any _ _).mono ?_; rintro e w9 ⟨rfl, rfl⟩) | go_in)
    go_ret2
    refine ⟨Below.refl _ _, .inl ?_⟩
    rw [HR.out]
    exact ⟨by decide, rfl⟩
  | true =>
    cases htm : tmB lat with
    | false =>
      have HR : Hid (nwE nodes lat fs = 4) := Lib.hid (if_neg (by rw [htm]; exact fun h => absurd h.2 (by decide)))
      clear h hn
      go_enter Try.func8, Try.ntmps8
      go_wp2_with (first | (go_at_call 19; refine (node_any _ _).mono ?_; rintro e w9 ⟨rfl, rfl⟩) | (go_at_call 20; refine (time_any _ _).mono ?_; rintro e w9 ⟨rfl, rfl⟩) | go_in)
      go_ret2
      refine ⟨Below.refl _ _, .inl ?_⟩
      rw [HR.out]
      exact ⟨by decide, rfl⟩
    | true =>
      have hEq : nwE nodes lat fs = if 64 < fs.length then 3 else ckL nodes fs := if_pos ⟨hnd, htm⟩
      by_cases hlong : 64 < n
      · have HR : Hid (nwE nodes lat fs = 3) := Lib.hid (by rw [hEq, if_pos (by omega)])
        have dl : decide ((64 : Int) < (n : Int)) = true := decide_eq_true (by omega)
        have dl2 : decide (64 < n) = true := decide_eq_true hlong
        clear h hn hEq hlong
        go_enter Try.func8, Try.ntmps8
        go_wp2_with (first | (go_at_call 19; refine (node_any _ _).mono ?_; rintro e w9 ⟨rfl, rfl⟩) | (go_at_call 20; refine (time_any _ _).mono ?_; rintro e w9 ⟨rfl, rfl⟩) | go_in)
        go_ret2
        refine ⟨Below.refl _ _, .inl ?_⟩
        rw [HR.out]
        exact ⟨by decide, rfl⟩
      · have HEQ : Hid (nwE nodes lat fs = ckL nodes fs) := Lib.hid (by rw [hEq, if_neg (by omega)])
        have dl : decide ((64 : Int) < (n : Int)) = false := decide_eq_false (by omega)
        have dl2 : decide (64 < n) = false := decide_eq_false hlong
        have hn64 : n ≤ 64 := by omega
        have HN := Lib.hid hn
        have HA := Lib.hid h
        have HND := Lib.hid hnd
        have HTM := Lib.hid htm
        clear h hn hEq hlong hn9
        go_enter Try.func8, Try.ntmps8
        go_wp2_with (first | (go_at_call 19; refine (node_any _ _).mono ?_; rintro e w9 ⟨rfl, rfl⟩) | (go_at_call 20; refine (time_any _ _).mono ?_; rintro e w9 ⟨rfl, rfl⟩) | go_in)
        go_loopg [24] n (fun kx s24 wr => ∃ i : Nat, s24 = .int .i64 (i : Int) ∧ i ≤ n ∧ n - i ≤ kx ∧ Hid (Below w.heap.size w wr) ∧ Hid (ckL nodes fs = ckL nodes (fs.drop i)))
        case atStart => exact ⟨0, rfl, Nat.zero_le _, Nat.le_refl _, Lib.hid (Below.refl _ _), Lib.hid rfl⟩
        case round =>
          obtain ⟨i, rfl, hin, hkx, HB, HD⟩ := hrel
          by_cases hi : i < n
          · have hi2 : i < fs.length := by rw [HN.out]; exact hi
            obtain ⟨gf, of, rfl, hgf, hcl⟩ : ∃ ab ao, A = some ⟨ab, ao, none⟩ ∧ ab < w.heap.size ∧ ∀ j v, (tc e6 fs)[j]? = some v → w.cell? ⟨ab, ao + j, none⟩ = some v := by
              rcases HA.out with h | h
              · rw [h] at hi2; cases hi2
              · exact h
            have hc := fun j v (hj : j < 6) hv => cell_next HB.out (hcl (i * 6 + j) v (by rw [tc_get e6_len fs i j hi2 hj]; exact hv))
            have q0 := hc 0 _ (by decide) rfl
            have q1 := hc 1 _ (by decide) rfl
            have q2 := hc 2 _ (by decide) rfl
            have q3 := hc 3 _ (by decide) rfl
            have q4 := hc 4 _ (by decide) rfl
            have q5 := hc 5 _ (by decide) rfl
            have ql : gf < wr.heap.size := blk_lt q0
            obtain ⟨y, hy⟩ : ∃ y, fs[i]'hi2 = y := ⟨_, rfl⟩
            have HY : Hid (fs.drop i = y :: fs.drop (i + 1)) := Lib.hid (by rw [← hy]; exact List.drop_eq_getElem_cons hi2)
            rw [hy] at q0 q1 q2 q3 q4 q5
            clear hc hy hi2 hcl
            simp only [Nat.add_zero, ← Nat.add_assoc] at q0 q1 q2 q3 q4 q5
            have B1 := Bx.new6 wr 41 (.int .i64 y.k) (.int .i64 y.a) (.int .i64 y.b) (.int .i64 y.f) (.int .i64 y.u) (.int .i64 y.x)
            have hab := ab1 wr (Obj.cells #[.int .i64 y.k, .int .i64 y.a, .int .i64 y.b, .int .i64 y.f, .int .i64 y.u, .int .i64 y.x] 41)
            go_upto_region 8 with (fail)
            generalize wr.alloc (Obj.cells #[.int .i64 y.k, .int .i64 y.a, .int .i64 y.b, .int .i64 y.f, .int .i64 y.u, .int .i64 y.x] 41) = w1 at *
            have cC := check_any nodes y w1
            obtain ⟨vb, hvb⟩ : ∃ vb, wr.heap.size = vb := ⟨_, rfl⟩
            rw [hvb] at B1 ⊢
            clear hvb
            have b0 := B1.c 0 rfl
            have b1 := B1.c 1 rfl
            have b2 := B1.c 2 rfl
            have b3 := B1.c 3 rfl
            have b4 := B1.c 4 rfl
            have b5 := B1.c 5 rfl
            have bl := B1.lt
            have HAB := Lib.hid hab
            clear q0 q1 q2 q3 q4 q5 ql hab
            have hi1 : i + 1 ≤ n := by omega
            rcases ckI_or nodes y with hck | hck
            · rw [hck] at cC
              have HD2 : Hid (ckL nodes fs = ckL nodes (fs.drop (i + 1))) := Lib.hid (by rw [HD.out, HY.out, ckL, if_pos hck])
              clear hck
              go_wp2_with (refine cC.mono ?_; rintro e w2 ⟨rfl, hb2⟩; have HW := Lib.hid (Below.next (Below.next HB.out HAB.out) hb2))
              go_roundg (n - (i + 1))
              case measure => omega
              case rel => exact ⟨i + 1, rfl, hi1, Nat.le_refl _, HW, HD2⟩
            · rw [hck] at cC
              have HE : Hid (nwE nodes lat fs = 4) := Lib.hid (by rw [HEQ.out, HD.out, HY.out, ckL, if_neg (by rw [hck]; decide)])
              clear hck
              go_wp2_with (refine cC.mono ?_; rintro e w2 ⟨rfl, hb2⟩; have HW := Lib.hid (Below.next (Below.next HB.out HAB.out) hb2))
              go_ret2
              refine ⟨HW.out, .inl ?_⟩
              rw [HE.out]
              exact ⟨by decide, rfl⟩
          · have di : decide (i < n) = false := decide_eq_false hi
            have hE0 : nwE nodes lat fs = 0 := by rw [HEQ.out, HD.out, List.drop_eq_nil_of_le (by rw [HN.out]; omega)]; rfl
            have HE := Lib.hid hE0
            have HOK : Hid (∀ y ∈ fs, FtOk nodes y) := Lib.hid (ckL_ok (by rw [← HEQ.out]; exact hE0))
            have cL := cloneY_any A cap n fs wr HN.out (by omega) (HA.out.next HB.out)
            have cS := newSchedule_any
            clear hi hE0
            go_wp2_with (first | (refine cL.mono ?_; rintro e w2 ⟨v', rfl, HO2, hb2⟩; obtain ⟨Af, nf, cf, rfl⟩ : ∃ Af nf cf, v' = .slice Af nf cf := (by obtain ⟨Af, cf, rfl, -⟩ := own_nil_or HO2; exact ⟨_, _, _, rfl⟩); have HO3 := Lib.hid HO2; have HB2 := Lib.hid (Below.next HB.out hb2); clear HO2 hb2) | (refine (cS _).mono ?_; rintro e w3 ⟨b, rfl, hM, hbw, hb3⟩; have HM := Lib.hid hM; have HBW := Lib.hid hbw; have HB3 := Lib.hid hb3; clear hM hbw hb3))
            go_ret2
            have B8 := Bx.newL w3 63 [.int .i64 nodes, .int .i64 lat, .slice Af nf cf, .int .i64 0, .int .i64 0, .map (some b), .slice none 0 0, .int .i64 0]
            have h3 := HB3.out
            have h4 := ab1 w3 (Obj.cells [.int .i64 nodes, .int .i64 lat, .slice Af nf cf, .int .i64 0, .int .i64 0, .map (some b), .slice none 0 0, .int .i64 0].toArray 63)
            have hM := HM.out
            have hfs := own_next HO3.out h3
            have hbl := hM.lt
            have hs3 := h3.size
            have hs2 := HB2.out.size
            have hsr := HB.out.size
            have hbw := HBW.out
            refine ⟨Below.next (Below.next HB2.out h3) h4, .inr ⟨HE.out, w3.heap.size, b, .slice Af nf cf, rfl, ⟨B8.c 0 rfl, B8.c 1 rfl, B8.c 2 rfl, B8.c 3 rfl, B8.f 3 rfl, B8.c 4 rfl, B8.f 4 rfl, ⟨B8.c 5 rfl, B8.f 5 rfl, B8.c 6 rfl, B8.f 6 rfl, B8.c 7 rfl, B8.f 7 rfl, hM.next h4, Ro.nil _, fun u => World.ownsRow_nil _ _ _ _, by omega, (fun e => by cases e), (fun e => by cases e), (fun g e => by cases e), (fun u e => by cases e), (fun u e => by cases e), (fun u g e => by cases e), (fun u u' g e => by cases e)⟩, own_mono (own_next hfs h4) (Nat.zero_le _), fun g e hg => ?_, ⟨of_decide_eq_true HND.out, of_decide_eq_true HTM.out, by show fs.length ≤ 64; rw [HN.out]; exact hn64, HOK.out, Okq.nil, by show 0 ≤ _; omega⟩⟩, fun k hk => ?_⟩⟩
            · have hg2 := HO3.out.lt g e
              rcases hg with hg | hg | hg | ⟨u, hg⟩
              · omega
              · omega
              · cases hg
              · cases hg
            · rcases hk with (hk | hk | hk | ⟨u, hk⟩) | hk
              · omega
              · omega
              · cases hk
              · cases hk
              · have := (HO3.out.lt k hk).1; omega
end Go.Proofs.Ytndidbanbklonaa

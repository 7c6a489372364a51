import Derived.Test.YtndidbanbklonaaBs
import Derived.Test.YtndidbanbklonaaPk
import Derived.Deep.Slices
import Derived.WideKeyArgs
import Derived.ChangeMaps5
/-
  What a row's proof needs: arguments that are slices of faults or of operations, or a description. No conditions.
-/
namespace Go.Proofs.Ytndidbanbklonaa
open Go.ChangeShapes Go.WideShapes Go.ChangeAt Go.RowKit
theorem trodAll_stays {H : Type} {enc : TypeId × Value → H} {P : Program} (hl : laidOutB P = true) {W W' : World} (hb : Below W.heap.size W W') :
    ∀ {ts : List TypeId} {vs : List Value} {ds : List (DataW H)} {ps : List MemPlace}, (ts.all fun t => P.readableRec t && decide (t < P.types.size)) = true → DataW.TrodAll enc P W 0 (fun _ => true) true ts vs ds ps → (∀ x ∈ ps, x.block < W.heap.size) →
      DataW.TrodAll enc P W' 0 (fun b => decide (b < W.heap.size)) true ts vs ds ps
  | [], [], [], _, _, h, _ => h
  | t :: ts, v :: vs, d :: ds, ps, hr, ⟨p, q, h, hs, e⟩, hlt => by
    simp only [List.all_cons, Bool.and_eq_true, decide_eq_true_eq] at hr
    have hp : ∀ x ∈ p, x.block < W.heap.size := fun x hx => hlt x (by rw [e]; simp [hx])
    have hq : ∀ x ∈ q, x.block < W.heap.size := fun x hx => hlt x (by rw [e]; simp [hx])
    exact ⟨p, q, Go.WideElems.Trod_stays hl hr.1.1 hr.1.2 h (fun x hx => hb.same (hp x hx)) (fun x hx => by simpa using hp x hx), trodAll_stays hl hb hr.2 hs hq, e⟩
set_option maxRecDepth 100000 in
theorem post_stays {H : Type} {enc : TypeId × Value → H} {f : Func} {s : ChangeSpec} {W W' : World} {args : Array Value} {ds : List (DataW H)} {before : List MemPlace} (hs : s.vars = []) (hrt : f.resultTypes = #[4])
    (hW : DataW.Whole enc Try.prog f.params.toList s.vars false W args.toList ds [] before) (hres : (s.fn H (ds ++ [])).results = [.lit (.bool true)]) (hvs : (s.fn H (ds ++ [])).vars = []) (hds : (s.fn H (ds ++ [])).args = ds)
    (hr : (f.params.toList.all fun t => Try.prog.readableRec t && decide (t < Try.prog.types.size)) = true) (hb : Below W.heap.size W W') :
    s.post enc Try.prog f false true false false W args (.bool true) W' := by
  have hlt : ∀ p ∈ before, p.block < W.heap.size := fun p hp => hW.lt p hp
  have hW2 := hW
  obtain ⟨p, q, hA, hV, e, _, _⟩ := hW2
  have hA2 : DataW.TrodAll enc Try.prog W 0 (fun _ => true) true f.params.toList args.toList ds p := hA
  refine post_true (pa := p) hs hrt hW hres hvs ?_ hb
  rw [hds]
  exact trodAll_stays (by kernel_rfl) hb hr hA2 fun x hx => hlt x (by rw [e]; simp [hx])
section
variable {H : Type} {enc : TypeId × Value → H}
theorem int_cell {W : World} {b : Nat} {sp : Nat → Bool} {hd : Bool} {k : Nat} {t : TypeId} {K : IntKind} {v : Value} {y : DataW H × List MemPlace} (ht : Try.prog.underlying t = some (.int K)) (h : DataW.trod enc Try.prog W b sp hd k t [v] = some y) : ∃ n, v = .int K n ∧ (Lit.int K n).wf = true := by
  obtain ⟨n, hc, _, hw⟩ := DataW.trod_int ht h
  injection hc with hc _
  exact ⟨n, hc, hw⟩
theorem str_cell {W : World} {b : Nat} {sp : Nat → Bool} {hd : Bool} {k : Nat} {t : TypeId} {v : Value} {y : DataW H × List MemPlace} (ht : Try.prog.underlying t = some .string) (h : DataW.trod enc Try.prog W b sp hd k t [v] = some y) : ∃ s, v = .string s ∧ s.size ≤ maxLen := by
  obtain ⟨s, hc, _, hs⟩ := DataW.trod_string ht h
  injection hc with hc _
  exact ⟨s, hc, hs⟩
theorem i64_wf {n : Int} (h : (Lit.int .i64 n).wf = true) : -9223372036854775808 ≤ n ∧ n ≤ 9223372036854775807 := by
  simp [Lit.wf, IntKind.min, IntKind.max, IntKind.signed, IntKind.bits] at h
  omega
set_option maxRecDepth 100000 in
/-- A cell that is a slice of structs: its elements' cells, each read by its field's type. -/
theorem open_elems2 {W : World} {k0 : Nat} {t e : TypeId} {z : Nat} {fs : Array Field} {v : Value} {y : DataW H × List MemPlace} (ht : Try.prog.underlying t = some (.slice e)) (he : Try.prog.underlying e = some (.struct fs)) (hz : Try.prog.cellsOf e = z)
    (hf : DataW.trod enc Try.prog W 0 (fun _ => true) true k0 t [v] = some y) :
    ∃ A n c, v = .slice A n c ∧ n ≤ 9223372036854775807 ∧ (n = 0 ∨ ∃ a : Addr, A = some a ∧ ∀ i, i < n → ∃ (cs : List Value) (ys : List (DataW H × List MemPlace)) (k : Nat), cs.length = z ∧ ys.length = fs.size ∧
      (∀ j, j < z → W.cell? ((a.add (i * z)).add j) = cs[j]?) ∧ ∀ (j : Nat) (f : Field), fs[j]? = some f → DataW.trod enc Try.prog W 0 (fun _ => true) true k f.type ((cs.drop f.offset).take (Try.prog.cellsOf f.type)) = ys[j]?) := by
  obtain ⟨d, p⟩ := y
  rcases Go.Deep.open_slice ht hf with ⟨hc, _⟩ | ⟨a, len, cap, m, k, D, Pl, hc, _, hl, hm, hmm, _, hi⟩
  · injection hc with hc
    subst hc
    exact ⟨none, 0, 0, rfl, by decide, .inl rfl⟩
  · injection hc with hc
    subst hc
    refine ⟨_, _, _, rfl, by simp only [maxLen] at hm; omega, .inr ⟨a, rfl, fun i hin => ?_⟩⟩
    obtain ⟨cs, hcells, htr⟩ := hi i (by simp at hmm; omega)
    rw [hz] at hcells
    obtain ⟨ys, k', _, _, hlen, hyl, hg⟩ := DataW.trod_struct he htr
    obtain ⟨_, hcl, hat⟩ := World.cells?_some hcells
    exact ⟨cs, ys, k', hcl, hyl, hat, hg⟩
set_option maxRecDepth 100000 in
theorem one_cell {W : World} {r : Reach} {b0 : Nat} {t e : TypeId} {v : Value} {d : DataW H} {p : List MemPlace} (ht : Try.prog.underlying t = some (.slice e)) (hv : Value.okWide Try.prog W r b0 t v) (h : DataW.Trod enc Try.prog W 0 (fun _ => true) true t v d p) : ∃ k, DataW.trod enc Try.prog W 0 (fun _ => true) true k t [v] = some (d, p) := by
  obtain ⟨A, n, c, rfl⟩ := okWide_slice ht hv
  exact h
/-- An operation of a script. -/
structure Opn where
  k : Int
  at_ : Int
  fr : Int
  to_ : Int
  dat : ByteArray
/-- The operations of the slice at A. -/
def Ops (w : World) (A : Option Addr) (n : Nat) (q : Nat → Opn) : Prop := n = 0 ∨ ∃ ab ao : Nat, A = some ⟨ab, ao, none⟩ ∧ ab < w.heap.size ∧ ∀ i, i < n → w.cell? ⟨ab, ao + i * 5, none⟩ = some (.int .u8 (q i).k) ∧ w.cell? ⟨ab, ao + i * 5 + 1, none⟩ = some (.int .i64 (q i).at_) ∧ w.cell? ⟨ab, ao + i * 5 + 2, none⟩ = some (.int .i64 (q i).fr) ∧ w.cell? ⟨ab, ao + i * 5 + 3, none⟩ = some (.int .i64 (q i).to_) ∧ w.cell? ⟨ab, ao + i * 5 + 4, none⟩ = some (.string (q i).dat) ∧ (q i).dat.size ≤ maxLen ∧ (0 ≤ (q i).k ∧ (q i).k ≤ 255) ∧ (-9223372036854775808 ≤ (q i).at_ ∧ (q i).at_ ≤ 9223372036854775807)
theorem u8_wf {n : Int} (h : (Lit.int .u8 n).wf = true) : 0 ≤ n ∧ n ≤ 255 := by
  simp [Lit.wf, IntKind.min, IntKind.max, IntKind.signed, IntKind.bits] at h
  omega
set_option maxRecDepth 100000 in
set_option maxHeartbeats 1000000 in
theorem open_ops2 {W : World} {k0 : Nat} {v : Value} {y : DataW H × List MemPlace} (h : DataW.trod enc Try.prog W 0 (fun _ => true) true k0 22 [v] = some y) :
    ∃ A n c q, v = .slice A n c ∧ n ≤ 9223372036854775807 ∧ Ops W A n q := by
  obtain ⟨A, n, c, hv, hn, hA⟩ := open_elems2 (z := 5) Try.underlying22 Try.underlying48 (by kernel_rfl) h
  rcases hA with h0 | ⟨a, hA, hel⟩
  · exact ⟨A, n, c, fun _ => ⟨0, 0, 0, 0, ByteArray.empty⟩, hv, hn, .inl h0⟩
  · rcases Nat.eq_zero_or_pos n with h0 | h0
    · exact ⟨A, n, c, fun _ => ⟨0, 0, 0, 0, ByteArray.empty⟩, hv, hn, .inl h0⟩
    have key : ∀ i, ∃ x : Opn, i < n → W.cell? ((a.add (i * 5)).add 0) = some (.int .u8 x.k) ∧ W.cell? ((a.add (i * 5)).add 1) = some (.int .i64 x.at_) ∧ W.cell? ((a.add (i * 5)).add 2) = some (.int .i64 x.fr) ∧ W.cell? ((a.add (i * 5)).add 3) = some (.int .i64 x.to_) ∧ W.cell? ((a.add (i * 5)).add 4) = some (.string x.dat) ∧ x.dat.size ≤ maxLen ∧ (0 ≤ x.k ∧ x.k ≤ 255) ∧ (-9223372036854775808 ≤ x.at_ ∧ x.at_ ≤ 9223372036854775807) := by
      intro i
      by_cases hi : i < n
      · obtain ⟨cs, ys, k, hcl, hyl, hat, hg⟩ := hel i hi
        match cs, hcl with
        | [c0, c1, c2, c3, c4], _ =>
          have h0 : DataW.trod enc Try.prog W 0 (fun _ => true) true k 5 (([c0, c1, c2, c3, c4].drop 0).take (Try.prog.cellsOf 5)) = ys[0]? := hg 0 _ rfl
          have h1 : DataW.trod enc Try.prog W 0 (fun _ => true) true k 3 (([c0, c1, c2, c3, c4].drop 1).take (Try.prog.cellsOf 3)) = ys[1]? := hg 1 _ rfl
          have h2 : DataW.trod enc Try.prog W 0 (fun _ => true) true k 3 (([c0, c1, c2, c3, c4].drop 2).take (Try.prog.cellsOf 3)) = ys[2]? := hg 2 _ rfl
          have h3 : DataW.trod enc Try.prog W 0 (fun _ => true) true k 3 (([c0, c1, c2, c3, c4].drop 3).take (Try.prog.cellsOf 3)) = ys[3]? := hg 3 _ rfl
          have h4 : DataW.trod enc Try.prog W 0 (fun _ => true) true k 9 (([c0, c1, c2, c3, c4].drop 4).take (Try.prog.cellsOf 9)) = ys[4]? := hg 4 _ rfl
          have eint : Try.prog.cellsOf 3 = 1 := by kernel_rfl
          have estring : Try.prog.cellsOf 9 = 1 := by kernel_rfl
          have euint8 : Try.prog.cellsOf 5 = 1 := by kernel_rfl
          rw [euint8] at h0
          have h0 : DataW.trod enc Try.prog W 0 (fun _ => true) true k 5 [c0] = ys[0]? := h0
          rw [eint] at h1
          have h1 : DataW.trod enc Try.prog W 0 (fun _ => true) true k 3 [c1] = ys[1]? := h1
          rw [eint] at h2
          have h2 : DataW.trod enc Try.prog W 0 (fun _ => true) true k 3 [c2] = ys[2]? := h2
          rw [eint] at h3
          have h3 : DataW.trod enc Try.prog W 0 (fun _ => true) true k 3 [c3] = ys[3]? := h3
          rw [estring] at h4
          have h4 : DataW.trod enc Try.prog W 0 (fun _ => true) true k 9 [c4] = ys[4]? := h4
          have l3 : ys.length = 5 := hyl
          rw [List.getElem?_eq_getElem (by omega)] at h0 h1 h2 h3 h4
          obtain ⟨x0, rfl, s0⟩ := int_cell Try.underlying5 h0
          obtain ⟨x1, rfl, s1⟩ := int_cell Try.underlying3 h1
          obtain ⟨x2, rfl, s2⟩ := int_cell Try.underlying3 h2
          obtain ⟨x3, rfl, s3⟩ := int_cell Try.underlying3 h3
          obtain ⟨x4, rfl, s4⟩ := str_cell Try.underlying9 h4
          exact ⟨⟨x0, x1, x2, x3, x4⟩, fun _ => ⟨hat 0 (by decide), hat 1 (by decide), hat 2 (by decide), hat 3 (by decide), hat 4 (by decide), s4, u8_wf s0, i64_wf s1⟩⟩
      · exact ⟨⟨0, 0, 0, 0, ByteArray.empty⟩, fun h => absurd h hi⟩
    obtain ⟨q, hq⟩ := Classical.skolem.1 key
    subst hA
    have hs := spot_none0 (hq 0 h0).1
    obtain ⟨ab, ao, sp⟩ := a
    have hs : sp = none := by simpa [Addr.add] using hs
    subst hs
    have hb := blk_lt (hq 0 h0).1
    rw [Addr.add_lit, Addr.add_lit] at hb
    exact ⟨_, n, c, q, hv, hn, .inr ⟨ab, ao, rfl, hb, fun i hi => by have := hq i hi; rw [Addr.add_lit, Addr.add_lit, Addr.add_lit, Addr.add_lit, Addr.add_lit, Addr.add_lit, Nat.add_zero] at this; exact this⟩⟩
theorem FtS.of {w : World} {ab ao : Nat} (l : List Ft) (hb : ab < w.heap.size) (h : ∀ i (hi : i < l.length), ∀ j v, (e6 (l[i]'hi))[j]? = some v → w.cell? ⟨ab, ao + (i * 6 + j), none⟩ = some v) : FtS w (some ⟨ab, ao, none⟩) l := by
  refine .inr ⟨ab, ao, rfl, hb, fun j v hv => ?_⟩
  have hj := (List.getElem?_eq_some_iff.1 hv).1
  rw [tc_len e6_len] at hj
  have hi : j / 6 < l.length := by omega
  have e : j = j / 6 * 6 + j % 6 := by omega
  rw [e] at hv ⊢
  rw [tc_get e6_len l _ _ hi (by omega)] at hv
  exact h _ hi _ v hv
set_option maxRecDepth 100000 in
set_option maxHeartbeats 1000000 in
theorem open_fts2 {W : World} {k0 : Nat} {v : Value} {y : DataW H × List MemPlace} (h : DataW.trod enc Try.prog W 0 (fun _ => true) true k0 36 [v] = some y) :
    ∃ A c l, v = .slice A l.length c ∧ l.length ≤ 9223372036854775807 ∧ FtS W A l := by
  obtain ⟨A, n, c, hv, hn, hA⟩ := open_elems2 (z := 6) Try.underlying36 Try.underlying41 (by kernel_rfl) h
  rcases hA with h0 | ⟨a, hA, hel⟩
  · subst h0; exact ⟨A, c, [], hv, hn, .inl rfl⟩
  · rcases Nat.eq_zero_or_pos n with h0 | h0
    · subst h0; exact ⟨A, c, [], hv, hn, .inl rfl⟩
    have key : ∀ i, ∃ y : Ft, i < n → ∀ j v, (e6 y)[j]? = some v → W.cell? ((a.add (i * 6)).add j) = some v := by
      intro i
      by_cases hi : i < n
      · obtain ⟨cs, ys, k, hcl, hyl, hat, hg⟩ := hel i hi
        match cs, hcl with
        | [c0, c1, c2, c3, c4, c5], _ =>
          have h0 : DataW.trod enc Try.prog W 0 (fun _ => true) true k 3 (([c0, c1, c2, c3, c4, c5].drop 0).take (Try.prog.cellsOf 3)) = ys[0]? := hg 0 _ rfl
          have h1 : DataW.trod enc Try.prog W 0 (fun _ => true) true k 3 (([c0, c1, c2, c3, c4, c5].drop 1).take (Try.prog.cellsOf 3)) = ys[1]? := hg 1 _ rfl
          have h2 : DataW.trod enc Try.prog W 0 (fun _ => true) true k 3 (([c0, c1, c2, c3, c4, c5].drop 2).take (Try.prog.cellsOf 3)) = ys[2]? := hg 2 _ rfl
          have h3 : DataW.trod enc Try.prog W 0 (fun _ => true) true k 3 (([c0, c1, c2, c3, c4, c5].drop 3).take (Try.prog.cellsOf 3)) = ys[3]? := hg 3 _ rfl
          have h4 : DataW.trod enc Try.prog W 0 (fun _ => true) true k 3 (([c0, c1, c2, c3, c4, c5].drop 4).take (Try.prog.cellsOf 3)) = ys[4]? := hg 4 _ rfl
          have h5 : DataW.trod enc Try.prog W 0 (fun _ => true) true k 3 (([c0, c1, c2, c3, c4, c5].drop 5).take (Try.prog.cellsOf 3)) = ys[5]? := hg 5 _ rfl
          have eint : Try.prog.cellsOf 3 = 1 := by kernel_rfl
          rw [eint] at h0
          have h0 : DataW.trod enc Try.prog W 0 (fun _ => true) true k 3 [c0] = ys[0]? := h0
          rw [eint] at h1
          have h1 : DataW.trod enc Try.prog W 0 (fun _ => true) true k 3 [c1] = ys[1]? := h1
          rw [eint] at h2
          have h2 : DataW.trod enc Try.prog W 0 (fun _ => true) true k 3 [c2] = ys[2]? := h2
          rw [eint] at h3
          have h3 : DataW.trod enc Try.prog W 0 (fun _ => true) true k 3 [c3] = ys[3]? := h3
          rw [eint] at h4
          have h4 : DataW.trod enc Try.prog W 0 (fun _ => true) true k 3 [c4] = ys[4]? := h4
          rw [eint] at h5
          have h5 : DataW.trod enc Try.prog W 0 (fun _ => true) true k 3 [c5] = ys[5]? := h5
          have l3 : ys.length = 6 := hyl
          rw [List.getElem?_eq_getElem (by omega)] at h0 h1 h2 h3 h4 h5
          obtain ⟨x0, rfl, s0⟩ := int_cell Try.underlying3 h0
          obtain ⟨x1, rfl, s1⟩ := int_cell Try.underlying3 h1
          obtain ⟨x2, rfl, s2⟩ := int_cell Try.underlying3 h2
          obtain ⟨x3, rfl, s3⟩ := int_cell Try.underlying3 h3
          obtain ⟨x4, rfl, s4⟩ := int_cell Try.underlying3 h4
          obtain ⟨x5, rfl, s5⟩ := int_cell Try.underlying3 h5
          exact ⟨⟨x0, x1, x2, x3, x4, x5⟩, fun _ j v hv => by rw [hat j (List.getElem?_eq_some_iff.1 hv).1]; exact hv⟩
      · exact ⟨⟨0, 0, 0, 0, 0, 0⟩, fun h => absurd h hi⟩
    obtain ⟨q, hq⟩ := Classical.skolem.1 key
    subst hA
    have hs := spot_none0 (hq 0 h0 0 _ rfl)
    obtain ⟨ab, ao, sp⟩ := a
    have hs : sp = none := by simpa [Addr.add] using hs
    subst hs
    have hb := blk_lt (hq 0 h0 0 _ rfl)
    rw [Addr.add_lit, Addr.add_lit] at hb
    refine ⟨_, c, (List.range n).map q, by rw [List.length_map, List.length_range]; exact hv, by rw [List.length_map, List.length_range]; exact hn, FtS.of _ hb fun i hi j v hv => ?_⟩
    have hi2 : i < n := by simpa using hi
    rw [List.getElem_map, List.getElem_range] at hv
    have := hq i hi2 j v hv
    rw [Addr.add_lit, Addr.add_lit] at this
    rw [← Nat.add_assoc]; exact this
set_option maxRecDepth 100000 in
/-- A description. -/
theorem open_setup {W : World} {r : Reach} {b0 : Nat} {v : Value} {d : DataW H} {p : List MemPlace} (hv : Value.okWide Try.prog W r b0 38 v) (h : DataW.Trod enc Try.prog W 0 (fun _ => true) true 38 v d p) :
    ∃ (nd lt : Int) (A : Option Addr) (cf : Nat) (l : List Ft) (A2 : Option Addr) (n2 c2 : Nat) (q : Nat → Opn), v = .agg #[.int .i64 nd, .int .i64 lt, .slice A l.length cf, .slice A2 n2 c2] ∧ l.length ≤ 9223372036854775807 ∧ FtS W A l ∧ n2 ≤ 9223372036854775807 ∧ Ops W A2 n2 q ∧ (-9223372036854775808 ≤ lt ∧ lt ≤ 9223372036854775807) := by
  obtain ⟨cs, rfl, hsz, hrow⟩ : ∃ cs, v = .agg cs ∧ cs.size = Try.prog.cellsOf 38 ∧ Row.okWide Try.prog W r b0 38 cs := by
    simpa [Value.okWide, Try.underlying38] using hv
  obtain ⟨fuel, hf⟩ := h
  obtain ⟨l⟩ := cs
  have hf : DataW.trod enc Try.prog W 0 (fun _ => true) true fuel 38 l = some (d, p) := hf
  obtain ⟨xs, n, rfl, -, hcl, hxl, hg⟩ := DataW.trod_struct Try.underlying38 hf
  have ez : Try.prog.cellsOf 38 = 4 := by kernel_rfl
  rw [ez] at hcl
  match l, hcl with
  | [c0, c1, c2, c3], _ =>
    have h0 : DataW.trod enc Try.prog W 0 (fun _ => true) true n 3 (([c0, c1, c2, c3].drop 0).take (Try.prog.cellsOf 3)) = xs[0]? := hg 0 _ rfl
    have h1 : DataW.trod enc Try.prog W 0 (fun _ => true) true n 3 (([c0, c1, c2, c3].drop 1).take (Try.prog.cellsOf 3)) = xs[1]? := hg 1 _ rfl
    have h2 : DataW.trod enc Try.prog W 0 (fun _ => true) true n 36 (([c0, c1, c2, c3].drop 2).take (Try.prog.cellsOf 36)) = xs[2]? := hg 2 _ rfl
    have h3 : DataW.trod enc Try.prog W 0 (fun _ => true) true n 22 (([c0, c1, c2, c3].drop 3).take (Try.prog.cellsOf 22)) = xs[3]? := hg 3 _ rfl
    rw [show Try.prog.cellsOf 3 = 1 by kernel_rfl] at h0 h1
    rw [show Try.prog.cellsOf 36 = 1 by kernel_rfl] at h2
    rw [show Try.prog.cellsOf 22 = 1 by kernel_rfl] at h3
    have h0 : DataW.trod enc Try.prog W 0 (fun _ => true) true n 3 [c0] = xs[0]? := h0
    have h1 : DataW.trod enc Try.prog W 0 (fun _ => true) true n 3 [c1] = xs[1]? := h1
    have h2 : DataW.trod enc Try.prog W 0 (fun _ => true) true n 36 [c2] = xs[2]? := h2
    have h3 : DataW.trod enc Try.prog W 0 (fun _ => true) true n 22 [c3] = xs[3]? := h3
    have l4 : xs.length = 4 := hxl
    rw [List.getElem?_eq_getElem (by omega)] at h0 h1 h2 h3
    obtain ⟨nd, rfl, -⟩ := int_cell Try.underlying3 h0
    obtain ⟨lt, rfl, wl⟩ := int_cell Try.underlying3 h1
    obtain ⟨A, cf, l, rfl, hl, hF⟩ := open_fts2 h2
    obtain ⟨A2, n2, c2', q, rfl, hn2, hO⟩ := open_ops2 h3
    exact ⟨nd, lt, A, cf, l, A2, n2, c2', q, rfl, hl, hF, hn2, hO, i64_wf wl⟩
set_option maxRecDepth 100000 in
theorem open_ops {W : World} {r : Reach} {b0 : Nat} {v : Value} {d : DataW H} {p : List MemPlace} (hv : Value.okWide Try.prog W r b0 22 v) (h : DataW.Trod enc Try.prog W 0 (fun _ => true) true 22 v d p) :
    ∃ A n c q, v = .slice A n c ∧ n ≤ 9223372036854775807 ∧ Ops W A n q := by
  obtain ⟨k, hk⟩ := one_cell Try.underlying22 hv h
  exact open_ops2 hk
end
end Go.Proofs.Ytndidbanbklonaa

import Derived.Test.YtiooilkbbfflaaaHa
import Derived.Test.YtiooilkbbfflaaaPk
import Derived.Deep.Slices
import Derived.WideKeyArgs
import Derived.ChangeMaps5
/-
  What a row's proof needs where an argument is a slice of structs, of small numbers or of truth values: its elements' cells, and that arguments read behind the call as they did. No conditions.
-/
namespace Go.Proofs.Ytiooilkbbfflaaa
open Go.ChangeShapes Go.WideShapes Go.ChangeAt Go.RowKit
theorem trodAll_stays {H : Type} {enc : TypeId × Value → H} {P : Program} (hl : laidOutB P = true) {W W' : World} (hb : Below W.heap.size W W') :
    ∀ {ts : List TypeId} {vs : List Value} {ds : List (DataW H)} {ps : List MemPlace}, (ts.all fun t => P.readableRec t && decide (t < P.types.size)) = true → DataW.TrodAll enc P W 0 (fun _ => true) true ts vs ds ps → (∀ x ∈ ps, x.block < W.heap.size) →
      DataW.TrodAll enc P W' 0 (fun b => decide (b < W.heap.size)) true ts vs ds ps
  | [], [], [], _, _, h, _ => h
  | t :: ts, v :: vs, d :: ds, ps, hr, ⟨p, q, h, hs, e⟩, hlt => by
    simp only [List.all_cons, Bool.and_eq_true, decide_eq_true_eq] at hr
    have hp : ∀ x ∈ p, x.block < W.heap.size := fun x hx => hlt x (by rw [e]; simp [hx])
    have hq : ∀ x ∈ q, x.block < W.heap.size := fun x hx => hlt x (by rw [e]; simp [hx])
    exact ⟨p, q, Go.WideElems.Trod_stays hl hr.1.1 hr.1.2 h (fun x hx => hb.same (hp x hx)) (fun x hx => by simpa using hp x hx), trodAll_stays hl hb hr.2 hs hq, e⟩
set_option maxRecDepth 100000 in
theorem post_stays {H : Type} {enc : TypeId × Value → H} {f : Func} {s : ChangeSpec} {W W' : World} {args : Array Value} {ds : List (DataW H)} {before : List MemPlace} (hs : s.vars = []) (hrt : f.resultTypes = #[4])
    (hW : DataW.Whole enc Try.prog f.params.toList s.vars false W args.toList ds [] before) (hres : (s.fn H (ds ++ [])).results = [.lit (.bool true)]) (hvs : (s.fn H (ds ++ [])).vars = []) (hds : (s.fn H (ds ++ [])).args = ds)
    (hr : (f.params.toList.all fun t => Try.prog.readableRec t && decide (t < Try.prog.types.size)) = true) (hb : Below W.heap.size W W') :
    s.post enc Try.prog f false true false false W args (.bool true) W' := by
  have hlt : ∀ p ∈ before, p.block < W.heap.size := fun p hp => hW.lt p hp
  have hW2 := hW
  obtain ⟨p, q, hA, hV, e, _, _⟩ := hW2
  have hA2 : DataW.TrodAll enc Try.prog W 0 (fun _ => true) true f.params.toList args.toList ds p := hA
  refine post_true (pa := p) hs hrt hW hres hvs ?_ hb
  rw [hds]
  exact trodAll_stays (by kernel_rfl) hb hr hA2 fun x hx => hlt x (by rw [e]; simp [hx])
section
variable {H : Type} {enc : TypeId × Value → H}
theorem int_cell {W : World} {b : Nat} {sp : Nat → Bool} {hd : Bool} {k : Nat} {t : TypeId} {K : IntKind} {v : Value} {y : DataW H × List MemPlace} (ht : Try.prog.underlying t = some (.int K)) (h : DataW.trod enc Try.prog W b sp hd k t [v] = some y) : ∃ n, v = .int K n ∧ (Lit.int K n).wf = true := by
  obtain ⟨n, hc, _, hw⟩ := DataW.trod_int ht h
  injection hc with hc _
  exact ⟨n, hc, hw⟩
theorem str_cell {W : World} {b : Nat} {sp : Nat → Bool} {hd : Bool} {k : Nat} {t : TypeId} {v : Value} {y : DataW H × List MemPlace} (ht : Try.prog.underlying t = some .string) (h : DataW.trod enc Try.prog W b sp hd k t [v] = some y) : ∃ s, v = .string s ∧ s.size ≤ maxLen := by
  obtain ⟨s, hc, _, hs⟩ := DataW.trod_string ht h
  injection hc with hc _
  exact ⟨s, hc, hs⟩
theorem i64_wf {n : Int} (h : (Lit.int .i64 n).wf = true) : -9223372036854775808 ≤ n ∧ n ≤ 9223372036854775807 := by
  simp [Lit.wf, IntKind.min, IntKind.max, IntKind.signed, IntKind.bits] at h
  omega
theorem u64_wf {n : Int} (h : (Lit.int .u64 n).wf = true) : 0 ≤ n ∧ n ≤ 18446744073709551615 := by
  simp [Lit.wf, IntKind.min, IntKind.max, IntKind.signed, IntKind.bits] at h
  omega
set_option maxRecDepth 100000 in
/-- An argument that is a slice of structs: its elements' cells, each read by its field's type. -/
theorem open_elems {W : World} {r : Reach} {b0 : Nat} {t e : TypeId} {z : Nat} {fs : Array Field} {v : Value} {d : DataW H} {p : List MemPlace} (ht : Try.prog.underlying t = some (.slice e)) (he : Try.prog.underlying e = some (.struct fs)) (hz : Try.prog.cellsOf e = z)
    (hv : Value.okWide Try.prog W r b0 t v) (h : DataW.Trod enc Try.prog W 0 (fun _ => true) true t v d p) :
    ∃ A n c, v = .slice A n c ∧ n ≤ 9223372036854775807 ∧ (n = 0 ∨ ∃ a : Addr, A = some a ∧ ∀ i, i < n → ∃ (cs : List Value) (ys : List (DataW H × List MemPlace)) (k : Nat), cs.length = z ∧ ys.length = fs.size ∧
      (∀ j, j < z → W.cell? ((a.add (i * z)).add j) = cs[j]?) ∧ ∀ (j : Nat) (f : Field), fs[j]? = some f → DataW.trod enc Try.prog W 0 (fun _ => true) true k f.type ((cs.drop f.offset).take (Try.prog.cellsOf f.type)) = ys[j]?) := by
  obtain ⟨A, n, c, rfl⟩ := okWide_slice ht hv
  obtain ⟨fuel, hf⟩ := h
  rcases Go.Deep.open_slice ht hf with ⟨hc, _⟩ | ⟨a, len, cap, m, k, D, Pl, hc, _, hl, hm, hmm, _, hi⟩
  · simp [Value.cells] at hc
    obtain ⟨rfl, rfl, rfl⟩ := hc
    exact ⟨none, 0, 0, rfl, by decide, .inl rfl⟩
  · simp [Value.cells] at hc
    obtain ⟨rfl, rfl, rfl⟩ := hc
    refine ⟨_, _, _, rfl, by simp only [maxLen] at hm; omega, .inr ⟨a, rfl, fun i hin => ?_⟩⟩
    obtain ⟨cs, hcells, htr⟩ := hi i (by simp at hmm; omega)
    rw [hz] at hcells
    obtain ⟨ys, k', _, _, hlen, hyl, hg⟩ := DataW.trod_struct he htr
    obtain ⟨_, hcl, hat⟩ := World.cells?_some hcells
    exact ⟨cs, ys, k', hcl, hyl, hat, hg⟩
theorem u16_wf {n : Int} (h : (Lit.int .u16 n).wf = true) : 0 ≤ n ∧ n ≤ 65535 := by
  simp [Lit.wf, IntKind.min, IntKind.max, IntKind.signed, IntKind.bits] at h
  omega
theorem add_block' (a : Addr) (i : Nat) : (a.add i).block = a.block := blk_add a i
/-- The calls of the slice at A: kind and two numbers each. -/
def Cls (w : World) (A : Option Addr) (n : Nat) (q : Nat → Int × Int × Int) : Prop := n = 0 ∨ ∃ ab ao : Nat, A = some ⟨ab, ao, none⟩ ∧ ab < w.heap.size ∧ ∀ i, i < n → w.cell? ⟨ab, ao + i * 3, none⟩ = some (.int .i64 (q i).1) ∧ w.cell? ⟨ab, ao + i * 3 + 1, none⟩ = some (.int .i64 (q i).2.1) ∧ w.cell? ⟨ab, ao + i * 3 + 2, none⟩ = some (.int .i64 (q i).2.2)
set_option maxRecDepth 100000 in
theorem open_cls {W : World} {r : Reach} {b0 : Nat} {v : Value} {d : DataW H} {p : List MemPlace} (hv : Value.okWide Try.prog W r b0 22 v) (h : DataW.Trod enc Try.prog W 0 (fun _ => true) true 22 v d p) :
    ∃ A n c q, v = .slice A n c ∧ n ≤ 9223372036854775807 ∧ Cls W A n q := by
  obtain ⟨A, n, c, hv, hn, hA⟩ := open_elems (z := 3) Try.underlying22 Try.underlying32 (by kernel_rfl) hv h
  rcases hA with h0 | ⟨a, hA, hel⟩
  · exact ⟨A, n, c, fun _ => (0, 0, 0), hv, hn, .inl h0⟩
  · rcases Nat.eq_zero_or_pos n with h0 | h0
    · exact ⟨A, n, c, fun _ => (0, 0, 0), hv, hn, .inl h0⟩
    have key : ∀ i, ∃ x : Int × Int × Int, i < n → W.cell? ((a.add (i * 3)).add 0) = some (.int .i64 x.1) ∧ W.cell? ((a.add (i * 3)).add 1) = some (.int .i64 x.2.1) ∧ W.cell? ((a.add (i * 3)).add 2) = some (.int .i64 x.2.2) := by
      intro i
      by_cases hi : i < n
      · obtain ⟨cs, ys, k, hcl, hyl, hat, hg⟩ := hel i hi
        match cs, hcl with
        | [c0, c1, c2], _ =>
          have e3 : Try.prog.cellsOf 3 = 1 := by kernel_rfl
          have h0 : DataW.trod enc Try.prog W 0 (fun _ => true) true k 3 (([c0, c1, c2].drop 0).take (Try.prog.cellsOf 3)) = ys[0]? := hg 0 _ rfl
          have h1 : DataW.trod enc Try.prog W 0 (fun _ => true) true k 3 (([c0, c1, c2].drop 1).take (Try.prog.cellsOf 3)) = ys[1]? := hg 1 _ rfl
          have h2 : DataW.trod enc Try.prog W 0 (fun _ => true) true k 3 (([c0, c1, c2].drop 2).take (Try.prog.cellsOf 3)) = ys[2]? := hg 2 _ rfl
          rw [e3] at h0 h1 h2
          have h0 : DataW.trod enc Try.prog W 0 (fun _ => true) true k 3 [c0] = ys[0]? := h0
          have h1 : DataW.trod enc Try.prog W 0 (fun _ => true) true k 3 [c1] = ys[1]? := h1
          have h2 : DataW.trod enc Try.prog W 0 (fun _ => true) true k 3 [c2] = ys[2]? := h2
          have l3 : ys.length = 3 := hyl
          rw [List.getElem?_eq_getElem (by omega)] at h0 h1 h2
          obtain ⟨K, rfl, _⟩ := int_cell Try.underlying3 h0
          obtain ⟨M, rfl, _⟩ := int_cell Try.underlying3 h1
          obtain ⟨P, rfl, _⟩ := int_cell Try.underlying3 h2
          exact ⟨(K, M, P), fun _ => ⟨hat 0 (by decide), hat 1 (by decide), hat 2 (by decide)⟩⟩
      · exact ⟨(0, 0, 0), fun h => absurd h hi⟩
    obtain ⟨q, hq⟩ := Classical.skolem.1 key
    subst hA
    have hs := spot_none0 (hq 0 h0).1
    obtain ⟨ab, ao, sp⟩ := a
    have hs : sp = none := by simpa [Addr.add] using hs
    subst hs
    have hb := blk_lt (hq 0 h0).1
    rw [Addr.add_lit, Addr.add_lit] at hb
    exact ⟨_, n, c, q, hv, hn, .inr ⟨ab, ao, rfl, hb, fun i hi => by have := hq i hi; rw [Addr.add_lit, Addr.add_lit, Addr.add_lit, Addr.add_lit, Nat.add_zero] at this; exact this⟩⟩
/-- The elements of the slice at A. -/
def U16s (w : World) (A : Option Addr) (n : Nat) (q : Nat → Nat) : Prop := n = 0 ∨ ∃ ab ao : Nat, A = some ⟨ab, ao, none⟩ ∧ ab < w.heap.size ∧ ∀ i, i < n → q i < 65536 ∧ w.cell? ⟨ab, ao + i, none⟩ = some (.int .u16 (q i : Int))
set_option maxRecDepth 100000 in
theorem open_u16s {W : World} {r : Reach} {b0 : Nat} {v : Value} {d : DataW H} {p : List MemPlace} (hv : Value.okWide Try.prog W r b0 38 v) (h : DataW.Trod enc Try.prog W 0 (fun _ => true) true 38 v d p) :
    ∃ A n c q, v = .slice A n c ∧ n ≤ 9223372036854775807 ∧ U16s W A n q := by
  obtain ⟨A, n, c, rfl⟩ := okWide_slice Try.underlying38 hv
  obtain ⟨fuel, hf⟩ := h
  rcases Go.Deep.open_slice Try.underlying38 hf with ⟨hc, _⟩ | ⟨a, len, cap, m, k, D, Pl, hc, _, hl, hm, hmm, _, hi⟩
  · simp [Value.cells] at hc
    obtain ⟨rfl, rfl, rfl⟩ := hc
    exact ⟨none, 0, 0, fun _ => 0, rfl, by decide, .inl rfl⟩
  · simp [Value.cells] at hc
    obtain ⟨rfl, rfl, rfl⟩ := hc
    have e1 : Try.prog.cellsOf 40 = 1 := by kernel_rfl
    have key : ∀ i, ∃ x : Nat, i < n → x < 65536 ∧ W.cell? (a.add i) = some (.int .u16 (x : Int)) := by
      intro i
      by_cases hin : i < n
      · obtain ⟨cs, hcells, htr⟩ := hi i (by simp at hmm; omega)
        rw [e1, Nat.mul_one] at hcells
        obtain ⟨_, hcl, hat⟩ := World.cells?_some hcells
        match cs, hcl with
        | [c0], _ =>
          obtain ⟨K, rfl, wk⟩ := int_cell Try.underlying40 htr
          have bk := u16_wf wk
          refine ⟨K.toNat, fun _ => ⟨by omega, ?_⟩⟩
          have h0 : W.cell? ((a.add i).add 0) = some (.int .u16 K) := hat 0 (by decide)
          rw [Int.toNat_of_nonneg bk.1]
          rw [Addr.add_zero'] at h0
          exact h0
      · exact ⟨0, fun h => absurd h hin⟩
    obtain ⟨q, hq⟩ := Classical.skolem.1 key
    refine ⟨_, _, _, q, rfl, by simp only [maxLen] at hm; omega, ?_⟩
    rcases Nat.eq_zero_or_pos n with h0 | h0
    · exact .inl h0
    have hs := spot_none0 (hq 0 h0).2
    obtain ⟨ab, ao, sp⟩ := a
    have hs : sp = none := by simpa [Addr.add] using hs
    subst hs
    have hb := blk_lt (hq 0 h0).2
    rw [Addr.add_lit] at hb
    exact .inr ⟨ab, ao, rfl, hb, fun i hi => by have := hq i hi; rw [Addr.add_lit] at this; exact this⟩
/-- The elements of the slice at A. -/
def Bls (w : World) (A : Option Addr) (n : Nat) (q : Nat → Bool) : Prop := n = 0 ∨ ∃ ab ao : Nat, A = some ⟨ab, ao, none⟩ ∧ ab < w.heap.size ∧ ∀ i, i < n → w.cell? ⟨ab, ao + i, none⟩ = some (.bool (q i))
set_option maxRecDepth 100000 in
theorem open_bls {W : World} {r : Reach} {b0 : Nat} {v : Value} {d : DataW H} {p : List MemPlace} (hv : Value.okWide Try.prog W r b0 39 v) (h : DataW.Trod enc Try.prog W 0 (fun _ => true) true 39 v d p) :
    ∃ A n c q, v = .slice A n c ∧ n ≤ 9223372036854775807 ∧ Bls W A n q := by
  obtain ⟨A, n, c, rfl⟩ := okWide_slice Try.underlying39 hv
  obtain ⟨fuel, hf⟩ := h
  rcases Go.Deep.open_slice Try.underlying39 hf with ⟨hc, _⟩ | ⟨a, len, cap, m, k, D, Pl, hc, _, hl, hm, hmm, _, hi⟩
  · simp [Value.cells] at hc
    obtain ⟨rfl, rfl, rfl⟩ := hc
    exact ⟨none, 0, 0, fun _ => false, rfl, by decide, .inl rfl⟩
  · simp [Value.cells] at hc
    obtain ⟨rfl, rfl, rfl⟩ := hc
    have e1 : Try.prog.cellsOf 4 = 1 := by kernel_rfl
    have key : ∀ i, ∃ x : Bool, i < n → W.cell? (a.add i) = some (.bool (x)) := by
      intro i
      by_cases hin : i < n
      · obtain ⟨cs, hcells, htr⟩ := hi i (by simp at hmm; omega)
        rw [e1, Nat.mul_one] at hcells
        obtain ⟨_, hcl, hat⟩ := World.cells?_some hcells
        match cs, hcl with
        | [c0], _ =>
          obtain ⟨K, hc, -⟩ := DataW.trod_bool Try.underlying4 htr
          injection hc with hc _
          subst hc
          have h0 : W.cell? ((a.add i).add 0) = some (.bool K) := hat 0 (by decide)
          rw [Addr.add_zero'] at h0
          exact ⟨K, fun _ => h0⟩
      · exact ⟨false, fun h => absurd h hin⟩
    obtain ⟨q, hq⟩ := Classical.skolem.1 key
    refine ⟨_, _, _, q, rfl, by simp only [maxLen] at hm; omega, ?_⟩
    rcases Nat.eq_zero_or_pos n with h0 | h0
    · exact .inl h0
    have hs := spot_none0 (hq 0 h0)
    obtain ⟨ab, ao, sp⟩ := a
    have hs : sp = none := by simpa [Addr.add] using hs
    subst hs
    have hb := blk_lt (hq 0 h0)
    rw [Addr.add_lit] at hb
    exact .inr ⟨ab, ao, rfl, hb, fun i hi => by have := hq i hi; rw [Addr.add_lit] at this; exact this⟩
end
end Go.Proofs.Ytiooilkbbfflaaa

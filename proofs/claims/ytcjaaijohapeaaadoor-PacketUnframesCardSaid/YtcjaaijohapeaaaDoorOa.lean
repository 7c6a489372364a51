import Derived.Test.YtcjaaijohapeaaaDoorVa
import Derived.Test.YtcjaaijohapeaaaDoorPk
import Derived.Deep.Slices
import Derived.WideKeyArgs
import Derived.ChangeMaps5
/-
  Rows' arguments: fragments. No conditions beyond those that each names.
-/
namespace Go.Proofs.YtcjaaijohapeaaaDoor
open Go.ChangeShapes Go.WideShapes Go.ChangeAt Go.RowKit
theorem trodAll_stays {H : Type} {enc : TypeId × Value → H} {P : Program} (hl : laidOutB P = true) {W W' : World} (hb : Below W.heap.size W W') :
    ∀ {ts : List TypeId} {vs : List Value} {ds : List (DataW H)} {ps : List MemPlace}, (ts.all fun t => P.readableRec t && decide (t < P.types.size)) = true → DataW.TrodAll enc P W 0 (fun _ => true) true ts vs ds ps → (∀ x ∈ ps, x.block < W.heap.size) →
      DataW.TrodAll enc P W' 0 (fun b => decide (b < W.heap.size)) true ts vs ds ps
  | [], [], [], _, _, h, _ => h
  | t :: ts, v :: vs, d :: ds, ps, hr, ⟨p, q, h, hs, e⟩, hlt => by
    simp only [List.all_cons, Bool.and_eq_true, decide_eq_true_eq] at hr
    have hp : ∀ x ∈ p, x.block < W.heap.size := fun x hx => hlt x (by rw [e]; simp [hx])
    have hq : ∀ x ∈ q, x.block < W.heap.size := fun x hx => hlt x (by rw [e]; simp [hx])
    exact ⟨p, q, Go.WideElems.Trod_stays hl hr.1.1 hr.1.2 h (fun x hx => hb.same (hp x hx)) (fun x hx => by simpa using hp x hx), trodAll_stays hl hb hr.2 hs hq, e⟩
set_option maxRecDepth 100000 in
theorem post_stays {H : Type} {enc : TypeId × Value → H} {f : Func} {s : ChangeSpec} {W W' : World} {args : Array Value} {ds : List (DataW H)} {before : List MemPlace} (hs : s.vars = []) (hrt : f.resultTypes = #[4])
    (hW : DataW.Whole enc Tryd.prog f.params.toList s.vars false W args.toList ds [] before) (hres : (s.fn H (ds ++ [])).results = [.lit (.bool true)]) (hvs : (s.fn H (ds ++ [])).vars = []) (hds : (s.fn H (ds ++ [])).args = ds)
    (hr : (f.params.toList.all fun t => Tryd.prog.readableRec t && decide (t < Tryd.prog.types.size)) = true) (hb : Below W.heap.size W W') :
    s.post enc Tryd.prog f false true false false W args (.bool true) W' := by
  have hlt : ∀ p ∈ before, p.block < W.heap.size := fun p hp => hW.lt p hp
  have hW2 := hW
  obtain ⟨p, q, hA, hV, e, _, _⟩ := hW2
  have hA2 : DataW.TrodAll enc Tryd.prog W 0 (fun _ => true) true f.params.toList args.toList ds p := hA
  refine post_true (pa := p) hs hrt hW hres hvs ?_ hb
  rw [hds]
  exact trodAll_stays (by kernel_rfl) hb hr hA2 fun x hx => hlt x (by rw [e]; simp [hx])
section
variable {H : Type} {enc : TypeId × Value → H}
theorem int_cell {W : World} {b : Nat} {sp : Nat → Bool} {hd : Bool} {k : Nat} {t : TypeId} {K : IntKind} {v : Value} {y : DataW H × List MemPlace} (ht : Tryd.prog.underlying t = some (.int K)) (h : DataW.trod enc Tryd.prog W b sp hd k t [v] = some y) : ∃ n, v = .int K n ∧ (Lit.int K n).wf = true := by
  obtain ⟨n, hc, _, hw⟩ := DataW.trod_int ht h
  injection hc with hc _
  exact ⟨n, hc, hw⟩
theorem str_cell {W : World} {b : Nat} {sp : Nat → Bool} {hd : Bool} {k : Nat} {t : TypeId} {v : Value} {y : DataW H × List MemPlace} (ht : Tryd.prog.underlying t = some .string) (h : DataW.trod enc Tryd.prog W b sp hd k t [v] = some y) : ∃ s, v = .string s ∧ s.size ≤ maxLen := by
  obtain ⟨s, hc, _, hs⟩ := DataW.trod_string ht h
  injection hc with hc _
  exact ⟨s, hc, hs⟩
theorem i64_wf {n : Int} (h : (Lit.int .i64 n).wf = true) : -9223372036854775808 ≤ n ∧ n ≤ 9223372036854775807 := by
  simp [Lit.wf, IntKind.min, IntKind.max, IntKind.signed, IntKind.bits] at h
  omega
set_option maxRecDepth 100000 in
/-- A cell that is a slice of structs: its elements' cells, each read by its field's type. -/
theorem open_elems2 {W : World} {k0 : Nat} {t e : TypeId} {z : Nat} {fs : Array Field} {v : Value} {y : DataW H × List MemPlace} (ht : Tryd.prog.underlying t = some (.slice e)) (he : Tryd.prog.underlying e = some (.struct fs)) (hz : Tryd.prog.cellsOf e = z)
    (hf : DataW.trod enc Tryd.prog W 0 (fun _ => true) true k0 t [v] = some y) :
    ∃ A n c, v = .slice A n c ∧ n ≤ 9223372036854775807 ∧ (n = 0 ∨ ∃ a : Addr, A = some a ∧ ∀ i, i < n → ∃ (cs : List Value) (ys : List (DataW H × List MemPlace)) (k : Nat), cs.length = z ∧ ys.length = fs.size ∧
      (∀ j, j < z → W.cell? ((a.add (i * z)).add j) = cs[j]?) ∧ ∀ (j : Nat) (f : Field), fs[j]? = some f → DataW.trod enc Tryd.prog W 0 (fun _ => true) true k f.type ((cs.drop f.offset).take (Tryd.prog.cellsOf f.type)) = ys[j]?) := by
  obtain ⟨d, p⟩ := y
  rcases Go.Deep.open_slice ht hf with ⟨hc, _⟩ | ⟨a, len, cap, m, k, D, Pl, hc, _, hl, hm, hmm, _, hi⟩
  · injection hc with hc
    subst hc
    exact ⟨none, 0, 0, rfl, by decide, .inl rfl⟩
  · injection hc with hc
    subst hc
    refine ⟨_, _, _, rfl, by simp only [maxLen] at hm; omega, .inr ⟨a, rfl, fun i hin => ?_⟩⟩
    obtain ⟨cs, hcells, htr⟩ := hi i (by simp at hmm; omega)
    rw [hz] at hcells
    obtain ⟨ys, k', _, _, hlen, hyl, hg⟩ := DataW.trod_struct he htr
    obtain ⟨_, hcl, hat⟩ := World.cells?_some hcells
    exact ⟨cs, ys, k', hcl, hyl, hat, hg⟩
set_option maxRecDepth 100000 in
theorem one_cell {W : World} {r : Reach} {b0 : Nat} {t e : TypeId} {v : Value} {d : DataW H} {p : List MemPlace} (ht : Tryd.prog.underlying t = some (.slice e)) (hv : Value.okWide Tryd.prog W r b0 t v) (h : DataW.Trod enc Tryd.prog W 0 (fun _ => true) true t v d p) : ∃ k, DataW.trod enc Tryd.prog W 0 (fun _ => true) true k t [v] = some (d, p) := by
  obtain ⟨A, n, c, rfl⟩ := okWide_slice ht hv
  exact h
set_option maxRecDepth 100000 in
/-- A fragment. -/
theorem open_frg {W : World} {r : Reach} {b0 : Nat} {v : Value} {d : DataW H} {p : List MemPlace} (hv : Value.okWide Tryd.prog W r b0 32 v) (h : DataW.Trod enc Tryd.prog W 0 (fun _ => true) true 32 v d p) :
    ∃ (id ix ct : Int) (s : ByteArray), v = .agg #[.int .i64 id, .int .i64 ix, .int .i64 ct, .string s] ∧ s.size ≤ 9223372036854775807 := by
  obtain ⟨cs, rfl, hsz, hrow⟩ : ∃ cs, v = .agg cs ∧ cs.size = Tryd.prog.cellsOf 32 ∧ Row.okWide Tryd.prog W r b0 32 cs := by
    simpa [Value.okWide, Tryd.underlying32] using hv
  obtain ⟨fuel, hf⟩ := h
  obtain ⟨l⟩ := cs
  have hf : DataW.trod enc Tryd.prog W 0 (fun _ => true) true fuel 32 l = some (d, p) := hf
  obtain ⟨xs, n, rfl, -, hcl, hxl, hg⟩ := DataW.trod_struct Tryd.underlying32 hf
  have ez : Tryd.prog.cellsOf 32 = 4 := by kernel_rfl
  rw [ez] at hcl
  match l, hcl with
  | [c0, c1, c2, c3], _ =>
    have h0 : DataW.trod enc Tryd.prog W 0 (fun _ => true) true n 3 (([c0, c1, c2, c3].drop 0).take (Tryd.prog.cellsOf 3)) = xs[0]? := hg 0 _ rfl
    have h1 : DataW.trod enc Tryd.prog W 0 (fun _ => true) true n 3 (([c0, c1, c2, c3].drop 1).take (Tryd.prog.cellsOf 3)) = xs[1]? := hg 1 _ rfl
    have h2 : DataW.trod enc Tryd.prog W 0 (fun _ => true) true n 3 (([c0, c1, c2, c3].drop 2).take (Tryd.prog.cellsOf 3)) = xs[2]? := hg 2 _ rfl
    have h3 : DataW.trod enc Tryd.prog W 0 (fun _ => true) true n 9 (([c0, c1, c2, c3].drop 3).take (Tryd.prog.cellsOf 9)) = xs[3]? := hg 3 _ rfl
    rw [show Tryd.prog.cellsOf 3 = 1 by kernel_rfl] at h0 h1 h2
    rw [show Tryd.prog.cellsOf 9 = 1 by kernel_rfl] at h3
    have h0 : DataW.trod enc Tryd.prog W 0 (fun _ => true) true n 3 [c0] = xs[0]? := h0
    have h1 : DataW.trod enc Tryd.prog W 0 (fun _ => true) true n 3 [c1] = xs[1]? := h1
    have h2 : DataW.trod enc Tryd.prog W 0 (fun _ => true) true n 3 [c2] = xs[2]? := h2
    have h3 : DataW.trod enc Tryd.prog W 0 (fun _ => true) true n 9 [c3] = xs[3]? := h3
    have l4 : xs.length = 4 := hxl
    rw [List.getElem?_eq_getElem (by omega)] at h0 h1 h2 h3
    obtain ⟨id, rfl, -⟩ := int_cell Tryd.underlying3 h0
    obtain ⟨ix, rfl, -⟩ := int_cell Tryd.underlying3 h1
    obtain ⟨ct, rfl, -⟩ := int_cell Tryd.underlying3 h2
    obtain ⟨s, rfl, hs⟩ := str_cell (show Tryd.prog.underlying 9 = some .string by kernel_rfl) h3
    exact ⟨id, ix, ct, s, rfl, by unfold maxLen at hs; omega⟩
end
end Go.Proofs.YtcjaaijohapeaaaDoor

import Derived.Test.YtlebppjldoodgaaYf
import Derived.Test.YtlebppjldoodgaaPk
import Derived.MakeChecks
import Derived.Deep.Slices
import Derived.WideKeyArgs
import Derived.ChangeMaps5
/-
  What rows' proofs need where arguments are values: what a value that came in is, and that arguments read behind the call as they did. No conditions beyond the rows' own.
-/
namespace Go.Proofs.Ytlebppjldoodgaa
open Go.ChangeShapes Go.WideShapes Go.ChangeAt Go.RowKit Go.Lib
theorem trodAll_stays {H : Type} {enc : TypeId × Value → H} {P : Program} (hl : laidOutB P = true) {W W' : World} (hb : Below W.heap.size W W') :
    ∀ {ts : List TypeId} {vs : List Value} {ds : List (DataW H)} {ps : List MemPlace}, (ts.all fun t => P.readableRec t && decide (t < P.types.size)) = true → DataW.TrodAll enc P W 0 (fun _ => true) true ts vs ds ps → (∀ x ∈ ps, x.block < W.heap.size) →
      DataW.TrodAll enc P W' 0 (fun b => decide (b < W.heap.size)) true ts vs ds ps
  | [], [], [], _, _, h, _ => h
  | t :: ts, v :: vs, d :: ds, ps, hr, ⟨p, q, h, hs, e⟩, hlt => by
    simp only [List.all_cons, Bool.and_eq_true, decide_eq_true_eq] at hr
    have hp : ∀ x ∈ p, x.block < W.heap.size := fun x hx => hlt x (by rw [e]; simp [hx])
    have hq : ∀ x ∈ q, x.block < W.heap.size := fun x hx => hlt x (by rw [e]; simp [hx])
    exact ⟨p, q, Go.WideElems.Trod_stays hl hr.1.1 hr.1.2 h (fun x hx => hb.same (hp x hx)) (fun x hx => by simpa using hp x hx), trodAll_stays hl hb hr.2 hs hq, e⟩
set_option maxRecDepth 100000 in
theorem post_stays {H : Type} {enc : TypeId × Value → H} {f : Func} {s : ChangeSpec} {W W' : World} {args : Array Value} {ds : List (DataW H)} {before : List MemPlace} (hs : s.vars = []) (hrt : f.resultTypes = #[4])
    (hW : DataW.Whole enc Try.prog f.params.toList s.vars false W args.toList ds [] before) (hres : (s.fn H (ds ++ [])).results = [.lit (.bool true)]) (hvs : (s.fn H (ds ++ [])).vars = []) (hds : (s.fn H (ds ++ [])).args = ds)
    (hr : (f.params.toList.all fun t => Try.prog.readableRec t && decide (t < Try.prog.types.size)) = true) (hb : Below W.heap.size W W') :
    s.post enc Try.prog f false true false false W args (.bool true) W' := by
  have hlt : ∀ p ∈ before, p.block < W.heap.size := fun p hp => hW.lt p hp
  have hW2 := hW
  obtain ⟨p, q, hA, hV, e, _, _⟩ := hW2
  have hA2 : DataW.TrodAll enc Try.prog W 0 (fun _ => true) true f.params.toList args.toList ds p := hA
  refine post_true (pa := p) hs hrt hW hres hvs ?_ hb
  rw [hds]
  exact trodAll_stays (by kernel_rfl) hb hr hA2 fun x hx => hlt x (by rw [e]; simp [hx])
section
variable {H : Type} {enc : TypeId × Value → H}
theorem int_cell {W : World} {b : Nat} {sp : Nat → Bool} {hd : Bool} {k : Nat} {t : TypeId} {K : IntKind} {v : Value} {y : DataW H × List MemPlace} (ht : Try.prog.underlying t = some (.int K)) (h : DataW.trod enc Try.prog W b sp hd k t [v] = some y) : ∃ n, v = .int K n ∧ (Lit.int K n).wf = true := by
  obtain ⟨n, hc, _, hw⟩ := DataW.trod_int ht h
  injection hc with hc _
  exact ⟨n, hc, hw⟩
theorem str_cell {W : World} {b : Nat} {sp : Nat → Bool} {hd : Bool} {k : Nat} {t : TypeId} {v : Value} {y : DataW H × List MemPlace} (ht : Try.prog.underlying t = some .string) (h : DataW.trod enc Try.prog W b sp hd k t [v] = some y) : ∃ s, v = .string s ∧ s.size ≤ maxLen := by
  obtain ⟨s, hc, _, hs⟩ := DataW.trod_string ht h
  injection hc with hc _
  exact ⟨s, hc, hs⟩
theorem bulkAll_sum (ds : List (DataW H)) : Rows.uptoBulkAll ds = (ds.map Rows.uptoBulk).sum := by
  induction ds with
  | nil => rw [Rows.uptoBulkAll]; rfl
  | cons d r ih => rw [Rows.uptoBulkAll, ih]; rfl
theorem szl_sum (l : List Vl) : sz.szl l = (l.map sz).sum := by
  induction l with
  | nil => rw [sz.szl]; rfl
  | cons d r ih => rw [sz.szl, ih]; rfl
theorem szf_sum (l : List (Int × Vl)) : sz.szf l = (l.map fun x => sz x.2).sum := by
  induction l with
  | nil => rw [sz.szf]; rfl
  | cons d r ih => obtain ⟨n, t⟩ := d; rw [sz.szf, ih]; rfl
theorem sum_le {α β : Type} (f : α → Nat) (g : β → Nat) : ∀ (l : List α) (ds : List β), l.length = ds.length → (∀ i (h : i < l.length) (h' : i < ds.length), f (l[i]'h) ≤ g (ds[i]'h')) → (l.map f).sum ≤ (ds.map g).sum
  | [], [], _, _ => Nat.le_refl _
  | a :: l, d :: ds, hl, h => by
    have h0 := h 0 (by simp) (by simp)
    have ih := sum_le f g l ds (by simpa using hl) (fun i h1 h2 => h (i + 1) (by simpa using h1) (by simpa using h2))
    simp at h0 ⊢; omega
/-- The cells cs, wherever they lie, are x. -/
def CsA {α : Type} (P : World → α → Addr → Prop) (z : Nat) (W : World) (x : α) (cs : List Value) : Prop := ∀ p, (∀ j, j < z → W.cell? (p.add j) = cs[j]?) → P W x p
theorem open_sl {W : World} {α : Type} (P : World → α → Addr → Prop) (Q : α → Prop) (f : α → Nat) (z : Nat) (ts te : TypeId) (hts : Try.prog.underlying ts = some (.slice te)) (ez : Try.prog.cellsOf te = z) (x0 : α)
    {n : Nat} {c : Value} {y : DataW H × List MemPlace} (h : DataW.trod enc Try.prog W 0 (fun _ => true) true n ts [c] = some y)
    (key : ∀ m cs y, m < n → DataW.trod enc Try.prog W 0 (fun _ => true) true m te cs = some y → ∃ x : α, Q x ∧ CsA P z W x cs ∧ f x ≤ Rows.uptoBulk y.1) :
    ∃ (l : List α) (A : Option Addr) (cap : Nat), c = .slice A l.length cap ∧ l.length ≤ 9223372036854775807 ∧ (∀ x ∈ l, Q x) ∧ Rw P z W l A ∧ (l.map f).sum + 1 ≤ Rows.uptoBulk y.1 := by
  rcases DataW.trod_slice hts h with ⟨hc, rfl⟩ | ⟨a, len, cap, elems, rest, m, rfl, hc, rfl, -, hl1, hl2, hle, hel, -, -⟩
  · obtain rfl : c = .slice none 0 0 := by injection hc
    exact ⟨[], none, 0, rfl, Nat.zero_le _, fun _ h => (by cases h), .inl rfl, by rw [Rows.uptoBulk]; simp⟩
  · obtain rfl : c = .slice (some a) len cap := by injection hc
    have k1 : ∀ i, i < len → ∃ x : α, Q x ∧ P W x (a.add (i * z)) ∧ ∀ h' : i < elems.length, f x ≤ Rows.uptoBulk (elems[i]'h').1 := fun i hi => by
      have h5 := hel i hi
      rw [ez, List.getElem?_eq_getElem (by omega), Option.bind_eq_some_iff] at h5
      obtain ⟨cs', hcs, htr⟩ := h5
      obtain ⟨x, hq, hx, hf⟩ := key m cs' _ (Nat.lt_succ_self _) htr
      obtain ⟨-, -, hat⟩ := World.cells?_some hcs
      exact ⟨x, hq, hx _ hat, fun _ => hf⟩
    have k2 : ∀ i, ∃ x : α, i < len → Q x ∧ P W x (a.add (i * z)) ∧ ∀ h' : i < elems.length, f x ≤ Rows.uptoBulk (elems[i]'h').1 := fun i => by
      by_cases hi : i < len
      · obtain ⟨x, hx⟩ := k1 i hi; exact ⟨x, fun _ => hx⟩
      · exact ⟨x0, fun h => absurd h hi⟩
    obtain ⟨q, hq⟩ := Classical.skolem.1 k2
    have hlen : ((List.range len).map q).length = len := by simp
    refine ⟨(List.range len).map q, some a, cap, by rw [hlen], by rw [hlen]; simp only [maxLen] at hl2; omega, fun x hx => ?_, .inr ⟨a, rfl, fun i hi => ?_⟩, ?_⟩
    · obtain ⟨i, hi, rfl⟩ := List.mem_map.1 hx
      exact (hq i (List.mem_range.1 hi)).1
    · have hi2 : i < len := by omega
      have e4 : ((List.range len).map q)[i]'hi = q i := by simp
      rw [e4]
      exact (hq i hi2).2.1
    · have h1 : (((List.range len).map q).map f).sum ≤ ((elems.map (·.1)).map Rows.uptoBulk).sum := by
        refine sum_le f Rows.uptoBulk _ _ (by simp; omega) fun i hi hi' => ?_
        have hi2 : i < len := by rw [hlen] at hi; exact hi
        have e4 : ((List.range len).map q)[i]'hi = q i := by simp
        rw [e4]
        have h2 := (hq i hi2).2.2 (by omega)
        simpa using h2
      show _ ≤ Rows.uptoBulk (DataW.slice (elems.map (·.1)) (rest.map (·.1)))
      rw [Rows.uptoBulk, bulkAll_sum]
      omega
theorem pl (p : Addr) (W : World) (j : Nat) {u : Value} (h0 : ∃ v0, W.cell? p = some v0) (h : W.cell? (p.add j) = some u) : W.cell? (nx1 p j) = some u := by
  obtain ⟨v0, h0⟩ := h0
  have hs : p.spot = none := spot_none0 h0
  rw [← h]
  unfold nx1 Addr.add
  obtain ⟨b, o, s⟩ := p
  obtain rfl : s = none := hs
  cases j <;> rfl
theorem vlA_cs {W : World} {t : Vl} {s : Sb} (h : RdV W t s) : CsA VlA 5 W t (encV t s) := fun p hat => by
  have z0 : W.cell? p = some (.int .i64 t.kind) := by rw [← hat 0 (by decide) |>.trans (by rfl : (encV t s)[0]? = some (.int .i64 t.kind)), Addr.add_zero']
  have q0 : ∃ v0, W.cell? p = some v0 := ⟨_, z0⟩
  exact VlA.of z0 (pl p W 1 q0 (hat 1 (by decide))) (pl p W 2 q0 (hat 2 (by decide))) (pl p W 3 q0 (hat 3 (by decide))) h.1 (pl p W 4 q0 (hat 4 (by decide))) h.2
theorem etA_cs {W : World} {x : Int × Vl} {s : Sb} (h : RdV W x.2 s) : CsA EtA 6 W x (encE x s) := fun p hat => by
  have z0 : W.cell? p = some (.int .i64 x.1) := by rw [← hat 0 (by decide) |>.trans (by rfl : (encE x s)[0]? = some (.int .i64 x.1)), Addr.add_zero']
  have q0 : ∃ v0, W.cell? p = some v0 := ⟨_, z0⟩
  exact ⟨z0, VlA.of (pl p W 1 q0 (hat 1 (by decide))) (pl p W 2 q0 (hat 2 (by decide))) (pl p W 3 q0 (hat 3 (by decide))) (pl p W 4 q0 (hat 4 (by decide))) h.1 (pl p W 5 q0 (hat 5 (by decide))) h.2⟩
set_option maxRecDepth 100000 in
theorem open_vl {W : World} (N : Nat) : ∀ (k : Nat) (cs : List Value) (y : DataW H × List MemPlace), k < N → DataW.trod enc Try.prog W 0 (fun _ => true) true k 25 cs = some y → ∃ t s, cs = encV t s ∧ vok t ∧ RdV W t s ∧ sz t ≤ Rows.uptoBulk y.1 := by
  induction N with
  | zero => intro k cs y h; omega
  | succ N ih =>
    intro k cs y hk h
    obtain ⟨xs, n, rfl, rfl, hcl, hxl, hg⟩ := DataW.trod_struct Try.underlying25 h
    have ez : Try.prog.cellsOf 25 = 5 := by kernel_rfl
    have ee : Try.prog.cellsOf 72 = 6 := by kernel_rfl
    rw [ez] at hcl
    match cs, hcl with
    | [c0, c1, c2, c3, c4], _ =>
      have h0 : DataW.trod enc Try.prog W 0 (fun _ => true) true n 3 (([c0, c1, c2, c3, c4].drop 0).take (Try.prog.cellsOf 3)) = xs[0]? := hg 0 _ rfl
      have h1 : DataW.trod enc Try.prog W 0 (fun _ => true) true n 2 (([c0, c1, c2, c3, c4].drop 1).take (Try.prog.cellsOf 2)) = xs[1]? := hg 1 _ rfl
      have h2 : DataW.trod enc Try.prog W 0 (fun _ => true) true n 9 (([c0, c1, c2, c3, c4].drop 2).take (Try.prog.cellsOf 9)) = xs[2]? := hg 2 _ rfl
      have h3 : DataW.trod enc Try.prog W 0 (fun _ => true) true n 22 (([c0, c1, c2, c3, c4].drop 3).take (Try.prog.cellsOf 22)) = xs[3]? := hg 3 _ rfl
      have h4 : DataW.trod enc Try.prog W 0 (fun _ => true) true n 23 (([c0, c1, c2, c3, c4].drop 4).take (Try.prog.cellsOf 23)) = xs[4]? := hg 4 _ rfl
      rw [show Try.prog.cellsOf 3 = 1 by kernel_rfl] at h0
      rw [show Try.prog.cellsOf 2 = 1 by kernel_rfl] at h1
      rw [show Try.prog.cellsOf 9 = 1 by kernel_rfl] at h2
      rw [show Try.prog.cellsOf 22 = 1 by kernel_rfl] at h3
      rw [show Try.prog.cellsOf 23 = 1 by kernel_rfl] at h4
      have h0 : DataW.trod enc Try.prog W 0 (fun _ => true) true n 3 [c0] = xs[0]? := h0
      have h1 : DataW.trod enc Try.prog W 0 (fun _ => true) true n 2 [c1] = xs[1]? := h1
      have h2 : DataW.trod enc Try.prog W 0 (fun _ => true) true n 9 [c2] = xs[2]? := h2
      have h3 : DataW.trod enc Try.prog W 0 (fun _ => true) true n 22 [c3] = xs[3]? := h3
      have h4 : DataW.trod enc Try.prog W 0 (fun _ => true) true n 23 [c4] = xs[4]? := h4
      have l4 : xs.length = 5 := hxl
      match xs, l4 with
      | [x0, x1, x2, x3, x4], _ =>
        have h0 : DataW.trod enc Try.prog W 0 (fun _ => true) true n 3 [c0] = some x0 := h0
        have h1 : DataW.trod enc Try.prog W 0 (fun _ => true) true n 2 [c1] = some x1 := h1
        have h2 : DataW.trod enc Try.prog W 0 (fun _ => true) true n 9 [c2] = some x2 := h2
        have h3 : DataW.trod enc Try.prog W 0 (fun _ => true) true n 22 [c3] = some x3 := h3
        have h4 : DataW.trod enc Try.prog W 0 (fun _ => true) true n 23 [c4] = some x4 := h4
        obtain ⟨K, rfl, -⟩ := int_cell Try.underlying3 h0
        obtain ⟨M, rfl, -⟩ := int_cell Try.underlying2 h1
        obtain ⟨S, rfl, hS⟩ := str_cell Try.underlying9 h2
        obtain ⟨l, A, cap, rfl, hl, hq, hR, hs⟩ := open_sl VlA vok sz 5 22 25 Try.underlying22 ez (.mk 0 0 [] [] []) h3 (fun m cs y hm h => by
          obtain ⟨t, s, rfl, h1, h2, h3⟩ := ih m cs y (by omega) h
          exact ⟨t, h1, vlA_cs h2, h3⟩)
        obtain ⟨f, B, d, rfl, hf, hqf, hRf, hsf⟩ := open_sl EtA (fun x => vok x.2) (fun x => sz x.2) 6 23 72 Try.underlying23 ee (0, .mk 0 0 [] [] []) h4 (fun m cs y hm h => by
          obtain ⟨xs, n, rfl, rfl, hcl, hxl, hg⟩ := DataW.trod_struct Try.underlying72 h
          rw [ee] at hcl
          match cs, hcl with
          | [c0, c1, c2, c3, c4, c5], _ =>
            have g0 : DataW.trod enc Try.prog W 0 (fun _ => true) true n 3 (([c0, c1, c2, c3, c4, c5].drop 0).take (Try.prog.cellsOf 3)) = xs[0]? := hg 0 _ rfl
            have g1 : DataW.trod enc Try.prog W 0 (fun _ => true) true n 25 (([c0, c1, c2, c3, c4, c5].drop 1).take (Try.prog.cellsOf 25)) = xs[1]? := hg 1 _ rfl
            rw [show Try.prog.cellsOf 3 = 1 by kernel_rfl] at g0
            rw [ez] at g1
            have g0 : DataW.trod enc Try.prog W 0 (fun _ => true) true n 3 [c0] = xs[0]? := g0
            have g1 : DataW.trod enc Try.prog W 0 (fun _ => true) true n 25 [c1, c2, c3, c4, c5] = xs[1]? := g1
            have l2 : xs.length = 2 := hxl
            match xs, l2 with
            | [x0, x1], _ =>
              have g0 : DataW.trod enc Try.prog W 0 (fun _ => true) true n 3 [c0] = some x0 := g0
              have g1 : DataW.trod enc Try.prog W 0 (fun _ => true) true n 25 [c1, c2, c3, c4, c5] = some x1 := g1
              obtain ⟨K, rfl, -⟩ := int_cell Try.underlying3 g0
              obtain ⟨t, s, e, k1, k2, k3⟩ := ih n _ x1 (by omega) g1
              have e2 : [Value.int .i64 K, c1, c2, c3, c4, c5] = encE (K, t) s := by rw [e]; rfl
              refine ⟨(K, t), k1, by rw [e2]; exact etA_cs k2, ?_⟩
              show sz t ≤ Rows.uptoBulk (DataW.agg [x0.1, x1.1])
              rw [Rows.uptoBulk, bulkAll_sum]
              simp; omega)
        have eb : encV (.mk K M S.data.toList l f) ⟨A, cap, B, d⟩ = [.int .i64 K, .int .i64 M, .string S, .slice A l.length cap, .slice B f.length d] := by
          show [Value.int .i64 K, .int .i64 M, .string (bs S.data.toList), .slice A l.length cap, .slice B f.length d] = _
          rw [← bs_of S]
        refine ⟨.mk K M S.data.toList l f, ⟨A, cap, B, d⟩, eb.symm, vok_iff.2 ⟨?_, ⟨hl, hq⟩, hf, hqf⟩, ⟨hR, hRf⟩, ?_⟩
        · have h5 : S.data.toList.length = S.size := Array.length_toList
          show S.data.toList.length ≤ _
          rw [h5]
          simp only [maxLen] at hS
          omega
        · show sz _ ≤ Rows.uptoBulk (DataW.agg [x0.1, x1.1, x2.1, x3.1, x4.1])
          rw [Rows.uptoBulk, bulkAll_sum, sz_eq, szl_sum, szf_sum]
          show 1 + (l.map sz).sum + (f.map fun x => sz x.2).sum ≤ _
          simp; omega
set_option maxRecDepth 100000 in
/-- An argument that is a value. -/
theorem open_val {W : World} {r : Go.Reach} {b0 : Nat} {v : Value} {d : DataW H} {p : List MemPlace} (hv : Value.okWide Try.prog W r b0 25 v) (h : DataW.Trod enc Try.prog W 0 (fun _ => true) true 25 v d p) :
    ∃ t, (vok t ∧ sz t ≤ Rows.uptoBulk d) ∧ VlV W t v := by
  obtain ⟨cs, rfl, hsz, _⟩ : ∃ cs, v = .agg cs ∧ cs.size = Try.prog.cellsOf 25 ∧ Row.okWide Try.prog W r b0 25 cs := by
    simpa [Value.okWide, Try.underlying25] using hv
  obtain ⟨fuel, hf⟩ := h
  obtain ⟨t, s, e, hl, hR, hb⟩ := open_vl (fuel + 1) fuel _ _ (Nat.lt_succ_self _) hf
  refine ⟨t, ⟨hl, hb⟩, s.A, s.c, s.B, s.d, ?_, hR.1, hR.2⟩
  obtain ⟨l⟩ := cs
  have e : l = _ := e
  rw [e]
  rfl
theorem cs_int {W : World} {m : Nat} {cs : List Value} {y : DataW H × List MemPlace} (h : DataW.trod enc Try.prog W 0 (fun _ => true) true m 3 cs = some y) : ∃ x : Int, True ∧ CsA TyI 1 W x cs ∧ 0 ≤ Rows.uptoBulk y.1 := by
  obtain ⟨n, hc, _, hw⟩ := DataW.trod_int Try.underlying3 h
  refine ⟨n, trivial, fun p hat => ?_, Nat.zero_le _⟩
  have := hat 0 (by decide)
  rw [Addr.add_zero', hc] at this
  exact this
set_option maxRecDepth 100000 in
/-- An argument that is a slice of ints. -/
theorem open_ints {W : World} {r : Go.Reach} {b0 : Nat} {v : Value} {d : DataW H} {p : List MemPlace} (hv : Value.okWide Try.prog W r b0 49 v) (h : DataW.Trod enc Try.prog W 0 (fun _ => true) true 49 v d p) :
    ∃ (zs : List Int) (P : Option Addr) (pc : Nat), v = .slice P zs.length pc ∧ zs.length ≤ 9223372036854775807 ∧ Rw TyI 1 W zs P := by
  obtain ⟨A, n, c, rfl⟩ := okWide_slice Try.underlying49 hv
  obtain ⟨fuel, hf⟩ := h
  have hf : DataW.trod enc Try.prog W 0 (fun _ => true) true fuel 49 [.slice A n c] = some (d, p) := hf
  obtain ⟨l, B, cap, e, hl, -, hR, -⟩ := open_sl TyI (fun _ => True) (fun _ => 0) 1 49 3 Try.underlying49 (by kernel_rfl) 0 hf (fun m cs y _ h => cs_int h)
  exact ⟨l, B, cap, e, hl, hR⟩
end
end Go.Proofs.Ytlebppjldoodgaa

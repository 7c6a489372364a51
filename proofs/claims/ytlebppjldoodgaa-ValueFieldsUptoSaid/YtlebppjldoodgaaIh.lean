import Derived.Test.YtlebppjldoodgaaIg
import Derived.Test.YtlebppjldoodgaaYj
import Derived.Test.YtlebppjldoodgaaYq
import Derived.Test.YtlebppjldoodgaaYs
/-
  Mathematics of a field set and of one removed. No conditions beyond those that each names.
-/
namespace Go.Proofs.Ytlebppjldoodgaa
open Go.RowKit Go.Shelf Go.Sort Go.ChangeShapes Go.WideShapes Go.ChangeAt
theorem mem_insR {b : Bool} {z : Int} {x : Vl} {e : Int × Vl} : ∀ {f : List (Int × Vl)}, e ∈ insR b z x f → e ∈ f ∨ e = (z, x)
  | [], h => by rw [insR] at h; exact .inr (by simpa using h)
  | y :: ys, h => by
    rw [insR] at h
    cases b
    · simp only [Bool.false_eq_true, if_false] at h
      split at h
      · rcases List.mem_cons.1 h with h | h
        · exact .inr h
        · exact .inl h
      · rcases List.mem_cons.1 h with h | h
        · exact .inl (h ▸ List.mem_cons_self ..)
        · exact (mem_insR h).imp (List.mem_cons_of_mem _) id
    · simp only [if_true] at h
      split at h
      · rcases List.mem_cons.1 h with h | h
        · exact .inr h
        · exact .inl (List.mem_cons_of_mem _ h)
      · rcases List.mem_cons.1 h with h | h
        · exact .inl (h ▸ List.mem_cons_self ..)
        · exact (mem_insR h).imp (List.mem_cons_of_mem _) id
theorem szf_insR (b : Bool) (z : Int) (x : Vl) : ∀ (f : List (Int × Vl)), sz.szf (insR b z x f) ≤ sz.szf f + sz x
  | [] => by simp [insR, sz.szf]
  | (y, v) :: ys => by
    have ih := szf_insR b z x ys
    rw [insR]
    cases b
    · simp only [Bool.false_eq_true, if_false]
      split
      · rw [sz.szf]; omega
      · rw [sz.szf, sz.szf]; omega
    · simp only [if_true]
      split
      · rw [sz.szf, sz.szf]; omega
      · rw [sz.szf, sz.szf]; omega
theorem szf_filter (p : Int × Vl → Bool) : ∀ (f : List (Int × Vl)), sz.szf (f.filter p) ≤ sz.szf f
  | [] => Nat.le_refl _
  | (y, v) :: ys => by
    have ih := szf_filter p ys
    rw [List.filter_cons]
    split
    · rw [sz.szf, sz.szf]; omega
    · rw [sz.szf]; omega
theorem find_insR {b : Bool} {z : Int} {x : Vl} : ∀ {f : List (Int × Vl)}, (b = false → ∀ e ∈ f, e.1 ≠ z) → (insR b z x f).find? (fun e => e.1 == z) = some (z, x)
  | [], _ => by simp [insR]
  | y :: ys, h => by
    have ih := find_insR (x := x) (f := ys) fun hb e he => h hb e (List.mem_cons_of_mem _ he)
    rw [insR]
    cases b
    · have hy := h rfl y (List.mem_cons_self ..)
      simp only [Bool.false_eq_true, if_false]
      split
      · simp
      · rw [List.find?_cons_of_neg (by simpa using hy)]
        exact ih
    · simp only [if_true]
      split
      · simp
      · rename_i hy
        rw [List.find?_cons_of_neg (by simpa using hy)]
        exact ih
theorem find_insR_ne {b : Bool} {z n : Int} {x : Vl} (hn : n ≠ z) : ∀ {f : List (Int × Vl)}, (insR b z x f).find? (fun e => e.1 == n) = f.find? (fun e => e.1 == n)
  | [] => by simp [insR]; omega
  | y :: ys => by
    have ih := find_insR_ne (b := b) (x := x) hn (f := ys)
    have hz : (((z, x) : Int × Vl).1 == n) = false := by simp; omega
    rw [insR]
    cases b
    · simp only [Bool.false_eq_true, if_false]
      split
      · rw [List.find?_cons, hz]
      · rw [List.find?_cons, List.find?_cons, ih]
    · simp only [if_true]
      split
      · rename_i hy
        rw [List.find?_cons, hz, List.find?_cons, show (y.1 == n) = false by simp; omega]
      · rw [List.find?_cons, List.find?_cons, ih]
theorem wth_eq {t x : Vl} {z : Int} (h : t.kind = 6) : wth t z x = .mk t.kind t.n t.s t.l (insR (t.f.findIdx? (fun e => e.1 == z)).isSome z x t.f) := by
  unfold wth
  rw [if_pos h, insF_eq]
theorem wto_eq {t : Vl} {z : Int} (h : t.kind = 6) : wto t z = .mk t.kind t.n t.s t.l (t.f.filter fun x => !(x.1 == z)) := by
  unfold wto
  rw [if_pos h]
theorem fvl_mk {k n : Int} {s : List UInt8} {l : List Vl} {f : List (Int × Vl)} {z : Int} (h : k = 6) : fvl (.mk k n s l f) z = (f.find? fun x => (x.1 == z)).map Prod.snd := by
  unfold fvl
  exact if_pos h
theorem fvl_wth {t x : Vl} {z : Int} (h : t.kind = 6) : fvl (wth t z x) z = some x := by
  rw [wth_eq h, fvl_mk h, find_insR]
  · rfl
  · intro hb e he hz
    cases hi : t.f.findIdx? (fun e => e.1 == z) with
    | some i => rw [hi] at hb; cases hb
    | none =>
      have := List.findIdx?_eq_none_iff.1 hi e he
      simp [hz] at this
theorem fvl_wto {t : Vl} {z : Int} (h : t.kind = 6) : fvl (wto t z) z = none := by
  rw [wto_eq h, fvl_mk h]
  rw [List.find?_eq_none.2 fun e he => by have := (List.mem_filter.1 he).2; simpa using this]
  rfl
theorem fvl_other {t x : Vl} {z n : Int} (h : t.kind = 6) (hn : n ≠ z) : fvl (wth t z x) n = fvl t n := by
  rw [wth_eq h, fvl_mk h, find_insR_ne hn]
  unfold fvl
  rw [if_pos h]
theorem sz_wth (t x : Vl) (z : Int) : sz (wth t z x) ≤ sz t + sz x := by
  by_cases h : t.kind = 6
  · rw [wth_eq h, sz_eq, sz_eq t]
    have := szf_insR (t.f.findIdx? (fun e => e.1 == z)).isSome z x t.f
    show 1 + sz.szl t.l + sz.szf (insR _ z x t.f) ≤ _
    omega
  · unfold wth; rw [if_neg h]; omega
theorem sz_wto (t : Vl) (z : Int) : sz (wto t z) ≤ sz t := by
  by_cases h : t.kind = 6
  · rw [wto_eq h, sz_eq, sz_eq t]
    have := szf_filter (fun x => !(x.1 == z)) t.f
    show 1 + sz.szl t.l + sz.szf (t.f.filter _) ≤ _
    omega
  · unfold wto; rw [if_neg h]; omega
theorem vok_wth {t x : Vl} {z : Int} (ht : vok t) (hx : vok x) (hs : sz t + sz x ≤ 1000000) : vok (wth t z x) := by
  by_cases h : t.kind = 6
  · have h1 := sz_fl (wth t z x)
    have h2 := sz_wth t x z
    rw [wth_eq h] at h1 h2 ⊢
    obtain ⟨a, b, -, d⟩ := vok_iff.1 ht
    refine vok_iff.2 ⟨a, b, by omega, fun e he => ?_⟩
    rcases mem_insR he with he | rfl
    · exact d e he
    · exact hx
  · unfold wth; rw [if_neg h]; exact ht
theorem vok_wto {t : Vl} {z : Int} (ht : vok t) (hs : sz t ≤ 1000000) : vok (wto t z) := by
  by_cases h : t.kind = 6
  · have h1 := sz_fl (wto t z)
    have h2 := sz_wto t z
    rw [wto_eq h] at h1 h2 ⊢
    obtain ⟨a, b, -, d⟩ := vok_iff.1 ht
    exact vok_iff.2 ⟨a, b, by omega, fun e he => d e (List.mem_filter.1 he).1⟩
  · unfold wto; rw [if_neg h]; exact ht
theorem wth_not {t x : Vl} {z : Int} (h : t.kind ≠ 6) : wth t z x = t := if_neg h
theorem wto_not {t : Vl} {z : Int} (h : t.kind ≠ 6) : wto t z = t := if_neg h
/-- A value is equal to itself, wherever its parts lie. -/
theorem eqq (q : Vl) (s s' : Sb) (W : World) (hok : vok q) (h : RdV W q s) (h' : RdV W q s') : Calls Try.prog 20 #[.agg #[.int .i64 q.kind, .int .i64 q.n, .string (bs q.s), .slice s.A q.l.length s.c, .slice s.B q.f.length s.d], .agg #[.int .i64 q.kind, .int .i64 q.n, .string (bs q.s), .slice s'.A q.l.length s'.c, .slice s'.B q.f.length s'.d]] W (Ib (.bool true) W) := by
  have := refEqual_any q q _ _ W hok hok ⟨s.A, s.c, s.B, s.d, rfl, h⟩ ⟨s'.A, s'.c, s'.B, s'.d, rfl, h'⟩
  rwa [cm_self] at this
/-- A slot that holds a value whose parts read in the world. -/
def FWt (u : Vl) (W0 : World) : Fact := ⟨fun v w' => ∃ s : Sb, v = .agg #[.int .i64 u.kind, .int .i64 u.n, .string (bs u.s), .slice s.A u.l.length s.c, .slice s.B u.f.length s.d] ∧ RdV w' u s ∧ Below W0.heap.size W0 w', fun _ _ _ ⟨s, h1, h2, h3⟩ hb => ⟨s, h1, h2.next hb, upG h3 hb⟩⟩
section
variable {H : Type} {enc : TypeId × Value → H}
theorem cellsPair : Try.prog.cellsOf 43 = 2 := by kernel_rfl
theorem cellsOne : Try.prog.cellsOf 3 = 1 := by kernel_rfl
set_option maxRecDepth 100000 in
theorem open_int2 {W : World} {r : Go.Reach} {b0 : Nat} {v : Value} {d : DataW H} {p : List MemPlace} (hv : Value.okWide Try.prog W r b0 43 v) (h : DataW.Trod enc Try.prog W 0 (fun _ => true) true 43 v d p) :
    ∃ a b, v = .agg #[.int .i64 a, .int .i64 b] ∧ True := by
  obtain ⟨cs, rfl, hsz, _⟩ : ∃ cs, v = .agg cs ∧ cs.size = Try.prog.cellsOf 43 ∧ Row.okWide Try.prog W r b0 43 cs := by
    simpa [Value.okWide, Try.underlying43] using hv
  rw [cellsPair] at hsz
  obtain ⟨l⟩ := cs
  match l, hsz with
  | [c0, c1], _ =>
    obtain ⟨fuel, hf⟩ := h
    obtain ⟨xs, m, _, hx, _, hlen, hg⟩ := DataW.trod_array Try.underlying43 hf
    match xs, hlen with
    | [y0, y1], _ =>
      have h0 := hg 0 (by decide)
      have h1 := hg 1 (by decide)
      simp only [cellsOne, Value.cells] at h0 h1
      obtain ⟨a, e0, rfl, w0⟩ := DataW.trod_int Try.underlying3 h0
      obtain ⟨b, e1, rfl, w1⟩ := DataW.trod_int Try.underlying3 h1
      simp at e0 e1
      subst e0 e1
      exact ⟨a, b, rfl, trivial⟩
end
end Go.Proofs.Ytlebppjldoodgaa

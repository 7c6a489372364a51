/-
  What the laws share: an argument that is a number, opened; the law's post; the case that an argument has too many digits. No conditions.
-/
import Derived.Test.YtaiceebhifecbaaDoorT21
import Derived.ProofKit
import Derived.OpenShut
import Derived.Carry
import Derived.Lib.SmallJoins
namespace Go.Proofs.YtaiceebhifecbaaDoor
open Go.ChangeShapes Go.WideShapes Go.ChangeAt Go.RowKit
theorem Tryd.laidOut : laidOutB Tryd.prog = true := by kernel_rfl
theorem Tryd.own : ownKnob Tryd.prog.godebug = none := by kernel_rfl
section
variable {H : Type} {enc : TypeId × Value → H}
theorem cells35 : Tryd.prog.cellsOf 35 = 1 := by kernel_rfl
theorem cells24 : Tryd.prog.cellsOf 24 = 1 := by kernel_rfl
/-- An argument of the struct's type: its slice reads as digits. -/
theorem open_nat {W : World} {r : Reach} {b0 : Nat} {v : Value} {d : DataW H} {p : List MemPlace} (hv : Value.okWide Tryd.prog W r b0 24 v) (h : DataW.Trod enc Tryd.prog W 0 (fun _ => true) true 24 v d p) :
    ∃ A n c xs, v = nt A n c ∧ Rd W A xs ∧ xs.length = n ∧ n ≤ c ∧ Nm.Dig xs := by
  obtain ⟨cs, rfl, hsz⟩ := okWide_struct Tryd.underlying24 hv
  obtain ⟨l⟩ := cs
  match l, hsz.trans cells24 with
  | [c0], _ =>
    obtain ⟨fuel, hf⟩ := h
    obtain ⟨ys, k, _, _, _, hlen, hg⟩ := DataW.trod_struct Tryd.underlying24 hf
    have h1 := hg 0 _ rfl
    simp only [Value.cells] at h1
    have c22 : Tryd.prog.cellsOf 22 = 1 := by kernel_rfl
    have h2 : ∃ y, DataW.trod enc Tryd.prog W 0 (fun _ => true) true k 22 [c0] = some y := by
      match ys, hlen with
      | [y], _ => exact ⟨y, by simpa [c22] using h1⟩
    obtain ⟨y, h2⟩ := h2
    rcases open_ints Tryd.underlying22 Tryd.underlying35 cells35 h2 with ⟨hc, _⟩ | ⟨a, len, cap, zs, hc, _, hl, _, hz, _, hcell, hwf⟩
    · injection hc with hc _
      subst hc
      exact ⟨none, 0, 0, [], rfl, .inl rfl, rfl, Nat.le_refl _, Nm.Dig.nil⟩
    · injection hc with hc _
      subst hc
      have hzl : zs.length = cap := by simpa using hz
      have hb : ∀ z ∈ zs, 0 ≤ z ∧ z < 4294967296 := fun z hm => by
        have := hwf z hm
        simp [Lit.wf, IntKind.min, IntKind.max, IntKind.signed, IntKind.bits] at this
        omega
      refine ⟨some a, len, cap, (zs.take len).map Int.toNat, rfl, ?_, by simp; omega, hl, ?_⟩
      · rcases Nat.eq_zero_or_pos len with h0 | h0
        · subst h0; exact .inl (by simp)
        · have h3 := hcell 0 (by omega)
          have hs : a.spot = none := by
            rw [Addr.add_zero'] at h3
            cases hsp : a.spot with
            | none => rfl
            | some x =>
              unfold World.cell? at h3
              rw [hsp] at h3
              split at h3
              · simp at h3
              · cases h3
          obtain ⟨g, off, sp⟩ := a
          have hs' : sp = none := hs
          subst hs'
          refine .inr ⟨g, off, rfl, fun i hi => ?_⟩
          have hi' : i < len := by simp at hi; omega
          have h4 := hcell i (by omega)
          rw [Addr.add_lit] at h4
          rw [h4]
          have hiz : i < zs.length := by omega
          have h5 := hb zs[i] (List.getElem_mem hiz)
          simp only [List.getD, List.getElem?_eq_getElem hiz, Option.getD_some, List.getElem_map, List.getElem_take]
          rw [Int.toNat_of_nonneg h5.1]
      · intro z hz
        obtain ⟨x, hx, rfl⟩ := List.mem_map.1 hz
        have := hb x (List.mem_of_mem_take hx)
        omega
/-- The law's post, where the call only added memory. -/
theorem post_true {f : Func} {s : ChangeSpec} {W W' : World} {args : Array Value} {ds : List (DataW H)} {before pa : List MemPlace} (hs : s.vars = []) (hrt : f.resultTypes = #[4])
    (hW : DataW.Whole enc Tryd.prog f.params.toList s.vars false W args.toList ds [] before) (hres : (s.fn H (ds ++ [])).results = [.lit (.bool true)]) (hvs : (s.fn H (ds ++ [])).vars = [])
    (hargs : DataW.TrodAll enc Tryd.prog W' 0 (fun b => decide (b < W.heap.size)) true f.params.toList args.toList (s.fn H (ds ++ [])).args pa) (hb : Below W.heap.size W W') :
    s.post enc Tryd.prog f false true false false W args (.bool true) W' := by
  refine ⟨ds, [], before, [], pa, [], hW, ?_, hargs, ?_, hb.frame _, fun h => by cases h⟩
  · rw [hres, hrt]
    exact trodAll_mk1 (shut_bool Tryd.underlying4 _)
  · rw [hs, hvs]
    rfl
end
/-- Few, whatever the number. -/
theorem few_gen (A : Option Addr) (n c : Nat) (xs : List Nat) (w : World) (h : Rd w A xs) (hl : xs.length = n) : Calls Tryd.prog 12 #[nt A n c] w fun e w' => e = .returned (.bool (decide (n ≤ 12 ∧ Nm.tlen xs = n))) ∧ Below w.heap.size w w' := by
  rcases Nat.lt_or_ge 12 n with h1 | h1
  · refine (few_long A n c w h1).mono fun e w' ⟨he, hb⟩ => ⟨?_, hb⟩
    rw [he, decide_eq_false (by omega)]
  · subst hl
    refine (few_any A c xs w h h1).mono fun e w' ⟨he, hb⟩ => ⟨?_, hb⟩
    rw [he]
    congr 3
    simp [h1]
theorem few_is {A : Option Addr} {n : Nat} (c : Nat) {xs : List Nat} {w : World} (h : Rd w A xs) (hl : xs.length = n) {b : Bool} (hb : decide (n ≤ 12 ∧ Nm.tlen xs = n) = b) : Calls Tryd.prog 12 #[nt A n c] w fun e w' => e = .returned (.bool b) ∧ Below w.heap.size w w' := by
  subst hb
  exact few_gen A n c xs w h hl
/-- A parameter's cell, and what its slice reads as. -/
structure Arg (w : World) (b : Nat) (A : Option Addr) (n c : Nat) (zs : List Nat) : Prop where
  lt : b < w.heap.size
  cell : w.cell? ⟨b, 0, none⟩ = some (.slice A n c)
  rd : Rd w A zs
theorem Arg.below {w w' : World} {b : Nat} {A : Option Addr} {n c : Nat} {zs : List Nat} (h : Arg w b A n c zs) (hb : Below w.heap.size w w') : Arg w' b A n c zs :=
  ⟨Nat.lt_of_lt_of_le h.lt hb.size, ((seen hb).1 _ _ h.lt).trans h.cell, h.rd.below hb⟩
theorem Arg.at_ {w : World} {A : Option Addr} {b n c : Nat} {zs : List Nat} (h : Rd w A zs) (hb : b = w.heap.size) : Arg (w.alloc (Obj.cells #[Value.slice A n c] 24)) b A n c zs := by
  subst hb
  exact ⟨by simp, by simp, h.below (one _ _)⟩
theorem Arg.var {w : World} {b : Nat} {A : Option Addr} {n c : Nat} {zs : List Nat} (h : Arg w b A n c zs) (hl : zs.length = n) (hc : n ≤ c) (hd : Nm.Dig zs) (hf : decide (n ≤ 12 ∧ Nm.tlen zs = n) = true) : Var w b A n c zs :=
  ⟨h.lt, h.cell, ⟨h.rd, hl, hc, hd, by have := of_decide_eq_true hf; omega⟩⟩
theorem c_awake : ∀ w, Calls Tryd.prog 13 #[] w (Ret (Fact.eq (.bool true)) w) := fun w => (awake_any w).mono fun _ _ ⟨he, hb⟩ => ⟨_, he, hb, rfl⟩
/-- A number of at most k digits. -/
def Nm.Sz (k v : Nat) : Prop := v < 4294967296 ^ k
theorem Nm.Sz.val {zs : List Nat} (hd : Nm.Dig zs) (hf : decide (zs.length ≤ 12 ∧ Nm.tlen zs = zs.length) = true) : Nm.Sz 12 (Nm.val zs) :=
  Nat.lt_of_lt_of_le (Nm.val_lt hd) (Nat.pow_le_pow_right (by omega) (of_decide_eq_true hf).1)
theorem Nm.Sz.add {k l a b : Nat} (h : Nm.Sz k a) (h' : Nm.Sz l b) (hl : l ≤ k) : Nm.Sz (k + 1) (a + b) := by
  have h1 : b < 4294967296 ^ k := Nat.lt_of_lt_of_le h' (Nat.pow_le_pow_right (by omega) hl)
  have h2 : a < 4294967296 ^ k := h
  unfold Nm.Sz
  rw [Nat.pow_succ]
  omega
theorem Nm.Sz.mul {k l a b : Nat} (h : Nm.Sz k a) (h' : Nm.Sz l b) : Nm.Sz (k + l) (a * b) := by
  unfold Nm.Sz
  rw [Nat.pow_add]
  exact Nat.mul_lt_mul'' h h'
theorem Nm.Sz.len {k v : Nat} (h : Nm.Sz k v) (hk : k ≤ 400) : (Nm.nat v).length ≤ 400 := Nat.le_trans (Nm.nat_len h) hk
theorem Nm.Sz.mono {k a b : Nat} (h : Nm.Sz k a) (hb : b ≤ a) : Nm.Sz k b := Nat.lt_of_le_of_lt hb h
theorem Nm.canon {zs : List Nat} (hd : Nm.Dig zs) (hf : decide (zs.length ≤ 12 ∧ Nm.tlen zs = zs.length) = true) : Nm.nat (Nm.val zs) = zs := (Nm.eq_nat hd (of_decide_eq_true hf).2).symm
end Go.Proofs.YtaiceebhifecbaaDoor

/-
  What a row's proof needs where an argument is a slice of strings: its elements, their lengths, and that arguments read behind the call as they did; the law of chains over values as they come in. No conditions beyond the row's own.
-/
import Derived.Test.YtghmbglnhcdbjaaDoorCv
import Derived.Test.YtghmbglnhcdbjaaDoorCp
import Derived.Test.YtghmbglnhcdbjaaDoorPk
import Derived.Deep.Slices
import Derived.WideKeyArgs
import Derived.SliceStrings
import Derived.ChangeMaps5
namespace Go.Proofs.YtghmbglnhcdbjaaDoor
open Go.ChangeShapes Go.WideShapes Go.ChangeAt Go.RowKit
theorem trodAll_stays {H : Type} {enc : TypeId × Value → H} {P : Program} (hl : laidOutB P = true) {W W' : World} (hb : Below W.heap.size W W') :
    ∀ {ts : List TypeId} {vs : List Value} {ds : List (DataW H)} {ps : List MemPlace}, (ts.all fun t => P.readableRec t && decide (t < P.types.size)) = true → DataW.TrodAll enc P W 0 (fun _ => true) true ts vs ds ps → (∀ x ∈ ps, x.block < W.heap.size) →
      DataW.TrodAll enc P W' 0 (fun b => decide (b < W.heap.size)) true ts vs ds ps
  | [], [], [], _, _, h, _ => h
  | t :: ts, v :: vs, d :: ds, ps, hr, ⟨p, q, h, hs, e⟩, hlt => by
    simp only [List.all_cons, Bool.and_eq_true, decide_eq_true_eq] at hr
    have hp : ∀ x ∈ p, x.block < W.heap.size := fun x hx => hlt x (by rw [e]; simp [hx])
    have hq : ∀ x ∈ q, x.block < W.heap.size := fun x hx => hlt x (by rw [e]; simp [hx])
    exact ⟨p, q, Go.WideElems.Trod_stays hl hr.1.1 hr.1.2 h (fun x hx => hb.same (hp x hx)) (fun x hx => by simpa using hp x hx), trodAll_stays hl hb hr.2 hs hq, e⟩
theorem post_stays {H : Type} {enc : TypeId × Value → H} {f : Func} {s : ChangeSpec} {W W' : World} {args : Array Value} {ds : List (DataW H)} {before : List MemPlace} (hs : s.vars = []) (hrt : f.resultTypes = #[4])
    (hW : DataW.Whole enc Tryd.prog f.params.toList s.vars false W args.toList ds [] before) (hres : (s.fn H (ds ++ [])).results = [.lit (.bool true)]) (hvs : (s.fn H (ds ++ [])).vars = []) (hds : (s.fn H (ds ++ [])).args = ds)
    (hr : (f.params.toList.all fun t => Tryd.prog.readableRec t && decide (t < Tryd.prog.types.size)) = true) (hb : Below W.heap.size W W') :
    s.post enc Tryd.prog f false true false false W args (.bool true) W' := by
  have hlt : ∀ p ∈ before, p.block < W.heap.size := fun p hp => hW.lt p hp
  have hW2 := hW
  obtain ⟨p, q, hA, hV, e, _, _⟩ := hW2
  have hA2 : DataW.TrodAll enc Tryd.prog W 0 (fun _ => true) true f.params.toList args.toList ds p := hA
  refine post_true (pa := p) hs hrt hW hres hvs ?_ hb
  rw [hds]
  exact trodAll_stays (by kernel_rfl) hb hr hA2 fun x hx => hlt x (by rw [e]; simp [hx])
/-- An argument that is a slice of n strings, none longer than the form's reach. -/
def Arg (W : World) (p : Option Addr) (n : Nat) : Prop := n = 0 ∨ ∃ ad, p = some ad ∧ ad.block < W.heap.size ∧ ∃ L : List (List UInt8), L.length = n ∧ (∀ s ∈ L, s.length ≤ reachBytes) ∧ ∀ i (h : i < L.length), W.cell? (ad.add i) = some (.string (bs L[i]))
section
variable {H : Type} {enc : TypeId × Value → H}
theorem mem_weights (xs : List ByteArray) : ∀ s ∈ xs, s.data.toList.length ∈ DataW.weightsAll Tryd.prog 9 (strs xs : List (DataW H)) := by
  induction xs with
  | nil => intro s hs; cases hs
  | cons x xs ih =>
    intro s hs
    simp only [strs, List.map_cons, DataW.weightsAll, List.mem_append]
    rcases List.mem_cons.1 hs with rfl | hs
    · left; simp [DataW.weights]
    · right; exact ih s hs
theorem open_sl {W : World} {r : Reach} {b0 : Nat} {v : Value} {d : DataW H} {p : List MemPlace} (hv : Value.okWide Tryd.prog W r b0 40 v) (h : DataW.Trod enc Tryd.prog W 0 (fun _ => true) true 40 v d p) (hz : (d.weights Tryd.prog 40).all (· ≤ reachBytes) = true) :
    ∃ A n c, v = .slice A n c ∧ n ≤ 9223372036854775807 ∧ Arg W A n := by
  obtain ⟨A, n, c, rfl⟩ := okWide_slice Tryd.underlying40 hv
  obtain ⟨fuel, hf⟩ := h
  rcases open_strings Tryd.underlying40 Tryd.underlying9 (by kernel_rfl) hf with ⟨hc, _⟩ | ⟨a, len, cap, ss, hc, _, hl, hm, hlen, hx, hcell, _⟩
  · simp [Value.cells] at hc
    obtain ⟨rfl, rfl, rfl⟩ := hc
    exact ⟨none, 0, 0, rfl, by decide, .inl rfl⟩
  · simp [Value.cells] at hc
    obtain ⟨rfl, rfl, rfl⟩ := hc
    refine ⟨_, _, _, rfl, by simp only [maxLen] at hm; omega, ?_⟩
    have hd : d = .slice (strs (ss.take n)) (strs (ss.drop n)) := congrArg Prod.fst hx
    have hsl : ss.length = c := by simpa using hlen
    by_cases h0 : n = 0
    · exact .inl h0
    have hnl : n ≤ ss.length := by omega
    refine .inr ⟨a, rfl, ?_, (ss.take n).map fun s => s.data.toList, by simp; omega, ?_, ?_⟩
    · have := hcell 0 (by omega)
      have hb := World.block_lt_of_cell? W _ this
      rw [add_block] at hb
      exact hb
    · intro s hs
      obtain ⟨b, hb, rfl⟩ := List.mem_map.1 hs
      subst hd
      refine of_decide_eq_true (List.all_eq_true.1 hz _ ?_)
      simp only [DataW.weights, Tryd.underlying40, List.mem_cons, List.mem_append]
      exact .inr (.inl (mem_weights _ b hb))
    · intro i hi
      have hin : i < n := by simp at hi; omega
      rw [hcell i (by omega)]
      simp only [List.getElem_map, List.getElem_take]
      rw [← bs_of, List.getD_eq_getElem?_getD, List.getElem?_eq_getElem (by omega)]
      rfl
end
theorem Arg.sg {W : World} {p : Option Addr} {n m : Nat} (h : Arg W p n) (hm : m ≤ n) : ∃ A : List (List UInt8), A.length = m ∧ (∀ s ∈ A, s.length ≤ 140737488355328) ∧ (0 < m → ∃ ad, p = some ad ∧ Sg W ad A) := by
  rcases h with rfl | ⟨ad, hp, hb, L, hl, hr, hc⟩
  · exact ⟨[], by simp; omega, by simp, fun h => by omega⟩
  · refine ⟨L.take m, by rw [List.length_take]; omega, fun s hs => Nat.le_trans (hr s (List.mem_of_mem_take hs)) (by decide), fun _ => ⟨ad, hp, hb, fun i hi => ?_⟩⟩
    rw [List.length_take] at hi
    rw [hc i (by omega), List.getElem_take]
theorem chains_row (a : Int) (pa : Option Addr) (na ca : Nat) (pb : Option Addr) (nb cb : Nat) (w : World) (a1 : 0 ≤ a) (a2 : a ≤ 18446744073709551615) (hna : na ≤ 9223372036854775807) (HA : Arg w pa na) (hnb : nb ≤ 9223372036854775807) (HB : Arg w pb nb) (hl : laidMetH Tryd.prog Rows.checksumChainsRow.laid w) :
    Calls Tryd.prog 8 #[.int .u64 a, .slice pa na ca, .slice pb nb cb] w (Ib (.bool true) w) := by
  obtain ⟨p, rfl⟩ := Int.eq_ofNat_of_zero_le a1
  obtain ⟨n, hn⟩ : ∃ n, min na (min nb 40) = n := ⟨_, rfl⟩
  obtain ⟨A, lA, zA, sA⟩ := HA.sg (m := n) (by omega)
  obtain ⟨B, lB, zB, sB⟩ := HB.sg (m := n) (by omega)
  exact chains_core p pa pb na ca nb cb n A B w (by omega) lA lB (by omega) (by omega) (by omega) (by omega) hna hnb sA sB zA zB (tabs_laid hl)
end Go.Proofs.YtghmbglnhcdbjaaDoor

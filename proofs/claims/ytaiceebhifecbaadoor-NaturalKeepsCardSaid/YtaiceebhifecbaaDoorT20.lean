/-
  The contracts once more, with the lengths as numbers of their own and the results told by a list: for calls with written-out arguments. Conditions: slices of at most 400 digits.
-/
import Derived.Test.YtaiceebhifecbaaDoorT19
namespace Go.Proofs.YtaiceebhifecbaaDoor
open Go.RowKit
theorem Nm.lit {V : Nat} (zs : List Nat) (hv : V = Nm.val zs) (hd : Nm.Dig zs) (ht : Nm.tlen zs = zs.length) : Nm.nat V = zs := by
  rw [hv]; exact (Nm.eq_nat hd ht).symm
/-- A number in memory: the struct's slice reads as zs. -/
structure Num (w : World) (A : Option Addr) (n c : Nat) (zs : List Nat) : Prop where
  rd : Rd w A zs
  len : zs.length = n
  cap : n ≤ c
  dig : Nm.Dig zs
  small : n ≤ 400
theorem Num.below {w w' : World} {A : Option Addr} {n c : Nat} {zs : List Nat} (h : Num w A n c zs) (hb : Below w.heap.size w w') : Num w' A n c zs := ⟨h.rd.below hb, h.len, h.cap, h.dig, h.small⟩
section
variable {w : World} {A B : Option Addr} {n m c d : Nat} {xs ys : List Nat}
theorem add_n (hx : Num w A n c xs) (hy : Num w B m d ys) (rs : List Nat) (hr : Nm.nat (Nm.val xs + Nm.val ys) = rs) :
    Calls Tryd.prog 19 #[nt A n c, nt B m d] w fun e w' => ∃ A' c', e = .returned (nt A' rs.length c') ∧ rs.length ≤ c' ∧ Fr w.heap.size w' A' rs ∧ Below w.heap.size w w' := by
  obtain ⟨h1, rfl, h2, h3, h4⟩ := hx
  obtain ⟨k1, rfl, k2, k3, k4⟩ := hy
  subst hr
  exact add_any A B c d xs ys w h1 k1 h3 k3 h2 k2 (by omega) (by omega)
theorem mul_n (hx : Num w A n c xs) (hy : Num w B m d ys) (rs : List Nat) (hr : Nm.nat (Nm.val xs * Nm.val ys) = rs) :
    Calls Tryd.prog 21 #[nt A n c, nt B m d] w fun e w' => ∃ A' c', e = .returned (nt A' rs.length c') ∧ rs.length ≤ c' ∧ Fr w.heap.size w' A' rs ∧ Below w.heap.size w w' := by
  obtain ⟨h1, rfl, h2, h3, h4⟩ := hx
  obtain ⟨k1, rfl, k2, k3, k4⟩ := hy
  subst hr
  exact mul_any A B c d xs ys w h1 k1 h3 k3 h2 k2 (by omega) (by omega)
theorem sub_n (hx : Num w A n c xs) (hy : Num w B m d ys) (rs : List Nat) (b : Bool) (hr : Nm.nat (Nm.val xs - Nm.val ys) = rs) (hb : decide (Nm.val ys ≤ Nm.val xs) = b) :
    Calls Tryd.prog 14 #[nt A n c, nt B m d] w fun e w' => ∃ A' c', e = .returned (.tuple #[nt A' rs.length c', .bool b]) ∧ rs.length ≤ c' ∧ Fr w.heap.size w' A' rs ∧ Below w.heap.size w w' := by
  obtain ⟨h1, rfl, h2, h3, h4⟩ := hx
  obtain ⟨k1, rfl, k2, k3, k4⟩ := hy
  subst hr hb
  exact sub_any A B c d xs ys w h1 k1 h3 k3 h2 k2 (by omega) (by omega)
theorem cmp_n (hx : Num w A n c xs) (hy : Num w B m d ys) :
    Calls Tryd.prog 16 #[nt A n c, nt B m d] w fun e w' => e = .returned (.int .i64 (cmpI (Nm.val xs) (Nm.val ys))) ∧ Below w.heap.size w w' := by
  obtain ⟨h1, rfl, h2, h3, h4⟩ := hx
  obtain ⟨k1, rfl, k2, k3, k4⟩ := hy
  exact cmp_any A B c d xs ys w h1 k1 h3 k3 h2 k2 (by omega) (by omega)
theorem same_n (hx : Num w A n c xs) (hy : Num w B m d ys) (b : Bool) (hb : decide (xs = ys) = b) :
    Calls Tryd.prog 18 #[nt A n c, nt B m d] w fun e w' => e = .returned (.bool b) ∧ Below w.heap.size w w' := by
  obtain ⟨h1, rfl, h2, h3, h4⟩ := hx
  obtain ⟨k1, rfl, k2, k3, k4⟩ := hy
  subst hb
  exact same_any A B c d xs ys w h1 k1 (by omega) (by omega)
theorem divMod_n (L : Nat) (hL : DivOk L) (hx : Num w A n c xs) (hy : Num w B m d ys) (h0 : 0 < Nm.tlen ys) (hl : Nm.tlen ys ≤ L) (qs rs : List Nat) (hq : Nm.nat (Nm.val xs / Nm.val ys) = qs) (hr : Nm.nat (Nm.val xs % Nm.val ys) = rs) :
    Calls Tryd.prog 28 #[nt A n c, nt B m d] w fun e w' => ∃ A1 c1 A2 c2, e = .returned (.tuple #[nt A1 qs.length c1, nt A2 rs.length c2, .int .i64 0]) ∧ qs.length ≤ c1 ∧ rs.length ≤ c2 ∧ Fr w.heap.size w' A1 qs ∧ Fr w.heap.size w' A2 rs ∧ Below w.heap.size w w' := by
  obtain ⟨h1, rfl, h2, h3, h4⟩ := hx
  obtain ⟨k1, rfl, k2, k3, k4⟩ := hy
  subst hq hr
  exact divMod_any L hL A B c d xs ys w h1 k1 h3 k3 h2 k2 (by omega) (by omega) h0 hl
theorem gcd_n (L : Nat) (hL : DivOk L) (hx : Num w A n c xs) (hy : Num w B m d ys) (hl : Nm.tlen ys ≤ L) (rs : List Nat) (hr : Nm.nat (Nat.gcd (Nm.val xs) (Nm.val ys)) = rs) :
    Calls Tryd.prog 29 #[nt A n c, nt B m d] w fun e w' => ∃ A' c', e = .returned (nt A' rs.length c') ∧ rs.length ≤ c' ∧ Fr w.heap.size w' A' rs ∧ Below w.heap.size w w' := by
  obtain ⟨h1, rfl, h2, h3, h4⟩ := hx
  obtain ⟨k1, rfl, k2, k3, k4⟩ := hy
  subst hr
  exact gcd_any L hL A B c d xs ys w h1 k1 h3 k3 h2 k2 (by omega) (by omega) hl
theorem bits_n (hx : Num w A n c xs) (v : Nat) (hv : Nm.blen (Nm.val xs) = v) :
    Calls Tryd.prog 23 #[nt A n c] w fun e w' => e = .returned (.int .i64 (v : Int)) ∧ Below w.heap.size w w' := by
  obtain ⟨h1, rfl, h2, h3, h4⟩ := hx
  subst hv
  exact bits_any A c xs w h1 h3 h2 (by omega)
theorem format_n (hx : Num w A n c xs) :
    Calls Tryd.prog 33 #[nt A n c] w fun e w' => ∃ s : ByteArray, e = .returned (.string s) ∧ Bt s = Nm.dec (Nm.val xs) ∧ Below w.heap.size w w' := by
  obtain ⟨h1, rfl, h2, h3, h4⟩ := hx
  exact format_any A c xs w h1 h3 h2 (by omega)
theorem nat_n (zs : List Nat) (h : Rd w A zs) (hn : zs.length = n) (hm : n ≤ 400) :
    Calls Tryd.prog 36 #[.slice A n c] w fun e w' => ∃ A' c', e = .returned (nt A' zs.length c') ∧ zs.length ≤ c' ∧ Fr w.heap.size w' A' zs ∧ Below w.heap.size w w' := by
  subst hn
  exact nat_any A c zs w h (by omega)
theorem of_n (v : Nat) (rs : List Nat) (hv : v < 18446744073709551616) (hr : Nm.nat v = rs) :
    Calls Tryd.prog 25 #[.int .u64 v] w fun e w' => ∃ A' c', e = .returned (nt A' rs.length c') ∧ rs.length ≤ c' ∧ Fr w.heap.size w' A' rs ∧ Below w.heap.size w w' := by
  subst hr
  exact of_any v w hv
end
theorem Fr.num {B : Nat} {w : World} {A : Option Addr} {c : Nat} {zs : List Nat} (h : Fr B w A zs) (hc : zs.length ≤ c) (hd : Nm.Dig zs) (hm : zs.length ≤ 400) : Num w A zs.length c zs := ⟨h.rd, rfl, hc, hd, hm⟩
theorem rd_lits (w : World) (cs : Array Value) (zs : List Nat) (h : cs = (zs.map fun z : Nat => Value.int .u32 (z : Int)).toArray) : Rd (w.alloc (Obj.cells cs 35)) (some ⟨w.heap.size, 0, none⟩) zs :=
  .inr ⟨_, _, rfl, (Row.new w 35 cs zs fun i hi => by rw [h]; simp [List.getElem?_eq_getElem hi]).1⟩
theorem rd_at (w : World) (cs : Array Value) (b : Nat) (zs : List Nat) (hb : b = w.heap.size) (h : cs = (zs.map fun z : Nat => Value.int .u32 (z : Int)).toArray) : Rd (w.alloc (Obj.cells cs 35)) (some ⟨b, 0, none⟩) zs := by
  subst hb
  exact rd_lits w cs zs h
/-- A local variable that holds a number: its block, and what it holds. -/
structure Var (w : World) (b : Nat) (A : Option Addr) (n c : Nat) (zs : List Nat) : Prop where
  lt : b < w.heap.size
  cell : w.cell? ⟨b, 0, none⟩ = some (.slice A n c)
  num : Num w A n c zs
theorem Var.below {w w' : World} {b : Nat} {A : Option Addr} {n c : Nat} {zs : List Nat} (h : Var w b A n c zs) (hb : Below w.heap.size w w') : Var w' b A n c zs :=
  ⟨Nat.lt_of_lt_of_le h.lt hb.size, ((seen hb).1 _ _ h.lt).trans h.cell, h.num.below hb⟩
theorem Var.new {w : World} {A : Option Addr} {n c : Nat} {zs : List Nat} (h : Num w A n c zs) : Var (w.alloc (Obj.cells #[Value.slice A n c] 24)) w.heap.size A n c zs :=
  ⟨by simp, by simp, h.below (one _ _)⟩
theorem Var.at_ {w : World} {A : Option Addr} {b n c : Nat} {zs : List Nat} (h : Num w A n c zs) (hb : b = w.heap.size) : Var (w.alloc (Obj.cells #[Value.slice A n c] 24)) b A n c zs := by
  subst hb
  exact Var.new h
theorem Bt_inj {s t : ByteArray} (h : Bt s = Bt t) : s = t := by
  obtain ⟨⟨a⟩⟩ := s
  obtain ⟨⟨b⟩⟩ := t
  congr 2
  refine List.ext_getElem? fun i => ?_
  have h1 := congrArg (fun l => l[i]?) h
  simp only [Bt, List.getElem?_map] at h1
  cases ha : a[i]? <;> cases hb : b[i]? <;> simp_all
  exact UInt8.toNat_inj.1 h1
theorem parse_007 (w : World) : Calls Tryd.prog 31 #[.string ⟨#[48, 48, 55]⟩] w fun e w' => e = .returned (.tuple #[nt none 0 0, .int .i64 2]) ∧ Below w.heap.size w w' := by
  have hB : Bt ⟨#[48, 48, 55]⟩ = [48, 48, 55] := rfl
  have hk : Nm.chk (Bt ⟨#[48, 48, 55]⟩) = 2 := by rw [hB]; decide
  have := parse_bad ⟨#[48, 48, 55]⟩ w (by decide) (by rw [hk]; decide)
  rwa [hk] at this
theorem parse_big (w : World) : Calls Tryd.prog 31 #[.string ⟨#[49, 56, 52, 52, 54, 55, 52, 52, 48, 55, 51, 55, 48, 57, 53, 53, 49, 54, 49, 54]⟩] w fun e w' => ∃ A c, e = .returned (.tuple #[nt A 3 c, .int .i64 0]) ∧ 3 ≤ c ∧ Fr w.heap.size w' A [0, 0, 1] ∧ Below w.heap.size w w' := by
  have hB : Bt ⟨#[49, 56, 52, 52, 54, 55, 52, 52, 48, 55, 51, 55, 48, 57, 53, 53, 49, 54, 49, 54]⟩ = [49, 56, 52, 52, 54, 55, 52, 52, 48, 55, 51, 55, 48, 57, 53, 53, 49, 54, 49, 54] := rfl
  have hk : Nm.chk (Bt ⟨#[49, 56, 52, 52, 54, 55, 52, 52, 48, 55, 51, 55, 48, 57, 53, 53, 49, 54, 49, 54]⟩) = 0 := by rw [hB]; decide
  have hv : Nm.nat (Nm.dval (Bt ⟨#[49, 56, 52, 52, 54, 55, 52, 52, 48, 55, 51, 55, 48, 57, 53, 53, 49, 54, 49, 54]⟩)) = [0, 0, 1] := by
    rw [hB]
    exact Nm.lit [0, 0, 1] (by decide +kernel) (by intro z hz; simp at hz; omega) (by decide)
  have := parse_good ⟨#[49, 56, 52, 52, 54, 55, 52, 52, 48, 55, 51, 55, 48, 57, 53, 53, 49, 54, 49, 54]⟩ w (by decide) hk
  rwa [hv] at this
theorem nd_eq {v k : Nat} (h1 : 10 ^ k ≤ v) (h2 : v < 10 ^ (k + 1)) : Nm.nd v = k + 1 := by
  have h3 := Nm.nd_le_of_lt h2
  rcases Nat.lt_or_ge k (Nm.nd v) with h | h
  · omega
  · have h4 := Nm.lt_nd v
    have : 10 ^ Nm.nd v ≤ 10 ^ k := Nat.pow_le_pow_right (by omega) h
    omega
theorem format_lit {w : World} {A : Option Addr} {n c : Nat} (hx : Num w A n c [0, 1]) :
    Calls Tryd.prog 33 #[nt A n c] w fun e w' => e = .returned (.string ⟨#[52, 50, 57, 52, 57, 54, 55, 50, 57, 54]⟩) ∧ Below w.heap.size w w' := by
  refine (format_n hx).mono ?_
  rintro e w' ⟨s, rfl, hs, hb⟩
  refine ⟨?_, hb⟩
  have hv : Nm.val [0, 1] = 4294967296 := by decide +kernel
  have hn : Nm.nd 4294967296 = 10 := nd_eq (k := 9) (by decide +kernel) (by decide +kernel)
  have hd : Nm.dec 4294967296 = Bt ⟨#[52, 50, 57, 52, 57, 54, 55, 50, 57, 54]⟩ := by
    unfold Nm.dec
    rw [hn, if_neg (by decide)]
    decide +kernel
  rw [hv, hd] at hs
  rw [Bt_inj hs]
theorem of_lit (w : World) : Calls Tryd.prog 25 #[.int .u64 4294967296] w fun e w' => ∃ A' c', e = .returned (nt A' 2 c') ∧ 2 ≤ c' ∧ Fr w.heap.size w' A' [0, 1] ∧ Below w.heap.size w w' := by
  have := of_n (w := w) 4294967296 [0, 1] (by omega) (Nm.lit [0, 1] (by decide +kernel) (by intro z hz; simp at hz; omega) (by decide))
  rwa [show (((4294967296 : Nat) : Int)) = 4294967296 from rfl] at this
end Go.Proofs.YtaiceebhifecbaaDoor

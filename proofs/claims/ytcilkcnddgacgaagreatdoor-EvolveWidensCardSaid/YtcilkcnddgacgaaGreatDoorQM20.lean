/-
  The developers' comparison of a name. No conditions beyond those that each names.
-/
import Derived.Test.YtcilkcnddgacgaaGreatDoorQM19
import Derived.Test.YtcilkcnddgacgaaGreatDoorQM15
import Derived.Test.YtcilkcnddgacgaaGreatDoorQM10
import Derived.Test.YtcilkcnddgacgaaGreatDoorQM09
namespace Go.Proofs.YtcilkcnddgacgaaGreatDoor
open Go.RowKit Go.Sort
theorem stK_nwf {lo : Nat} {w' : World} {t : St} {n : List UInt8} {A : Option Addr} {m c : Nat} (h : ∀ w2, Kpl lo w' w2 → StV w2 t (.agg #[.string (bs n), .slice A m c])) (hn : 0 < t.fields.length) : ∃ a, A = some a ∧ NwF lo w' t.fields (some a) := by
  have key : ∀ w2, Kpl lo w' w2 → Rw FdA 7 w2 t.fields A := fun w2 hk => by
    obtain ⟨A', c', e, hr⟩ := h w2 hk
    injection e with e
    injection e with e
    injection e with _ e
    injection e with e _
    injection e with e
    rw [e]
    exact hr
  obtain ⟨a, rfl, -⟩ := (key w' (Kpl.refl _ _)).get hn
  exact ⟨a, rfl, key⟩
set_option maxRecDepth 100000 in
set_option maxHeartbeats 8000000 in
/-- Where one of the schemas has no such enumeration. -/
theorem cmpNumbers_no (w0 w : World) (S T : Sch) (A : Option Addr) (c : Nat) (A2 : Option Addr) (c2 : Nat) (A5 : Option Addr) (c5 : Nat) (A6 : Option Addr) (c6 : Nat) (nm : List UInt8) (g B : Nat) (vI : Value) (L : List Iss)
    (hS : Sc w0 S A A2) (hT : Sc w0 T A5 A6) (hfS : Few9 S) (hfT : Few9 T) (hb0 : Below w0.heap.size w0 w)
    (hC : Bx w g [.int .i64 S.ver, .slice A S.enums.length c, .slice A2 S.structs.length c2, .int .i64 T.ver, .slice A5 T.enums.length c5, .slice A6 T.structs.length c6, vI]) (hO : OwS B w vI L) (hno : (fst_ En.name S.enums nm).isSome = false ∨ (fst_ En.name T.enums nm).isSome = false) :
    Calls Tryz.prog 73 #[.pointer (some ⟨g, 0, none⟩), .string (bs nm)] w (CfP g B [.int .i64 S.ver, .slice A S.enums.length c, .slice A2 S.structs.length c2, .int .i64 T.ver, .slice A5 T.enums.length c5, .slice A6 T.structs.length c6] vI (fun l => l = L) w) := by
  have cS := fun W (hb : Below w.heap.size w W) => devEnum_any S nm (.agg #[.int .i64 S.ver, .slice A S.enums.length c, .slice A2 S.structs.length c2]) W ⟨A, c, A2, c2, rfl, Sc.next (Below.next hb0 hb) hS⟩ hfS.el hfS.en
  have cT := fun W (hb : Below w.heap.size w W) => devEnum_any T nm (.agg #[.int .i64 T.ver, .slice A5 T.enums.length c5, .slice A6 T.structs.length c6]) W ⟨A5, c5, A6, c6, rfl, Sc.next (Below.next hb0 hb) hT⟩ hfT.el hfT.en
  unfold EnO at cS cT
  generalize fst_ En.name S.enums nm = eo at *
  generalize fst_ En.name T.enums nm = fo at *
  have f0 := hC.c 0 rfl
  have f1 := hC.c 1 rfl
  have f2 := hC.c 2 rfl
  have f3 := hC.c 3 rfl
  have f4 := hC.c 4 rfl
  have f5 := hC.c 5 rfl
  have fl := hC.lt
  have c1 := cS w (Below.refl _ _)
  clear cS
  go_enter Tryz.func73, Tryz.ntmps73
  go_wp2_with fail
  refine c1.mono ?_
  rintro en w1 ⟨v, rfl, ⟨B8, d8, B9, d9, rfl, -, -⟩, hb1⟩
  have hbx := ab1 w1 (Obj.cells #[.string (bs (eo.getD en0).name), .slice B8 (eo.getD en0).names.length d8, .slice B9 (eo.getD en0).nums.length d9] 94)
  have hab := Below.next hb1 hbx
  clear c1 f0 f1 f2 f3 f4 f5 fl
  have hC1 := hC.next hab
  go_upto_region 1 with (fail)
  generalize w1.alloc (Obj.cells #[.string (bs (eo.getD en0).name), .slice B8 (eo.getD en0).names.length d8, .slice B9 (eo.getD en0).nums.length d9] 94) = w2 at *
  have f0 := hC1.c 0 rfl
  have f1 := hC1.c 1 rfl
  have f2 := hC1.c 2 rfl
  have f3 := hC1.c 3 rfl
  have f4 := hC1.c 4 rfl
  have f5 := hC1.c 5 rfl
  have fl := hC1.lt
  have c1 := cT w2 hab
  clear cT hbx hb1
  go_wp2_with fail
  refine c1.mono ?_
  rintro en w3 ⟨v, rfl, ⟨E8, e8, E9, e9, rfl, -, -⟩, hb3⟩
  have hbx := ab1 w3 (Obj.cells #[.string (bs (fo.getD en0).name), .slice E8 (fo.getD en0).names.length e8, .slice E9 (fo.getD en0).nums.length e9] 94)
  have hab2 := Below.next hab (Below.next hb3 hbx)
  clear c1 f0 f1 f2 f3 f4 f5 fl hC1
  have HR := Lib.hid (show CfP g B [.int .i64 S.ver, .slice A S.enums.length c, .slice A2 S.structs.length c2, .int .i64 T.ver, .slice A5 T.enums.length c5, .slice A6 T.structs.length c6] vI (fun l => l = L) w (.returned (.tuple #[])) _ from ⟨rfl, vI, L, hC.next hab2, own_next hO hab2, Ad.of _ hab2, rfl⟩)
  clear hC hO hS hT hb0 hb3 hbx hab hab2
  go_upto_region 2 with (fail)
  generalize eo.isSome = p at *
  generalize fo.isSome = p' at *
  cases p
  case false =>
    go_wp2_with fail
    go_end0
    exact HR.out
  case true =>
    obtain rfl : p' = false := hno.resolve_left (by simp)
    go_wp2_with fail
    go_end0
    exact HR.out
set_option maxRecDepth 100000 in
set_option maxHeartbeats 8000000 in
/-- Where both schemas have such a struct. -/
theorem cmpOne_both (w0 w : World) (S T : Sch) (A : Option Addr) (c : Nat) (A2 : Option Addr) (c2 : Nat) (A5 : Option Addr) (c5 : Nat) (A6 : Option Addr) (c6 : Nat) (nm : List UInt8) (g B : Nat) (vI : Value) (L : List Iss)
    (hS : Sc w0 S A A2) (hT : Sc w0 T A5 A6) (hfS : Few9 S) (hfT : Few9 T) (hb0 : Below w0.heap.size w0 w) (hg0 : w0.heap.size ≤ g) (hq0 : ∀ q, vI.ownBlock = some q → w0.heap.size ≤ q)
    (hC : Bx w g [.int .i64 S.ver, .slice A S.enums.length c, .slice A2 S.structs.length c2, .int .i64 T.ver, .slice A5 T.enums.length c5, .slice A6 T.structs.length c6, vI]) (hO : OwS B w vI L) (hB : B ≤ w.heap.size) (hgB : g < B) (hlS : lok9 S) (hlT : lok9 T) (hL : L.length ≤ 50000) (sa sb : St) (hsa : fst_ St.name S.structs nm = some sa) (hsb : fst_ St.name T.structs nm = some sb) (hna : 0 < sa.fields.length) (hnb : 0 < sb.fields.length)
    (hno : (fst_ En.name S.enums nm).isSome = false ∨ (fst_ En.name T.enums nm).isSome = false) :
    Calls Tryz.prog 29 #[.pointer (some ⟨g, 0, none⟩), .string (bs nm)] w (CfP g B [.int .i64 S.ver, .slice A S.enums.length c, .slice A2 S.structs.length c2, .int .i64 T.ver, .slice A5 T.enums.length c5, .slice A6 T.structs.length c6] vI (fun l => l = (sa.fields ++ sb.fields).foldl (fun l f => lsF (fst_ Fd.num sa.fields f.num) (fst_ Fd.num sb.fields f.num) f sa.name l) L) w) := by
  have hma := (fst_mem hsa).1
  have hmb := (fst_mem hsb).1
  have cS := fun W (hb : Below w.heap.size w W) => devStruct_k S nm (.agg #[.int .i64 S.ver, .slice A S.enums.length c, .slice A2 S.structs.length c2]) W ⟨A, c, A2, c2, rfl, Sc.next (Below.next hb0 hb) hS⟩ hfS.sl hfS.st
  have cT := fun W (hb : Below w.heap.size w W) => devStruct_k T nm (.agg #[.int .i64 T.ver, .slice A5 T.enums.length c5, .slice A6 T.structs.length c6]) W ⟨A5, c5, A6, c6, rfl, Sc.next (Below.next hb0 hb) hT⟩ hfT.sl hfT.st
  have cN := fun w' vI' L' h1 h2 h3 => cmpNumbers_no w0 w' S T A c A2 c2 A5 c5 A6 c6 nm g B vI' L' hS hT hfS hfT h1 h2 h3 hno
  rw [hsa] at cS
  rw [hsb] at cT
  have hfa := hfS.st sa hma
  have hfb := hfT.st sb hmb
  have hla := hlS sa hma
  have hlb := hlT sb hmb
  have cF := fun lo w' (a a' : Addr) d d' h1 h2 h3 h4 h5 h6 h7 h8 => cmpFields_any lo g B (.int .i64 S.ver) (.slice A S.enums.length c) (.slice A2 S.structs.length c2) (.int .i64 T.ver) (.slice A5 T.enums.length c5) (.slice A6 T.structs.length c6) vI L sa sb a a' d d' w' h1 h2 h3 hgB h4 h5 h6 hL h7 h8 hfa.1 hfb.1 (fun f hf => ⟨hfa.2 f hf, hla f hf⟩) (fun f hf => ⟨hfb.2 f hf, hlb f hf⟩)
  obtain ⟨R, hR⟩ : ∃ R, (sa.fields ++ sb.fields).foldl (fun l f => lsF (fst_ Fd.num sa.fields f.num) (fst_ Fd.num sb.fields f.num) f sa.name l) L = R := ⟨_, rfl⟩
  rw [hR]
  simp only [hR] at cF
  clear hR hfa hfb hla hlb hsa hsb hma hmb
  unfold StK at cS cT
  simp only [Option.getD_some, Option.isSome_some] at cS cT
  have f0 := hC.c 0 rfl
  have f1 := hC.c 1 rfl
  have f2 := hC.c 2 rfl
  have f3 := hC.c 3 rfl
  have f4 := hC.c 4 rfl
  have f5 := hC.c 5 rfl
  have fl := hC.lt
  have c1 := cS w (Below.refl _ _)
  clear cS
  go_enter Tryz.func29, Tryz.ntmps29
  go_wp2_with fail
  refine c1.mono ?_
  rintro en w1 ⟨v, rfl, hK1, hb1⟩
  obtain ⟨E1, d1, rfl, hR1⟩ := hK1 w1 (Kpl.refl _ _)
  obtain ⟨a, rfl, hA⟩ := stK_nwf hK1 hna
  have hbx := ab1 w1 (Obj.cells #[.string (bs sa.name), .slice (some a) sa.fields.length d1] 37)
  have D4 := Bx.new2 w1 37 (.string (bs sa.name)) (.slice (some a) sa.fields.length d1)
  have hab := Below.next hb1 hbx
  have hA2 := hA.next (kpl_below hbx)
  clear c1 f0 f1 f2 f3 f4 f5 fl hR1 hK1 hA
  have hC1 := hC.next hab
  go_upto_region 1 with (fail)
  generalize w1.alloc (Obj.cells #[.string (bs sa.name), .slice (some a) sa.fields.length d1] 37) = w2 at *
  have f0 := hC1.c 0 rfl
  have f1 := hC1.c 1 rfl
  have f2 := hC1.c 2 rfl
  have f3 := hC1.c 3 rfl
  have f4 := hC1.c 4 rfl
  have f5 := hC1.c 5 rfl
  have fl := hC1.lt
  have c1 := cT w2 hab
  clear cT hbx hb1
  go_wp2_with fail
  refine c1.mono ?_
  rintro en w3 ⟨v, rfl, hK1, hb3⟩
  obtain ⟨E1, d3, rfl, hR1⟩ := hK1 w3 (Kpl.refl _ _)
  obtain ⟨a', rfl, hA⟩ := stK_nwf hK1 hnb
  have hbx := ab1 w3 (Obj.cells #[.string (bs sb.name), .slice (some a') sb.fields.length d3] 37)
  have D6 := Bx.new2 w3 37 (.string (bs sb.name)) (.slice (some a') sb.fields.length d3)
  have hb4 := Below.next hb3 hbx
  have hA3 := (hA.low hab.size).next (kpl_below hbx)
  replace hA2 := hA2.next (kpl_below hb4)
  have D4 := D4.next hb4
  have hab2 := Below.next hab hb4
  clear c1 f0 f1 f2 f3 f4 f5 fl hC1 hR1 hK1 hA
  go_upto_region 2 with (fail)
  generalize w3.alloc (Obj.cells #[.string (bs sb.name), .slice (some a') sb.fields.length d3] 37) = w4 at *
  have hC4 := hC.next hab2
  have hO4 := own_next hO hab2
  have c1 := cF w.heap.size w4 a a' d1 d3 hC4 hO4 (Nat.le_trans hB hab2.size) hC.lt (fun q e => (hO.lt q e).2) hab2.size hA2 hA3
  have u0 := D4.c 0 rfl
  have u1 := D4.c 1 rfl
  have ul := D4.lt
  have v0 := D6.c 0 rfl
  have v1 := D6.c 1 rfl
  have vl := D6.lt
  have HA := Lib.hid hab2
  clear cF hA2 hA3 hb3 hbx hb4 hab hab2
  go_wp2_with fail
  refine c1.mono ?_
  rintro en w5 ⟨rfl, v', l, hC5, hO5, hA5, rfl⟩
  have hAd := (Ad.of (g := g) vI.ownBlock HA.out).trans hA5
  have k2 := cN w5 v' l (hAd.below hb0 hg0 hq0) hC5 hO5
  clear c1 cN u0 u1 ul v0 v1 vl
  go_wp2_with fail
  refine k2.mono ?_
  rintro en w6 ⟨rfl, v2, l2, hC6, hO6, hA6, rfl⟩
  have HQ := Lib.hid (show CfP g B [.int .i64 S.ver, .slice A S.enums.length c, .slice A2 S.structs.length c2, .int .i64 T.ver, .slice A5 T.enums.length c5, .slice A6 T.structs.length c6] vI (fun l' => l' = l2) w (.returned (.tuple #[])) w6 from ⟨rfl, v2, l2, hC6, hO6, hAd.trans hA6, rfl⟩)
  clear k2 hC5 hO5 hA5 hC6 hO6 hA6 hAd
  go_wp2_with fail
  go_end0
  exact HQ.out
end Go.Proofs.YtcilkcnddgacgaaGreatDoor
/-
  slices.SortFunc of at most one issue. No conditions beyond those that each names.
-/
namespace Go.Proofs.YtcilkcnddgacgaaGreatDoor
open Go.RowKit Go.Sort
set_option maxRecDepth 100000 in
set_option maxHeartbeats 4000000 in
theorem len64_small (n : Nat) (w : World) (hn : n ≤ 1) : Calls Tryz.prog 129 #[.int .u64 (n : Int)] w (Is (.int .i64 (n : Int)) w) := by
  have e0 : wrap64 (wrap64 (Lib.len8 0)) = 0 := by decide +kernel
  have e1 : wrap64 (wrap64 (Lib.len8 1)) = 1 := by decide +kernel
  rcases (show n = 0 ∨ n = 1 by omega) with rfl | rfl
  · go_enter Tryz.func129, Tryz.ntmps129
    go_wp2_with fail
    go_ret
    exact ⟨by show Ending.returned (.int .i64 (wrap64 (wrap64 (Lib.len8 0)))) = _; rw [e0]; rfl, rfl⟩
  · go_enter Tryz.func129, Tryz.ntmps129
    go_wp2_with fail
    go_ret
    exact ⟨by show Ending.returned (.int .i64 (wrap64 (wrap64 (Lib.len8 1)))) = _; rw [e1]; rfl, rfl⟩
set_option maxRecDepth 100000 in
set_option maxHeartbeats 4000000 in
theorem len_small (n : Nat) (w : World) (hn : n ≤ 1) : Calls Tryz.prog 75 #[.int .u64 (n : Int)] w (Is (.int .i64 (n : Int)) w) := by
  have c1 := len64_small n w hn
  go_enter Tryz.func75, Tryz.ntmps75
  go_wp2_with fail
  refine c1.mono ?_
  rintro e w2 ⟨rfl, rfl⟩
  go_wp2_with fail
  go_ret
  exact ⟨rfl, rfl⟩
set_option maxRecDepth 100000 in
set_option maxHeartbeats 4000000 in
theorem insertSmall (A : Option Addr) (n c : Nat) (f : Value) (w : World) (hn : n ≤ 1) : Calls Tryz.prog 120 #[.slice A n c, .int .i64 0, .int .i64 (n : Int), f] w (Is (.tuple #[]) w) := by
  have d1 : decide ((1 : Int) < (n : Int)) = false := by rw [decide_eq_false_iff_not]; omega
  go_enter Tryz.func120, Tryz.ntmps120
  go_wp2_with fail
  go_loopw [8] (fun i wr => i = .int .i64 1 ∧ wr = w) (fun _ _ => 0)
  case atStart => exact ⟨rfl, rfl⟩
  case round =>
    obtain ⟨rfl, rfl⟩ := hrel
    go_wp2_with fail
    go_end0
    exact ⟨rfl, rfl⟩
set_option maxRecDepth 100000 in
set_option maxHeartbeats 4000000 in
theorem pdqSmall (A : Option Addr) (n c : Nat) (f : Value) (z : Int) (w : World) (hn : n ≤ 1) : Calls Tryz.prog 74 #[.slice A n c, .int .i64 0, .int .i64 (n : Int), .int .i64 z, f] w (Is (.tuple #[]) w) := by
  have c1 := insertSmall A n c f w hn
  have d1 : decide ((n : Int) ≤ 12) = true := by rw [decide_eq_true_iff]; omega
  go_enter Tryz.func74, Tryz.ntmps74
  go_wp2_with fail
  go_loopw [1, 2] (fun i j wr => i = .int .i64 0 ∧ j = .int .i64 (n : Int) ∧ wr = w) (fun _ _ _ => 0)
  case atStart => exact ⟨rfl, rfl, rfl⟩
  case round =>
    obtain ⟨rfl, rfl, rfl⟩ := hrel
    go_wp2_with fail
    refine c1.mono ?_
    rintro e w2 ⟨rfl, rfl⟩
    go_wp2_with fail
    go_end0
    exact ⟨rfl, rfl⟩
set_option maxRecDepth 100000 in
set_option maxHeartbeats 4000000 in
theorem sortSmall (A : Option Addr) (n c : Nat) (f : Value) (w : World) (hn : n ≤ 1) : Calls Tryz.prog 30 #[.slice A n c, f] w (Is (.tuple #[]) w) := by
  have c1 := len_small n w hn
  have c2 := fun z => pdqSmall A n c f z w hn
  have e1 : IntKind.u64.wrap (n : Int) = (n : Int) := by rcases (show n = 0 ∨ n = 1 by omega) with rfl | rfl <;> rfl
  go_enter Tryz.func30, Tryz.ntmps30
  go_wp2_with fail
  refine c1.mono ?_
  rintro e w2 ⟨rfl, rfl⟩
  go_wp2_with fail
  refine (c2 _).mono ?_
  rintro e w2 ⟨rfl, rfl⟩
  go_wp2_with fail
  go_end0
  exact ⟨rfl, rfl⟩
end Go.Proofs.YtcilkcnddgacgaaGreatDoor
/-
  The reference's sizes of schemas: Few. No conditions beyond those that each names.
-/
namespace Go.Proofs.YtcilkcnddgacgaaGreatDoor
open Go.RowKit
def shortN (x : List UInt8) : Bool := decide (x.length ≤ 40)
def fewE (x : En) : Bool := shortN x.name && (decide (x.names.length ≤ 18) && (decide (x.nums.length ≤ 18) && x.names.all shortN))
def fewF (f : Fd) : Bool := shortN f.name && fewT f.type
def fewS (t : St) : Bool := shortN t.name && (decide (t.fields.length ≤ 18) && t.fields.all fewF)
def few (S : Sch) : Bool := decide (S.enums.length ≤ 18) && (decide (S.structs.length ≤ 18) && (S.enums.all fewE && S.structs.all fewS))
theorem all_next {α : Type} {p : α → Bool} {l : List α} {k : Nat} (hI : ∀ j (h : j < l.length), j < k → p (l[j]'h) = true) (hk : k < l.length) (e : p (l[k]'hk) = true) : ∀ j (h : j < l.length), j < k + 1 → p (l[j]'h) = true := fun j h hj => by
  by_cases hjk : j < k
  · exact hI j h hjk
  · obtain rfl : j = k := by omega
    exact e
end Go.Proofs.YtcilkcnddgacgaaGreatDoor
/-
  Which schemas are too long: the reference's and the developers' test. No conditions beyond those that each names.
-/
namespace Go.Proofs.YtcilkcnddgacgaaGreatDoor
open Go.RowKit
set_option maxRecDepth 100000 in
set_option maxHeartbeats 4000000 in
theorem isLong_any (S : Sch) (v : Value) (w : World) (r : Bool) (hr : r = true ↔ longS S) (hn : S.enums.length ≤ 1000) (hm : S.structs.length ≤ 1000) (hv : ScV w S v) :
    Calls Tryz.prog 63 #[v] w (Ib (.bool r) w) := by
  obtain ⟨A, c, A2, c2, rfl, hS⟩ := hv
  have hSe := hS.en
  have hSs := hS.st
  clear hS
  unfold longS at hr
  obtain ⟨n, hn2⟩ : ∃ n, S.enums.length = n := ⟨_, rfl⟩
  obtain ⟨m, hm2⟩ : ∃ m, S.structs.length = m := ⟨_, rfl⟩
  have HN := Lib.hid hn2
  have HM := Lib.hid hm2
  rw [hn2] at hn hr ⊢
  rw [hm2] at hm hr ⊢
  clear hn2 hm2
  have hB := Bx.new3 w 25 (.int .i64 S.ver) (.slice A n c) (.slice A2 m c2)
  by_cases h1 : 16 < n + m
  · obtain rfl := hr.2 (.inl h1)
    have d1 : decide ((16 : Int) < (n : Int) + (m : Int)) = true := by rw [decide_eq_true_eq]; omega
    clear hr h1
    go_enter Tryz.func63, Tryz.ntmps63
    go_wp2_with fail
    go_ret
    exact ⟨rfl, ab1 _ _⟩
  · have d1 : decide ((16 : Int) < (n : Int) + (m : Int)) = false := by rw [decide_eq_false_iff_not]; omega
    have HR := Lib.hid hr
    clear hr
    go_enter Tryz.func63, Tryz.ntmps63
    go_wp2_with fail
    go_loopw [18] (fun i wr => ∃ k : Nat, k ≤ n ∧ i = .int .i64 (k : Int) ∧ Hid (∀ j (h : j < S.enums.length), j < k → decide ((S.enums[j]'h).names.length ≤ 16) = true) ∧ Bx wr w.heap.size [.int .i64 S.ver, .slice A n c, .slice A2 m c2] ∧ Below w.heap.size w wr) (fun i _ => n - (intOf i).toNat)
    case atStart => exact ⟨0, by omega, rfl, Lib.hid fun j _ h => by omega, hB, ab1 _ _⟩
    case round =>
      obtain ⟨k, hk, rfl, hI, hBr, hb⟩ := hrel
      have b1 := hBr.c 1 rfl
      have b2 := hBr.c 2 rfl
      clear hB
      by_cases hlt : k < n
      · obtain ⟨a, rfl, hA⟩ := hSe.get (i := k) (by rw [HN.out]; exact hlt)
        obtain ⟨e0, ⟨A3, c3, e1, -⟩, A4, c4, e2, -⟩ := hA.next hb
        have hblk : (a.add (k * 3)).block < wr.heap.size := blk_lt e0
        have hx : ¬ (S.enums[k]'(by rw [HN.out]; exact hlt)).names.length ≤ 16 → r = true := fun e => HR.out.2 (.inr (.inl ⟨_, List.getElem_mem (by rw [HN.out]; exact hlt), by omega⟩))
        have hy := fun e => all_next (p := fun x : En => decide (x.names.length ≤ 16)) hI.out (k := k) (by rw [HN.out]; exact hlt) e
        generalize S.enums[k]'(by rw [HN.out]; exact hlt) = x at *
        by_cases g : x.names.length ≤ 16
        · have d5 : decide ((16 : Int) < (x.names.length : Int)) = false := by rw [decide_eq_false_iff_not]; omega
          have E := Lib.hid (hy (decide_eq_true g))
          clear hx hy hI g hA
          go_wp2_with fail
          go_roundw
          case rel => exact ⟨k + 1, by omega, by go_num, E, hBr.next (ab1 _ _), Below.next hb (ab1 _ _)⟩
          case measure => simp [intOf]; omega
        · have d5 : decide ((16 : Int) < (x.names.length : Int)) = true := by rw [decide_eq_true_eq]; omega
          obtain rfl := hx g
          clear hx hy hI g hA
          go_wp2_with fail
          go_ret
          exact ⟨rfl, Below.next hb (ab1 _ _)⟩
      · obtain rfl : k = n := by omega
        have H1 := Lib.hid (show ∀ x ∈ S.enums, ¬ 16 < x.names.length by
          intro x hx
          obtain ⟨j, hj, rfl⟩ := List.mem_iff_getElem.1 hx
          have := hI.out j hj (by rw [← HN.out]; exact hj)
          rw [decide_eq_true_eq] at this
          omega)
        clear hI
        go_wp2_with fail
        rename World => wo
        go_loopw [30] (fun i wr => ∃ y : Nat, y ≤ m ∧ i = .int .i64 (y : Int) ∧ Hid (∀ j (h : j < S.structs.length), j < y → decide ((S.structs[j]'h).fields.length ≤ 16) = true) ∧ Bx wr w.heap.size [.int .i64 S.ver, .slice A k c, .slice A2 m c2] ∧ Below w.heap.size w wr) (fun i _ => m - (intOf i).toNat)
        case atStart => exact ⟨0, by omega, rfl, Lib.hid fun j _ h => by omega, hBr, hb⟩
        case round =>
          obtain ⟨k2, hk2, rfl, hI, hBr2, hb2⟩ := hrel
          have b1 := hBr2.c 1 rfl
          have b2 := hBr2.c 2 rfl
          clear hBr
          by_cases hlt2 : k2 < m
          · obtain ⟨a, rfl, hA⟩ := hSs.get (i := k2) (by rw [HM.out]; exact hlt2)
            obtain ⟨e0, A3, c3, e1, -⟩ := hA.next hb2
            have hblk : (a.add (k2 * 2)).block < wr.heap.size := blk_lt e0
            have hx : ¬ (S.structs[k2]'(by rw [HM.out]; exact hlt2)).fields.length ≤ 16 → r = true := fun e => HR.out.2 (.inr (.inr ⟨_, List.getElem_mem (by rw [HM.out]; exact hlt2), by omega⟩))
            have hy := fun e => all_next (p := fun x : St => decide (x.fields.length ≤ 16)) hI.out (k := k2) (by rw [HM.out]; exact hlt2) e
            generalize S.structs[k2]'(by rw [HM.out]; exact hlt2) = x at *
            by_cases g : x.fields.length ≤ 16
            · have d5 : decide ((16 : Int) < (x.fields.length : Int)) = false := by rw [decide_eq_false_iff_not]; omega
              have E := Lib.hid (hy (decide_eq_true g))
              clear hx hy hI g hA
              go_wp2_with fail
              go_roundw
              case rel => exact ⟨k2 + 1, by omega, by go_num, E, hBr2.next (ab1 _ _), Below.next hb2 (ab1 _ _)⟩
              case measure => simp [intOf]; omega
            · have d5 : decide ((16 : Int) < (x.fields.length : Int)) = true := by rw [decide_eq_true_eq]; omega
              obtain rfl := hx g
              clear hx hy hI g hA
              go_wp2_with fail
              go_ret
              exact ⟨rfl, Below.next hb2 (ab1 _ _)⟩
          · obtain rfl : k2 = m := by omega
            obtain rfl : r = false := by
              rw [Bool.eq_false_iff]
              intro h
              rcases HR.out.1 h with h | ⟨x, hx, h⟩ | ⟨x, hx, h⟩
              · omega
              · exact H1.out x hx h
              · obtain ⟨j, hj, rfl⟩ := List.mem_iff_getElem.1 hx
                have := hI.out j hj (by rw [← HM.out]; exact hj)
                rw [decide_eq_true_eq] at this
                omega
            clear hI
            go_wp2_with fail
            go_ret
            exact ⟨rfl, hb2⟩
end Go.Proofs.YtcilkcnddgacgaaGreatDoor
/-
  Maps keyed by names, with whatever elements. No conditions beyond those that each names.
-/
namespace Go.Proofs.YtcilkcnddgacgaaGreatDoor
open Go.RowKit Go.Maps
/-- How an element reads: as itself. -/
def Rv (v : Value) : Option (DataW Value × List MemPlace) := some (.held v, [])
theorem strK : Keyed Tryz.prog 9 := string_keyed Tryz.underlying9
/-- Block b is a map of at most n names, in which f finds. -/
structure Mp (w : World) (b n : Nat) (f : List UInt8 → Option Value) (D : DataW Value) : Prop where
  own : w.ownsMap Tryz.prog 9 Rv b n D
  has_ : ∀ x, Maps.has D (.string x) = (f x).isSome
  at_ : ∀ x z, D.atKey (.string x) z = match f x with | some v => .held v | none => z
theorem Mp.lt {w : World} {b n : Nat} {f : List UInt8 → Option Value} {D : DataW Value} (h : Mp w b n f D) : b < w.heap.size := h.own.lt
theorem Mp.next {w w' : World} {b n : Nat} {f : List UInt8 → Option Value} {D : DataW Value} (h : Mp w b n f D) (hb : Below w.heap.size w w') : Mp w' b n f D := by
  refine ⟨?_, h.has_, h.at_⟩
  obtain ⟨es, clock, e, r⟩ := h.own
  exact ⟨es, clock, (hb.block b h.lt).trans e, r⟩
theorem Mp.kept {w w' : World} {b n : Nat} {f : List UInt8 → Option Value} {D : DataW Value} {row : Option Nat} (h : Mp w b n f D) (hg : w.grownBy w' row) (hne : some b ≠ row) : Mp w' b n f D := ⟨h.own.kept hg hne, h.has_, h.at_⟩
theorem Mp.made (w : World) : Mp (w.alloc (.map #[] 0)) w.heap.size 0 (fun _ => none) (.map []) :=
  ⟨World.ownsMap_made _ _ _ _, fun _ => rfl, fun _ _ => rfl⟩
theorem key_of {x : List UInt8} (hx : x.length ≤ 9223372036854775807) : keyOf Tryz.prog 9 (.string (bs x)) = some (.string x) :=
  Go.WideMaps.keyOf_string_mk Tryz.underlying9 (s := bs x) (by show x.length ≤ maxLen; simp only [maxLen]; omega)
/-- The map with one name more. -/
def putF (f : List UInt8 → Option Value) (x : List UInt8) (v : Value) : List UInt8 → Option Value := fun y => if y = x then some v else f y
theorem Mp.put_ {w w' : World} {b n : Nat} {f : List UInt8 → Option Value} {D : DataW Value} (h : Mp w b n f D) {x : List UInt8} (hx : x.length ≤ 9223372036854775807) {v : Value} (ho : w'.ownsMap Tryz.prog 9 Rv b (n + 1) (D.put (.string x) (.held v))) : Mp w' b (n + 1) (putF f x v) (D.put (.string x) (.held v)) := by
  have hk : WideAt.IsKeyLit (.string x) := by
    have := strK.key (key_of hx)
    exact this
  have hm : IsMap D := h.own.isMap
  refine ⟨ho, fun y => ?_, fun y z => ?_⟩
  · unfold putF
    by_cases e : y = x
    · subst e; rw [if_pos rfl, has_put_same hm hk]; rfl
    · rw [if_neg e, has_put_other (by intro h; cases h; exact e rfl), h.has_]
  · unfold putF
    by_cases e : y = x
    · subst e; rw [if_pos rfl, atKey_put_same hm hk]
    · rw [if_neg e, atKey_put_other (by intro h; cases h; exact e rfl), h.at_]
section
variable (w : World) {ops : Array Oper} {rest : List Oper} {o : Oper} {a : Act} {Q : Exit → Act → World → Prop}
/-- m[x]. -/
theorem wpList_look (hg : o.guard = none) (m x : Operand) (t e : TypeId) (hop : o.op = Op.lookup t m x false) (ht : Tryz.prog.underlying t = some (.map 9 e)) {z : Value} (hz : (zeroValue e).run Tryz.prog w = .ok z w) {b n : Nat} {f : List UInt8 → Option Value} {D : DataW Value}
    (hM : Mp w b n f D) (hm : a.eval m = .map (some b)) {k : List UInt8} (hk : k.length ≤ 9223372036854775807) (hx : a.eval x = .string (bs k))
    (hK : wpList Tryz.prog ops Q rest (a.put o.dst ((f k).getD z)) w) : wpList Tryz.prog ops Q (o :: rest) a w := by
  refine wpList_plain hg fun K' hK' => ?_
  obtain ⟨v, ps, hrun, hv⟩ := hM.own.lookup strK ht hz (zd := .held z) (zp := []) rfl (key_of hk)
  have e : v = (f k).getD z := by
    rw [hM.at_] at hv
    cases h : f k with
    | none => rw [h] at hv; cases hv; rfl
    | some u => rw [h] at hv; cases hv; rfl
  unfold Oper.wp
  simp [execOp, hop, hm, hx, hrun, Result.andThen]
  rw [e]
  exact hK' _ _ hK
/-- v, ok := m[x]. -/
theorem wpList_look_ok (hg : o.guard = none) (m x : Operand) (t e : TypeId) (hop : o.op = Op.lookup t m x true) (ht : Tryz.prog.underlying t = some (.map 9 e)) {z : Value} (hz : (zeroValue e).run Tryz.prog w = .ok z w) {b n : Nat} {f : List UInt8 → Option Value} {D : DataW Value}
    (hM : Mp w b n f D) (hm : a.eval m = .map (some b)) {k : List UInt8} (hk : k.length ≤ 9223372036854775807) (hx : a.eval x = .string (bs k))
    (hK : wpList Tryz.prog ops Q rest (a.put o.dst (.tuple #[(f k).getD z, .bool (f k).isSome])) w) : wpList Tryz.prog ops Q (o :: rest) a w := by
  refine wpList_lookup_own_ok w hg m x t hop 9 e strK ht Rv hz (.held z) [] rfl b n D hm hM.own _ _ hx (key_of hk) fun v ps hv => ?_
  have e : v = (f k).getD z := by
    rw [hM.at_] at hv
    cases h : f k with
    | none => rw [h] at hv; cases hv; rfl
    | some u => rw [h] at hv; cases hv; rfl
  rw [e, hM.has_]
  exact hK
/-- m[x] = v. -/
theorem wpList_put (hg : o.guard = none) (m x v : Operand) (t e : TypeId) (hop : o.op = Op.mapUpdate t m x v) (ht : Tryz.prog.underlying t = some (.map 9 e)) {b n : Nat} {f : List UInt8 → Option Value} {D : DataW Value}
    (hM : Mp w b n f D) (hn : n ≤ 1000000) (hm : a.eval m = .map (some b)) {k : List UInt8} (hk : k.length ≤ 9223372036854775807) (hx : a.eval x = .string (bs k)) {u : Value} (hv : a.eval v = u)
    (hK : ∀ w', Mp w' b (n + 1) (putF f k u) (D.put (.string k) (.held u)) → w.grownBy w' (some b) → wpList Tryz.prog ops Q rest (a.put o.dst undef) w') : wpList Tryz.prog ops Q (o :: rest) a w :=
  wpList_mapUpdate_own w hg m x v t hop 9 e strK ht Rv b n D hm hM.own (by simp only [maxLen]; omega) _ _ _ hx hv (key_of hk) (.held u) [] rfl fun w' h1 h2 => hK w' (hM.put_ hk h1) h2
end
theorem Below.ofGrown {B : Nat} {w w' : World} {b : Nat} (hg : w.grownBy w' (some b)) (hB : B ≤ b) (hs : B ≤ w.heap.size) : Below B w w' := (Below.refl _ _).grown hg hs (fun k hk => by cases hk; exact hB)
end Go.Proofs.YtcilkcnddgacgaaGreatDoor


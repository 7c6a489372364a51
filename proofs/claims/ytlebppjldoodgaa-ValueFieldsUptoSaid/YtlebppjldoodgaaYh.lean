import Derived.Test.YtlebppjldoodgaaYe
import Derived.Test.YtlebppjldoodgaaYg
/-
  Entries by their number: the developers' indexOf, field and Field, the reference's Field. No conditions beyond those that each names.
-/
namespace Go.Proofs.Ytlebppjldoodgaa
open Go.RowKit Go.Sort
def ixI : Option Nat → Int
  | none => -1
  | some i => (i : Int)
theorem findIdx_at {α : Type} {p : α → Bool} {l : List α} {k : Nat} (h : k < l.length) (hp : p (l[k]'h) = true) (hb : ∀ j (hj : j < l.length), j < k → p (l[j]'hj) = false) : l.findIdx? p = some k := by
  rw [List.findIdx?_eq_some_iff_getElem]
  exact ⟨h, hp, fun j hj => by simp [hb j (by omega) hj]⟩
theorem findIdx_none {α : Type} {p : α → Bool} {l : List α} (hb : ∀ j (hj : j < l.length), p (l[j]'hj) = false) : l.findIdx? p = none := by
  rw [List.findIdx?_eq_none_iff]
  intro x hx
  obtain ⟨j, hj, rfl⟩ := List.mem_iff_getElem.1 hx
  exact hb j hj
set_option maxRecDepth 100000 in
theorem eqFn_any (x : Int × Vl) (z : Int) (g : Nat) (v : Value) (w : World) (hv : EtV w x v) (hg : w.cell? ⟨g, 0, none⟩ = some (.int .i64 z)) :
    Calls Try.prog 70 #[v, .pointer (some ⟨g, 0, none⟩)] w (Ib (.bool ((x.1 == z))) w) := by
  obtain ⟨A, c, B, d, rfl, -, -⟩ := hv
  obtain ⟨a, u⟩ := x
  have hl := blk_lt hg
  obtain ⟨r, hr⟩ : ∃ r, (a == z) = r := ⟨_, rfl⟩
  have hr2 : (((a, u).1 == z)) = r := hr
  rw [hr2]
  clear hr2
  go_enter Try.func70, Try.ntmps70
  go_wp2_with fail
  go_ret
  exact ⟨rfl, ab1 _ _⟩
set_option maxRecDepth 100000 in
set_option maxHeartbeats 4000000 in
theorem eqIx_any (l : List (Int × Vl)) (A : Option Addr) (c : Nat) (z : Int) (g : Nat) (w : World) (hl : l.length ≤ 9223372036854775807) (hR : Rw EtA 6 w l A) (hg : w.cell? ⟨g, 0, none⟩ = some (.int .i64 z)) :
    Calls Try.prog 42 #[.slice A l.length c, .func (.func 70) #[] #[.pointer (some ⟨g, 0, none⟩)]] w (Ib (.int .i64 (ixI (l.findIdx? fun x => (x.1 == z)))) w) := by
  obtain ⟨n, hn⟩ : ∃ n, l.length = n := ⟨_, rfl⟩
  obtain ⟨r, hr⟩ : ∃ r, ixI (l.findIdx? fun x => (x.1 == z)) = r := ⟨_, rfl⟩
  have HN := Lib.hid hn
  have HR := Lib.hid hr
  rw [hn] at hl
  rw [hn, hr]
  clear hn hr
  have H0 : Hid (∀ j (hj : j < l.length), j < 0 → (fun x : Int × Vl => (x.1 == z)) (l[j]'hj) = false) := Lib.hid fun j _ h => by omega
  go_enter Try.func42, Try.ntmps42
  go_wp2_with fail
  go_loopw [8] (fun i wr => ∃ k : Nat, k ≤ n ∧ i = .int .i64 (k : Int) ∧ Hid (∀ j (hj : j < l.length), j < k → (fun x : Int × Vl => (x.1 == z)) (l[j]'hj) = false) ∧ Below w.heap.size w wr) (fun i _ => n - (intOf i).toNat)
  case atStart => exact ⟨0, by omega, rfl, H0, Below.refl _ _⟩
  case round =>
    obtain ⟨k, hk, rfl, HK, hb⟩ := hrel
    clear H0
    by_cases hlt : k < n
    · have h1 : k < l.length := by rw [HN.out]; exact hlt
      have hk1 := Lib.hid hlt
      obtain ⟨a, rfl, hA⟩ := hR.get h1
      obtain ⟨B, p, B2, p2, x0, x1, x2, x3, x4, x5, hV⟩ := (EtA.next hb _ _ hA).val2
      have hblk : (a.add (k * 6)).block < wr.heap.size := blk_lt x0
      have cC := eqFn_any (l[k]'h1) z g _ wr hV (cell_next hb hg)
      have HF := Lib.hid (fun (h : (fun x : Int × Vl => (x.1 == z)) (l[k]'h1) = false) => show ∀ j (hj : j < l.length), j < k + 1 → (fun x : Int × Vl => (x.1 == z)) (l[j]'hj) = false from fun j hj h2 => by
        by_cases e : j = k
        · subst e; exact h
        · exact HK.out j hj (by omega))
      have HT := Lib.hid (fun (h : (fun x : Int × Vl => (x.1 == z)) (l[k]'h1) = true) => show r = (k : Int) by rw [← HR.out, findIdx_at h1 h HK.out]; rfl)
      obtain ⟨b, hbb⟩ : ∃ b, (fun x : Int × Vl => (x.1 == z)) (l[k]'h1) = b := ⟨_, rfl⟩
      have hbb2 : (((l[k]'h1).1 == z)) = b := hbb
      rw [hbb2] at cC
      simp only [hbb] at HF HT
      generalize l[k]'h1 = u at *
      clear hA hV hR HK hbb hbb2 hg
      cases b
      · have HF2 := Lib.hid (show ∀ (j : Nat) (hj : j < l.length), j < k + 1 → (((l[j]'hj).1 == z)) = false from HF.out rfl)
        clear HF HT
        go_wp2_with fail
        refine cC.mono ?_
        rintro e w2 ⟨rfl, hb2⟩
        go_wp2_with fail
        go_roundw
        case rel => exact ⟨k + 1, hk1.out, by go_num, HF2, Below.next hb hb2⟩
        case measure => have := hk1.out; simp [intOf]; omega
      · have HT := HT.out rfl
        subst HT
        go_wp2_with fail
        refine cC.mono ?_
        rintro e w2 ⟨rfl, hb2⟩
        go_wp2_with fail
        go_ret
        exact ⟨rfl, Below.next hb hb2⟩
    · obtain rfl : k = n := by omega
      have HE : r = -1 := by rw [← HR.out, findIdx_none fun j hj => HK.out j hj (by rw [← HN.out]; exact hj)]; rfl
      subst HE
      clear HK hR
      go_wp2_with fail
      go_ret
      exact ⟨rfl, hb⟩
set_option maxRecDepth 100000 in
theorem neFn_any (x : Int × Vl) (z : Int) (g : Nat) (v : Value) (w : World) (hv : EtV w x v) (hg : w.cell? ⟨g, 0, none⟩ = some (.int .i64 z)) :
    Calls Try.prog 46 #[v, .pointer (some ⟨g, 0, none⟩)] w (Ib (.bool ((x.1 == z))) w) := by
  obtain ⟨A, c, B, d, rfl, -, -⟩ := hv
  obtain ⟨a, u⟩ := x
  have hl := blk_lt hg
  obtain ⟨r, hr⟩ : ∃ r, (a == z) = r := ⟨_, rfl⟩
  have hr2 : (((a, u).1 == z)) = r := hr
  rw [hr2]
  clear hr2
  go_enter Try.func46, Try.ntmps46
  go_wp2_with fail
  go_ret
  exact ⟨rfl, ab1 _ _⟩
set_option maxRecDepth 100000 in
set_option maxHeartbeats 4000000 in
theorem neIx_any (l : List (Int × Vl)) (A : Option Addr) (c : Nat) (z : Int) (g : Nat) (w : World) (hl : l.length ≤ 9223372036854775807) (hR : Rw EtA 6 w l A) (hg : w.cell? ⟨g, 0, none⟩ = some (.int .i64 z)) :
    Calls Try.prog 42 #[.slice A l.length c, .func (.func 46) #[] #[.pointer (some ⟨g, 0, none⟩)]] w (Ib (.int .i64 (ixI (l.findIdx? fun x => (x.1 == z)))) w) := by
  obtain ⟨n, hn⟩ : ∃ n, l.length = n := ⟨_, rfl⟩
  obtain ⟨r, hr⟩ : ∃ r, ixI (l.findIdx? fun x => (x.1 == z)) = r := ⟨_, rfl⟩
  have HN := Lib.hid hn
  have HR := Lib.hid hr
  rw [hn] at hl
  rw [hn, hr]
  clear hn hr
  have H0 : Hid (∀ j (hj : j < l.length), j < 0 → (fun x : Int × Vl => (x.1 == z)) (l[j]'hj) = false) := Lib.hid fun j _ h => by omega
  go_enter Try.func42, Try.ntmps42
  go_wp2_with fail
  go_loopw [8] (fun i wr => ∃ k : Nat, k ≤ n ∧ i = .int .i64 (k : Int) ∧ Hid (∀ j (hj : j < l.length), j < k → (fun x : Int × Vl => (x.1 == z)) (l[j]'hj) = false) ∧ Below w.heap.size w wr) (fun i _ => n - (intOf i).toNat)
  case atStart => exact ⟨0, by omega, rfl, H0, Below.refl _ _⟩
  case round =>
    obtain ⟨k, hk, rfl, HK, hb⟩ := hrel
    clear H0
    by_cases hlt : k < n
    · have h1 : k < l.length := by rw [HN.out]; exact hlt
      have hk1 := Lib.hid hlt
      obtain ⟨a, rfl, hA⟩ := hR.get h1
      obtain ⟨B, p, B2, p2, x0, x1, x2, x3, x4, x5, hV⟩ := (EtA.next hb _ _ hA).val2
      have hblk : (a.add (k * 6)).block < wr.heap.size := blk_lt x0
      have cC := neFn_any (l[k]'h1) z g _ wr hV (cell_next hb hg)
      have HF := Lib.hid (fun (h : (fun x : Int × Vl => (x.1 == z)) (l[k]'h1) = false) => show ∀ j (hj : j < l.length), j < k + 1 → (fun x : Int × Vl => (x.1 == z)) (l[j]'hj) = false from fun j hj h2 => by
        by_cases e : j = k
        · subst e; exact h
        · exact HK.out j hj (by omega))
      have HT := Lib.hid (fun (h : (fun x : Int × Vl => (x.1 == z)) (l[k]'h1) = true) => show r = (k : Int) by rw [← HR.out, findIdx_at h1 h HK.out]; rfl)
      obtain ⟨b, hbb⟩ : ∃ b, (fun x : Int × Vl => (x.1 == z)) (l[k]'h1) = b := ⟨_, rfl⟩
      have hbb2 : (((l[k]'h1).1 == z)) = b := hbb
      rw [hbb2] at cC
      simp only [hbb] at HF HT
      generalize l[k]'h1 = u at *
      clear hA hV hR HK hbb hbb2 hg
      cases b
      · have HF2 := Lib.hid (show ∀ (j : Nat) (hj : j < l.length), j < k + 1 → (((l[j]'hj).1 == z)) = false from HF.out rfl)
        clear HF HT
        go_wp2_with fail
        refine cC.mono ?_
        rintro e w2 ⟨rfl, hb2⟩
        go_wp2_with fail
        go_roundw
        case rel => exact ⟨k + 1, hk1.out, by go_num, HF2, Below.next hb hb2⟩
        case measure => have := hk1.out; simp [intOf]; omega
      · have HT := HT.out rfl
        subst HT
        go_wp2_with fail
        refine cC.mono ?_
        rintro e w2 ⟨rfl, hb2⟩
        go_wp2_with fail
        go_ret
        exact ⟨rfl, Below.next hb hb2⟩
    · obtain rfl : k = n := by omega
      have HE : r = -1 := by rw [← HR.out, findIdx_none fun j hj => HK.out j hj (by rw [← HN.out]; exact hj)]; rfl
      subst HE
      clear HK hR
      go_wp2_with fail
      go_ret
      exact ⟨rfl, hb⟩
set_option maxRecDepth 100000 in
theorem gtFn_any (x : Int × Vl) (z : Int) (g : Nat) (v : Value) (w : World) (hv : EtV w x v) (hg : w.cell? ⟨g, 0, none⟩ = some (.int .i64 z)) :
    Calls Try.prog 43 #[v, .pointer (some ⟨g, 0, none⟩)] w (Ib (.bool (decide (z < x.1))) w) := by
  obtain ⟨A, c, B, d, rfl, -, -⟩ := hv
  obtain ⟨a, u⟩ := x
  have hl := blk_lt hg
  obtain ⟨r, hr⟩ : ∃ r, decide (z < a) = r := ⟨_, rfl⟩
  have hr2 : (decide (z < (a, u).1)) = r := hr
  rw [hr2]
  clear hr2
  go_enter Try.func43, Try.ntmps43
  go_wp2_with fail
  go_ret
  exact ⟨rfl, ab1 _ _⟩
set_option maxRecDepth 100000 in
set_option maxHeartbeats 4000000 in
theorem gtIx_any (l : List (Int × Vl)) (A : Option Addr) (c : Nat) (z : Int) (g : Nat) (w : World) (hl : l.length ≤ 9223372036854775807) (hR : Rw EtA 6 w l A) (hg : w.cell? ⟨g, 0, none⟩ = some (.int .i64 z)) :
    Calls Try.prog 42 #[.slice A l.length c, .func (.func 43) #[] #[.pointer (some ⟨g, 0, none⟩)]] w (Ib (.int .i64 (ixI (l.findIdx? fun x => decide (z < x.1)))) w) := by
  obtain ⟨n, hn⟩ : ∃ n, l.length = n := ⟨_, rfl⟩
  obtain ⟨r, hr⟩ : ∃ r, ixI (l.findIdx? fun x => decide (z < x.1)) = r := ⟨_, rfl⟩
  have HN := Lib.hid hn
  have HR := Lib.hid hr
  rw [hn] at hl
  rw [hn, hr]
  clear hn hr
  have H0 : Hid (∀ j (hj : j < l.length), j < 0 → (fun x : Int × Vl => decide (z < x.1)) (l[j]'hj) = false) := Lib.hid fun j _ h => by omega
  go_enter Try.func42, Try.ntmps42
  go_wp2_with fail
  go_loopw [8] (fun i wr => ∃ k : Nat, k ≤ n ∧ i = .int .i64 (k : Int) ∧ Hid (∀ j (hj : j < l.length), j < k → (fun x : Int × Vl => decide (z < x.1)) (l[j]'hj) = false) ∧ Below w.heap.size w wr) (fun i _ => n - (intOf i).toNat)
  case atStart => exact ⟨0, by omega, rfl, H0, Below.refl _ _⟩
  case round =>
    obtain ⟨k, hk, rfl, HK, hb⟩ := hrel
    clear H0
    by_cases hlt : k < n
    · have h1 : k < l.length := by rw [HN.out]; exact hlt
      have hk1 := Lib.hid hlt
      obtain ⟨a, rfl, hA⟩ := hR.get h1
      obtain ⟨B, p, B2, p2, x0, x1, x2, x3, x4, x5, hV⟩ := (EtA.next hb _ _ hA).val2
      have hblk : (a.add (k * 6)).block < wr.heap.size := blk_lt x0
      have cC := gtFn_any (l[k]'h1) z g _ wr hV (cell_next hb hg)
      have HF := Lib.hid (fun (h : (fun x : Int × Vl => decide (z < x.1)) (l[k]'h1) = false) => show ∀ j (hj : j < l.length), j < k + 1 → (fun x : Int × Vl => decide (z < x.1)) (l[j]'hj) = false from fun j hj h2 => by
        by_cases e : j = k
        · subst e; exact h
        · exact HK.out j hj (by omega))
      have HT := Lib.hid (fun (h : (fun x : Int × Vl => decide (z < x.1)) (l[k]'h1) = true) => show r = (k : Int) by rw [← HR.out, findIdx_at h1 h HK.out]; rfl)
      obtain ⟨b, hbb⟩ : ∃ b, (fun x : Int × Vl => decide (z < x.1)) (l[k]'h1) = b := ⟨_, rfl⟩
      have hbb2 : (decide (z < (l[k]'h1).1)) = b := hbb
      rw [hbb2] at cC
      simp only [hbb] at HF HT
      generalize l[k]'h1 = u at *
      clear hA hV hR HK hbb hbb2 hg
      cases b
      · have HF2 := Lib.hid (show ∀ (j : Nat) (hj : j < l.length), j < k + 1 → (decide (z < (l[j]'hj).1)) = false from HF.out rfl)
        clear HF HT
        go_wp2_with fail
        refine cC.mono ?_
        rintro e w2 ⟨rfl, hb2⟩
        go_wp2_with fail
        go_roundw
        case rel => exact ⟨k + 1, hk1.out, by go_num, HF2, Below.next hb hb2⟩
        case measure => have := hk1.out; simp [intOf]; omega
      · have HT := HT.out rfl
        subst HT
        go_wp2_with fail
        refine cC.mono ?_
        rintro e w2 ⟨rfl, hb2⟩
        go_wp2_with fail
        go_ret
        exact ⟨rfl, Below.next hb hb2⟩
    · obtain rfl : k = n := by omega
      have HE : r = -1 := by rw [← HR.out, findIdx_none fun j hj => HK.out j hj (by rw [← HN.out]; exact hj)]; rfl
      subst HE
      clear HK hR
      go_wp2_with fail
      go_ret
      exact ⟨rfl, hb⟩
set_option maxRecDepth 100000 in
theorem indexOf_any (l : List (Int × Vl)) (A : Option Addr) (c : Nat) (z : Int) (w : World) (hl : l.length ≤ 9223372036854775807) (hR : Rw EtA 6 w l A) :
    Calls Try.prog 41 #[.slice A l.length c, .int .i64 z] w (Ib (.int .i64 (ixI (l.findIdx? fun x => (x.1 == z)))) w) := by
  have c1 := eqIx_any l A c z w.heap.size (w.alloc (Obj.cells #[.int .i64 z] 3)) hl (hR.next fun x p => EtA.next (ab1 _ _) x p) (by simp)
  generalize ixI (l.findIdx? fun x => (x.1 == z)) = r at *
  generalize l.length = n at *
  go_enter Try.func41, Try.ntmps41
  go_wp2_with fail
  refine c1.mono ?_
  rintro e w2 ⟨rfl, hb⟩
  go_wp2_with fail
  go_ret
  exact ⟨rfl, Below.next (ab1 _ _) hb⟩
end Go.Proofs.Ytlebppjldoodgaa

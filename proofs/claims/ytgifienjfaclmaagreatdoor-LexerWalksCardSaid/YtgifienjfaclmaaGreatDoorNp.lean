/-
  The laws' own test that the program is awake; the law of scans. No conditions but Go's own bounds of a string's length, and what the library's variables hold.
-/
import Derived.Test.YtgifienjfaclmaaGreatDoorNl
import Derived.Test.YtgifienjfaclmaaGreatDoorNi
namespace Go.Proofs.YtgifienjfaclmaaGreatDoor
open Go.RowKit
theorem Ot.get {B : Nat} {w : World} {v : Value} {l : List Tk} (h : Ot B w v l) (h0 : 0 < l.length) : ∃ g cap, v = .slice (some ⟨g, 0, none⟩) l.length cap ∧ g < w.heap.size ∧ ∀ j u, (tcells l)[j]? = some u → w.cell? ⟨g, j, none⟩ = some u := by
  have h1 := h
  obtain ⟨-, h | ⟨g, cap, cur, rfl, hB, hg, -⟩⟩ := h
  · omega
  · refine ⟨g, cap, rfl, (Array.getElem?_eq_some_iff.1 hg).1, fun j u hj => ?_⟩
    have := World.ownsRow.cells h1 (g := g) rfl j u hj
    rw [plain_add, Nat.zero_add] at this
    exact this
theorem scan_awake : scan [97, 32, 61, 32, 45, 53] = .ok [⟨1, [97], 0, 0⟩, ⟨4, [61], 0, 2⟩, ⟨2, [], -5, 4⟩, ⟨0, [], 0, 6⟩] := by
  have e5 : dg 5 = [53] := dg_small (by decide)
  have ed : dec (-5) = [45, 53] := by
    unfold dec
    rw [if_pos (by decide), show (-5 : Int).natAbs = 5 from rfl, e5]
  have hp : prs [] [⟨1, [97], 0, 0⟩, ⟨4, [61], 0, 0⟩, ⟨2, [], -5, 0⟩] = [97, 32, 61, 32, 45, 53] := by
    simp only [prs, pr]
    rw [if_pos (by decide), if_pos (by decide), if_pos (by decide)]
    simp [ed]
  have h := scan_prs [⟨1, [97], 0, 0⟩, ⟨4, [61], 0, 0⟩, ⟨2, [], -5, 0⟩] (by
    intro t ht hk
    simp only [List.mem_cons, List.not_mem_nil, or_false] at ht
    rcases ht with rfl | rfl | rfl
    · exact absurd hk (by decide)
    · exact absurd hk (by decide)
    · exact ⟨by decide, by decide⟩) (by rw [hp]; decide)
  rw [hp] at h
  rw [h]
  rw [List.filter_cons_of_pos (by decide), List.filter_cons_of_pos (by decide), List.filter_cons_of_pos (by decide), List.filter_nil]
  simp [pjs, pr, ed]
set_option maxRecDepth 100000 in
set_option maxHeartbeats 2000000 in
theorem awake_any (w : World) (hE : Env w) : Calls Tryz.prog 4 #[] w (Ib (.bool true) w) := by
  have cS := scanD_any [97, 32, 61, 32, 45, 53] w (by decide) hE
  rw [scan_awake] at cS
  have cN := fun W hW => isNameD_any [97, 95, 49] W (by decide) hW
  rw [show isN [97, 95, 49] = true by decide] at cN
  have n1 : (⟨#[97, 32, 61, 32, 45, 53]⟩ : ByteArray) = bs [97, 32, 61, 32, 45, 53] := rfl
  have n2 : (⟨#[97, 95, 49]⟩ : ByteArray) = bs [97, 95, 49] := rfl
  have n3 : (⟨#[97]⟩ : ByteArray) = bs [97] := rfl
  have n4 : (⟨#[]⟩ : ByteArray) = bs [] := rfl
  go_enter Tryz.func4, Tryz.ntmps4
  go_wp2_with fail
  refine cS.mono ?_
  rintro e w2 ⟨hb, v, rfl, ho⟩
  obtain ⟨g, cap, rfl, hg, hc⟩ := ho.get (by decide)
  have c0 := hc 0 _ rfl
  have c1 := hc 1 _ rfl
  have c2 := hc 2 _ rfl
  have c3 := hc 3 _ rfl
  have c8 := hc 8 _ rfl
  have c9 := hc 9 _ rfl
  have c10 := hc 10 _ rfl
  have c11 := hc 11 _ rfl
  clear hc ho
  go_wp2_with fail
  refine (cN _ (hE.next hb)).mono ?_
  rintro e w3 ⟨rfl, hb3⟩
  go_wp2_with fail
  go_ret
  exact ⟨rfl, Below.next hb hb3⟩
theorem places_le {l : List UInt8} {ts : List Tk} (h : Places l ts) : ∀ i (hi : i < ts.length), i ≤ (ts[i]'hi).at_ := by
  intro i
  induction i with
  | zero => intro _; omega
  | succ i ih =>
    intro hi
    have h1 := ih (by omega)
    have h2 := (h.2 i (by omega)).2.2.1 hi
    omega
theorem scan_len {l : List UInt8} {ts : List Tk} (h : scan l = .ok ts) : ts.length ≤ 4001 ∧ 0 < ts.length ∧ l.length ≤ 4000 := by
  have hp := scan_places h
  have hl : l.length ≤ 4000 := by
    unfold scan at h
    split at h
    · cases h
    · omega
  have h0 : 0 < ts.length := List.length_pos_iff.2 hp.1
  have h1 := places_le hp (ts.length - 1) (by omega)
  have hlast : ts.length - 1 + 1 = ts.length := by omega
  have hlt : ts.length - 1 < ts.length := by omega
  have h3 : (ts[ts.length - 1]'hlt).at_ = l.length := ((hp.2 (ts.length - 1) hlt).2.1 ((hp.2 (ts.length - 1) hlt).1.2 hlast)).1
  rw [h3] at h1
  exact ⟨by omega, h0, hl⟩
end Go.Proofs.YtgifienjfaclmaaGreatDoor

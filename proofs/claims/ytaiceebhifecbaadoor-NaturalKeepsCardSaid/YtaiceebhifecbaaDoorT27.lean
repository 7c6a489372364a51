/-
  Contract of the reference's Trim. Conditions: slices of at most 1000 digits.
-/
import Derived.Test.YtaiceebhifecbaaDoorT26
namespace Go.Proofs.YtaiceebhifecbaaDoor
open Go.RowKit
/-- The loop that copies the digits. -/
def TrimRel (B m : Nat) (zs : List Nat) (w : World) (out iv : Value) (wr : World) : Prop :=
  ∃ (k : Nat) (v : Value), k ≤ m ∧ out = v ∧ iv = .int .i64 (k : Int) ∧ Ow B wr v (zs.take k) ∧ Below B w wr ∧ B ≤ wr.heap.size
theorem Ow.grown {B : Nat} {w0 w w' : World} {v : Value} {zs : List Nat} (h : Ow B w v zs) (hg : w.grownBy w' v.ownBlock) (hb : Below B w0 w) (hB : B ≤ w.heap.size) : Below B w0 w' :=
  hb.grown hg hB (fun k' hk' => (World.ownsRow.lt h k' hk').1)
theorem digit_cell (w : World) (z : Nat) : (w.alloc (Obj.cells #[Value.int IntKind.u32 (z : Int)] 35)).cell? ⟨w.heap.size, 0, none⟩ = some (.int .u32 (z : Int)) := by
  simp
set_option maxRecDepth 100000 in
set_option maxHeartbeats 1000000 in
theorem refTrim_any (A : Option Addr) (c : Nat) (zs : List Nat) (w : World) (h : Rd w A zs) (hm : zs.length ≤ 1000) :
    Calls Tryd.prog 42 #[.slice A zs.length c] w fun e w' => ∃ A' c', e = .returned (nt A' (Nm.tlen zs) c') ∧ Nm.tlen zs ≤ c' ∧ Fr w.heap.size w' A' (zs.take (Nm.tlen zs)) ∧ Below w.heap.size w w' := by
  have ht := Nm.tlen_le zs
  go_enter Tryd.func42, Tryd.ntmps42
  go_wp2_with fail
  go_loop [3] (fun n => ∃ k : Nat, Nm.tlen zs ≤ k ∧ k ≤ zs.length ∧ n = .int .i64 k) (fun n => (intOf n).toNat)
  case atStart => exact ⟨_, ht, Nat.le_refl _, rfl⟩
  case round =>
    obtain ⟨k, hk1, hk2, rfl⟩ := hrel
    have hafter : Nm.tlen zs = k → True := fun _ => trivial
    clear hafter
    by_cases hk : 0 < k ∧ zs.getD (k - 1) 0 = 0
    · obtain ⟨hk0, hz⟩ := hk
      obtain ⟨k, rfl⟩ : ∃ j, k = j + 1 := ⟨k - 1, by omega⟩
      obtain ⟨g, off, hA, hcell⟩ := (h.alloc (Obj.cells #[Value.slice none 0 0] 24)).at_ (i := k) (by omega)
      subst hA
      have hck := hcell k (by omega)
      have hz' : zs[k]'(by omega) = 0 := by
        rw [show k + 1 - 1 = k from rfl, List.getD_eq_getElem?_getD, List.getElem?_eq_getElem (by omega : k < zs.length)] at hz
        exact hz
      have hlt : Nm.tlen zs ≤ k := by
        rcases Nat.lt_or_ge k (Nm.tlen zs) with h1 | h1
        · exact absurd hz' (Nm.tlen_last zs k (by omega) (by omega))
        · exact h1
      rw [hz'] at hck
      clear hcell hz hz'
      go_wp2_with fail
      exact ⟨⟨k, hlt, by omega, rfl⟩, by simp [intOf]⟩
    · have heq : Nm.tlen zs = k := by
        rcases Nat.eq_zero_or_pos k with h0 | h0
        · omega
        · rcases Nat.lt_or_ge (k - 1) (Nm.tlen zs) with h1 | h1
          · omega
          · exfalso
            have h2 := Nm.tlen_zero zs (k - 1) h1 (by omega)
            exact hk ⟨h0, by rw [List.getD_eq_getElem?_getD, List.getElem?_eq_getElem (by omega : k - 1 < zs.length)]; exact h2⟩
      have hgo : ∀ (Qx : Exit → Act → World → Prop), True := fun _ => trivial
      clear hgo
      rcases Nat.eq_zero_or_pos k with h0 | h0
      · have hT := Lib.hid heq
        subst h0
        clear hk
        go_wp2_with fail
        generalize hw1 : w.alloc (Obj.cells #[Value.slice none 0 0] 24) = w1
        have hs1 : w1.heap.size = w.heap.size + 1 := by rw [← hw1]; simp
        have hcell1 : w1.cell? ⟨w.heap.size, 0, none⟩ = some (.slice none 0 0) := by rw [← hw1]; simp
        have hfz1 : w1.frozen? ⟨w.heap.size, 0, none⟩ = false := by rw [← hw1]; simp
        have hb1 : Below w.heap.size w w1 := by rw [← hw1]; exact one _ _
        have h1 := h.alloc (Obj.cells #[Value.slice none 0 0] 24)
        rw [hw1] at h1
        clear hw1
        go_loopw [4, 5] (fun o i wr => TrimRel w1.heap.size (Nm.tlen zs) zs w1 o i wr) (fun _ i _ => zs.length - (intOf i).toNat)
        case atStart => exact ⟨0, _, Nat.zero_le _, rfl, rfl, by rw [List.take_zero]; exact Ow.nil _ _, Below.refl _ _, Nat.le_refl _⟩
        case round =>
          obtain ⟨j, v, hj, hv, rfl, how, hbj, hBj⟩ := hrel
          obtain rfl := hv.symm
          obtain ⟨k1, k2⟩ := seen hbj
          by_cases hlt : j < 0
          · omega
          · have hjm : j = Nm.tlen zs := by omega
            subst hjm
            obtain ⟨A', c', hv, hcc, hfr⟩ := how.slice
            have hlen : (zs.take (Nm.tlen zs)).length = Nm.tlen zs := by rw [List.length_take]; omega
            rw [hlen] at hv hcc
            subst hv
            have hcr : wr.cell? ⟨w.heap.size, 0, none⟩ = some (.slice none 0 0) := by rw [k1 _ _ (by omega)]; exact hcell1
            have hfr1 : wr.frozen? ⟨w.heap.size, 0, none⟩ = false := by rw [k2 _ _ (by omega)]; exact hfz1
            clear k1 k2
            go_wp2_with fail
            refine bodyPost_ret (v := nt A' (Nm.tlen zs) c') (by simp [results, Tryd.results42, go_sem, hcr] <;> omega) rfl ⟨A', c', rfl, hcc, ?_, ?_⟩
            · exact (hfr.mono (by omega)).setCell hcr (by simp)
            · exact (up hb1 hbj).setCell (Nat.le_refl _) _
      · have hk3 : zs.getD (k - 1) 0 ≠ 0 := fun e => hk ⟨h0, e⟩
        obtain ⟨k, rfl⟩ : ∃ j, k = j + 1 := ⟨k - 1, by omega⟩
        obtain ⟨g, off, hA, hcell⟩ := (h.alloc (Obj.cells #[Value.slice none 0 0] 24)).at_ (i := k) (by omega)
        have hkl : k < zs.length := hk2
        have hck := hcell k hkl
        have hz' : zs[k]'hkl ≠ 0 := by
          rw [show k + 1 - 1 = k from rfl, List.getD_eq_getElem?_getD, List.getElem?_eq_getElem hkl] at hk3
          exact hk3
        have hbz := digit_ne hz'
        have hT := Lib.hid heq
        clear hcell hk hk3 hz' heq
        subst hA
        go_wp2_with fail
        have heq := hT.out
        generalize hw1 : w.alloc (Obj.cells #[Value.slice none 0 0] 24) = w1
        have hs1 : w1.heap.size = w.heap.size + 1 := by rw [← hw1]; simp
        have hcell1 : w1.cell? ⟨w.heap.size, 0, none⟩ = some (.slice none 0 0) := by rw [← hw1]; simp
        have hfz1 : w1.frozen? ⟨w.heap.size, 0, none⟩ = false := by rw [← hw1]; simp
        have hb1 : Below w.heap.size w w1 := by rw [← hw1]; exact one _ _
        have h1 := h.alloc (Obj.cells #[Value.slice none 0 0] 24)
        rw [hw1] at h1
        clear hw1
        go_loopw [4, 5] (fun o i wr => TrimRel w1.heap.size (Nm.tlen zs) zs w1 o i wr) (fun _ i _ => zs.length - (intOf i).toNat)
        case atStart => exact ⟨0, _, Nat.zero_le _, rfl, rfl, by rw [List.take_zero]; exact Ow.nil _ _, Below.refl _ _, Nat.le_refl _⟩
        case round =>
          obtain ⟨j, v, hj, hv, rfl, how, hbj, hBj⟩ := hrel
          obtain rfl := hv.symm
          obtain ⟨k1, k2⟩ := seen hbj
          by_cases hlt : j < k + 1
          · have hlz : j < zs.length := by omega
            obtain ⟨g, off, hA, hr⟩ := (h1.below hbj).at_ hlz
            have hcj := hr j hlz
            obtain ⟨z, hz⟩ : ∃ z, zs[j] = z := ⟨_, rfl⟩
            rw [hz] at hcj
            have htk : zs.take (j + 1) = zs.take j ++ [z] := by rw [List.take_succ_eq_append_getElem hlz, hz]
            have Htk := Lib.hid htk
            cases hA
            clear hr hz htk
            go_wp2_with (at_builtin
                         refine wpList_push rfl (.tmp 25) (.tmp 30) rfl w1.heap.size v (zs.take j) z _ 1 rfl rfl (how.other (one _ _)) (by exact digit_cell _ z) (by simp; omega) (by simp; omega) ?_
                         intro v4 w4 hown4 hg4 hat4)
            have hb4 := hbj.grown (grown_alloc hg4) hBj (fun k' hk' => (World.ownsRow.lt how k' hk').1)
            rw [← Htk.out] at hown4
            refine ⟨⟨j + 1, v4, by omega, rfl, by go_num, hown4, hb4, Nat.le_trans hBj (grown_alloc hg4).size⟩, by simp [intOf]; omega⟩
          · have hjm : j = Nm.tlen zs := by omega
            subst hjm
            obtain ⟨A', c', hv, hcc, hfr⟩ := how.slice
            have hlen : (zs.take (Nm.tlen zs)).length = Nm.tlen zs := by rw [List.length_take]; omega
            rw [hlen] at hv hcc
            subst hv
            have hcr : wr.cell? ⟨w.heap.size, 0, none⟩ = some (.slice none 0 0) := by rw [k1 _ _ (by omega)]; exact hcell1
            have hfr1 : wr.frozen? ⟨w.heap.size, 0, none⟩ = false := by rw [k2 _ _ (by omega)]; exact hfz1
            clear k1 k2
            go_wp2_with fail
            refine bodyPost_ret (v := nt A' (Nm.tlen zs) c') (by simp [results, Tryd.results42, go_sem, hcr] <;> omega) rfl ⟨A', c', rfl, hcc, ?_, ?_⟩
            · exact (hfr.mono (by omega)).setCell hcr (by simp)
            · exact (up hb1 hbj).setCell (Nat.le_refl _) _
theorem refTrim_n {A : Option Addr} {n c : Nat} {zs rs : List Nat} {w : World} (h : Rd w A zs) (hl : zs.length = n) (hm : n ≤ 1000) (hd : Nm.Dig zs) (hr : Nm.nat (Nm.val zs) = rs) :
    Calls Tryd.prog 42 #[.slice A n c] w fun e w' => ∃ A' c', e = .returned (nt A' rs.length c') ∧ rs.length ≤ c' ∧ Fr w.heap.size w' A' rs ∧ Below w.heap.size w w' := by
  subst hl hr
  rw [← Nm.trim_eq hd]
  refine (refTrim_any A c zs w h hm).mono ?_
  rintro e w' ⟨A', c', rfl, hc, hf, hb⟩
  have hlen : (zs.take (Nm.tlen zs)).length = Nm.tlen zs := by rw [List.length_take]; have := Nm.tlen_le zs; omega
  exact ⟨A', c', by rw [hlen], by rw [hlen]; exact hc, hf, hb⟩
end Go.Proofs.YtaiceebhifecbaaDoor

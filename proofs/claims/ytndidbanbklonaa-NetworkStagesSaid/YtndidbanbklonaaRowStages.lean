/-
  The row of NetworkStages, proved: whatever the input, the law returns true, and the input reads as it did. No conditions.
-/
import Derived.Test.YtndidbanbklonaaCc
import Derived.Test.YtndidbanbklonaaPk
import Derived.ChangeMaps5
namespace Go.Proofs.Ytndidbanbklonaa
open Go.ChangeShapes Go.WideShapes Go.ChangeAt Go.RowKit Go.ChangeMaps
set_option maxRecDepth 100000 in
theorem networkStages_lifted (os : Os) (started : os.Started) (H : Type) (enc : TypeId × Value → H) :
    ReturnsInHanded {} Try.checked os 7 .any (Rows.networkStagesSpec.pre6 enc Try.prog Try.f7 Rows.networkStagesRow.domain false) (Rows.networkStagesSpec.post enc Try.prog Try.f7 false true false false) := by
  refine returnsInHanded_of_change (C := Try.checked) (show ownKnob Try.prog.godebug = none by kernel_rfl) started (by kernel_rfl) Try.func7
    (ChangeSpec.witness6 (enc := enc) (C := Try.checked) false ⟨#[], #[.agg #[.int .i64 0, .int .i64 0, .slice none 0 0, .slice none 0 0], .slice none 0 0], []⟩ 8 (by kernel_rfl) (by kernel_rfl) (by kernel_rfl) (by kernel_rfl)) ?_
  intro W base args ds gs before hval0 hW hcnd _
  have hval : ∀ (j : Nat) t v, Try.f7.params[j]? = some t → args[j]? = some v → Value.okWide Try.prog W .any base t v := hval0
  have hW' := hW
  obtain ⟨p, q, hA0, hV, rfl, _, _⟩ := hW
  have hA : DataW.TrodAll enc Try.prog W 0 (fun _ => true) true Try.f7.params.toList args.toList ds p := hA0
  rw [Try.params7] at hA hval
  obtain ⟨v0, vs0, d0, ds0, p0, q0, hargs, rfl, rfl, h0, r0⟩ := trodAll_cons hA
  obtain ⟨v1, vs1, d1, ds1, p1, q1, rfl, rfl, rfl, h1, r1⟩ := trodAll_cons r0
  obtain ⟨rfl, rfl, rfl⟩ := trodAll_nil r1
  obtain rfl : args = #[v0, v1] := by cases args; simp_all
  obtain ⟨rfl, rfl⟩ := trodVars_none hV
  clear hA0 hval0
  simp only [List.append_nil] at hW' 
  obtain ⟨nd0, lt0, A0, cf0, l0, A20, n20, c20, q20, rfl, hl0, hF0, hn0, hO0, hlt0⟩ := open_setup (hval 0 38 v0 rfl rfl) h0
  obtain ⟨A1, n1, c1, qf1, rfl, hn1, hp1⟩ := open_ints (hval 1 54 v1 rfl rfl) h1
  refine (stages_law nd0 lt0 A0 cf0 l0 A20 n20 c20 q20 A1 n1 c1 qf1 W hl0 hF0 hn0 hO0 hlt0 hn1 hp1).mono fun e W' ⟨he, hb⟩ => ?_
  subst he
  exact ⟨_, rfl, post_stays rfl rfl hW' rfl rfl rfl (by kernel_rfl) hb⟩
theorem networkStages_holds : Rows.NetworkStagesSaid :=
  OpenClaim.holds_of_wide 7 Try.f7 rfl rfl rfl rfl rfl rfl rfl ⟨rfl, rfl, rfl, rfl, rfl⟩ rfl rfl rfl rfl rfl (by kernel_rfl) Try.func7 (by kernel_rfl)
    (of_decide_eq_true (by kernel_rfl)) (by unfold Func.isWrapper; first | (rw [if_pos (by decide +kernel)]; kernel_rfl) | (rw [if_neg (by decide +kernel)]; exact ⟨rfl, rfl⟩))
    (fun os started H enc _ => networkStages_lifted os started H enc)
end Go.Proofs.Ytndidbanbklonaa

/- All cosines and sines of a circle, and of half a circle on each side, are as the document says. TrigAll returns true, whatever the memory and the schedule. No condition. -/
import Derived.Test.YtiaacdkfknailaaTrigLaws
import Derived.Test.YtiaacdkfknailaaRefTrig
import Derived.WalkKit
import Derived.ProofKit
import Derived.OpenShut
import Derived.Lib.Hide
namespace Go.Proofs.Ytiaacdkfknailaa.trigAll
open Go Go.ChangeShapes Go.WideShapes Go.ChangeAt Go.RowKit Go.Proofs.Ytiaacdkfknailaa.Fx

theorem walk (w : World) :
    Calls Try.prog 11 #[] w fun e w' => e = .returned (.bool true) ∧ Below w.heap.size w w' := by
  have e1 : (cosF 0 == 0) = false := by decide
  go_enter Try.func11, Try.ntmps11
  go_wp2_with (first | (go_at_call 24; refine (talive _).mono ?_; rintro e w' ⟨rfl, hb⟩) | (go_at_call 25; refine (tcosB (W := w) _ _ (by first | assumption | exact Below.refl _ _)).mono ?_; rintro e w' ⟨rfl, hb⟩) | (go_at_call 26; refine (tsinB (W := w) _ _ (by first | assumption | exact Below.refl _ _)).mono ?_; rintro e w' ⟨rfl, hb⟩) | (go_at_call 27; refine (rcos _ _).mono ?_; rintro e w' ⟨rfl, rfl⟩) | (go_at_call 28; refine (rsin _ _).mono ?_; rintro e w' ⟨rfl, rfl⟩))
  go_loopw [1] (fun n wr => ∃ N : Int, -2048 ≤ N ∧ N ≤ 4096 ∧ n = .int .i64 N ∧ Below w.heap.size w wr) (fun n _ => (4096 - intOf n).toNat)
  case atStart => exact ⟨-2048, by omega, by omega, rfl, by assumption⟩
  case round =>
    obtain ⟨N, n0, n1, rfl, hbr⟩ := hrel
    by_cases hlt : N < 4096
    · go_wp2_with (first | (go_at_call 24; refine (talive _).mono ?_; rintro e w' ⟨rfl, hb⟩) | (go_at_call 25; refine (tcosB (W := w) _ _ (by first | assumption | exact Below.refl _ _)).mono ?_; rintro e w' ⟨rfl, hb⟩) | (go_at_call 26; refine (tsinB (W := w) _ _ (by first | assumption | exact Below.refl _ _)).mono ?_; rintro e w' ⟨rfl, hb⟩) | (go_at_call 27; refine (rcos _ _).mono ?_; rintro e w' ⟨rfl, rfl⟩) | (go_at_call 28; refine (rsin _ _).mono ?_; rintro e w' ⟨rfl, rfl⟩))
      go_roundw
      case rel => exact ⟨N + 1, by omega, by omega, rfl, by assumption⟩
      case measure => simp [intOf]; omega
    · go_wp2
      go_ret
      exact ⟨rfl, by assumption⟩

theorem own : ownKnob Try.prog.godebug = none := by kernel_rfl
set_option linter.unusedVariables false
set_option maxRecDepth 100000 in
theorem lifted (os : Os) (started : os.Started) (H : Type) (enc : TypeId × Value → H) :
    ReturnsInHanded {} Try.checked os 11 .any (Rows.trigAllSpec.pre6 enc Try.prog Try.f11 Rows.trigAllRow.domain false) (Rows.trigAllSpec.post enc Try.prog Try.f11 false true false false) := by
  refine returnsInHanded_of_change (C := Try.checked) own started (by kernel_rfl) Try.func11
    (ChangeSpec.witness6 (enc := enc) (C := Try.checked) false ⟨#[], #[], []⟩ 8 (by kernel_rfl) (by kernel_rfl) (by kernel_rfl) (by kernel_rfl)) ?_
  intro W base args ds gs before hval0 hW hcnd _
  have hval : ∀ (j : Nat) t v, Try.f11.params[j]? = some t → args[j]? = some v → Value.okWide Try.prog W .any base t v := hval0
  have hW' := hW
  obtain ⟨p, q, hA0, hV, rfl, hfz, hnd⟩ := hW
  have hA : DataW.TrodAll enc Try.prog W 0 (fun _ => true) true Try.f11.params.toList args.toList ds p := hA0
  rw [Try.params11] at hA hval
  obtain ⟨rfl, rfl, rfl⟩ := trodAll_none hA
  obtain ⟨rfl, rfl⟩ := trodVars_none hV
  clear hA0 hval0
  simp only [List.append_nil] at hW'
  refine (walk  W ).mono fun e W' ⟨he, bel⟩ => ?_
  subst he
  exact ⟨_, rfl, _, _, _, [], _, [], hW', trodAll_mk1 (shut_bool Try.underlying4 _), trodAll_mk0, rfl, bel.frame _, fun h => by cases h⟩

theorem over : Rows.trigAllRow.holds Try.pinned (OpenSpec.ofChange Rows.trigAllSpec) :=
  OpenClaim.holds_of_wide 11 Try.f11 rfl rfl rfl rfl rfl rfl rfl ⟨rfl, rfl, rfl, rfl, rfl⟩ rfl rfl rfl rfl rfl (by kernel_rfl) Try.func11 (by kernel_rfl)
    (of_decide_eq_true (by kernel_rfl)) (by unfold Func.isWrapper; first | (rw [if_pos (by decide +kernel)]; kernel_rfl) | (rw [if_neg (by decide +kernel)]; exact ⟨rfl, rfl⟩))
    (fun os started H enc _ => lifted os started H enc)

theorem proved : Rows.TrigAllSaid := over
end Go.Proofs.Ytiaacdkfknailaa.trigAll

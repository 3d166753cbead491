/- A window's first value is below a 16th part of its last one, which is above 9/10 of one, a short half is no part of a long one, and both shapes are unlike, of all four halves. WindowHalves returns true, whatever the memory and the schedule. No condition. -/
import Derived.Test.YtbiaodembejdpaaWinHalf
import Derived.WalkKit
import Derived.RegionTactic
import Derived.Deep.QuietTactic
import Derived.BigQuiet
import Derived.ChangeAlike
import Derived.Deep.OwnRows
import Derived.ProofKit
import Derived.OpenShut
import Derived.ShutString
import Derived.ChangeOld
import Derived.Below
import Derived.Lib.Hide
namespace Go.Proofs.Ytbiaodembejdpaa.windowHalves
open Go Go.ChangeShapes Go.WideShapes Go.ChangeAt Go.RowKit Go.Proofs.Ytbiaodembejdpaa.Fx
theorem sl_0 : win_sl.getD 0 0 = 12868 := by kernel_rfl
theorem sl_127 : win_sl.getD 127 0 = 2956708 := by kernel_rfl
theorem sl_255 : win_sl.getD 255 0 = 4194284 := by kernel_rfl
theorem kl_0 : win_kl.getD 0 0 = 2454 := by kernel_rfl
theorem kl_127 : win_kl.getD 127 0 = 2949219 := by kernel_rfl
theorem kl_255 : win_kl.getD 255 0 = 4194303 := by kernel_rfl
theorem ss_0 : win_ss.getD 0 0 = 102933 := by kernel_rfl
theorem ss_15 : win_ss.getD 15 0 = 2892143 := by kernel_rfl
theorem ss_31 : win_ss.getD 31 0 = 4193041 := by kernel_rfl
theorem ks_0 : win_ks.getD 0 0 = 367 := by kernel_rfl
theorem ks_15 : win_ks.getD 15 0 = 2799531 := by kernel_rfl
theorem ks_31 : win_ks.getD 31 0 = 4194303 := by kernel_rfl

set_option maxRecDepth 100000 in
set_option maxHeartbeats 2000000 in
theorem walk (w : World) : Calls Try.prog 6 #[] w fun e w' => e = .returned (.bool true) ∧ Below w.heap.size w w' := by
  go_enter Try.func6, Try.ntmps6
  go_wp2_with (go_at_call 8; ((with_reducible refine (w_alive _).mono ?_); rintro e w0 ⟨rfl, hb0⟩; have hb0' := Lib.hid hb0; clear hb0))
  go_loopw [2] (fun i wr => ∃ k : Nat, k ≤ 2 ∧ i = .int .i64 k ∧ Hid (Below w.heap.size w wr)) (fun i _ => 2 - (intOf i).toNat)
  case atStart => exact ⟨0, by omega, rfl, hb0'⟩
  case round =>
    obtain ⟨k, hk, rfl, hbel⟩ := hrel
    obtain rfl | rfl | rfl : k = 0 ∨ k = 1 ∨ k = 2 := by omega
    · skip
      go_wp2_with (first
      | (go_at_call 7; ((with_reducible refine (half_kl _).mono ?_); rintro e w2 ⟨g2, rfl, hg2, hr2, hb2⟩; have hb3 := Lib.hid (belowT hbel.out (belowT hb1 hb2)); have hr1' := hr1.out.of_block (hb2.block _ hr1.out.lt); have c0 := hr1'.cell (i := 0) (by omega); rw [sl_0] at c0; have c127 := hr1'.cell (i := 127) (by omega); rw [sl_127] at c127; have c255 := hr1'.cell (i := 255) (by omega); rw [sl_255] at c255; have d0 := hr2.cell (i := 0) (by omega); rw [kl_0] at d0; have d127 := hr2.cell (i := 127) (by omega); rw [kl_127] at d127; have d255 := hr2.cell (i := 255) (by omega); rw [kl_255] at d255; clear hr2 hr1'))
      | (go_at_call 7; ((with_reducible refine (half_sl _).mono ?_); rintro e w1 ⟨g1, rfl, hg1, hr, hb1⟩; have hr1 := Lib.hid hr; clear hr)))

      go_quiet (fail)
      go_wp2
      go_roundw
      case rel => exact ⟨1, by omega, by go_num, Lib.hid (belowT hb3.out (drewN_below _ _))⟩
      case measure => simp [intOf]
    · skip
      go_wp2_with (first
      | (go_at_call 7; ((with_reducible refine (half_ks _).mono ?_); rintro e w2 ⟨g2, rfl, hg2, hr2, hb2⟩; have hb3 := Lib.hid (belowT hbel.out (belowT hb1 hb2)); have hr1' := hr1.out.of_block (hb2.block _ hr1.out.lt); have c0 := hr1'.cell (i := 0) (by omega); rw [ss_0] at c0; have c15 := hr1'.cell (i := 15) (by omega); rw [ss_15] at c15; have c31 := hr1'.cell (i := 31) (by omega); rw [ss_31] at c31; have d0 := hr2.cell (i := 0) (by omega); rw [ks_0] at d0; have d15 := hr2.cell (i := 15) (by omega); rw [ks_15] at d15; have d31 := hr2.cell (i := 31) (by omega); rw [ks_31] at d31; clear hr2 hr1'))
      | (go_at_call 7; ((with_reducible refine (half_ss _).mono ?_); rintro e w1 ⟨g1, rfl, hg1, hr, hb1⟩; have hr1 := Lib.hid hr; clear hr)))

      go_quiet (fail)
      go_wp2
      go_roundw
      case rel => exact ⟨2, by omega, by go_num, Lib.hid (belowT hb3.out (drewN_below _ _))⟩
      case measure => simp [intOf]
    · have hb := hbel.out
      go_wp2
      go_ret
      exact ⟨rfl, hb⟩

theorem own : ownKnob Try.prog.godebug = none := by kernel_rfl
set_option linter.unusedVariables false
set_option maxRecDepth 100000 in
theorem lifted (os : Os) (started : os.Started) (H : Type) (enc : TypeId × Value → H) :
    ReturnsInHanded {} Try.checked os 6 .any (Rows.windowHalvesSpec.pre6 enc Try.prog Try.f6 Rows.windowHalvesRow.domain false) (Rows.windowHalvesSpec.post enc Try.prog Try.f6 false true false false) := by
  refine returnsInHanded_of_change (C := Try.checked) own started (by kernel_rfl) Try.func6
    (ChangeSpec.witness6 (enc := enc) (C := Try.checked) false ⟨#[], #[], []⟩ 8 (by kernel_rfl) (by kernel_rfl) (by kernel_rfl) (by kernel_rfl)) ?_
  intro W base args ds gs before hval0 hW hcnd _
  have hval : ∀ (j : Nat) t v, Try.f6.params[j]? = some t → args[j]? = some v → Value.okWide Try.prog W .any base t v := hval0
  have hW' := hW
  obtain ⟨p, q, hA0, hV, rfl, hfz, hnd⟩ := hW
  have hA : DataW.TrodAll enc Try.prog W 0 (fun _ => true) true Try.f6.params.toList args.toList ds p := hA0
  rw [Try.params6] at hA hval
  obtain ⟨rfl, rfl, rfl⟩ := trodAll_none hA
  obtain ⟨rfl, rfl⟩ := trodVars_none hV
  clear hA0 hval0
  simp only [List.append_nil] at hW'
  refine (walk  W ).mono fun e W' ⟨he, bel⟩ => ?_
  subst he
  exact ⟨_, rfl, _, _, _, [], _, [], hW', trodAll_mk1 (shut_bool Try.underlying4 _), trodAll_mk0, rfl, bel.frame _, fun h => by cases h⟩

theorem over : Rows.windowHalvesRow.holds Try.pinned (OpenSpec.ofChange Rows.windowHalvesSpec) :=
  OpenClaim.holds_of_wide 6 Try.f6 rfl rfl rfl rfl rfl rfl rfl ⟨rfl, rfl, rfl, rfl, rfl⟩ rfl rfl rfl rfl rfl (by kernel_rfl) Try.func6 (by kernel_rfl)
    (of_decide_eq_true (by kernel_rfl)) (by unfold Func.isWrapper; first | (rw [if_pos (by decide +kernel)]; kernel_rfl) | (rw [if_neg (by decide +kernel)]; exact ⟨rfl, rfl⟩))
    (fun os started H enc _ => lifted os started H enc)

theorem proved : Rows.WindowHalvesSaid := over
end Go.Proofs.Ytbiaodembejdpaa.windowHalves

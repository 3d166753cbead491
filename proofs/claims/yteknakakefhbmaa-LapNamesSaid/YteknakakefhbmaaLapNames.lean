/- The error has its number, and the chapter's examples are so. LapNames returns true, whatever the arguments, the memory and the schedule. No condition. -/
import Derived.Test.YteknakakefhbmaaLpPub
import Derived.WalkKit
import Derived.Below
import Derived.RegionTactic
import Derived.Deep.QuietTactic
import Derived.BigQuiet
import Derived.ChangeAlike
import Derived.Deep.OwnRows
import Derived.Deep.RegionLaw
import Derived.ProofKit
import Derived.OpenShut
import Derived.ChangeSlices
import Derived.Lib.Hide
import Derived.Great.Walk
import Derived.ChangeKeysEq
import Derived.ChangeOld
import Derived.ShutString
namespace Go.Proofs.Yteknakakefhbmaa.lapNames
open Go Go.ChangeShapes Go.WideShapes Go.ChangeAt Go.RowKit Go.Proofs.Yteknakakefhbmaa.Fx Go.Proofs.Yteknakakefhbmaa.Rk Go.Proofs.Yteknakakefhbmaa.Mm Go.Proofs.Yteknakakefhbmaa.Md Go.Proofs.Yteknakakefhbmaa.Bl Go.Proofs.Yteknakakefhbmaa.Lp Go.Proofs.Yteknakakefhbmaa.Cpy

theorem n_bad : nO [] 0 0 0 0 (zeros 256) = ⟨[], 0, 0, [], 8⟩ := if_pos (by unfold LapOK; simp)
theorem n_many : nO (zeros 256) 0 0 0 0 [] = ⟨[], 0, 0, [], 4⟩ := by
  unfold nO
  rw [if_neg (by simpa using lap_zero)]
  have e : sO 0 0 0 [] = ([], 4) := by decide
  rw [e]
  rfl
theorem nil_rda (w : World) (a : Option Addr) : RdA w a [] := fun i hi => absurd hi (by simp)
set_option maxRecDepth 100000 in
set_option maxHeartbeats 4000000 in
theorem walk (w : World) : Calls Try.prog 8 #[] w fun e w' => e = .returned (.bool true) ∧ Below w.heap.size w w' := by
  obtain ⟨i0, hi, hz0, hz1, hz2⟩ := info_parts Fx.info3
  have HE := Lib.hid (next_O none (some ⟨w.heap.size, 0, none⟩) 0 0 256 256 [] (zeros 256) 0 0 0 0 (w.alloc (.cells (madeCells #[.int .i64 0] 256) 3)) (by decide) (by decide) (by decide) rfl (nil_rda _ _) (zeros_len _) (Nat.le_refl _) (by unfold maxLen; omega) (zeros_rd w 256))
  have HM := Lib.hid (fun (g : Nat) (W : World) (r : W.rowIs g 3 256 (fun _ => .int .i64 0)) => next_O (some ⟨g, 0, none⟩) none 256 256 0 0 (zeros 256) [] 0 0 0 0 W (by decide) (by decide) (by decide) (zeros_len _) (rep_rd r) rfl (Nat.le_refl _) (by unfold maxLen; omega) (nil_rda _ _))
  have HC := Lib.hid (fun (g : Nat) (W : World) (r : W.rowIs g 3 256 (fun _ => .int .i64 0)) => check_yes (some ⟨g, 0, none⟩) 256 (zeros 256) 0 0 W (rep_rd r) lap_zero)
  rw [n_bad] at HE
  rw [n_many] at HM
  rw [zeros_len] at HC
  unfold lapV at HE HM HC
  go_enter Try.func8, Try.ntmps8
  go_wp2_with first
    | (refine wpList_make_row _ rfl _ _ 22 rfl 3 i0 (.int .i64 0) Try.underlying22 hi hz0 hz1 rfl .i64 .i64 256 rfl rfl (by rw [hz2]; omega) (by omega) ?_)
    | (go_at_call 22; ((with_reducible refine (HE.out).mono ?_); rintro e w1 ⟨v1, u1, rfl, ho1, hp1, hb1⟩; obtain ⟨a1, c1, hv1⟩ := own_shape ho1; obtain rfl : v1 = .slice a1 0 c1 := hv1; obtain ⟨a2, c2, hu1⟩ := own_shape hp1; obtain rfl : u1 = .slice a2 0 c2 := hu1; dsimp only [lapV]; have B1 := Lib.hid (((Below.refl w.heap.size w).alloc (Nat.le_refl _) (.cells (madeCells #[.int .i64 0] 256) 3)).trans (hb1.mono (by simp))); clear ho1 hp1 hb1))
    | (go_at_call 23; ((with_reducible refine (new_ok _).mono ?_); rintro e w2 ⟨g2, rfl, hg2, hr2, hb2⟩; have R2 := Lib.hid hr2; have B2 := Lib.hid ((B1.out.alloc B1.out.size _).trans (hb2.mono (by have := B1.out.size; simp; omega))); dsimp only [lapV]; clear hr2 hb2))
    | (go_at_call 22; ((with_reducible refine (HM.out _ _ R2.out).mono ?_); rintro e w3 ⟨v3, u3, rfl, ho3, hp3, hb3⟩; obtain ⟨a3, c3, hv3⟩ := own_shape ho3; obtain rfl : v3 = .slice a3 0 c3 := hv3; obtain ⟨a4, c4, hu3⟩ := own_shape hp3; obtain rfl : u3 = .slice a4 0 c4 := hu3; dsimp only [lapV]; have B3 := Lib.hid (bt B2.out hb3); clear ho3 hp3 hb3))
    | (go_at_call 24; ((with_reducible refine (Lp.alive_ok _).mono ?_); rintro e w4 ⟨rfl, hb4⟩; have B4 := Lib.hid ((B3.out.alloc B3.out.size _).trans (hb4.mono (by have := B3.out.size; simp; omega))); clear hb4))
    | (go_at_call 23; ((with_reducible refine (new_ok w4).mono ?_); rintro e w5 ⟨g5, rfl, hg5, hr5, hb5⟩; have R5 := Lib.hid hr5; have B5 := Lib.hid (bt B4.out hb5); dsimp only [lapV]; clear hr5 hb5))
    | (go_at_call 25; ((with_reducible refine (HC.out _ _ R5.out).mono ?_); rintro e w6 ⟨rfl, hb6⟩; have B6 := Lib.hid (bt B5.out hb6); clear hb6))
  go_ret
  exact ⟨rfl, B6.out⟩

theorem own : ownKnob Try.prog.godebug = none := by kernel_rfl
set_option linter.unusedVariables false
set_option maxRecDepth 100000 in
theorem lifted (os : Os) (started : os.Started) (H : Type) (enc : TypeId × Value → H) :
    ReturnsInHanded {} Try.checked os 8 .any (Rows.lapNamesSpec.pre6 enc Try.prog Try.f8 Rows.lapNamesRow.domain false) (Rows.lapNamesSpec.post enc Try.prog Try.f8 false true false false) := by
  refine returnsInHanded_of_change (C := Try.checked) own started (by kernel_rfl) Try.func8
    (ChangeSpec.witness6 (enc := enc) (C := Try.checked) false ⟨#[], #[], []⟩ 8 (by kernel_rfl) (by kernel_rfl) (by kernel_rfl) (by kernel_rfl)) ?_
  intro W base args ds gs before hval0 hW hcnd _
  have hval : ∀ (j : Nat) t v, Try.f8.params[j]? = some t → args[j]? = some v → Value.okWide Try.prog W .any base t v := hval0
  have hW' := hW
  obtain ⟨p, q, hA0, hV, rfl, hfz, hnd⟩ := hW
  have hA : DataW.TrodAll enc Try.prog W 0 (fun _ => true) true Try.f8.params.toList args.toList ds p := hA0
  rw [Try.params8] at hA hval
  obtain ⟨rfl, rfl, rfl⟩ := trodAll_none hA
  obtain ⟨rfl, rfl⟩ := trodVars_none hV
  clear hA0 hval0
  simp only [List.append_nil] at hW'
  refine (walk  W ).mono fun e W' ⟨he, bel⟩ => ?_
  subst he
  exact ⟨_, rfl, _, _, _, [], _, [], hW', trodAll_mk1 (shut_bool Try.underlying4 _), trodAll_mk0, rfl, bel.frame _, fun h => by cases h⟩

theorem over : Rows.lapNamesRow.holds Try.pinned (OpenSpec.ofChange Rows.lapNamesSpec) :=
  OpenClaim.holds_of_wide 8 Try.f8 rfl rfl rfl rfl rfl rfl rfl ⟨rfl, rfl, rfl, rfl, rfl⟩ rfl rfl rfl rfl rfl (by kernel_rfl) Try.func8 (by kernel_rfl)
    (of_decide_eq_true (by kernel_rfl)) (by unfold Func.isWrapper; first | (rw [if_pos (by decide +kernel)]; kernel_rfl) | (rw [if_neg (by decide +kernel)]; exact ⟨rfl, rfl⟩))
    (fun os started H enc _ => lifted os started H enc)

theorem proved : Rows.LapNamesSaid := over
end Go.Proofs.Yteknakakefhbmaa.lapNames

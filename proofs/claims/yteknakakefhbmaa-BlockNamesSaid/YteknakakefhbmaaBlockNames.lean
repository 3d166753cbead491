/- The sequences have their numbers, and the chapter's examples are so. BlockNames returns true, whatever the arguments, the memory and the schedule. No condition. -/
import Derived.Test.YteknakakefhbmaaBlAl
import Derived.WalkKit
import Derived.Below
import Derived.RegionTactic
import Derived.Deep.QuietTactic
import Derived.BigQuiet
import Derived.ChangeAlike
import Derived.Deep.OwnRows
import Derived.Deep.RegionLaw
import Derived.ProofKit
import Derived.OpenShut
import Derived.ChangeSlices
import Derived.Lib.Hide
import Derived.Great.Walk
import Derived.ChangeKeysEq
import Derived.ChangeOld
import Derived.ShutString
namespace Go.Proofs.Yteknakakefhbmaa.blockNames
open Go Go.ChangeShapes Go.WideShapes Go.ChangeAt Go.RowKit Go.Proofs.Yteknakakefhbmaa.Fx Go.Proofs.Yteknakakefhbmaa.Rk Go.Proofs.Yteknakakefhbmaa.Mm Go.Proofs.Yteknakakefhbmaa.Md Go.Proofs.Yteknakakefhbmaa.Bl

theorem w_bad : wO 2 0 0 = ([], 2) := if_pos (.inl rfl)
theorem s_bad : sO 4 0 0 (zeros 256) = ([], 2) := if_pos (by decide)
theorem a_arg : aO 0 0 2 (zeros 512) = ([], 2) := if_pos (by decide)
theorem a_many : aO 0 0 0 (zeros 511) = ([], 4) := by
  unfold aO
  rw [if_neg (by decide), if_pos (by rw [zeros_len]; decide)]
theorem s_good : sO 2 1 1 (zeros 256) = (mk 512 (syT 1 1 (zeros 256) 8), 0) := by
  unfold sO
  rw [if_neg (by decide), if_neg (by rw [zeros_len]; decide), if_neg (by simpa using zeros_in 256 (by decide) (by decide))]
  rfl
theorem mkb (w : World) (n : Nat) {w' : World} (h : Below (w.alloc (.cells (madeCells #[.int .i64 0] n) 3)).heap.size (w.alloc (.cells (madeCells #[.int .i64 0] n) 3)) w') : Below w.heap.size w w' := ((Below.refl w.heap.size w).alloc (Nat.le_refl _) _).trans (h.mono (by simp))
set_option maxRecDepth 100000 in
set_option maxHeartbeats 4000000 in
theorem walk (w : World) : Calls Try.prog 3 #[] w fun e w' => e = .returned (.bool true) ∧ Below w.heap.size w w' := by
  obtain ⟨i0, hi, hz0, hz1, hz2⟩ := info_parts Fx.info3
  have HW := Lib.hid (window_O 2 0 0 w (by decide) (by decide) (by decide))
  have HS := Lib.hid (fun (W : World) => synth_O 4 0 0 (some ⟨W.heap.size, 0, none⟩) 256 256 (zeros 256) (W.alloc (.cells (madeCells #[.int .i64 0] 256) 3)) (by decide) (by decide) (by decide) (zeros_len _) (Nat.le_refl _) (by unfold maxLen; omega) (zeros_rd W 256))
  have HA := Lib.hid (fun (W : World) => analyse_O 0 0 2 (some ⟨W.heap.size, 0, none⟩) 512 512 (zeros 512) (W.alloc (.cells (madeCells #[.int .i64 0] 512) 3)) (by decide) (by decide) (by decide) (zeros_len _) (Nat.le_refl _) (by unfold maxLen; omega) (zeros_rd W 512))
  have HM := Lib.hid (fun (W : World) => analyse_O 0 0 0 (some ⟨W.heap.size, 0, none⟩) 511 511 (zeros 511) (W.alloc (.cells (madeCells #[.int .i64 0] 511) 3)) (by decide) (by decide) (by decide) (zeros_len _) (Nat.le_refl _) (by unfold maxLen; omega) (zeros_rd W 511))
  have HG := Lib.hid (fun (W : World) => synth_O 2 1 1 (some ⟨W.heap.size, 0, none⟩) 256 256 (zeros 256) (W.alloc (.cells (madeCells #[.int .i64 0] 256) 3)) (by decide) (by decide) (by decide) (zeros_len _) (Nat.le_refl _) (by unfold maxLen; omega) (zeros_rd W 256))
  rw [w_bad] at HW
  rw [s_bad] at HS
  rw [a_arg] at HA
  rw [a_many] at HM
  rw [s_good] at HG
  go_enter Try.func3, Try.ntmps3
  go_wp2_with first
    | (go_at_call 13; ((with_reducible refine (HW.out).mono ?_); rintro e w1 ⟨v1, rfl, ho1, hb1⟩; obtain ⟨a1, c1, rfl, _⟩ := ho1.rd.open; have B1 := Lib.hid hb1; clear ho1 hb1))
    | (refine wpList_make_row _ rfl _ _ 22 rfl 3 i0 (.int .i64 0) Try.underlying22 hi hz0 hz1 rfl .i64 .i64 256 rfl rfl (by rw [hz2]; omega) (by omega) ?_)
    | (refine wpList_make_row _ rfl _ _ 22 rfl 3 i0 (.int .i64 0) Try.underlying22 hi hz0 hz1 rfl .i64 .i64 512 rfl rfl (by rw [hz2]; omega) (by omega) ?_)
    | (refine wpList_make_row _ rfl _ _ 22 rfl 3 i0 (.int .i64 0) Try.underlying22 hi hz0 hz1 rfl .i64 .i64 511 rfl rfl (by rw [hz2]; omega) (by omega) ?_)
    | (go_at_call 14; ((with_reducible refine (HS.out _).mono ?_); rintro e w2 ⟨v2, rfl, ho2, hb2⟩; obtain ⟨a2, c2, rfl, _⟩ := ho2.rd.open; have B2 := Lib.hid (bt B1.out (mkb _ _ hb2)); clear ho2 hb2))
    | (go_at_call 15; ((with_reducible refine (HA.out _).mono ?_); rintro e w3 ⟨v3, rfl, ho3, hb3⟩; obtain ⟨a3, c3, rfl, _⟩ := ho3.rd.open; have B3 := Lib.hid (bt B2.out (mkb _ _ hb3)); clear ho3 hb3))
    | (go_at_call 15; ((with_reducible refine (HM.out _).mono ?_); rintro e w4 ⟨v4, rfl, ho4, hb4⟩; obtain ⟨a4, c4, rfl, _⟩ := ho4.rd.open; have B4 := Lib.hid (bt B3.out (mkb _ _ hb4)); clear ho4 hb4))
    | (go_at_call 14; ((with_reducible refine (HG.out _).mono ?_); rintro e w5 ⟨v5, rfl, ho5, hb5⟩; obtain ⟨g5, c5, rfl, HN⟩ := own_yes ho5 (mk_len _ _) (by decide) (by decide) (m := 512) (by decide) (mk_zero (syT_zero (zeros_at 256) 8)); have hg5 := own_lt (n := 512) ho5; have B5 := Lib.hid (bt B4.out (mkb _ _ hb5)); clear ho5 hb5))
    | (go_at_call 16; ((with_reducible refine (alive_ok _).mono ?_); rintro e w6 ⟨rfl, hb6⟩; have HN6 := HN w6 (hb6.block _ hg5); have B6 := Lib.hid (bt B5.out hb6); clear hb6))
    | (go_at_call 17; ((with_reducible refine HN6.mono ?_); rintro e w7 ⟨rfl, rfl⟩))
  go_ret
  exact ⟨rfl, B6.out⟩

theorem own : ownKnob Try.prog.godebug = none := by kernel_rfl
set_option linter.unusedVariables false
set_option maxRecDepth 100000 in
theorem lifted (os : Os) (started : os.Started) (H : Type) (enc : TypeId × Value → H) :
    ReturnsInHanded {} Try.checked os 3 .any (Rows.blockNamesSpec.pre6 enc Try.prog Try.f3 Rows.blockNamesRow.domain false) (Rows.blockNamesSpec.post enc Try.prog Try.f3 false true false false) := by
  refine returnsInHanded_of_change (C := Try.checked) own started (by kernel_rfl) Try.func3
    (ChangeSpec.witness6 (enc := enc) (C := Try.checked) false ⟨#[], #[], []⟩ 8 (by kernel_rfl) (by kernel_rfl) (by kernel_rfl) (by kernel_rfl)) ?_
  intro W base args ds gs before hval0 hW hcnd _
  have hval : ∀ (j : Nat) t v, Try.f3.params[j]? = some t → args[j]? = some v → Value.okWide Try.prog W .any base t v := hval0
  have hW' := hW
  obtain ⟨p, q, hA0, hV, rfl, hfz, hnd⟩ := hW
  have hA : DataW.TrodAll enc Try.prog W 0 (fun _ => true) true Try.f3.params.toList args.toList ds p := hA0
  rw [Try.params3] at hA hval
  obtain ⟨rfl, rfl, rfl⟩ := trodAll_none hA
  obtain ⟨rfl, rfl⟩ := trodVars_none hV
  clear hA0 hval0
  simp only [List.append_nil] at hW'
  refine (walk  W ).mono fun e W' ⟨he, bel⟩ => ?_
  subst he
  exact ⟨_, rfl, _, _, _, [], _, [], hW', trodAll_mk1 (shut_bool Try.underlying4 _), trodAll_mk0, rfl, bel.frame _, fun h => by cases h⟩

theorem over : Rows.blockNamesRow.holds Try.pinned (OpenSpec.ofChange Rows.blockNamesSpec) :=
  OpenClaim.holds_of_wide 3 Try.f3 rfl rfl rfl rfl rfl rfl rfl ⟨rfl, rfl, rfl, rfl, rfl⟩ rfl rfl rfl rfl rfl (by kernel_rfl) Try.func3 (by kernel_rfl)
    (of_decide_eq_true (by kernel_rfl)) (by unfold Func.isWrapper; first | (rw [if_pos (by decide +kernel)]; kernel_rfl) | (rw [if_neg (by decide +kernel)]; exact ⟨rfl, rfl⟩))
    (fun os started H enc _ => lifted os started H enc)

theorem proved : Rows.BlockNamesSaid := over
end Go.Proofs.Yteknakakefhbmaa.blockNames

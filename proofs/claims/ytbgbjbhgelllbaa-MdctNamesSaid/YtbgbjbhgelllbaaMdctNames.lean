/- The errors of the transform have their numbers, and the chapter's examples are so. MdctNames returns true, whatever the memory and the schedule. No condition. -/
import Derived.Test.YtbgbjbhgelllbaaMdAl
import Derived.WalkKit
import Derived.Below
import Derived.RegionTactic
import Derived.Deep.QuietTactic
import Derived.BigQuiet
import Derived.ChangeAlike
import Derived.Deep.OwnRows
import Derived.ProofKit
import Derived.OpenShut
import Derived.ChangeSlices
import Derived.Great.Walk
import Derived.ChangeKeysEq
import Derived.Lib.Hide
import Derived.ChangeOld
namespace Go.Proofs.Ytbgbjbhgelllbaa.mdctNames
open Go Go.ChangeShapes Go.WideShapes Go.ChangeAt Go.RowKit Go.Proofs.Ytbgbjbhgelllbaa.Fx Go.Proofs.Ytbgbjbhgelllbaa.Mm Go.Proofs.Ytbgbjbhgelllbaa.Md
theorem z1_row (w : World) (n : Nat) : RdA (w.alloc (.cells (madeCells #[.int .i64 0] n) 3)) (some ⟨w.heap.size, 0, none⟩) (lst z1 n) := rd_lst (f := z1) ((World.rowIs_made w (.int .i64 0) n 3).congr fun i _ => rfl)
theorem in_lz1 {M : Int} (n : Nat) (h : 0 ≤ M) : InM M (lst z1 n) := by
  intro j hj
  rw [lst_len] at hj
  rw [lst_at _ hj]
  unfold z1; omega
theorem z1_any (n j : Nat) : (lst z1 n).getD j 0 = 0 := by
  by_cases h : j < n
  · exact lst_at _ h
  · exact lst_out _ (by omega)
theorem fw_zero (n : Nat) (m s : Int) (k : Nat) : fw (lst z1 n) m s k = 0 := by
  unfold fw
  rw [ds_zero (f := fun j => (lst z1 n).getD j 0) _ (fun j _ => z1_any n j)]
  decide
theorem bk_zero (n : Nat) (m s : Int) (k : Nat) : bk (lst z1 n) m s 23 k = 0 := by
  unfold bk
  rw [ds_zero (f := fun j => (lst z1 n).getD j 0) _ (fun j _ => z1_any n j)]
  decide
def z9 (j : Nat) : Int := if j = 9 then 268435456 else 0
theorem not_z9 : ¬ InM 268435455 (lst z9 256) := fun h => by
  have := (h 9 (by rw [lst_len]; decide)).2
  rw [lst_at _ (by decide)] at this
  exact absurd this (by decide)
theorem z9_new (w : World) : (w.alloc (.cells ((madeCells #[.int .i64 0] 256).setIfInBounds 9 (.int .i64 268435456)) 3)).rowIs w.heap.size 3 256 (fun j => .int .i64 (z9 j)) := by
  obtain ⟨c, hc, hs, hf⟩ := World.rowIs_made w (.int .i64 0) 256 3
  rw [Go.Deep.blk_alloc_new] at hc
  simp only [Option.some.injEq, Obj.cells.injEq, and_true] at hc
  obtain ⟨rfl, _⟩ := hc
  refine ⟨_, Go.Deep.blk_alloc_new _ _, by rw [Array.size_setIfInBounds]; exact hs, fun i hi => ?_⟩
  rw [Array.getElem?_setIfInBounds]
  unfold z9
  by_cases h : i = 9
  · subst h; rw [if_pos rfl, if_pos (by rw [hs]; decide)]; rfl
  · rw [if_neg (fun e => h e.symm), hf i hi]
    simp [h]
theorem two_raw (w4 : World) : ((w4.alloc (.cells (madeCells #[.int .i64 0] 511) 3)).alloc (.cells (madeCells #[.int .i64 0] 256) 3)).rowIs (w4.heap.size + 1) 3 256 (fun _ => .int .i64 0) := by
  have e : (w4.alloc (.cells (madeCells #[.int .i64 0] 511) 3)).heap.size = w4.heap.size + 1 := by simp
  have r2 := World.rowIs_made (w4.alloc (.cells (madeCells #[.int .i64 0] 511) 3)) (.int .i64 0) 256 3
  rwa [e] at r2
theorem two_more (w4 : World) : RdA ((w4.alloc (.cells (madeCells #[.int .i64 0] 511) 3)).alloc (.cells ((madeCells #[.int .i64 0] 256).setIfInBounds 9 (.int .i64 268435456)) 3)) (some ⟨w4.heap.size + 1, 0, none⟩) (lst z9 256) ∧ Below w4.heap.size w4 ((w4.alloc (.cells (madeCells #[.int .i64 0] 511) 3)).alloc (.cells ((madeCells #[.int .i64 0] 256).setIfInBounds 9 (.int .i64 268435456)) 3)) := by
  have e : (w4.alloc (.cells (madeCells #[.int .i64 0] 511) 3)).heap.size = w4.heap.size + 1 := by simp
  have r2 := z9_new (w4.alloc (.cells (madeCells #[.int .i64 0] 511) 3))
  rw [e] at r2
  exact ⟨rd_lst r2, ((Below.refl _ _).alloc (Nat.le_refl _) _).alloc (by omega) _⟩
set_option maxRecDepth 100000 in
set_option maxHeartbeats 8000000 in
theorem walk (w : World) : Calls Try.prog 3 #[] w fun e w' => e = .returned (.bool true) ∧ Below w.heap.size w w' := by
  obtain ⟨i0, hi, hz0, hz1, hz2⟩ := info_parts info3
  have HF := Lib.hid (fun w1 => fwd_ok (some ⟨w1.heap.size, 0, none⟩) 512 (lst z1 512) 512 256 256 1 (w1.alloc (.cells (madeCells #[.int .i64 0] 512) 3)) (lst_len _ _) (.inl ⟨rfl, rfl, rfl, rfl⟩) (z1_row w1 512) (in_lz1 512 (by decide)))
  have HV := Lib.hid (fun w1 => inv_ok (some ⟨w1.heap.size, 0, none⟩) 32 (lst z1 32) 32 64 32 8 23 (w1.alloc (.cells (madeCells #[.int .i64 0] 32) 3)) (lst_len _ _) (.inr ⟨rfl, rfl, rfl, rfl, rfl⟩) (z1_row w1 32) (in_lz1 32 (by decide)))
  have HE := Lib.hid (fun w1 A => fwd_many A 511 511 w1 (by decide) (by decide))
  have HG := Lib.hid (fun w1 A r => inv_arg256 A 256 (lst z9 256) w1 (lst_len _ _) r not_z9)
  have HB1 := Lib.hid (((Below.refl w.heap.size w).alloc (Nat.le_refl _) (.cells (madeCells #[.int .i64 0] 512) 3)))
  go_enter Try.func3, Try.ntmps3
  go_wp2_with first
    | (refine wpList_make_row _ rfl _ _ 22 rfl 3 i0 (.int .i64 0) Try.underlying22 hi hz0 hz1 rfl .i64 .i64 512 rfl rfl (by rw [hz2]; omega) (by omega) ?_)
    | (refine wpList_make_row _ rfl _ _ 22 rfl 3 i0 (.int .i64 0) Try.underlying22 hi hz0 hz1 rfl .i64 .i64 32 rfl rfl (by rw [hz2]; omega) (by omega) ?_)
    | (refine wpList_make_row _ rfl _ _ 22 rfl 3 i0 (.int .i64 0) Try.underlying22 hi hz0 hz1 rfl .i64 .i64 511 rfl rfl (by rw [hz2]; omega) (by omega) ?_)
    | (refine wpList_make_row _ rfl _ _ 22 rfl 3 i0 (.int .i64 0) Try.underlying22 hi hz0 hz1 rfl .i64 .i64 256 rfl rfl (by rw [hz2]; omega) (by omega) ?_)
    | (go_at_call 9; ((with_reducible refine (HF.out _).mono ?_); rintro e w2 ⟨ga, rfl, hga, ha2, hb2⟩; have ha := Lib.hid ha2; have hB2 := Lib.hid (HB1.out.trans (hb2.mono HB1.out.size)); clear ha2 hb2))
    | (go_at_call 10; ((with_reducible refine (HV.out _).mono ?_); rintro e w4 ⟨gb, rfl, hgb, hb4, hbb⟩; have hb := Lib.hid hb4; have hba := Lib.hid (((Below.refl w2.heap.size w2).alloc (Nat.le_refl _) (.cells (madeCells #[.int .i64 0] 32) 3)).trans (hbb.mono (by simp))); have hB4 := Lib.hid (hB2.out.trans (hba.out.mono hB2.out.size)); have ha4 := Lib.hid (ha.out.of_block (hba.out.block _ ha.out.lt)); have tm := Lib.hid (two_more w4); have c9 := (two_raw w4).cell (i := 9) (by decide); have f9 := (two_raw w4).frozen 9; have r9 := Lib.hid tm.out.1; have hS := Lib.hid tm.out.2; clear hb4 hbb))
    | (go_at_call 9; ((with_reducible refine (HE.out _ _).mono ?_); rintro e w5 ⟨rfl, rfl⟩))
    | (go_at_call 10; ((with_reducible refine (HG.out _ _ r9.out).mono ?_); rintro e w6 ⟨rfl, rfl⟩))
    | (go_at_call 11; ((with_reducible refine (alive_ok _).mono ?_); rintro e w7 ⟨rfl, hb7⟩; have h47 := Lib.hid (hS.out.trans (hb7.mono hS.out.size)); have ha7 := Lib.hid (ha4.out.of_block (h47.out.block _ ha4.out.lt)); have hb7r := Lib.hid (hb.out.of_block (h47.out.block _ hb.out.lt)); clear hb7))
    | (go_at_call 12; ((with_reducible refine (noughts_yes _ _ (lst (fw (lst z1 512) 256 1) 256) 256 256 _ rfl (lst_len _ _) (by decide) (rd_lst ha7.out) (fun j hj => (lst_at _ hj).trans (fw_zero 512 256 1 j))).mono ?_); rintro e w8 ⟨rfl, rfl⟩))
    | (go_at_call 12; ((with_reducible refine (noughts_yes _ _ (lst (bk (lst z1 32) 32 8 23) 64) 64 64 _ rfl (lst_len _ _) (by decide) (rd_lst hb7r.out) (fun j hj => (lst_at _ hj).trans (bk_zero 32 32 8 j))).mono ?_); rintro e w9 ⟨rfl, rfl⟩))
  go_ret
  exact ⟨rfl, hB4.out.trans (h47.out.mono hB4.out.size)⟩
theorem own : ownKnob Try.prog.godebug = none := by kernel_rfl
set_option linter.unusedVariables false
set_option maxRecDepth 100000 in
theorem lifted (os : Os) (started : os.Started) (H : Type) (enc : TypeId × Value → H) :
    ReturnsInHanded {} Try.checked os 3 .any (Rows.mdctNamesSpec.pre6 enc Try.prog Try.f3 Rows.mdctNamesRow.domain false) (Rows.mdctNamesSpec.post enc Try.prog Try.f3 false true false false) := by
  refine returnsInHanded_of_change (C := Try.checked) own started (by kernel_rfl) Try.func3
    (ChangeSpec.witness6 (enc := enc) (C := Try.checked) false ⟨#[], #[], []⟩ 8 (by kernel_rfl) (by kernel_rfl) (by kernel_rfl) (by kernel_rfl)) ?_
  intro W base args ds gs before hval0 hW hcnd _
  have hval : ∀ (j : Nat) t v, Try.f3.params[j]? = some t → args[j]? = some v → Value.okWide Try.prog W .any base t v := hval0
  have hW' := hW
  obtain ⟨p, q, hA0, hV, rfl, hfz, hnd⟩ := hW
  have hA : DataW.TrodAll enc Try.prog W 0 (fun _ => true) true Try.f3.params.toList args.toList ds p := hA0
  rw [Try.params3] at hA hval
  obtain ⟨rfl, rfl, rfl⟩ := trodAll_none hA
  obtain ⟨rfl, rfl⟩ := trodVars_none hV
  clear hA0 hval0
  simp only [List.append_nil] at hW'
  refine (walk  W ).mono fun e W' ⟨he, bel⟩ => ?_
  subst he
  exact ⟨_, rfl, _, _, _, [], _, [], hW', trodAll_mk1 (shut_bool Try.underlying4 _), trodAll_mk0, rfl, bel.frame _, fun h => by cases h⟩

theorem over : Rows.mdctNamesRow.holds Try.pinned (OpenSpec.ofChange Rows.mdctNamesSpec) :=
  OpenClaim.holds_of_wide 3 Try.f3 rfl rfl rfl rfl rfl rfl rfl ⟨rfl, rfl, rfl, rfl, rfl⟩ rfl rfl rfl rfl rfl (by kernel_rfl) Try.func3 (by kernel_rfl)
    (of_decide_eq_true (by kernel_rfl)) (by unfold Func.isWrapper; first | (rw [if_pos (by decide +kernel)]; kernel_rfl) | (rw [if_neg (by decide +kernel)]; exact ⟨rfl, rfl⟩))
    (fun os started H enc _ => lifted os started H enc)

theorem proved : Rows.MdctNamesSaid := over
end Go.Proofs.Ytbgbjbhgelllbaa.mdctNames

/- The errors have their numbers, and the chapter's examples of lost frames are so. LoseNames returns true, whatever the memory and the schedule. No condition. -/
import Derived.Test.YtlogmndophcnjaaLoUni
import Derived.Test.YtlogmndophcnjaaLoSeq
import Derived.Test.YtlogmndophcnjaaEvLaw
import Derived.WalkKit
import Derived.ProofKit
import Derived.OpenShut
import Derived.ShutString
import Derived.ChangeOld
import Derived.Below
import Derived.Lib.Hide
namespace Go.Proofs.Ytlogmndophcnjaa.loseNames
open Go Go.ChangeShapes Go.WideShapes Go.ChangeAt Go.RowKit Go.Proofs.Ytlogmndophcnjaa.Lo

theorem val7 {w : World} {g : Nat} (h : w.rowIs g 3 256 (fun j => .int .i64 (lineF (rep 9) (rep 3) 256 1 2 j))) : Rd w (.slice (some ⟨g, 0, none⟩) 256 256) (rep 7) := rep_rd (h.congr fun i hi => by unfold lineF; rw [rep_at 9 hi, rep_at 3 hi]; rfl)
theorem val4 {w : World} {g : Nat} (h : w.rowIs g 3 256 (fun j => .int .i64 (lineF (rep 9) [] 0 1 1 j))) : Rd w (.slice (some ⟨g, 0, none⟩) 256 256) (rep 4) := rep_rd (h.congr fun i hi => by unfold lineF; rw [rep_at 9 hi]; rfl)
theorem val1 {w : World} {g : Nat} (h : w.rowIs g 3 256 (fun j => .int .i64 (lineF (rep 9) (rep 3) 256 3 3 j))) : Rd w (.slice (some ⟨g, 0, none⟩) 256 256) (rep 1) := rep_rd (h.congr fun i hi => by unfold lineF; rw [rep_at 9 hi]; rfl)
theorem val0 {w : World} {g : Nat} (h : w.rowIs g 3 256 (fun j => .int .i64 (lineF (rep 9) (rep 3) 256 9 9 j))) : Rd w (.slice (some ⟨g, 0, none⟩) 256 256) (rep 0) := rep_rd (h.congr fun i hi => by unfold lineF; rfl)

set_option maxRecDepth 100000 in
set_option maxHeartbeats 8000000 in
theorem walk (w : World) : Calls Try.prog 3 #[] w fun e w' => e = .returned (.bool true) ∧ Below w.heap.size w w' := by
  go_enter Try.func3, Try.ntmps3
  go_wp2_with (first
    | (go_at_call 8; have hg := hb20; clear hg; ((with_reducible refine (all_yes _ (rep 0) 0 _ (rep_len 0) (rep_mem 0) (Rd.below (val0 hr11.out) (belowT hb12 (belowT hb13 (belowT hb14 (belowT hb15 (belowT hb16 (belowT hb17 (belowT hb18 (belowT hb19 hb20)))))))))).mono ?_); rintro e w21 ⟨rfl, hq21⟩; have hb21 : Below w20.heap.size w20 w21 := (by rw [← hq21]; exact Below.refl _ _)))
    | (go_at_call 8; have hg := hb19; clear hg; ((with_reducible refine (all_yes _ (rep 1) 1 _ (rep_len 1) (rep_mem 1) (Rd.below (val1 hr8.out) (belowT hb9 (belowT hb10 (belowT hb11 (belowT hb12 (belowT hb13 (belowT hb14 (belowT hb15 (belowT hb16 (belowT hb17 (belowT hb18 hb19)))))))))))).mono ?_); rintro e w20 ⟨rfl, hq20⟩; have hb20 : Below w19.heap.size w19 w20 := (by rw [← hq20]; exact Below.refl _ _)))
    | (go_at_call 8; have hg := hb18; clear hg; ((with_reducible refine (all_yes _ (rep 4) 4 _ (rep_len 4) (rep_mem 4) (Rd.below (val4 hr5.out) (belowT hb6 (belowT hb7 (belowT hb8 (belowT hb9 (belowT hb10 (belowT hb11 (belowT hb12 (belowT hb13 (belowT hb14 (belowT hb15 (belowT hb16 (belowT hb17 hb18)))))))))))))).mono ?_); rintro e w19 ⟨rfl, hq19⟩; have hb19 : Below w18.heap.size w18 w19 := (by rw [← hq19]; exact Below.refl _ _)))
    | (go_at_call 8; have hg := hb17; clear hg; ((with_reducible refine (all_yes _ (rep 7) 7 _ (rep_len 7) (rep_mem 7) (Rd.below (val7 hr3.out) (belowT hb4 (belowT hb5 (belowT hb6 (belowT hb7 (belowT hb8 (belowT hb9 (belowT hb10 (belowT hb11 (belowT hb12 (belowT hb13 (belowT hb14 (belowT hb15 (belowT hb16 hb17))))))))))))))).mono ?_); rintro e w18 ⟨rfl, hq18⟩; have hb18 : Below w17.heap.size w17 w18 := (by rw [← hq18]; exact Below.refl _ _)))
    | (go_at_call 7; have hg := hb16; clear hg; ((with_reducible refine (lo_alive _).mono ?_); rintro e w17 ⟨rfl, hb17⟩))
    | (go_at_call 4; have hg := hb15; clear hg; ((with_reducible refine (err1 _ _ 0 1 _ (by omega)).mono ?_); rintro e w16 ⟨rfl, hq16⟩; have hb16 : Below w15.heap.size w15 w16 := (by rw [← hq16]; exact Below.refl _ _)))
    | (go_at_call 5; have hg := hb14; clear hg; ((with_reducible refine (filled_ok 3 _).mono ?_); rintro e w15 ⟨rfl, hr15', hb15⟩; have hr15 := Lib.hid (Ln.rep hr15' (by omega) (by omega)); clear hr15'))
    | (go_at_call 5; have hg := hb13; clear hg; ((with_reducible refine (filled_ok 9 _).mono ?_); rintro e w14 ⟨rfl, hr14', hb14⟩; have hr14 := Lib.hid (Ln.rep hr14' (by omega) (by omega)); clear hr14'))
    | (go_at_call 6; have hg := hb12; clear hg; ((with_reducible refine (seqX 4 _ (by omega)).mono ?_); rintro e w13 ⟨rfl, hq13⟩; have hb13 : Below w12.heap.size w12 w13 := (by rw [← hq13]; exact Below.refl _ _)))
    | (go_at_call 6; have hg := hb11; clear hg; ((with_reducible refine (seq2 _).mono ?_); rintro e w12 ⟨rfl, hq12⟩; have hb12 : Below w11.heap.size w11 w12 := (by rw [← hq12]; exact Below.refl _ _)))
    | (go_at_call 4; have hg := hb10; clear hg; ((with_reducible refine (lines_f w8.heap.size 0 256 w9.heap.size 0 256 (rep 9) (rep 3) 9 9 _ (by omega) (by omega) (by omega) (hr9.out.below hb10) hr10.out).mono ?_); rintro e w11 ⟨g11, rfl, hr11', hb11⟩; have hr11 := Lib.hid hr11'; clear hr11'))
    | (go_at_call 5; have hg := hb9; clear hg; ((with_reducible refine (filled_ok 3 _).mono ?_); rintro e w10 ⟨rfl, hr10', hb10⟩; have hr10 := Lib.hid (Ln.rep hr10' (by omega) (by omega)); clear hr10'))
    | (go_at_call 5; have hg := hb8; clear hg; ((with_reducible refine (filled_ok 9 _).mono ?_); rintro e w9 ⟨rfl, hr9', hb9⟩; have hr9 := Lib.hid (Ln.rep hr9' (by omega) (by omega)); clear hr9'))
    | (go_at_call 4; have hg := hb7; clear hg; ((with_reducible refine (lines_f w5.heap.size 0 256 w6.heap.size 0 256 (rep 9) (rep 3) 3 3 _ (by omega) (by omega) (by omega) (hr6.out.below hb7) hr7.out).mono ?_); rintro e w8 ⟨g8, rfl, hr8', hb8⟩; have hr8 := Lib.hid hr8'; clear hr8'))
    | (go_at_call 5; have hg := hb6; clear hg; ((with_reducible refine (filled_ok 3 _).mono ?_); rintro e w7 ⟨rfl, hr7', hb7⟩; have hr7 := Lib.hid (Ln.rep hr7' (by omega) (by omega)); clear hr7'))
    | (go_at_call 5; have hg := hb5; clear hg; ((with_reducible refine (filled_ok 9 _).mono ?_); rintro e w6 ⟨rfl, hr6', hb6⟩; have hr6 := Lib.hid (Ln.rep hr6' (by omega) (by omega)); clear hr6'))
    | (go_at_call 4; have hg := hb4; clear hg; ((with_reducible refine (lines_e w3.heap.size 0 256 none 0 (rep 9) 1 1 _ (by omega) (by omega) (by omega) hr4.out).mono ?_); rintro e w5 ⟨g5, rfl, hr5', hb5⟩; have hr5 := Lib.hid hr5'; clear hr5'))
    | (go_at_call 5; have hg := hb3; clear hg; ((with_reducible refine (filled_ok 9 _).mono ?_); rintro e w4 ⟨rfl, hr4', hb4⟩; have hr4 := Lib.hid (Ln.rep hr4' (by omega) (by omega)); clear hr4'))
    | (go_at_call 4; have hg := hb2; clear hg; ((with_reducible refine (lines_f w.heap.size 0 256 w1.heap.size 0 256 (rep 9) (rep 3) 1 2 _ (by omega) (by omega) (by omega) (hr1.out.below hb2) hr2.out).mono ?_); rintro e w3 ⟨g3, rfl, hr3', hb3⟩; have hr3 := Lib.hid hr3'; clear hr3'))
    | (go_at_call 5; have hg := hb1; clear hg; ((with_reducible refine (filled_ok 3 _).mono ?_); rintro e w2 ⟨rfl, hr2', hb2⟩; have hr2 := Lib.hid (Ln.rep hr2' (by omega) (by omega)); clear hr2'))
    | (go_at_call 5; ((with_reducible refine (filled_ok 9 _).mono ?_); rintro e w1 ⟨rfl, hr1', hb1⟩; have hr1 := Lib.hid (Ln.rep hr1' (by omega) (by omega)); clear hr1')))
  go_ret
  exact ⟨rfl, (belowT hb1 (belowT hb2 (belowT hb3 (belowT hb4 (belowT hb5 (belowT hb6 (belowT hb7 (belowT hb8 (belowT hb9 (belowT hb10 (belowT hb11 (belowT hb12 (belowT hb13 (belowT hb14 (belowT hb15 (belowT hb16 (belowT hb17 (belowT hb18 (belowT hb19 (belowT hb20 hb21))))))))))))))))))))⟩

theorem own : ownKnob Try.prog.godebug = none := by kernel_rfl
set_option linter.unusedVariables false
set_option maxRecDepth 100000 in
theorem lifted (os : Os) (started : os.Started) (H : Type) (enc : TypeId × Value → H) :
    ReturnsInHanded {} Try.checked os 3 .any (Rows.loseNamesSpec.pre6 enc Try.prog Try.f3 Rows.loseNamesRow.domain false) (Rows.loseNamesSpec.post enc Try.prog Try.f3 false true false false) := by
  refine returnsInHanded_of_change (C := Try.checked) own started (by kernel_rfl) Try.func3
    (ChangeSpec.witness6 (enc := enc) (C := Try.checked) false ⟨#[], #[], []⟩ 8 (by kernel_rfl) (by kernel_rfl) (by kernel_rfl) (by kernel_rfl)) ?_
  intro W base args ds gs before hval0 hW hcnd _
  have hval : ∀ (j : Nat) t v, Try.f3.params[j]? = some t → args[j]? = some v → Value.okWide Try.prog W .any base t v := hval0
  have hW' := hW
  obtain ⟨p, q, hA0, hV, rfl, hfz, hnd⟩ := hW
  have hA : DataW.TrodAll enc Try.prog W 0 (fun _ => true) true Try.f3.params.toList args.toList ds p := hA0
  rw [Try.params3] at hA hval
  obtain ⟨rfl, rfl, rfl⟩ := trodAll_none hA
  obtain ⟨rfl, rfl⟩ := trodVars_none hV
  clear hA0 hval0
  simp only [List.append_nil] at hW'
  refine (walk  W ).mono fun e W' ⟨he, bel⟩ => ?_
  subst he
  exact ⟨_, rfl, _, _, _, [], _, [], hW', trodAll_mk1 (shut_bool Try.underlying4 _), trodAll_mk0, rfl, bel.frame _, fun h => by cases h⟩

theorem over : Rows.loseNamesRow.holds Try.pinned (OpenSpec.ofChange Rows.loseNamesSpec) :=
  OpenClaim.holds_of_wide 3 Try.f3 rfl rfl rfl rfl rfl rfl rfl ⟨rfl, rfl, rfl, rfl, rfl⟩ rfl rfl rfl rfl rfl (by kernel_rfl) Try.func3 (by kernel_rfl)
    (of_decide_eq_true (by kernel_rfl)) (by unfold Func.isWrapper; first | (rw [if_pos (by decide +kernel)]; kernel_rfl) | (rw [if_neg (by decide +kernel)]; exact ⟨rfl, rfl⟩))
    (fun os started H enc _ => lifted os started H enc)

theorem proved : Rows.LoseNamesSaid := over
end Go.Proofs.Ytlogmndophcnjaa.loseNames

/- No quantised line's line is nearer to a line than that of its quantised one; the quantised line of a quantised line's line has the same line; and it rises as the line does. PowerNearest returns true, whatever the two lines, the step and the number, the memory and the schedule; the variable that the row lists is tied to the program's text. No condition. -/
import Derived.Test.YtanjcbnkkhbkkaaDoorPwK
import Derived.Test.YtanjcbnkkhbkkaaDoorCards
import Derived.Test.YtanjcbnkkhbkkaaDoorTie
import Derived.WalkKit
import Derived.ProofKit
import Derived.OpenShut
import Derived.Deep.DeepHandedRow
import Derived.Lib.LaidTab
import Derived.Lib.Hide
namespace Go.Proofs.YtanjcbnkkhbkkaaDoor.powerNearest
open Go Go.Ev Go.ChangeShapes Go.WideShapes Go.ChangeAt Go.RowKit Go.Proofs.YtanjcbnkkhbkkaaDoor.Fx

/-- How far, and what may be. -/
theorem best {x s q : Int} (s0 : 0 ≤ s) (h0 : -8191 ≤ q) (h1 : q ≤ 8191) : fa x (LN (NQ x s) s) ≤ fa x (LN q s) := by
  have := nearS_best s0 (NQ_is x s) h0 h1
  unfold fa
  omega
theorem again {s q : Int} (s0 : 0 ≤ s) (h0 : -8191 ≤ q) (h1 : q ≤ 8191) : LN (NQ (LN q s) s) s = LN q s := nearS_again s0 (NQ_is _ s) h0 h1 rfl
theorem rises {x y s : Int} (s0 : 0 ≤ s) (h : x ≤ y) : NQ x s ≤ NQ y s := nearS_mono s0 (NQ_is x s) (NQ_is y s) h
set_option maxHeartbeats 8000000 in
theorem main (x y s q : Int) (w : World) (hq : Qs w) : Calls Tryd.prog 5 #[.int .i64 x, .int .i64 y, .int .i64 s, .int .i64 q] w fun e w' => e = .returned (.bool true) ∧ Kp w w' := by
  have hk := Kp.refl hq
  have H0 := Lib.hid (fun w1 (k : Kp w w1) => alive_k k)
  have H1 := Lib.hid (fun w1 (k : Kp w w1) => quant_k x s k)
  by_cases c0 : x < -268435455
  · obtain ⟨e1, e2⟩ := FQ_bad (q := x) (s := s) (by unfold badQ; omega)
    rw [e1, e2] at H1
    go_enter Tryd.func5, Tryd.ntmps5
    go_wp2_with (first | (go_at_call 21; ((with_reducible refine (H0.out _ ‹_›).mono ?_); rintro e w' ⟨rfl, hk⟩)) | (go_at_call 19; ((with_reducible refine (H1.out _ ‹_›).mono ?_); rintro e w' ⟨rfl, hk⟩)))
    go_ret
    exact ⟨rfl, ‹_›⟩
  by_cases c1 : 268435455 < x
  · obtain ⟨e1, e2⟩ := FQ_bad (q := x) (s := s) (by unfold badQ; omega)
    rw [e1, e2] at H1
    go_enter Tryd.func5, Tryd.ntmps5
    go_wp2_with (first | (go_at_call 21; ((with_reducible refine (H0.out _ ‹_›).mono ?_); rintro e w' ⟨rfl, hk⟩)) | (go_at_call 19; ((with_reducible refine (H1.out _ ‹_›).mono ?_); rintro e w' ⟨rfl, hk⟩)))
    go_ret
    exact ⟨rfl, ‹_›⟩
  by_cases c2 : s < 0
  · obtain ⟨e1, e2⟩ := FQ_bad (q := x) (s := s) (by unfold badQ; omega)
    rw [e1, e2] at H1
    go_enter Tryd.func5, Tryd.ntmps5
    go_wp2_with (first | (go_at_call 21; ((with_reducible refine (H0.out _ ‹_›).mono ?_); rintro e w' ⟨rfl, hk⟩)) | (go_at_call 19; ((with_reducible refine (H1.out _ ‹_›).mono ?_); rintro e w' ⟨rfl, hk⟩)))
    go_ret
    exact ⟨rfl, ‹_›⟩
  by_cases c3 : 255 < s
  · obtain ⟨e1, e2⟩ := FQ_bad (q := x) (s := s) (by unfold badQ; omega)
    rw [e1, e2] at H1
    go_enter Tryd.func5, Tryd.ntmps5
    go_wp2_with (first | (go_at_call 21; ((with_reducible refine (H0.out _ ‹_›).mono ?_); rintro e w' ⟨rfl, hk⟩)) | (go_at_call 19; ((with_reducible refine (H1.out _ ‹_›).mono ?_); rintro e w' ⟨rfl, hk⟩)))
    go_ret
    exact ⟨rfl, ‹_›⟩
  have s0 : 0 ≤ s := by omega
  have s1 : s ≤ 255 := by omega
  obtain ⟨e1, e2⟩ := FQ_ok (q := x) (s := s) (by unfold badQ; omega)
  rw [e1, e2] at H1
  obtain ⟨n0, n1⟩ := NQ_bd x s
  have H2 := Lib.hid (fun w1 (k : Kp w w1) => line_k (NQ x s) s k)
  obtain ⟨e3, e4⟩ := FL_ok (q := NQ x s) (s := s) (by unfold badL; omega)
  rw [e3, e4] at H2
  have HB := Lib.hid (fun q (h0 : -8191 ≤ q) (h1 : q ≤ 8191) => best (x := x) s0 h0 h1)
  have HR := Lib.hid (fun y h => rises (x := x) (y := y) s0 h)
  have bO := LN_bd (q := NQ x s) s0
  clear e1 e2 e3 e4 hq
  obtain ⟨bO0, bO1⟩ := bO
  generalize hA : NQ x s = A at *
  clear hA
  generalize LN A s = O at *
  have HF2 := Lib.hid (fun w1 (k : Kp w w1) => kp_same k (far_ok x O w1 (by omega) (by omega) (by omega) (by omega)))
  have H6 := Lib.hid (fun w1 (k : Kp w w1) => quant_k y s k)
  have H3 := Lib.hid (fun w1 (k : Kp w w1) => line_k q s k)
  by_cases hb : q < -8191 ∨ 8191 < q
  · obtain ⟨e1, e2⟩ := FL_bad (q := q) (s := s) (by unfold badL; omega)
    rw [e1, e2] at H3
    clear e1 e2 HB hb HF2
    by_cases y0 : y < -268435455
    · obtain ⟨e1, e2⟩ := FQ_bad (q := y) (s := s) (by unfold badQ; omega)
      rw [e1, e2] at H6
      clear e1 e2
      go_enter Tryd.func5, Tryd.ntmps5
      go_wp2_with (first | (go_at_call 21; ((with_reducible refine (H0.out _ ‹_›).mono ?_); rintro e w' ⟨rfl, hk⟩)) | (go_at_call 19; ((with_reducible refine (H1.out _ ‹_›).mono ?_); rintro e w' ⟨rfl, hk⟩)) | (go_at_call 17; ((with_reducible refine (H2.out _ ‹_›).mono ?_); rintro e w' ⟨rfl, hk⟩)) | (go_at_call 17; ((with_reducible refine (H3.out _ ‹_›).mono ?_); rintro e w' ⟨rfl, hk⟩)) | (go_at_call 19; ((with_reducible refine (H6.out _ ‹_›).mono ?_); rintro e w' ⟨rfl, hk⟩)))
      go_ret
      exact ⟨rfl, ‹_›⟩
    by_cases y1 : 268435455 < y
    · obtain ⟨e1, e2⟩ := FQ_bad (q := y) (s := s) (by unfold badQ; omega)
      rw [e1, e2] at H6
      clear e1 e2
      go_enter Tryd.func5, Tryd.ntmps5
      go_wp2_with (first | (go_at_call 21; ((with_reducible refine (H0.out _ ‹_›).mono ?_); rintro e w' ⟨rfl, hk⟩)) | (go_at_call 19; ((with_reducible refine (H1.out _ ‹_›).mono ?_); rintro e w' ⟨rfl, hk⟩)) | (go_at_call 17; ((with_reducible refine (H2.out _ ‹_›).mono ?_); rintro e w' ⟨rfl, hk⟩)) | (go_at_call 17; ((with_reducible refine (H3.out _ ‹_›).mono ?_); rintro e w' ⟨rfl, hk⟩)) | (go_at_call 19; ((with_reducible refine (H6.out _ ‹_›).mono ?_); rintro e w' ⟨rfl, hk⟩)))
      go_ret
      exact ⟨rfl, ‹_›⟩
    obtain ⟨e1, e2⟩ := FQ_ok (q := y) (s := s) (by unfold badQ; omega)
    rw [e1, e2] at H6
    clear e1 e2
    by_cases hxy : y < x
    · clear HR
      generalize NQ y s = Y at *
      go_enter Tryd.func5, Tryd.ntmps5
      go_wp2_with (first | (go_at_call 21; ((with_reducible refine (H0.out _ ‹_›).mono ?_); rintro e w' ⟨rfl, hk⟩)) | (go_at_call 19; ((with_reducible refine (H1.out _ ‹_›).mono ?_); rintro e w' ⟨rfl, hk⟩)) | (go_at_call 17; ((with_reducible refine (H2.out _ ‹_›).mono ?_); rintro e w' ⟨rfl, hk⟩)) | (go_at_call 17; ((with_reducible refine (H3.out _ ‹_›).mono ?_); rintro e w' ⟨rfl, hk⟩)) | (go_at_call 19; ((with_reducible refine (H6.out _ ‹_›).mono ?_); rintro e w' ⟨rfl, hk⟩)))
      go_ret
      exact ⟨rfl, ‹_›⟩
    · have hAY := HR.out y (by omega)
      clear HR
      generalize NQ y s = Y at *
      go_enter Tryd.func5, Tryd.ntmps5
      go_wp2_with (first | (go_at_call 21; ((with_reducible refine (H0.out _ ‹_›).mono ?_); rintro e w' ⟨rfl, hk⟩)) | (go_at_call 19; ((with_reducible refine (H1.out _ ‹_›).mono ?_); rintro e w' ⟨rfl, hk⟩)) | (go_at_call 17; ((with_reducible refine (H2.out _ ‹_›).mono ?_); rintro e w' ⟨rfl, hk⟩)) | (go_at_call 17; ((with_reducible refine (H3.out _ ‹_›).mono ?_); rintro e w' ⟨rfl, hk⟩)) | (go_at_call 19; ((with_reducible refine (H6.out _ ‹_›).mono ?_); rintro e w' ⟨rfl, hk⟩)))
      go_ret
      exact ⟨rfl, ‹_›⟩
  · obtain ⟨e1, e2⟩ := FL_ok (q := q) (s := s) (by unfold badL; omega)
    rw [e1, e2] at H3
    clear e1 e2
    obtain ⟨bU0, bU1⟩ := LN_bd (q := q) s0
    have hbest := HB.out q (by omega) (by omega)
    have hag := again (q := q) s0 (by omega) (by omega)
    obtain ⟨bV0, bV1⟩ := NQ_bd (LN q s) s
    have H4 := Lib.hid (fun w1 (k : Kp w w1) => quant_k (LN q s) s k)
    obtain ⟨e1, e2⟩ := FQ_ok (q := LN q s) (s := s) (by unfold badQ; omega)
    rw [e1, e2] at H4
    clear e1 e2
    have H5 := Lib.hid (fun w1 (k : Kp w w1) => line_k (NQ (LN q s) s) s k)
    obtain ⟨e1, e2⟩ := FL_ok (q := NQ (LN q s) s) (s := s) (by unfold badL; omega)
    rw [e1, e2, hag] at H5
    clear e1 e2 hag HB hb
    generalize NQ (LN q s) s = V at *
    generalize LN q s = U at *
    have HF1 := Lib.hid (fun w1 (k : Kp w w1) => kp_same k (far_ok x U w1 (by omega) (by omega) (by omega) (by omega)))
    have hnl : ¬ fa x U < fa x O := by omega
    clear hbest
    generalize fa x U = F1 at *
    generalize fa x O = F2 at *
    by_cases y0 : y < -268435455
    · obtain ⟨e1, e2⟩ := FQ_bad (q := y) (s := s) (by unfold badQ; omega)
      rw [e1, e2] at H6
      clear e1 e2
      go_enter Tryd.func5, Tryd.ntmps5
      go_wp2_with (first | (go_at_call 21; ((with_reducible refine (H0.out _ ‹_›).mono ?_); rintro e w' ⟨rfl, hk⟩)) | (go_at_call 22; ((with_reducible refine (HF1.out _ ‹_›).mono ?_); rintro e w' ⟨rfl, hk⟩)) | (go_at_call 22; ((with_reducible refine (HF2.out _ ‹_›).mono ?_); rintro e w' ⟨rfl, hk⟩)) | (go_at_call 19; ((with_reducible refine (H1.out _ ‹_›).mono ?_); rintro e w' ⟨rfl, hk⟩)) | (go_at_call 17; ((with_reducible refine (H2.out _ ‹_›).mono ?_); rintro e w' ⟨rfl, hk⟩)) | (go_at_call 17; ((with_reducible refine (H3.out _ ‹_›).mono ?_); rintro e w' ⟨rfl, hk⟩)) | (go_at_call 19; ((with_reducible refine (H4.out _ ‹_›).mono ?_); rintro e w' ⟨rfl, hk⟩)) | (go_at_call 17; ((with_reducible refine (H5.out _ ‹_›).mono ?_); rintro e w' ⟨rfl, hk⟩)) | (go_at_call 19; ((with_reducible refine (H6.out _ ‹_›).mono ?_); rintro e w' ⟨rfl, hk⟩)))
      go_ret
      exact ⟨rfl, ‹_›⟩
    by_cases y1 : 268435455 < y
    · obtain ⟨e1, e2⟩ := FQ_bad (q := y) (s := s) (by unfold badQ; omega)
      rw [e1, e2] at H6
      clear e1 e2
      go_enter Tryd.func5, Tryd.ntmps5
      go_wp2_with (first | (go_at_call 21; ((with_reducible refine (H0.out _ ‹_›).mono ?_); rintro e w' ⟨rfl, hk⟩)) | (go_at_call 22; ((with_reducible refine (HF1.out _ ‹_›).mono ?_); rintro e w' ⟨rfl, hk⟩)) | (go_at_call 22; ((with_reducible refine (HF2.out _ ‹_›).mono ?_); rintro e w' ⟨rfl, hk⟩)) | (go_at_call 19; ((with_reducible refine (H1.out _ ‹_›).mono ?_); rintro e w' ⟨rfl, hk⟩)) | (go_at_call 17; ((with_reducible refine (H2.out _ ‹_›).mono ?_); rintro e w' ⟨rfl, hk⟩)) | (go_at_call 17; ((with_reducible refine (H3.out _ ‹_›).mono ?_); rintro e w' ⟨rfl, hk⟩)) | (go_at_call 19; ((with_reducible refine (H4.out _ ‹_›).mono ?_); rintro e w' ⟨rfl, hk⟩)) | (go_at_call 17; ((with_reducible refine (H5.out _ ‹_›).mono ?_); rintro e w' ⟨rfl, hk⟩)) | (go_at_call 19; ((with_reducible refine (H6.out _ ‹_›).mono ?_); rintro e w' ⟨rfl, hk⟩)))
      go_ret
      exact ⟨rfl, ‹_›⟩
    obtain ⟨e1, e2⟩ := FQ_ok (q := y) (s := s) (by unfold badQ; omega)
    rw [e1, e2] at H6
    clear e1 e2
    by_cases hxy : y < x
    · clear HR
      generalize NQ y s = Y at *
      go_enter Tryd.func5, Tryd.ntmps5
      go_wp2_with (first | (go_at_call 21; ((with_reducible refine (H0.out _ ‹_›).mono ?_); rintro e w' ⟨rfl, hk⟩)) | (go_at_call 22; ((with_reducible refine (HF1.out _ ‹_›).mono ?_); rintro e w' ⟨rfl, hk⟩)) | (go_at_call 22; ((with_reducible refine (HF2.out _ ‹_›).mono ?_); rintro e w' ⟨rfl, hk⟩)) | (go_at_call 19; ((with_reducible refine (H1.out _ ‹_›).mono ?_); rintro e w' ⟨rfl, hk⟩)) | (go_at_call 17; ((with_reducible refine (H2.out _ ‹_›).mono ?_); rintro e w' ⟨rfl, hk⟩)) | (go_at_call 17; ((with_reducible refine (H3.out _ ‹_›).mono ?_); rintro e w' ⟨rfl, hk⟩)) | (go_at_call 19; ((with_reducible refine (H4.out _ ‹_›).mono ?_); rintro e w' ⟨rfl, hk⟩)) | (go_at_call 17; ((with_reducible refine (H5.out _ ‹_›).mono ?_); rintro e w' ⟨rfl, hk⟩)) | (go_at_call 19; ((with_reducible refine (H6.out _ ‹_›).mono ?_); rintro e w' ⟨rfl, hk⟩)))
      go_ret
      exact ⟨rfl, ‹_›⟩
    · have hAY := HR.out y (by omega)
      clear HR
      generalize NQ y s = Y at *
      go_enter Tryd.func5, Tryd.ntmps5
      go_wp2_with (first | (go_at_call 21; ((with_reducible refine (H0.out _ ‹_›).mono ?_); rintro e w' ⟨rfl, hk⟩)) | (go_at_call 22; ((with_reducible refine (HF1.out _ ‹_›).mono ?_); rintro e w' ⟨rfl, hk⟩)) | (go_at_call 22; ((with_reducible refine (HF2.out _ ‹_›).mono ?_); rintro e w' ⟨rfl, hk⟩)) | (go_at_call 19; ((with_reducible refine (H1.out _ ‹_›).mono ?_); rintro e w' ⟨rfl, hk⟩)) | (go_at_call 17; ((with_reducible refine (H2.out _ ‹_›).mono ?_); rintro e w' ⟨rfl, hk⟩)) | (go_at_call 17; ((with_reducible refine (H3.out _ ‹_›).mono ?_); rintro e w' ⟨rfl, hk⟩)) | (go_at_call 19; ((with_reducible refine (H4.out _ ‹_›).mono ?_); rintro e w' ⟨rfl, hk⟩)) | (go_at_call 17; ((with_reducible refine (H5.out _ ‹_›).mono ?_); rintro e w' ⟨rfl, hk⟩)) | (go_at_call 19; ((with_reducible refine (H6.out _ ‹_›).mono ?_); rintro e w' ⟨rfl, hk⟩)))
      go_ret
      exact ⟨rfl, ‹_›⟩

theorem named : Named Tryd.prog Rows.powerNearestRow.laid [(0, 80)] := ⟨by kernel_rfl, by kernel_rfl, trivial⟩
theorem flat1 : flats E Rows.powerNearestRow.laid [(0, 80)] = some [(0, [.int .i64 1073741824, .int .i64 1276901417, .int .i64 1518500250, .int .i64 1805811301])] := by kernel_rfl
theorem walk (a0 : Int) (a1 : Int) (a2 : Int) (a3 : Int) (w : World) (_ : (Lit.int .i64 a0).wf = true) (_ : (Lit.int .i64 a1).wf = true) (_ : (Lit.int .i64 a2).wf = true) (_ : (Lit.int .i64 a3).wf = true) (hL : laidMetH Tryd.prog Rows.powerNearestRow.laid w) :
    Calls Tryd.prog 5 #[.int .i64 a0, .int .i64 a1, .int .i64 a2, .int .i64 a3] w fun e w' => e = .returned (.bool true) ∧ Below w.heap.size w w' :=
  (main a0 a1 a2 a3 w (qs_of hL (by kernel_rfl) named flat1)).mono fun _ _ h => ⟨h.1, h.2.2⟩
noncomputable def laidWorld (os : Os) : World := lay E Rows.powerNearestRow.laid [(0, 80)] (World.holding Tryd.prog os ⟨#[], #[.int .i64 0, .int .i64 0, .int .i64 0, .int .i64 0], []⟩)
theorem laid_os (os : Os) : (laidWorld os).os = os := by kernel_rfl
theorem own : ownKnob Tryd.prog.godebug = none := by kernel_rfl
set_option linter.unusedVariables false
theorem laid_met (os : Os) (args : Array Value) : laidMet Tryd.prog Rows.powerNearestRow.laid ((laidWorld os).forCall (fun _ _ => 0) ⟨#[], args, []⟩).memory := laidMet_of_run' 8 (by kernel_rfl) (by kernel_rfl)
set_option maxRecDepth 100000 in
theorem lifted (os : Os) (started : os.Started) (H : Type) (enc : TypeId × Value → H) (F : Stop.Interp) :
    ReturnsInHanded {} Tryd.checked os 5 .any ((OpenSpec.ofChange Rows.powerNearestSpec).preRow enc Tryd.prog Tryd.f5 Rows.powerNearestRow.domain false Rows.powerNearestRow.laid) (((OpenSpec.ofChange Rows.powerNearestSpec).at F).post enc Tryd.prog Tryd.f5 false true false false) := by
  refine returnsInHanded_of_row (C := Tryd.checked) (s := OpenSpec.ofChange Rows.powerNearestSpec) own started (by kernel_rfl) Tryd.func5
    (witness_row_at (enc := enc) (C := Tryd.checked) false (laidWorld os) #[.int .i64 0, .int .i64 0, .int .i64 0, .int .i64 0] (laid_os os) (by kernel_rfl) (by kernel_rfl) (by kernel_rfl)
      (OpenSpec.preRow_of_cond 8 (show DataW.whole enc Tryd.prog ((laidWorld os).forCall (fun _ _ => 0) ⟨#[], #[.int .i64 0, .int .i64 0, .int .i64 0, .int .i64 0], []⟩).memory Tryd.f5.params.toList Rows.powerNearestSpec.vars false #[.int .i64 0, .int .i64 0, .int .i64 0, .int .i64 0].toList 8 = some ([.lit (.int .i64 0), .lit (.int .i64 0), .lit (.int .i64 0), .lit (.int .i64 0)], [], []) by kernel_rfl) (by kernel_rfl) (fun k hk => by cases hk) (by kernel_rfl) (laid_met os _))) ?_
  intro W base args ds gs before hval0 hW _ _ _ hL _ _
  have hval : ∀ (j : Nat) t v, Tryd.f5.params[j]? = some t → args[j]? = some v → Value.okWide Tryd.prog W .any base t v := hval0
  have hW' := hW
  obtain ⟨p, q, hA0, hV, rfl, hfz, hnd⟩ := hW
  have hA : DataW.TrodAll enc Tryd.prog W 0 (fun _ => true) true Tryd.f5.params.toList args.toList ds p := hA0
  rw [Tryd.params5] at hA hval
  obtain ⟨v0, vs0, d0, ds0, p0, q0, hargs, rfl, rfl, h0, r0⟩ := trodAll_cons hA
  obtain ⟨v1, vs1, d1, ds1, p1, q1, rfl, rfl, rfl, h1, r1⟩ := trodAll_cons r0
  obtain ⟨v2, vs2, d2, ds2, p2, q2, rfl, rfl, rfl, h2, r2⟩ := trodAll_cons r1
  obtain ⟨v3, vs3, d3, ds3, p3, q3, rfl, rfl, rfl, h3, r3⟩ := trodAll_cons r2
  obtain ⟨rfl, rfl, rfl⟩ := trodAll_nil r3
  obtain rfl : args = #[v0, v1, v2, v3] := by cases args; simp_all
  obtain ⟨rfl, rfl⟩ := trodVars_none hV
  obtain ⟨a0, rfl, rfl, rfl, w0⟩ := open_int Tryd.underlying3 (hval 0 3 v0 rfl rfl) h0
  obtain ⟨a1, rfl, rfl, rfl, w1⟩ := open_int Tryd.underlying3 (hval 1 3 v1 rfl rfl) h1
  obtain ⟨a2, rfl, rfl, rfl, w2⟩ := open_int Tryd.underlying3 (hval 2 3 v2 rfl rfl) h2
  obtain ⟨a3, rfl, rfl, rfl, w3⟩ := open_int Tryd.underlying3 (hval 3 3 v3 rfl rfl) h3
  clear hA0 hval0
  simp only [List.append_nil] at hW'
  refine (walk a0 a1 a2 a3 W w0 w1 w2 w3 hL).mono fun e W' ⟨he, bel⟩ => ?_
  subst he
  exact ⟨_, rfl, _, _, _, [], _, [], hW', trodAll_mk1 (shut_bool Tryd.underlying4 _), (trodAll_cons_mk (shut_int Tryd.underlying3 w0) (trodAll_cons_mk (shut_int Tryd.underlying3 w1) (trodAll_cons_mk (shut_int Tryd.underlying3 w2) (trodAll_cons_mk (shut_int Tryd.underlying3 w3) trodAll_mk0)))), rfl, bel.frame _, fun h => by cases h⟩

theorem said : Rows.PowerNearestSaid :=
  OpenClaim.holds_of_cond 5 Tryd.f5 rfl rfl rfl rfl rfl rfl rfl ⟨rfl, rfl, rfl, rfl, rfl⟩ rfl rfl rfl rfl rfl (by kernel_rfl) Tryd.func5 (by kernel_rfl)
    (of_decide_eq_true (by kernel_rfl)) (by unfold Func.isWrapper; first | (rw [if_pos (by decide +kernel)]; kernel_rfl) | (rw [if_neg (by decide +kernel)]; exact ⟨rfl, rfl⟩))
    (fun os started H enc _ F => by rw [OpenClaim.pre_eq_preRow]; exact lifted os started H enc F)

theorem plain (f : FuncId) (fn : Func) (hf : Tryd.pinned.checked.prog.funcNamed "reedpipe/reedpipelaw07.PowerNearest" = some f) (hfn : Tryd.pinned.checked.prog.funcs[f]? = some fn) :
    false = Tryd.pinned.checked.prog.looks [] ∧ ∀ (j : Nat) t, fn.params[j]? = some t → Tryd.pinned.checked.prog.wantsStandIn t = false := by
  obtain rfl : f = 5 := Option.some.inj ((show Tryd.prog.funcNamed "reedpipe/reedpipelaw07.PowerNearest" = some 5 by kernel_rfl).symm.trans hf) |>.symm
  obtain rfl : fn = Tryd.f5 := (Option.some.inj (Tryd.func5.symm.trans hfn)).symm
  refine ⟨by kernel_rfl, fun j t ht => ?_⟩
  rw [Tryd.params5] at ht
  have hm : t ∈ [3, 3, 3, 3] := by simpa using Array.mem_of_getElem? ht
  have hall : ([3, 3, 3, 3].all fun u => !Tryd.prog.wantsStandIn u) = true := by kernel_rfl
  exact (show Tryd.prog.wantsStandIn t = false by simpa using List.all_eq_true.1 hall t hm)

theorem proved : Rows.PowerNearestCardSaid :=
  Claim7.holds_tied_plain_at .later [] _ _ _ _ said (fun _ h => by cases h) (by kernel_rfl) (fun _ h => by cases h) powerNearest_row_tie rfl ⟨rfl, rfl⟩ (by kernel_rfl) rfl plain (by kernel_rfl)

end Go.Proofs.YtanjcbnkkhbkkaaDoor.powerNearest

/- Lines rise as q does, and, away from 0, as the step does; they turn sign with q; and they are at most MaxLine. PowerRises returns true, whatever the number and the step, the memory and the schedule; the variable that the row lists is tied to the program's text. No condition. -/
import Derived.Test.YtanjcbnkkhbkkaaDoorPwK
import Derived.Test.YtanjcbnkkhbkkaaDoorCards
import Derived.Test.YtanjcbnkkhbkkaaDoorTie
import Derived.WalkKit
import Derived.ProofKit
import Derived.OpenShut
import Derived.Deep.DeepHandedRow
import Derived.Lib.LaidTab
import Derived.Lib.Hide
namespace Go.Proofs.YtanjcbnkkhbkkaaDoor.powerRises
open Go Go.Ev Go.ChangeShapes Go.WideShapes Go.ChangeAt Go.RowKit Go.Proofs.YtanjcbnkkhbkkaaDoor.Fx

set_option maxHeartbeats 4000000 in
theorem main (q s : Int) (w : World) (hq : Qs w) : Calls Tryd.prog 4 #[.int .i64 q, .int .i64 s] w fun e w' => e = .returned (.bool true) ∧ Kp w w' := by
  have hk := Kp.refl hq
  have H0 := Lib.hid (fun w1 (k : Kp w w1) => alive_k k)
  have H1 := Lib.hid (fun w1 (k : Kp w w1) => line_k q s k)
  by_cases c0 : q < -8191
  · obtain ⟨e1, e2⟩ := FL_bad (q := q) (s := s) (by unfold badL; omega)
    rw [e1, e2] at H1
    go_enter Tryd.func4, Tryd.ntmps4
    go_wp2_with (first | (go_at_call 21; ((with_reducible refine (H0.out _ ‹_›).mono ?_); rintro e w' ⟨rfl, hk⟩)) | (go_at_call 17; ((with_reducible refine (H1.out _ ‹_›).mono ?_); rintro e w' ⟨rfl, hk⟩)))
    go_ret
    exact ⟨rfl, ‹_›⟩
  by_cases c1 : 8191 < q
  · obtain ⟨e1, e2⟩ := FL_bad (q := q) (s := s) (by unfold badL; omega)
    rw [e1, e2] at H1
    go_enter Tryd.func4, Tryd.ntmps4
    go_wp2_with (first | (go_at_call 21; ((with_reducible refine (H0.out _ ‹_›).mono ?_); rintro e w' ⟨rfl, hk⟩)) | (go_at_call 17; ((with_reducible refine (H1.out _ ‹_›).mono ?_); rintro e w' ⟨rfl, hk⟩)))
    go_ret
    exact ⟨rfl, ‹_›⟩
  by_cases c2 : s < 0
  · obtain ⟨e1, e2⟩ := FL_bad (q := q) (s := s) (by unfold badL; omega)
    rw [e1, e2] at H1
    go_enter Tryd.func4, Tryd.ntmps4
    go_wp2_with (first | (go_at_call 21; ((with_reducible refine (H0.out _ ‹_›).mono ?_); rintro e w' ⟨rfl, hk⟩)) | (go_at_call 17; ((with_reducible refine (H1.out _ ‹_›).mono ?_); rintro e w' ⟨rfl, hk⟩)))
    go_ret
    exact ⟨rfl, ‹_›⟩
  by_cases c3 : 255 < s
  · obtain ⟨e1, e2⟩ := FL_bad (q := q) (s := s) (by unfold badL; omega)
    rw [e1, e2] at H1
    go_enter Tryd.func4, Tryd.ntmps4
    go_wp2_with (first | (go_at_call 21; ((with_reducible refine (H0.out _ ‹_›).mono ?_); rintro e w' ⟨rfl, hk⟩)) | (go_at_call 17; ((with_reducible refine (H1.out _ ‹_›).mono ?_); rintro e w' ⟨rfl, hk⟩)))
    go_ret
    exact ⟨rfl, ‹_›⟩
  obtain ⟨e1, e2⟩ := FL_ok (q := q) (s := s) (by unfold badL; omega)
  obtain ⟨e3, e4⟩ := FL_ok (q := -q) (s := s) (by unfold badL; omega)
  rw [e1, e2] at H1
  have H2 := Lib.hid (fun w1 (k : Kp w w1) => line_k (-q) s k)
  have s0 : 0 ≤ s := by omega
  rw [e3, e4, LN_neg s0] at H2
  have bA := LN_bd (q := q) s0
  have H3 : Hid (q < 8191 → ∃ C, LN q s ≤ C ∧ C ≤ 268435455 ∧ ∀ w1, Kp w w1 → Calls Tryd.prog 17 #[.int .i64 (q + 1), .int .i64 s] w1 fun e w' => e = .returned (.tuple #[.int .i64 C, .int .i64 0]) ∧ Kp w w') := Lib.hid fun h => by
    obtain ⟨e5, e6⟩ := FL_ok (q := q + 1) (s := s) (by unfold badL; omega)
    refine ⟨LN (q + 1) s, LN_mono s0 (by omega), (LN_bd s0).2, fun w1 k => ?_⟩
    have := line_k (q + 1) s k
    rwa [e5, e6] at this
  have H4 : Hid (s < 255 → ∃ D, (0 ≤ q → LN q s ≤ D) ∧ (q ≤ 0 → D ≤ LN q s) ∧ ∀ w1, Kp w w1 → Calls Tryd.prog 17 #[.int .i64 q, .int .i64 (s + 1)] w1 fun e w' => e = .returned (.tuple #[.int .i64 D, .int .i64 0]) ∧ Kp w w') := Lib.hid fun h => by
    obtain ⟨e5, e6⟩ := FL_ok (q := q) (s := s + 1) (by unfold badL; omega)
    obtain ⟨h1, h2⟩ := LN_step (q := q) s0 h (by omega) (by omega)
    refine ⟨LN q (s + 1), h1, h2, fun w1 k => ?_⟩
    have := line_k q (s + 1) k
    rwa [e5, e6] at this
  clear e1 e2 e3 e4 hq
  generalize LN q s = A at *
  obtain ⟨bA0, bA1⟩ := bA
  have z : - -A = A := by omega
  by_cases hc : q < 8191
  · obtain ⟨C, c4, c5, H3'⟩ := H3.out hc
    have H3 := Lib.hid H3'
    clear H3'
    by_cases hs : s < 255
    · obtain ⟨D, d1, d2, H4'⟩ := H4.out hs
      have H4 := Lib.hid H4'
      clear H4'
      obtain hq0 | hq0 | hq0 : q < 0 ∨ q = 0 ∨ 0 < q := by omega
      · have d3 := d2 (by omega)
        clear d1 d2
        go_enter Tryd.func4, Tryd.ntmps4
        go_wp2_with (first | (go_at_call 21; ((with_reducible refine (H0.out _ ‹_›).mono ?_); rintro e w' ⟨rfl, hk⟩)) | (go_at_call 17; ((with_reducible refine (H1.out _ ‹_›).mono ?_); rintro e w' ⟨rfl, hk⟩)) | (go_at_call 17; ((with_reducible refine (H2.out _ ‹_›).mono ?_); rintro e w' ⟨rfl, hk⟩)) | (go_at_call 17; ((with_reducible refine (H3.out _ ‹_›).mono ?_); rintro e w' ⟨rfl, hk⟩)) | (go_at_call 17; ((with_reducible refine (H4.out _ ‹_›).mono ?_); rintro e w' ⟨rfl, hk⟩)))
        go_ret
        exact ⟨rfl, ‹_›⟩
      · have d3 := d2 (by omega)
        have d4 := d1 (by omega)
        have n1 : ¬ q < 0 := by omega
        have n2 : ¬ 0 < q := by omega
        clear d1 d2 hq0
        go_enter Tryd.func4, Tryd.ntmps4
        go_wp2_with (first | (go_at_call 21; ((with_reducible refine (H0.out _ ‹_›).mono ?_); rintro e w' ⟨rfl, hk⟩)) | (go_at_call 17; ((with_reducible refine (H1.out _ ‹_›).mono ?_); rintro e w' ⟨rfl, hk⟩)) | (go_at_call 17; ((with_reducible refine (H2.out _ ‹_›).mono ?_); rintro e w' ⟨rfl, hk⟩)) | (go_at_call 17; ((with_reducible refine (H3.out _ ‹_›).mono ?_); rintro e w' ⟨rfl, hk⟩)) | (go_at_call 17; ((with_reducible refine (H4.out _ ‹_›).mono ?_); rintro e w' ⟨rfl, hk⟩)))
        go_ret
        exact ⟨rfl, ‹_›⟩
      · have d4 := d1 (by omega)
        clear d1 d2
        go_enter Tryd.func4, Tryd.ntmps4
        go_wp2_with (first | (go_at_call 21; ((with_reducible refine (H0.out _ ‹_›).mono ?_); rintro e w' ⟨rfl, hk⟩)) | (go_at_call 17; ((with_reducible refine (H1.out _ ‹_›).mono ?_); rintro e w' ⟨rfl, hk⟩)) | (go_at_call 17; ((with_reducible refine (H2.out _ ‹_›).mono ?_); rintro e w' ⟨rfl, hk⟩)) | (go_at_call 17; ((with_reducible refine (H3.out _ ‹_›).mono ?_); rintro e w' ⟨rfl, hk⟩)) | (go_at_call 17; ((with_reducible refine (H4.out _ ‹_›).mono ?_); rintro e w' ⟨rfl, hk⟩)))
        go_ret
        exact ⟨rfl, ‹_›⟩
    · have hs' : s = 255 := by omega
      subst hs'
      clear hs H4
      go_enter Tryd.func4, Tryd.ntmps4
      go_wp2_with (first | (go_at_call 21; ((with_reducible refine (H0.out _ ‹_›).mono ?_); rintro e w' ⟨rfl, hk⟩)) | (go_at_call 17; ((with_reducible refine (H1.out _ ‹_›).mono ?_); rintro e w' ⟨rfl, hk⟩)) | (go_at_call 17; ((with_reducible refine (H2.out _ ‹_›).mono ?_); rintro e w' ⟨rfl, hk⟩)) | (go_at_call 17; ((with_reducible refine (H3.out _ ‹_›).mono ?_); rintro e w' ⟨rfl, hk⟩)) | (go_at_call 17; ((with_reducible refine (H4.out _ ‹_›).mono ?_); rintro e w' ⟨rfl, hk⟩)))
      go_ret
      exact ⟨rfl, ‹_›⟩
  · clear H3
    have hq0 : 0 < q := by omega
    by_cases hs : s < 255
    · obtain ⟨D, d1, d2, H4'⟩ := H4.out hs
      have H4 := Lib.hid H4'
      clear H4'
      have d4 := d1 (by omega)
      clear d1 d2
      go_enter Tryd.func4, Tryd.ntmps4
      go_wp2_with (first | (go_at_call 21; ((with_reducible refine (H0.out _ ‹_›).mono ?_); rintro e w' ⟨rfl, hk⟩)) | (go_at_call 17; ((with_reducible refine (H1.out _ ‹_›).mono ?_); rintro e w' ⟨rfl, hk⟩)) | (go_at_call 17; ((with_reducible refine (H2.out _ ‹_›).mono ?_); rintro e w' ⟨rfl, hk⟩)) | (go_at_call 17; ((with_reducible refine (H4.out _ ‹_›).mono ?_); rintro e w' ⟨rfl, hk⟩)))
      go_ret
      exact ⟨rfl, ‹_›⟩
    · have hs' : s = 255 := by omega
      subst hs'
      clear hs H4
      go_enter Tryd.func4, Tryd.ntmps4
      go_wp2_with (first | (go_at_call 21; ((with_reducible refine (H0.out _ ‹_›).mono ?_); rintro e w' ⟨rfl, hk⟩)) | (go_at_call 17; ((with_reducible refine (H1.out _ ‹_›).mono ?_); rintro e w' ⟨rfl, hk⟩)) | (go_at_call 17; ((with_reducible refine (H2.out _ ‹_›).mono ?_); rintro e w' ⟨rfl, hk⟩)) | (go_at_call 17; ((with_reducible refine (H4.out _ ‹_›).mono ?_); rintro e w' ⟨rfl, hk⟩)))
      go_ret
      exact ⟨rfl, ‹_›⟩

theorem named : Named Tryd.prog Rows.powerRisesRow.laid [(0, 80)] := ⟨by kernel_rfl, by kernel_rfl, trivial⟩
theorem flat1 : flats E Rows.powerRisesRow.laid [(0, 80)] = some [(0, [.int .i64 1073741824, .int .i64 1276901417, .int .i64 1518500250, .int .i64 1805811301])] := by kernel_rfl
theorem walk (a0 : Int) (a1 : Int) (w : World) (_ : (Lit.int .i64 a0).wf = true) (_ : (Lit.int .i64 a1).wf = true) (hL : laidMetH Tryd.prog Rows.powerRisesRow.laid w) :
    Calls Tryd.prog 4 #[.int .i64 a0, .int .i64 a1] w fun e w' => e = .returned (.bool true) ∧ Below w.heap.size w w' :=
  (main a0 a1 w (qs_of hL (by kernel_rfl) named flat1)).mono fun _ _ h => ⟨h.1, h.2.2⟩
noncomputable def laidWorld (os : Os) : World := lay E Rows.powerRisesRow.laid [(0, 80)] (World.holding Tryd.prog os ⟨#[], #[.int .i64 0, .int .i64 0], []⟩)
theorem laid_os (os : Os) : (laidWorld os).os = os := by kernel_rfl
theorem own : ownKnob Tryd.prog.godebug = none := by kernel_rfl
set_option linter.unusedVariables false
theorem laid_met (os : Os) (args : Array Value) : laidMet Tryd.prog Rows.powerRisesRow.laid ((laidWorld os).forCall (fun _ _ => 0) ⟨#[], args, []⟩).memory := laidMet_of_run' 8 (by kernel_rfl) (by kernel_rfl)
set_option maxRecDepth 100000 in
theorem lifted (os : Os) (started : os.Started) (H : Type) (enc : TypeId × Value → H) (F : Stop.Interp) :
    ReturnsInHanded {} Tryd.checked os 4 .any ((OpenSpec.ofChange Rows.powerRisesSpec).preRow enc Tryd.prog Tryd.f4 Rows.powerRisesRow.domain false Rows.powerRisesRow.laid) (((OpenSpec.ofChange Rows.powerRisesSpec).at F).post enc Tryd.prog Tryd.f4 false true false false) := by
  refine returnsInHanded_of_row (C := Tryd.checked) (s := OpenSpec.ofChange Rows.powerRisesSpec) own started (by kernel_rfl) Tryd.func4
    (witness_row_at (enc := enc) (C := Tryd.checked) false (laidWorld os) #[.int .i64 0, .int .i64 0] (laid_os os) (by kernel_rfl) (by kernel_rfl) (by kernel_rfl)
      (OpenSpec.preRow_of_cond 8 (show DataW.whole enc Tryd.prog ((laidWorld os).forCall (fun _ _ => 0) ⟨#[], #[.int .i64 0, .int .i64 0], []⟩).memory Tryd.f4.params.toList Rows.powerRisesSpec.vars false #[.int .i64 0, .int .i64 0].toList 8 = some ([.lit (.int .i64 0), .lit (.int .i64 0)], [], []) by kernel_rfl) (by kernel_rfl) (fun k hk => by cases hk) (by kernel_rfl) (laid_met os _))) ?_
  intro W base args ds gs before hval0 hW _ _ _ hL _ _
  have hval : ∀ (j : Nat) t v, Tryd.f4.params[j]? = some t → args[j]? = some v → Value.okWide Tryd.prog W .any base t v := hval0
  have hW' := hW
  obtain ⟨p, q, hA0, hV, rfl, hfz, hnd⟩ := hW
  have hA : DataW.TrodAll enc Tryd.prog W 0 (fun _ => true) true Tryd.f4.params.toList args.toList ds p := hA0
  rw [Tryd.params4] at hA hval
  obtain ⟨v0, vs0, d0, ds0, p0, q0, hargs, rfl, rfl, h0, r0⟩ := trodAll_cons hA
  obtain ⟨v1, vs1, d1, ds1, p1, q1, rfl, rfl, rfl, h1, r1⟩ := trodAll_cons r0
  obtain ⟨rfl, rfl, rfl⟩ := trodAll_nil r1
  obtain rfl : args = #[v0, v1] := by cases args; simp_all
  obtain ⟨rfl, rfl⟩ := trodVars_none hV
  obtain ⟨a0, rfl, rfl, rfl, w0⟩ := open_int Tryd.underlying3 (hval 0 3 v0 rfl rfl) h0
  obtain ⟨a1, rfl, rfl, rfl, w1⟩ := open_int Tryd.underlying3 (hval 1 3 v1 rfl rfl) h1
  clear hA0 hval0
  simp only [List.append_nil] at hW'
  refine (walk a0 a1 W w0 w1 hL).mono fun e W' ⟨he, bel⟩ => ?_
  subst he
  exact ⟨_, rfl, _, _, _, [], _, [], hW', trodAll_mk1 (shut_bool Tryd.underlying4 _), (trodAll_cons_mk (shut_int Tryd.underlying3 w0) (trodAll_cons_mk (shut_int Tryd.underlying3 w1) trodAll_mk0)), rfl, bel.frame _, fun h => by cases h⟩

theorem said : Rows.PowerRisesSaid :=
  OpenClaim.holds_of_cond 4 Tryd.f4 rfl rfl rfl rfl rfl rfl rfl ⟨rfl, rfl, rfl, rfl, rfl⟩ rfl rfl rfl rfl rfl (by kernel_rfl) Tryd.func4 (by kernel_rfl)
    (of_decide_eq_true (by kernel_rfl)) (by unfold Func.isWrapper; first | (rw [if_pos (by decide +kernel)]; kernel_rfl) | (rw [if_neg (by decide +kernel)]; exact ⟨rfl, rfl⟩))
    (fun os started H enc _ F => by rw [OpenClaim.pre_eq_preRow]; exact lifted os started H enc F)

theorem plain (f : FuncId) (fn : Func) (hf : Tryd.pinned.checked.prog.funcNamed "reedpipe/reedpipelaw07.PowerRises" = some f) (hfn : Tryd.pinned.checked.prog.funcs[f]? = some fn) :
    false = Tryd.pinned.checked.prog.looks [] ∧ ∀ (j : Nat) t, fn.params[j]? = some t → Tryd.pinned.checked.prog.wantsStandIn t = false := by
  obtain rfl : f = 4 := Option.some.inj ((show Tryd.prog.funcNamed "reedpipe/reedpipelaw07.PowerRises" = some 4 by kernel_rfl).symm.trans hf) |>.symm
  obtain rfl : fn = Tryd.f4 := (Option.some.inj (Tryd.func4.symm.trans hfn)).symm
  refine ⟨by kernel_rfl, fun j t ht => ?_⟩
  rw [Tryd.params4] at ht
  have hm : t ∈ [3, 3] := by simpa using Array.mem_of_getElem? ht
  have hall : ([3, 3].all fun u => !Tryd.prog.wantsStandIn u) = true := by kernel_rfl
  exact (show Tryd.prog.wantsStandIn t = false by simpa using List.all_eq_true.1 hall t hm)

theorem proved : Rows.PowerRisesCardSaid :=
  Claim7.holds_tied_plain_at .later [] _ _ _ _ said (fun _ h => by cases h) (by kernel_rfl) (fun _ h => by cases h) powerRises_row_tie rfl ⟨rfl, rfl⟩ (by kernel_rfl) rfl plain (by kernel_rfl)

end Go.Proofs.YtanjcbnkkhbkkaaDoor.powerRises

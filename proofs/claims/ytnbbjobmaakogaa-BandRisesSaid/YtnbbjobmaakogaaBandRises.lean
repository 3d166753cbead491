/- Offsets rise from 0 to the window's lines, by fours, no band but the last one is narrower than the one ahead, and there are at most 40, or 15. BandRises returns true, whatever the rate and the kind of window, the memory and the schedule. No condition. Each rate that may be by a run that the kernel reckons, the others by a walk. -/
import Derived.Test.YtnbbjobmaakogaaBandRun0
import Derived.Test.YtnbbjobmaakogaaBandRun1
import Derived.Test.YtnbbjobmaakogaaBandRun2
import Derived.Test.YtnbbjobmaakogaaBandRun3
import Derived.Test.YtnbbjobmaakogaaBandRun4
import Derived.Test.YtnbbjobmaakogaaBandRun5
import Derived.Test.YtnbbjobmaakogaaBandRun6
import Derived.Test.YtnbbjobmaakogaaEvLaw
import Derived.WalkKit
import Derived.ProofKit
import Derived.OpenShut
import Derived.Lib.Hide
import Derived.WalkMore
namespace Go.Proofs.Ytnbbjobmaakogaa.bandRises
open Go Go.Ev Go.ChangeShapes Go.WideShapes Go.ChangeAt Go.RowKit

theorem alive_runs : isTrue (callA ((E.up 40).up 40) 40 .nil 0 21 []) = some true := by kernel_rfl
theorem alive_ok (w : World) : Calls Try.prog 21 #[] w fun e w' => e = .returned (.bool true) ∧ Below w.heap.size w w' := by
  obtain ⟨v, h', nx', h1, h2⟩ := ran alive_runs
  subst h2
  exact call0 rfl h1 w rfl (fun _ => rfl)
theorem at_rate {k : Int} {b : Bool} (h : isTrue (callA ((E.up 40).up 40) 40 .nil 0 4 [.int .i64 k, .bool b]) = some true) (w : World) :
    Calls Try.prog 4 #[.int .i64 k, .bool b] w fun e w' => e = .returned (.bool true) ∧ Below w.heap.size w w' := by
  obtain ⟨v, h', nx', h1, h2⟩ := ran h
  subst h2
  exact call0 rfl h1 w rfl (fun _ => rfl)
theorem off_out (k : Int) (b : Bool) (w : World) (h : k < 0 ∨ 11 < k) : Calls Try.prog 14 #[.int .i64 k, .bool b] w fun e w' => e = .returned (.tuple #[.slice none 0 0, .int .i64 2]) ∧ w = w' := by
  by_cases h0 : k < 0
  · go_enter Try.func14, Try.ntmps14
    go_wp2
    go_step3
    go_wp2
    rw [Exit.noGoto_ret]
    go_ret2
    exact ⟨rfl, rfl⟩
  · have h1 : 11 < k := by omega
    go_enter Try.func14, Try.ntmps14
    go_wp2
    go_step3
    go_wp2
    rw [Exit.noGoto_ret]
    go_ret2
    exact ⟨rfl, rfl⟩
theorem out (k : Int) (b : Bool) (w : World) (h : k < 0 ∨ 11 < k) : Calls Try.prog 4 #[.int .i64 k, .bool b] w fun e w' => e = .returned (.bool true) ∧ Below w.heap.size w w' := by
  by_cases h0 : k < 0
  · go_enter Try.func4, Try.ntmps4
    go_wp2_with (first | (go_at_call 21; refine (alive_ok _).mono ?_; rintro e w' ⟨rfl, hb⟩) | (go_at_call 14; refine (off_out _ _ _ (by omega)).mono ?_; rintro e w' ⟨rfl, rfl⟩))
    go_ret
    exact ⟨rfl, by assumption⟩
  · have h1 : 11 < k := by omega
    go_enter Try.func4, Try.ntmps4
    go_wp2_with (first | (go_at_call 21; refine (alive_ok _).mono ?_; rintro e w' ⟨rfl, hb⟩) | (go_at_call 14; refine (off_out _ _ _ (by omega)).mono ?_; rintro e w' ⟨rfl, rfl⟩))
    go_ret
    exact ⟨rfl, by assumption⟩
theorem walk (k : Int) (b : Bool) (w : World) (_ : (Lit.int .i64 k).wf = true) :
    Calls Try.prog 4 #[.int .i64 k, .bool b] w fun e w' => e = .returned (.bool true) ∧ Below w.heap.size w w' := by
  by_cases h : k < 0 ∨ 11 < k
  · exact out k b w h
  rcases (by omega : k = 0 ∨ k = 1 ∨ k = 2 ∨ k = 3 ∨ k = 4 ∨ k = 5 ∨ k = 6 ∨ k = 7 ∨ k = 8 ∨ k = 9 ∨ k = 10 ∨ k = 11) with rfl | rfl | rfl | rfl | rfl | rfl | rfl | rfl | rfl | rfl | rfl | rfl
  · cases b
    · exact at_rate run0false w
    · exact at_rate run0true w
  · cases b
    · exact at_rate run1false w
    · exact at_rate run1true w
  · cases b
    · exact at_rate run2false w
    · exact at_rate run2true w
  · cases b
    · exact at_rate run3false w
    · exact at_rate run3true w
  · cases b
    · exact at_rate run4false w
    · exact at_rate run4true w
  · cases b
    · exact at_rate run5false w
    · exact at_rate run5true w
  · cases b
    · exact at_rate run6false w
    · exact at_rate run6true w
  · cases b
    · exact at_rate run7false w
    · exact at_rate run7true w
  · cases b
    · exact at_rate run8false w
    · exact at_rate run8true w
  · cases b
    · exact at_rate run9false w
    · exact at_rate run9true w
  · cases b
    · exact at_rate run10false w
    · exact at_rate run10true w
  · cases b
    · exact at_rate run11false w
    · exact at_rate run11true w

theorem own : ownKnob Try.prog.godebug = none := by kernel_rfl
set_option linter.unusedVariables false
set_option maxRecDepth 100000 in
theorem lifted (os : Os) (started : os.Started) (H : Type) (enc : TypeId × Value → H) :
    ReturnsInHanded {} Try.checked os 4 .any (Rows.bandRisesSpec.pre6 enc Try.prog Try.f4 Rows.bandRisesRow.domain false) (Rows.bandRisesSpec.post enc Try.prog Try.f4 false true false false) := by
  refine returnsInHanded_of_change (C := Try.checked) own started (by kernel_rfl) Try.func4
    (ChangeSpec.witness6 (enc := enc) (C := Try.checked) false ⟨#[], #[.int .i64 0, .bool false], []⟩ 8 (by kernel_rfl) (by kernel_rfl) (by kernel_rfl) (by kernel_rfl)) ?_
  intro W base args ds gs before hval0 hW hcnd _
  have hval : ∀ (j : Nat) t v, Try.f4.params[j]? = some t → args[j]? = some v → Value.okWide Try.prog W .any base t v := hval0
  have hW' := hW
  obtain ⟨p, q, hA0, hV, rfl, hfz, hnd⟩ := hW
  have hA : DataW.TrodAll enc Try.prog W 0 (fun _ => true) true Try.f4.params.toList args.toList ds p := hA0
  rw [Try.params4] at hA hval
  obtain ⟨v0, vs0, d0, ds0, p0, q0, hargs, rfl, rfl, h0, r0⟩ := trodAll_cons hA
  obtain ⟨v1, vs1, d1, ds1, p1, q1, rfl, rfl, rfl, h1, r1⟩ := trodAll_cons r0
  obtain ⟨rfl, rfl, rfl⟩ := trodAll_nil r1
  obtain rfl : args = #[v0, v1] := by cases args; simp_all
  obtain ⟨rfl, rfl⟩ := trodVars_none hV
  obtain ⟨a0, rfl, rfl, rfl, w0⟩ := open_int Try.underlying3 (hval 0 3 v0 rfl rfl) h0
  obtain ⟨a1, rfl, rfl, rfl⟩ := open_bool Try.underlying4 (hval 1 4 v1 rfl rfl) h1
  clear hA0 hval0
  simp only [List.append_nil] at hW'
  refine (walk a0 a1 W w0).mono fun e W' ⟨he, bel⟩ => ?_
  subst he
  exact ⟨_, rfl, _, _, _, [], _, [], hW', trodAll_mk1 (shut_bool Try.underlying4 _), (trodAll_cons_mk (shut_int Try.underlying3 w0) (trodAll_cons_mk (shut_bool Try.underlying4 a1) trodAll_mk0)), rfl, bel.frame _, fun h => by cases h⟩

theorem over : Rows.bandRisesRow.holds Try.pinned (OpenSpec.ofChange Rows.bandRisesSpec) :=
  OpenClaim.holds_of_wide 4 Try.f4 rfl rfl rfl rfl rfl rfl rfl ⟨rfl, rfl, rfl, rfl, rfl⟩ rfl rfl rfl rfl rfl (by kernel_rfl) Try.func4 (by kernel_rfl)
    (of_decide_eq_true (by kernel_rfl)) (by unfold Func.isWrapper; first | (rw [if_pos (by decide +kernel)]; kernel_rfl) | (rw [if_neg (by decide +kernel)]; exact ⟨rfl, rfl⟩))
    (fun os started H enc _ => lifted os started H enc)

theorem proved : Rows.BandRisesSaid := over
end Go.Proofs.Ytnbbjobmaakogaa.bandRises

/- Cos is even, is the same by whole circles, turns its sign by half a circle, and Sin is Cos a quarter of a circle on. TrigTurns returns true, whatever the parts and the circles, the memory and the schedule. No condition. -/
import Derived.Test.YtiaacdkfknailaaTrigLaws
import Derived.WalkKit
import Derived.ProofKit
import Derived.OpenShut
import Derived.Lib.Hide
namespace Go.Proofs.Ytiaacdkfknailaa.trigTurns
open Go Go.ChangeShapes Go.WideShapes Go.ChangeAt Go.RowKit Go.Proofs.Ytiaacdkfknailaa.Fx

theorem walk (n c : Int) (w : World) (_ : (Lit.int .i64 n).wf = true) (hc : (Lit.int .i16 c).wf = true) :
    Calls Try.prog 12 #[.int .i64 n, .int .i16 c] w fun e w' => e = .returned (.bool true) ∧ Below w.heap.size w w' := by
  have hc0 : -32768 ≤ c ∧ c ≤ 32767 := bounds_i16 hc
  obtain ⟨c0, c1⟩ := hc0
  have b1 : -100000 < Int.tmod n 100000 := by
    rw [Int.tmod_eq_emod]; split <;> omega
  have b2 : Int.tmod n 100000 < 100000 := by
    rw [Int.tmod_eq_emod]; split <;> omega
  have x0 := cosF_bd (Int.tmod n 100000)
  obtain ⟨x1, x2⟩ := x0
  have y0 := sinF_bd (Int.tmod n 100000)
  obtain ⟨y1, y2⟩ := y0
  have e1 := cosF_neg (Int.tmod n 100000)
  have e2 := cosF_circle (Int.tmod n 100000) c
  have e3 := cosF_half (Int.tmod n 100000)
  have e4 := sinF_on (Int.tmod n 100000)
  have e5 := sinF_neg (Int.tmod n 100000)
  go_enter Try.func12, Try.ntmps12
  go_wp2_with (first | (go_at_call 24; refine (talive _).mono ?_; rintro e w' ⟨rfl, hb⟩) | (go_at_call 25; refine (tcosB (W := w) _ _ (by first | assumption | exact Below.refl _ _)).mono ?_; rintro e w' ⟨rfl, hb⟩) | (go_at_call 26; refine (tsinB (W := w) _ _ (by first | assumption | exact Below.refl _ _)).mono ?_; rintro e w' ⟨rfl, hb⟩))
  go_ret
  exact ⟨rfl, ‹_›⟩

theorem own : ownKnob Try.prog.godebug = none := by kernel_rfl
set_option linter.unusedVariables false
set_option maxRecDepth 100000 in
theorem lifted (os : Os) (started : os.Started) (H : Type) (enc : TypeId × Value → H) :
    ReturnsInHanded {} Try.checked os 12 .any (Rows.trigTurnsSpec.pre6 enc Try.prog Try.f12 Rows.trigTurnsRow.domain false) (Rows.trigTurnsSpec.post enc Try.prog Try.f12 false true false false) := by
  refine returnsInHanded_of_change (C := Try.checked) own started (by kernel_rfl) Try.func12
    (ChangeSpec.witness6 (enc := enc) (C := Try.checked) false ⟨#[], #[.int .i64 0, .int .i16 0], []⟩ 8 (by kernel_rfl) (by kernel_rfl) (by kernel_rfl) (by kernel_rfl)) ?_
  intro W base args ds gs before hval0 hW hcnd _
  have hval : ∀ (j : Nat) t v, Try.f12.params[j]? = some t → args[j]? = some v → Value.okWide Try.prog W .any base t v := hval0
  have hW' := hW
  obtain ⟨p, q, hA0, hV, rfl, hfz, hnd⟩ := hW
  have hA : DataW.TrodAll enc Try.prog W 0 (fun _ => true) true Try.f12.params.toList args.toList ds p := hA0
  rw [Try.params12] at hA hval
  obtain ⟨v0, vs0, d0, ds0, p0, q0, hargs, rfl, rfl, h0, r0⟩ := trodAll_cons hA
  obtain ⟨v1, vs1, d1, ds1, p1, q1, rfl, rfl, rfl, h1, r1⟩ := trodAll_cons r0
  obtain ⟨rfl, rfl, rfl⟩ := trodAll_nil r1
  obtain rfl : args = #[v0, v1] := by cases args; simp_all
  obtain ⟨rfl, rfl⟩ := trodVars_none hV
  obtain ⟨a0, rfl, rfl, rfl, w0⟩ := open_int Try.underlying3 (hval 0 3 v0 rfl rfl) h0
  obtain ⟨a1, rfl, rfl, rfl, w1⟩ := open_int Try.underlying37 (hval 1 37 v1 rfl rfl) h1
  clear hA0 hval0
  simp only [List.append_nil] at hW'
  refine (walk a0 a1 W w0 w1).mono fun e W' ⟨he, bel⟩ => ?_
  subst he
  exact ⟨_, rfl, _, _, _, [], _, [], hW', trodAll_mk1 (shut_bool Try.underlying4 _), (trodAll_cons_mk (shut_int Try.underlying3 w0) (trodAll_cons_mk (shut_int Try.underlying37 w1) trodAll_mk0)), rfl, bel.frame _, fun h => by cases h⟩

theorem over : Rows.trigTurnsRow.holds Try.pinned (OpenSpec.ofChange Rows.trigTurnsSpec) :=
  OpenClaim.holds_of_wide 12 Try.f12 rfl rfl rfl rfl rfl rfl rfl ⟨rfl, rfl, rfl, rfl, rfl⟩ rfl rfl rfl rfl rfl (by kernel_rfl) Try.func12 (by kernel_rfl)
    (of_decide_eq_true (by kernel_rfl)) (by unfold Func.isWrapper; first | (rw [if_pos (by decide +kernel)]; kernel_rfl) | (rw [if_neg (by decide +kernel)]; exact ⟨rfl, rfl⟩))
    (fun os started H enc _ => lifted os started H enc)

theorem proved : Rows.TrigTurnsSaid := over
end Go.Proofs.Ytiaacdkfknailaa.trigTurns

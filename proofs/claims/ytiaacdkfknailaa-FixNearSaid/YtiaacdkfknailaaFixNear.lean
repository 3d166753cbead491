/- What is rounded off is off by a half at most, halves go up, and it rises as the number does. FixNear returns true, whatever the two numbers and the bits, the memory and the schedule. No condition. -/
import Derived.Test.YtiaacdkfknailaaFixCon
import Derived.Test.YtiaacdkfknailaaFixAlive
import Derived.WalkKit
import Derived.ProofKit
import Derived.OpenShut
import Derived.Lib.Hide
namespace Go.Proofs.Ytiaacdkfknailaa.fixNear
open Go Go.ChangeShapes Go.WideShapes Go.ChangeAt Go.RowKit Go.Proofs.Ytiaacdkfknailaa.Fx

theorem near_mid (n m b : Int) (w : World) (h1 : -4611686018427387904 ≤ n) (h2 : n ≤ 4611686018427387904) (h3 : -4611686018427387904 ≤ m) (h4 : m ≤ 4611686018427387904) (h5 : 1 ≤ b) (h6 : b ≤ 60) :
    Calls Try.prog 5 #[.int .i64 n, .int .i64 m, .int .i64 b] w fun e w' => e = .returned (.bool true) ∧ Below w.heap.size w w' := by
  have c1 : ¬ b < 1 := by omega
  have c2 : ¬ 60 < b := by omega
  have g := rnd_near (n := n) h5
  have p0 := pow_pos' (b.toNat - 1)
  have p1 := pow61 (b := b) (by omega)
  have x1 : wrap64 (2 ^ (b.toNat - 1)) = 2 ^ (b.toNat - 1) := w64 (by omega) (by omega)
  have x2 : wrap64 (-(2 ^ (b.toNat - 1))) = -(2 ^ (b.toNat - 1)) := w64 (by omega) (by omega)
  have x3 : wrap64 (rnd n b * 2 ^ b.toNat) = rnd n b * 2 ^ b.toNat := w64 (by omega) (by omega)
  have x4 : wrap64 (n - rnd n b * 2 ^ b.toNat) = n - rnd n b * 2 ^ b.toNat := w64 (by omega) (by omega)
  have g1 : -(2 ^ (b.toNat - 1)) ≤ n - rnd n b * 2 ^ b.toNat := g.1
  have g2 : n - rnd n b * 2 ^ b.toNat < 2 ^ (b.toNat - 1) := g.2
  clear g
  by_cases hm : m < n
  · go_enter Try.func5, Try.ntmps5
    go_wp2_with (first | (go_at_call 19; refine (alive_ok _).mono ?_; rintro e w' ⟨rfl, hb⟩) | (go_at_call 15; refine (round_in _ _ _ (by omega) (by omega) (by omega) (by omega)).mono ?_; rintro e w' ⟨rfl, rfl⟩))
    go_ret
    exact ⟨rfl, ‹_›⟩
  · have hr := rnd_mono (n := n) (m := m) (b := b) (by omega) (by omega)
    go_enter Try.func5, Try.ntmps5
    go_wp2_with (first | (go_at_call 19; refine (alive_ok _).mono ?_; rintro e w' ⟨rfl, hb⟩) | (go_at_call 15; refine (round_in _ _ _ (by omega) (by omega) (by omega) (by omega)).mono ?_; rintro e w' ⟨rfl, rfl⟩))
    go_ret
    exact ⟨rfl, ‹_›⟩

theorem near_edge (n m b : Int) (w : World) (h1 : -4611686018427387904 ≤ n) (h2 : n ≤ 4611686018427387904) (h3 : -4611686018427387904 ≤ m) (h4 : m ≤ 4611686018427387904) (h5 : b = 61 ∨ b = 62) :
    Calls Try.prog 5 #[.int .i64 n, .int .i64 m, .int .i64 b] w fun e w' => e = .returned (.bool true) ∧ Below w.heap.size w w' := by
  have c1 : ¬ b < 1 := by omega
  have c2 : 60 < b := by omega
  have c3 : (b == 0) = false := by simp; omega
  have c4 : (b != 0) = true := by simp; omega
  by_cases hm : m < n
  · go_enter Try.func5, Try.ntmps5
    go_wp2_with (first | (go_at_call 19; refine (alive_ok _).mono ?_; rintro e w' ⟨rfl, hb⟩) | (go_at_call 15; refine (round_in _ _ _ (by omega) (by omega) (by omega) (by omega)).mono ?_; rintro e w' ⟨rfl, rfl⟩))
    go_ret
    exact ⟨rfl, ‹_›⟩
  · have hr := rnd_mono (n := n) (m := m) (b := b) (by omega) (by omega)
    go_enter Try.func5, Try.ntmps5
    go_wp2_with (first | (go_at_call 19; refine (alive_ok _).mono ?_; rintro e w' ⟨rfl, hb⟩) | (go_at_call 15; refine (round_in _ _ _ (by omega) (by omega) (by omega) (by omega)).mono ?_; rintro e w' ⟨rfl, rfl⟩))
    go_ret
    exact ⟨rfl, ‹_›⟩

theorem near_zero (n m : Int) (w : World) (h1 : -4611686018427387904 ≤ n) (h2 : n ≤ 4611686018427387904) (h3 : -4611686018427387904 ≤ m) (h4 : m ≤ 4611686018427387904) :
    Calls Try.prog 5 #[.int .i64 n, .int .i64 m, .int .i64 0] w fun e w' => e = .returned (.bool true) ∧ Below w.heap.size w w' := by
  by_cases hm : m < n
  · go_enter Try.func5, Try.ntmps5
    go_wp2_with (first | (go_at_call 19; refine (alive_ok _).mono ?_; rintro e w' ⟨rfl, hb⟩) | (go_at_call 15; refine (round_zero _ _ (by omega) (by omega)).mono ?_; rintro e w' ⟨rfl, rfl⟩))
    go_ret
    exact ⟨rfl, ‹_›⟩
  · go_enter Try.func5, Try.ntmps5
    go_wp2_with (first | (go_at_call 19; refine (alive_ok _).mono ?_; rintro e w' ⟨rfl, hb⟩) | (go_at_call 15; refine (round_zero _ _ (by omega) (by omega)).mono ?_; rintro e w' ⟨rfl, rfl⟩))
    go_ret
    exact ⟨rfl, ‹_›⟩

theorem near_bits (n m b : Int) (w : World) (h5 : b < 0 ∨ 62 < b) :
    Calls Try.prog 5 #[.int .i64 n, .int .i64 m, .int .i64 b] w fun e w' => e = .returned (.bool true) ∧ Below w.heap.size w w' := by
  by_cases hb : b < 0
  · go_enter Try.func5, Try.ntmps5
    go_wp2_with (first | (go_at_call 19; refine (alive_ok _).mono ?_; rintro e w' ⟨rfl, hb⟩) | (go_at_call 15; refine (round_out _ _ _ (by omega)).mono ?_; rintro e w' ⟨rfl, rfl⟩))
    go_ret
    exact ⟨rfl, ‹_›⟩
  · have hb2 : 62 < b := by omega
    go_enter Try.func5, Try.ntmps5
    go_wp2_with (first | (go_at_call 19; refine (alive_ok _).mono ?_; rintro e w' ⟨rfl, hb⟩) | (go_at_call 15; refine (round_out _ _ _ (by omega)).mono ?_; rintro e w' ⟨rfl, rfl⟩))
    go_ret
    exact ⟨rfl, ‹_›⟩

set_option maxHeartbeats 1000000 in
theorem near_out (n m b : Int) (w : World) (h3 : 0 ≤ b) (h4 : b ≤ 62) (h : n < -4611686018427387904 ∨ 4611686018427387904 < n ∨ m < -4611686018427387904 ∨ 4611686018427387904 < m) :
    Calls Try.prog 5 #[.int .i64 n, .int .i64 m, .int .i64 b] w fun e w' => e = .returned (.bool true) ∧ Below w.heap.size w w' := by
  have c1 : ¬ b < 0 := by omega
  have c2 : ¬ 62 < b := by omega
  by_cases n1 : n < -4611686018427387904
  · by_cases m1 : m < -4611686018427387904 ∨ 4611686018427387904 < m
    · go_enter Try.func5, Try.ntmps5
      go_wp2_with (first | (go_at_call 19; refine (alive_ok _).mono ?_; rintro e w' ⟨rfl, hb⟩) | (go_at_call 15; refine (round_out _ _ _ (by omega)).mono ?_; rintro e w' ⟨rfl, rfl⟩))
      all_goals
        go_ret
        exact ⟨rfl, ‹_›⟩
    · have m2 : -4611686018427387904 ≤ m := by omega
      have m3 : m ≤ 4611686018427387904 := by omega
      clear m1
      go_enter Try.func5, Try.ntmps5
      go_wp2_with (first | (go_at_call 19; refine (alive_ok _).mono ?_; rintro e w' ⟨rfl, hb⟩) | (go_at_call 15; refine (round_out _ _ _ (by omega)).mono ?_; rintro e w' ⟨rfl, rfl⟩) | (go_at_call 15; refine (round_in _ _ _ (by omega) (by omega) (by omega) (by omega)).mono ?_; rintro e w' ⟨rfl, rfl⟩))
      go_ret
      exact ⟨rfl, ‹_›⟩
  by_cases n2 : 4611686018427387904 < n
  · by_cases m1 : m < -4611686018427387904 ∨ 4611686018427387904 < m
    · go_enter Try.func5, Try.ntmps5
      go_wp2_with (first | (go_at_call 19; refine (alive_ok _).mono ?_; rintro e w' ⟨rfl, hb⟩) | (go_at_call 15; refine (round_out _ _ _ (by omega)).mono ?_; rintro e w' ⟨rfl, rfl⟩))
      all_goals
        go_ret
        exact ⟨rfl, ‹_›⟩
    · have m2 : -4611686018427387904 ≤ m := by omega
      have m3 : m ≤ 4611686018427387904 := by omega
      clear m1
      go_enter Try.func5, Try.ntmps5
      go_wp2_with (first | (go_at_call 19; refine (alive_ok _).mono ?_; rintro e w' ⟨rfl, hb⟩) | (go_at_call 15; refine (round_out _ _ _ (by omega)).mono ?_; rintro e w' ⟨rfl, rfl⟩) | (go_at_call 15; refine (round_in _ _ _ (by omega) (by omega) (by omega) (by omega)).mono ?_; rintro e w' ⟨rfl, rfl⟩))
      go_ret
      exact ⟨rfl, ‹_›⟩
  by_cases m1 : m < -4611686018427387904
  · go_enter Try.func5, Try.ntmps5
    go_wp2_with (first | (go_at_call 19; refine (alive_ok _).mono ?_; rintro e w' ⟨rfl, hb⟩) | (go_at_call 15; refine (round_out _ _ _ (by omega)).mono ?_; rintro e w' ⟨rfl, rfl⟩) | (go_at_call 15; refine (round_in _ _ _ (by omega) (by omega) (by omega) (by omega)).mono ?_; rintro e w' ⟨rfl, rfl⟩))
    go_ret
    exact ⟨rfl, ‹_›⟩
  have m2 : 4611686018427387904 < m := by omega
  clear h
  go_enter Try.func5, Try.ntmps5
  go_wp2_with (first | (go_at_call 19; refine (alive_ok _).mono ?_; rintro e w' ⟨rfl, hb⟩) | (go_at_call 15; refine (round_out _ _ _ (by omega)).mono ?_; rintro e w' ⟨rfl, rfl⟩) | (go_at_call 15; refine (round_in _ _ _ (by omega) (by omega) (by omega) (by omega)).mono ?_; rintro e w' ⟨rfl, rfl⟩))
  go_ret
  exact ⟨rfl, ‹_›⟩

theorem walk (n m b : Int) (w : World) (_ : (Lit.int .i64 n).wf = true) (_ : (Lit.int .i64 m).wf = true) (_ : (Lit.int .i64 b).wf = true) :
    Calls Try.prog 5 #[.int .i64 n, .int .i64 m, .int .i64 b] w fun e w' => e = .returned (.bool true) ∧ Below w.heap.size w w' := by
  by_cases c1 : b < 0 ∨ 62 < b
  · exact near_bits n m b w c1
  by_cases c2 : n < -4611686018427387904 ∨ 4611686018427387904 < n ∨ m < -4611686018427387904 ∨ 4611686018427387904 < m
  · exact near_out n m b w (by omega) (by omega) c2
  by_cases c3 : b = 0
  · subst c3; exact near_zero n m w (by omega) (by omega) (by omega) (by omega)
  by_cases c4 : b ≤ 60
  · exact near_mid n m b w (by omega) (by omega) (by omega) (by omega) (by omega) c4
  · exact near_edge n m b w (by omega) (by omega) (by omega) (by omega) (by omega)

theorem own : ownKnob Try.prog.godebug = none := by kernel_rfl
set_option linter.unusedVariables false
set_option maxRecDepth 100000 in
theorem lifted (os : Os) (started : os.Started) (H : Type) (enc : TypeId × Value → H) :
    ReturnsInHanded {} Try.checked os 5 .any (Rows.fixNearSpec.pre6 enc Try.prog Try.f5 Rows.fixNearRow.domain false) (Rows.fixNearSpec.post enc Try.prog Try.f5 false true false false) := by
  refine returnsInHanded_of_change (C := Try.checked) own started (by kernel_rfl) Try.func5
    (ChangeSpec.witness6 (enc := enc) (C := Try.checked) false ⟨#[], #[.int .i64 0, .int .i64 0, .int .i64 0], []⟩ 8 (by kernel_rfl) (by kernel_rfl) (by kernel_rfl) (by kernel_rfl)) ?_
  intro W base args ds gs before hval0 hW hcnd _
  have hval : ∀ (j : Nat) t v, Try.f5.params[j]? = some t → args[j]? = some v → Value.okWide Try.prog W .any base t v := hval0
  have hW' := hW
  obtain ⟨p, q, hA0, hV, rfl, hfz, hnd⟩ := hW
  have hA : DataW.TrodAll enc Try.prog W 0 (fun _ => true) true Try.f5.params.toList args.toList ds p := hA0
  rw [Try.params5] at hA hval
  obtain ⟨v0, vs0, d0, ds0, p0, q0, hargs, rfl, rfl, h0, r0⟩ := trodAll_cons hA
  obtain ⟨v1, vs1, d1, ds1, p1, q1, rfl, rfl, rfl, h1, r1⟩ := trodAll_cons r0
  obtain ⟨v2, vs2, d2, ds2, p2, q2, rfl, rfl, rfl, h2, r2⟩ := trodAll_cons r1
  obtain ⟨rfl, rfl, rfl⟩ := trodAll_nil r2
  obtain rfl : args = #[v0, v1, v2] := by cases args; simp_all
  obtain ⟨rfl, rfl⟩ := trodVars_none hV
  obtain ⟨a0, rfl, rfl, rfl, w0⟩ := open_int Try.underlying3 (hval 0 3 v0 rfl rfl) h0
  obtain ⟨a1, rfl, rfl, rfl, w1⟩ := open_int Try.underlying3 (hval 1 3 v1 rfl rfl) h1
  obtain ⟨a2, rfl, rfl, rfl, w2⟩ := open_int Try.underlying3 (hval 2 3 v2 rfl rfl) h2
  clear hA0 hval0
  simp only [List.append_nil] at hW'
  refine (walk a0 a1 a2 W w0 w1 w2).mono fun e W' ⟨he, bel⟩ => ?_
  subst he
  exact ⟨_, rfl, _, _, _, [], _, [], hW', trodAll_mk1 (shut_bool Try.underlying4 _), (trodAll_cons_mk (shut_int Try.underlying3 w0) (trodAll_cons_mk (shut_int Try.underlying3 w1) (trodAll_cons_mk (shut_int Try.underlying3 w2) trodAll_mk0))), rfl, bel.frame _, fun h => by cases h⟩

theorem over : Rows.fixNearRow.holds Try.pinned (OpenSpec.ofChange Rows.fixNearSpec) :=
  OpenClaim.holds_of_wide 5 Try.f5 rfl rfl rfl rfl rfl rfl rfl ⟨rfl, rfl, rfl, rfl, rfl⟩ rfl rfl rfl rfl rfl (by kernel_rfl) Try.func5 (by kernel_rfl)
    (of_decide_eq_true (by kernel_rfl)) (by unfold Func.isWrapper; first | (rw [if_pos (by decide +kernel)]; kernel_rfl) | (rw [if_neg (by decide +kernel)]; exact ⟨rfl, rfl⟩))
    (fun os started H enc _ => lifted os started H enc)

theorem proved : Rows.FixNearSaid := over
end Go.Proofs.Ytiaacdkfknailaa.fixNear

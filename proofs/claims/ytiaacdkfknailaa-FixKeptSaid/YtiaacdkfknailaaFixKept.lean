/- A number that is kept lies in its bits, stays if it was there, rises as the number does, and kept twice it is kept once. FixKept returns true, whatever the two numbers and the bits, the memory and the schedule. No condition. -/
import Derived.Test.YtiaacdkfknailaaFixCon
import Derived.Test.YtiaacdkfknailaaFixAlive
import Derived.WalkKit
import Derived.ProofKit
import Derived.OpenShut
import Derived.Lib.Hide
namespace Go.Proofs.Ytiaacdkfknailaa.fixKept
open Go Go.ChangeShapes Go.WideShapes Go.ChangeAt Go.RowKit Go.Proofs.Ytiaacdkfknailaa.Fx

theorem clp_lo {n b : Int} : -(2 ^ (b.toNat - 1)) ≤ clp n b := by
  have := pow_pos' (b.toNat - 1); unfold clp
  generalize (2 : Int) ^ (b.toNat - 1) = H at *
  omega
theorem clp_hi {n b : Int} : clp n b ≤ 2 ^ (b.toNat - 1) - 1 := by
  have := pow_pos' (b.toNat - 1); unfold clp
  generalize (2 : Int) ^ (b.toNat - 1) = H at *
  omega
theorem clp_mono {n m b : Int} (h : n ≤ m) : clp n b ≤ clp m b := by
  have := pow_pos' (b.toNat - 1); unfold clp
  generalize (2 : Int) ^ (b.toNat - 1) = H at *
  omega
theorem clp_id {n b : Int} (h1 : -(2 ^ (b.toNat - 1)) ≤ n) (h2 : n ≤ 2 ^ (b.toNat - 1) - 1) : clp n b = n := by
  unfold clp
  generalize (2 : Int) ^ (b.toNat - 1) = H at *
  omega
theorem clp_high {n b : Int} (h1 : 2 ^ (b.toNat - 1) - 1 < n) : clp n b = 2 ^ (b.toNat - 1) - 1 := by
  have := pow_pos' (b.toNat - 1); unfold clp
  generalize (2 : Int) ^ (b.toNat - 1) = H at *
  omega
theorem clp_low {n b : Int} (h1 : n < -(2 ^ (b.toNat - 1))) : clp n b = -(2 ^ (b.toNat - 1)) := by
  have := pow_pos' (b.toNat - 1); unfold clp
  generalize (2 : Int) ^ (b.toNat - 1) = H at *
  omega

theorem kept_in (n m b : Int) (w : World) (h5 : 1 ≤ b) (h6 : b ≤ 62) (hn1 : -(2 ^ (b.toNat - 1)) ≤ n) (hn2 : n ≤ 2 ^ (b.toNat - 1) - 1) :
    Calls Try.prog 6 #[.int .i64 n, .int .i64 m, .int .i64 b] w fun e w' => e = .returned (.bool true) ∧ Below w.heap.size w w' := by
  have c1 : ¬ b < 1 := by omega
  have c2 : ¬ 62 < b := by omega
  have p0 := pow_pos' (b.toNat - 1)
  have p1 := pow61 (b := b) (by omega)
  have x1 : wrap64 (2 ^ (b.toNat - 1)) = 2 ^ (b.toNat - 1) := w64 (by omega) (by omega)
  have e1 : clp n b = n := clp_id hn1 hn2
  have hcl := e1
  by_cases hm : m < n
  · clear hcl
    go_enter Try.func6, Try.ntmps6
    go_wp2_with (first | (go_at_call 19; refine (alive_ok _).mono ?_; rintro e w' ⟨rfl, hb⟩) | (go_at_call 16; refine (clip_in _ _ _ (by omega) (by omega)).mono ?_; rintro e w' ⟨rfl, rfl⟩))
    go_ret
    exact ⟨rfl, ‹_›⟩
  · have hr := clp_mono (n := n) (m := m) (b := b) (by omega)
    rw [hcl] at hr
    clear hcl
    go_enter Try.func6, Try.ntmps6
    go_wp2_with (first | (go_at_call 19; refine (alive_ok _).mono ?_; rintro e w' ⟨rfl, hb⟩) | (go_at_call 16; refine (clip_in _ _ _ (by omega) (by omega)).mono ?_; rintro e w' ⟨rfl, rfl⟩))
    go_ret
    exact ⟨rfl, ‹_›⟩

theorem kept_high (n m b : Int) (w : World) (h5 : 1 ≤ b) (h6 : b ≤ 62) (hn1 : 2 ^ (b.toNat - 1) - 1 < n) :
    Calls Try.prog 6 #[.int .i64 n, .int .i64 m, .int .i64 b] w fun e w' => e = .returned (.bool true) ∧ Below w.heap.size w w' := by
  have c1 : ¬ b < 1 := by omega
  have c2 : ¬ 62 < b := by omega
  have p0 := pow_pos' (b.toNat - 1)
  have p1 := pow61 (b := b) (by omega)
  have x1 : wrap64 (2 ^ (b.toNat - 1)) = 2 ^ (b.toNat - 1) := w64 (by omega) (by omega)
  have e1 : clp n b = 2 ^ (b.toNat - 1) - 1 := clp_high hn1
  have n0 : decide (0 < n) = true := by simp; omega
  have e2 : clp (2 ^ (b.toNat - 1) - 1) b = 2 ^ (b.toNat - 1) - 1 := clp_id (by omega) (by omega)
  have hcl := e1
  by_cases hm : m < n
  · clear hcl
    go_enter Try.func6, Try.ntmps6
    go_wp2_with (first | (go_at_call 19; refine (alive_ok _).mono ?_; rintro e w' ⟨rfl, hb⟩) | (go_at_call 16; refine (clip_in _ _ _ (by omega) (by omega)).mono ?_; rintro e w' ⟨rfl, rfl⟩))
    go_ret
    exact ⟨rfl, ‹_›⟩
  · have hr := clp_mono (n := n) (m := m) (b := b) (by omega)
    rw [hcl] at hr
    clear hcl
    go_enter Try.func6, Try.ntmps6
    go_wp2_with (first | (go_at_call 19; refine (alive_ok _).mono ?_; rintro e w' ⟨rfl, hb⟩) | (go_at_call 16; refine (clip_in _ _ _ (by omega) (by omega)).mono ?_; rintro e w' ⟨rfl, rfl⟩))
    go_ret
    exact ⟨rfl, ‹_›⟩

theorem kept_low (n m b : Int) (w : World) (h5 : 1 ≤ b) (h6 : b ≤ 62) (hn1 : n < -(2 ^ (b.toNat - 1))) :
    Calls Try.prog 6 #[.int .i64 n, .int .i64 m, .int .i64 b] w fun e w' => e = .returned (.bool true) ∧ Below w.heap.size w w' := by
  have c1 : ¬ b < 1 := by omega
  have c2 : ¬ 62 < b := by omega
  have p0 := pow_pos' (b.toNat - 1)
  have p1 := pow61 (b := b) (by omega)
  have x1 : wrap64 (2 ^ (b.toNat - 1)) = 2 ^ (b.toNat - 1) := w64 (by omega) (by omega)
  have e1 : clp n b = -(2 ^ (b.toNat - 1)) := clp_low hn1
  have e2 : clp (-(2 ^ (b.toNat - 1))) b = -(2 ^ (b.toNat - 1)) := clp_id (by omega) (by omega)
  have e3 : (-(2 ^ (b.toNat - 1)) == 2 ^ (b.toNat - 1) - 1) = false := by simp; omega
  have n0 : decide (0 < n) = false := by simp; omega
  have hcl := e1
  by_cases hm : m < n
  · clear hcl
    go_enter Try.func6, Try.ntmps6
    go_wp2_with (first | (go_at_call 19; refine (alive_ok _).mono ?_; rintro e w' ⟨rfl, hb⟩) | (go_at_call 16; refine (clip_in _ _ _ (by omega) (by omega)).mono ?_; rintro e w' ⟨rfl, rfl⟩))
    go_ret
    exact ⟨rfl, ‹_›⟩
  · have hr := clp_mono (n := n) (m := m) (b := b) (by omega)
    rw [hcl] at hr
    clear hcl
    go_enter Try.func6, Try.ntmps6
    go_wp2_with (first | (go_at_call 19; refine (alive_ok _).mono ?_; rintro e w' ⟨rfl, hb⟩) | (go_at_call 16; refine (clip_in _ _ _ (by omega) (by omega)).mono ?_; rintro e w' ⟨rfl, rfl⟩))
    go_ret
    exact ⟨rfl, ‹_›⟩

theorem kept_out (n m b : Int) (w : World) (h : b < 1 ∨ 62 < b) :
    Calls Try.prog 6 #[.int .i64 n, .int .i64 m, .int .i64 b] w fun e w' => e = .returned (.bool true) ∧ Below w.heap.size w w' := by
  by_cases c1 : b < 1
  · go_enter Try.func6, Try.ntmps6
    go_wp2_with (first | (go_at_call 19; refine (alive_ok _).mono ?_; rintro e w' ⟨rfl, hb⟩) | (go_at_call 16; refine (clip_out _ _ _ (by omega)).mono ?_; rintro e w' ⟨rfl, rfl⟩))
    go_ret
    exact ⟨rfl, ‹_›⟩
  · have c2 : 62 < b := by omega
    go_enter Try.func6, Try.ntmps6
    go_wp2_with (first | (go_at_call 19; refine (alive_ok _).mono ?_; rintro e w' ⟨rfl, hb⟩) | (go_at_call 16; refine (clip_out _ _ _ (by omega)).mono ?_; rintro e w' ⟨rfl, rfl⟩))
    go_ret
    exact ⟨rfl, ‹_›⟩

theorem walk (n m b : Int) (w : World) (_ : (Lit.int .i64 n).wf = true) (_ : (Lit.int .i64 m).wf = true) (_ : (Lit.int .i64 b).wf = true) :
    Calls Try.prog 6 #[.int .i64 n, .int .i64 m, .int .i64 b] w fun e w' => e = .returned (.bool true) ∧ Below w.heap.size w w' := by
  by_cases c1 : b < 1 ∨ 62 < b
  · exact kept_out n m b w c1
  by_cases c2 : n < -(2 ^ (b.toNat - 1))
  · exact kept_low n m b w (by omega) (by omega) c2
  by_cases c3 : 2 ^ (b.toNat - 1) - 1 < n
  · exact kept_high n m b w (by omega) (by omega) c3
  exact kept_in n m b w (by omega) (by omega) (by omega) (by omega)

theorem own : ownKnob Try.prog.godebug = none := by kernel_rfl
set_option linter.unusedVariables false
set_option maxRecDepth 100000 in
theorem lifted (os : Os) (started : os.Started) (H : Type) (enc : TypeId × Value → H) :
    ReturnsInHanded {} Try.checked os 6 .any (Rows.fixKeptSpec.pre6 enc Try.prog Try.f6 Rows.fixKeptRow.domain false) (Rows.fixKeptSpec.post enc Try.prog Try.f6 false true false false) := by
  refine returnsInHanded_of_change (C := Try.checked) own started (by kernel_rfl) Try.func6
    (ChangeSpec.witness6 (enc := enc) (C := Try.checked) false ⟨#[], #[.int .i64 0, .int .i64 0, .int .i64 0], []⟩ 8 (by kernel_rfl) (by kernel_rfl) (by kernel_rfl) (by kernel_rfl)) ?_
  intro W base args ds gs before hval0 hW hcnd _
  have hval : ∀ (j : Nat) t v, Try.f6.params[j]? = some t → args[j]? = some v → Value.okWide Try.prog W .any base t v := hval0
  have hW' := hW
  obtain ⟨p, q, hA0, hV, rfl, hfz, hnd⟩ := hW
  have hA : DataW.TrodAll enc Try.prog W 0 (fun _ => true) true Try.f6.params.toList args.toList ds p := hA0
  rw [Try.params6] at hA hval
  obtain ⟨v0, vs0, d0, ds0, p0, q0, hargs, rfl, rfl, h0, r0⟩ := trodAll_cons hA
  obtain ⟨v1, vs1, d1, ds1, p1, q1, rfl, rfl, rfl, h1, r1⟩ := trodAll_cons r0
  obtain ⟨v2, vs2, d2, ds2, p2, q2, rfl, rfl, rfl, h2, r2⟩ := trodAll_cons r1
  obtain ⟨rfl, rfl, rfl⟩ := trodAll_nil r2
  obtain rfl : args = #[v0, v1, v2] := by cases args; simp_all
  obtain ⟨rfl, rfl⟩ := trodVars_none hV
  obtain ⟨a0, rfl, rfl, rfl, w0⟩ := open_int Try.underlying3 (hval 0 3 v0 rfl rfl) h0
  obtain ⟨a1, rfl, rfl, rfl, w1⟩ := open_int Try.underlying3 (hval 1 3 v1 rfl rfl) h1
  obtain ⟨a2, rfl, rfl, rfl, w2⟩ := open_int Try.underlying3 (hval 2 3 v2 rfl rfl) h2
  clear hA0 hval0
  simp only [List.append_nil] at hW'
  refine (walk a0 a1 a2 W w0 w1 w2).mono fun e W' ⟨he, bel⟩ => ?_
  subst he
  exact ⟨_, rfl, _, _, _, [], _, [], hW', trodAll_mk1 (shut_bool Try.underlying4 _), (trodAll_cons_mk (shut_int Try.underlying3 w0) (trodAll_cons_mk (shut_int Try.underlying3 w1) (trodAll_cons_mk (shut_int Try.underlying3 w2) trodAll_mk0))), rfl, bel.frame _, fun h => by cases h⟩

theorem over : Rows.fixKeptRow.holds Try.pinned (OpenSpec.ofChange Rows.fixKeptSpec) :=
  OpenClaim.holds_of_wide 6 Try.f6 rfl rfl rfl rfl rfl rfl rfl ⟨rfl, rfl, rfl, rfl, rfl⟩ rfl rfl rfl rfl rfl (by kernel_rfl) Try.func6 (by kernel_rfl)
    (of_decide_eq_true (by kernel_rfl)) (by unfold Func.isWrapper; first | (rw [if_pos (by decide +kernel)]; kernel_rfl) | (rw [if_neg (by decide +kernel)]; exact ⟨rfl, rfl⟩))
    (fun os started H enc _ => lifted os started H enc)

theorem proved : Rows.FixKeptSaid := over
end Go.Proofs.Ytiaacdkfknailaa.fixKept

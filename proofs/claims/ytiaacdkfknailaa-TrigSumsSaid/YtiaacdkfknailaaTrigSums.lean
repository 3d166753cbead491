/- The cosine of two arcs together is the product of cosines less that of sines, to 8 of 2^-26. TrigSums returns true, whatever the two arcs, the memory and the schedule. No condition. -/
import Derived.Test.YtiaacdkfknailaaTrigLaws
import Derived.Test.YtiaacdkfknailaaSumTab
import Derived.WalkKit
import Derived.ProofKit
import Derived.OpenShut
import Derived.Lib.Hide
namespace Go.Proofs.Ytiaacdkfknailaa.trigSums
open Go Go.ChangeShapes Go.WideShapes Go.ChangeAt Go.RowKit Go.Proofs.Ytiaacdkfknailaa.Fx

def Near (x : Int) : Prop := x ≤ 536870912 ∧ -536870912 ≤ x
theorem Near.neg {x : Int} (h : Near x) : Near (-x) := by unfold Near at *; omega

theorem c1 (x : Int) : cosF (x + 512) = -cosF (512 - x) := by
  rw [show x + 512 = (x - 512) + 1024 by omega, cosF_half, ← cosF_neg (x - 512), show -(x - 512) = 512 - x by omega]
theorem c2 (x : Int) : cosF (x + 1024) = -cosF x := cosF_half x
theorem c3 (x : Int) : cosF (x + 1536) = cosF (512 - x) := by
  rw [show x + 1536 = (x + 512) + 1024 by omega, cosF_half, c1, Int.neg_neg]

/-- Both sums, for two parts of the first quarter. -/
theorem quarterF {a b : Int} (a0 : 0 ≤ a) (a1 : a ≤ 512) (b0 : 0 ≤ b) (b1 : b ≤ 512) : Near (cosF a * cosF b - cosF (512 - a) * cosF (512 - b) - cosF (a + b) * 67108864) := by
  by_cases h : a + b ≤ 512
  · exact sumF a0 b0 h
  · have f := sumF (a := 512 - a) (b := 512 - b) (by omega) (by omega) (by omega)
    rw [show (512 : Int) - (512 - a) = a by omega, show (512 : Int) - (512 - b) = b by omega, show 512 - a + (512 - b) = -(a + b) + 1024 by omega, cosF_half, cosF_neg] at f
    unfold Near
    omega
theorem quarterG {a b : Int} (a0 : 0 ≤ a) (a1 : a ≤ 512) (b0 : 0 ≤ b) (b1 : b ≤ 512) : Near (cosF (512 - a) * cosF b + cosF a * cosF (512 - b) - cosF (512 - (a + b)) * 67108864) := by
  by_cases h : b ≤ 512 - a
  · have f := sumD (a := 512 - a) (b := b) b0 h (by omega)
    rw [show (512 : Int) - (512 - a) = a by omega, show 512 - a - b = 512 - (a + b) by omega] at f
    exact f
  · have f := sumD (a := b) (b := 512 - a) (by omega) (by omega) b1
    rw [show (512 : Int) - (512 - a) = a by omega, ← cosF_neg (b - (512 - a)), show -(b - (512 - a)) = 512 - (a + b) by omega, Int.mul_comm (cosF b), Int.mul_comm (cosF (512 - b))] at f
    exact f

theorem split512 (n : Int) : ∃ a t : Int, 0 ≤ a ∧ a < 512 ∧ (n = a + 2048 * t ∨ n = a + 512 + 2048 * t ∨ n = a + 1024 + 2048 * t ∨ n = a + 1536 + 2048 * t) :=
  ⟨n % 512, n / 2048, by omega, by omega, by omega⟩

theorem turn {n a t : Int} (h : n = a + 2048 * t) : cosF n = cosF a ∧ sinF n = cosF (512 - a) := by
  subst h
  exact ⟨cosF_circle a t, by rw [sinF_at, show a + 2048 * t - 512 = -(512 - a) + 2048 * t by omega, cosF_circle, cosF_neg]⟩

theorem pair (n : Int) : ∃ a : Int, 0 ≤ a ∧ a ≤ 512 ∧ ((∀ x, cosF (n + x) = cosF (a + x) ∧ cosF n = cosF a ∧ sinF n = cosF (512 - a)) ∨ (∀ x, cosF (n + x) = -cosF (512 - (a + x)) ∧ cosF n = -cosF (512 - a) ∧ sinF n = cosF a) ∨
    (∀ x, cosF (n + x) = -cosF (a + x) ∧ cosF n = -cosF a ∧ sinF n = -cosF (512 - a)) ∨ (∀ x, cosF (n + x) = cosF (512 - (a + x)) ∧ cosF n = cosF (512 - a) ∧ sinF n = -cosF a)) := by
  obtain ⟨a, t, a0, a1, h⟩ := split512 n
  refine ⟨a, a0, by omega, ?_⟩
  rcases h with h | h | h | h
  · refine .inl fun x => ⟨?_, ?_, ?_⟩
    · rw [show n + x = a + x + 2048 * t by omega, cosF_circle]
    · rw [h, cosF_circle]
    · rw [sinF_at, show n - 512 = -(512 - a) + 2048 * t by omega, cosF_circle, cosF_neg]
  · refine .inr (.inl fun x => ⟨?_, ?_, ?_⟩)
    · rw [show n + x = a + x + 512 + 2048 * t by omega, cosF_circle, c1]
    · rw [h, cosF_circle, c1]
    · rw [sinF_at, show n - 512 = a + 2048 * t by omega, cosF_circle]
  · refine .inr (.inr (.inl fun x => ⟨?_, ?_, ?_⟩))
    · rw [show n + x = a + x + 1024 + 2048 * t by omega, cosF_circle, c2]
    · rw [h, cosF_circle, c2]
    · rw [sinF_at, show n - 512 = a + 512 + 2048 * t by omega, cosF_circle, c1]
  · refine .inr (.inr (.inr fun x => ⟨?_, ?_, ?_⟩))
    · rw [show n + x = a + x + 1536 + 2048 * t by omega, cosF_circle, c3]
    · rw [h, cosF_circle, c3]
    · rw [sinF_at, show n - 512 = a + 1024 + 2048 * t by omega, cosF_circle, c2]

theorem sums (n m : Int) : Near (cosF n * cosF m - sinF n * sinF m - cosF (n + m) * 67108864) := by
  obtain ⟨a, a0, a1, ha⟩ := pair n
  obtain ⟨b, b0, b1, hb⟩ := pair m
  have F := quarterF a0 a1 b0 b1
  have G := quarterG a0 a1 b0 b1
  have e1 : cosF (a + m) = cosF (m + a) := by rw [Int.add_comm]
  have e2 : cosF (512 - (a + m)) = cosF (m + (a - 512)) := by rw [← cosF_neg]; congr 1; omega
  have e3 : cosF (b + (a - 512)) = cosF (512 - (a + b)) := by rw [← cosF_neg]; congr 1; omega
  have e4 : cosF (512 - (b + (a - 512))) = -cosF (a + b) := by rw [show 512 - (b + (a - 512)) = -(a + b) + 1024 by omega, cosF_half, cosF_neg]
  have e5 : cosF (b + a) = cosF (a + b) := by rw [Int.add_comm]
  have e6 : cosF (512 - (b + a)) = cosF (512 - (a + b)) := by rw [Int.add_comm b a]
  unfold Near at *
  rcases ha with ha | ha | ha | ha <;> rcases hb with hb | hb | hb | hb
  all_goals
    obtain ⟨p1, p2, p3⟩ := ha m
    obtain ⟨q1, q2, q3⟩ := hb a
    obtain ⟨s1, s2, s3⟩ := hb (a - 512)
    rw [p1, p2, p3, q2, q3]
    first
      | rw [e1, q1]
      | rw [e2, s1]
    first
      | rw [e3]
      | rw [e4]
      | rw [e5]
      | rw [e6]
    try simp only [Int.neg_mul, Int.mul_neg, Int.neg_neg]
    clear p1 p2 p3 q1 q2 q3 s1 s2 s3 ha hb e1 e2 e3 e4 e5 e6
    omega

theorem sq_le {a M : Int} (h1 : -M ≤ a) (h2 : a ≤ M) : 0 ≤ a * a ∧ a * a ≤ M * M := by
  by_cases h : 0 ≤ a
  · exact mul_bd h h2 h h2
  · have := mul_bd (a := -a) (b := -a) (M := M) (N := M) (by omega) (by omega) (by omega) (by omega)
    rwa [Int.neg_mul_neg] at this
theorem mul_lim {a b : Int} (h1 : -1073741824 ≤ a) (h2 : a ≤ 1073741824) (h3 : -1073741824 ≤ b) (h4 : b ≤ 1073741824) : -1152921504606846976 ≤ a * b ∧ a * b ≤ 1152921504606846976 := by
  obtain ⟨_, x⟩ := sq_le (a := a) (M := 1073741824) h1 h2
  obtain ⟨_, y⟩ := sq_le (a := b) (M := 1073741824) h3 h4
  obtain ⟨u, _⟩ := sq_le (a := a + b) (M := 2147483648) (by omega) (by omega)
  obtain ⟨v, _⟩ := sq_le (a := a - b) (M := 2147483648) (by omega) (by omega)
  rw [Int.add_mul, Int.mul_add, Int.mul_add, Int.mul_comm b a] at u
  rw [Int.sub_mul, Int.mul_sub, Int.mul_sub, Int.mul_comm b a] at v
  omega

theorem cosH {W : World} {n C : Int} (h : Hid (cosF n = C)) (w : World) (hb : Below W.heap.size W w) :
    Calls Try.prog 25 #[.int .i64 n] w fun e w' => e = .returned (.int .i64 C) ∧ Below W.heap.size W w' := by
  have := tcosB n w hb
  rwa [h.out] at this
theorem sinH {W : World} {n C : Int} (h : Hid (sinF n = C)) (w : World) (hb : Below W.heap.size W w) :
    Calls Try.prog 26 #[.int .i64 n] w fun e w' => e = .returned (.int .i64 C) ∧ Below W.heap.size W w' := by
  have := tsinB n w hb
  rwa [h.out] at this
theorem tm (n : Int) : -2048 < Int.tmod n 2048 ∧ Int.tmod n 2048 < 2048 := by
  rw [Int.tmod_eq_emod]; split <;> omega
theorem all_of (n m : Int) : ∃ A B C D E : Int, Hid (cosF n = A) ∧ Hid (cosF m = B) ∧ Hid (sinF n = C) ∧ Hid (sinF m = D) ∧ Hid (cosF (n + m) = E) ∧ -1152921504606846976 ≤ A * B ∧ A * B ≤ 1152921504606846976 ∧ -1152921504606846976 ≤ C * D ∧ C * D ≤ 1152921504606846976 ∧ -1073741824 ≤ E ∧ E ≤ 1073741824 ∧ A * B - C * D - E * 67108864 ≤ 536870912 ∧ -536870912 ≤ A * B - C * D - E * 67108864 := by
  obtain ⟨x, y⟩ := mul_lim (cosF_bd n).1 (cosF_bd n).2 (cosF_bd m).1 (cosF_bd m).2
  obtain ⟨z, u⟩ := mul_lim (sinF_bd n).1 (sinF_bd n).2 (sinF_bd m).1 (sinF_bd m).2
  exact ⟨_, _, _, _, _, Lib.hid rfl, Lib.hid rfl, Lib.hid rfl, Lib.hid rfl, Lib.hid rfl, x, y, z, u, (cosF_bd _).1, (cosF_bd _).2, (sums n m).1, (sums n m).2⟩

theorem walk (n m : Int) (w : World) (_ : (Lit.int .i64 n).wf = true) (_ : (Lit.int .i64 m).wf = true) :
    Calls Try.prog 14 #[.int .i64 n, .int .i64 m] w fun e w' => e = .returned (.bool true) ∧ Below w.heap.size w w' := by
  obtain ⟨n0, n1⟩ := tm n
  obtain ⟨m0, m1⟩ := tm m
  obtain ⟨A, B, C, D, E, HA, HB, HC, HD, HE, x1, x2, x3, x4, x5, x6, x7, x8⟩ := all_of (Int.tmod n 2048) (Int.tmod m 2048)
  go_enter Try.func14, Try.ntmps14
  go_wp2_with (first | (go_at_call 24; refine (talive _).mono ?_; rintro e w' ⟨rfl, hb⟩) | (go_at_call 25; ((with_reducible refine (cosH (W := w) HA _ (by assumption)).mono ?_); rintro e w' ⟨rfl, hb⟩)) | (go_at_call 25; ((with_reducible refine (cosH (W := w) HB _ (by assumption)).mono ?_); rintro e w' ⟨rfl, hb⟩)) | (go_at_call 25; ((with_reducible refine (cosH (W := w) HE _ (by assumption)).mono ?_); rintro e w' ⟨rfl, hb⟩)) | (go_at_call 26; ((with_reducible refine (sinH (W := w) HC _ (by assumption)).mono ?_); rintro e w' ⟨rfl, hb⟩)) | (go_at_call 26; ((with_reducible refine (sinH (W := w) HD _ (by assumption)).mono ?_); rintro e w' ⟨rfl, hb⟩)))
  go_ret
  exact ⟨rfl, by assumption⟩

theorem own : ownKnob Try.prog.godebug = none := by kernel_rfl
set_option linter.unusedVariables false
set_option maxRecDepth 100000 in
theorem lifted (os : Os) (started : os.Started) (H : Type) (enc : TypeId × Value → H) :
    ReturnsInHanded {} Try.checked os 14 .any (Rows.trigSumsSpec.pre6 enc Try.prog Try.f14 Rows.trigSumsRow.domain false) (Rows.trigSumsSpec.post enc Try.prog Try.f14 false true false false) := by
  refine returnsInHanded_of_change (C := Try.checked) own started (by kernel_rfl) Try.func14
    (ChangeSpec.witness6 (enc := enc) (C := Try.checked) false ⟨#[], #[.int .i64 0, .int .i64 0], []⟩ 8 (by kernel_rfl) (by kernel_rfl) (by kernel_rfl) (by kernel_rfl)) ?_
  intro W base args ds gs before hval0 hW hcnd _
  have hval : ∀ (j : Nat) t v, Try.f14.params[j]? = some t → args[j]? = some v → Value.okWide Try.prog W .any base t v := hval0
  have hW' := hW
  obtain ⟨p, q, hA0, hV, rfl, hfz, hnd⟩ := hW
  have hA : DataW.TrodAll enc Try.prog W 0 (fun _ => true) true Try.f14.params.toList args.toList ds p := hA0
  rw [Try.params14] at hA hval
  obtain ⟨v0, vs0, d0, ds0, p0, q0, hargs, rfl, rfl, h0, r0⟩ := trodAll_cons hA
  obtain ⟨v1, vs1, d1, ds1, p1, q1, rfl, rfl, rfl, h1, r1⟩ := trodAll_cons r0
  obtain ⟨rfl, rfl, rfl⟩ := trodAll_nil r1
  obtain rfl : args = #[v0, v1] := by cases args; simp_all
  obtain ⟨rfl, rfl⟩ := trodVars_none hV
  obtain ⟨a0, rfl, rfl, rfl, w0⟩ := open_int Try.underlying3 (hval 0 3 v0 rfl rfl) h0
  obtain ⟨a1, rfl, rfl, rfl, w1⟩ := open_int Try.underlying3 (hval 1 3 v1 rfl rfl) h1
  clear hA0 hval0
  simp only [List.append_nil] at hW'
  refine (walk a0 a1 W w0 w1).mono fun e W' ⟨he, bel⟩ => ?_
  subst he
  exact ⟨_, rfl, _, _, _, [], _, [], hW', trodAll_mk1 (shut_bool Try.underlying4 _), (trodAll_cons_mk (shut_int Try.underlying3 w0) (trodAll_cons_mk (shut_int Try.underlying3 w1) trodAll_mk0)), rfl, bel.frame _, fun h => by cases h⟩

theorem over : Rows.trigSumsRow.holds Try.pinned (OpenSpec.ofChange Rows.trigSumsSpec) :=
  OpenClaim.holds_of_wide 14 Try.f14 rfl rfl rfl rfl rfl rfl rfl ⟨rfl, rfl, rfl, rfl, rfl⟩ rfl rfl rfl rfl rfl (by kernel_rfl) Try.func14 (by kernel_rfl)
    (of_decide_eq_true (by kernel_rfl)) (by unfold Func.isWrapper; first | (rw [if_pos (by decide +kernel)]; kernel_rfl) | (rw [if_neg (by decide +kernel)]; exact ⟨rfl, rfl⟩))
    (fun os started H enc _ => lifted os started H enc)

theorem proved : Rows.TrigSumsSaid := over
end Go.Proofs.Ytiaacdkfknailaa.trigSums

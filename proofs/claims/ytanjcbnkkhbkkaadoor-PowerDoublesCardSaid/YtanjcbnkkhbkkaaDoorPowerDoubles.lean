/- Four steps more double a line, to 1, as long as it is not kept; and the line of 8 times a number is 16 times its own, to 16 and a 4,096th part, and more. PowerDoubles returns true, whatever the number and the step, the memory and the schedule; the variable that the row lists is tied to the program's text. No condition. -/
import Derived.Test.YtanjcbnkkhbkkaaDoorPwK
import Derived.Test.YtanjcbnkkhbkkaaDoorCards
import Derived.Test.YtanjcbnkkhbkkaaDoorTie
import Derived.WalkKit
import Derived.ProofKit
import Derived.OpenShut
import Derived.Deep.DeepHandedRow
import Derived.Lib.LaidTab
import Derived.Lib.Hide
namespace Go.Proofs.YtanjcbnkkhbkkaaDoor.powerDoubles
open Go Go.Ev Go.ChangeShapes Go.WideShapes Go.ChangeAt Go.RowKit Go.Proofs.YtanjcbnkkhbkkaaDoor.Fx

theorem wf64 {s : Int} (h : (Lit.int .i64 s).wf = true) : -9223372036854775808 ≤ s ∧ s ≤ 9223372036854775807 := by
  simp [Lit.wf] at h
  have e : IntKind.i64.min = -9223372036854775808 := rfl
  have e2 : IntKind.i64.max = 9223372036854775807 := rfl
  omega
theorem fa0 (a : Int) : 0 ≤ fa a 0 ∧ fa (-a) 0 = fa a 0 ∧ (0 ≤ a → fa a 0 = a) := by unfold fa; omega
theorem dbl {q s : Int} (s0 : 0 ≤ s) (s1 : s ≤ 251) (h0 : -8191 ≤ q) (h1 : q ≤ 8191) (h : fa (LN q (s + 4)) 0 < 268435455) : -1 ≤ LN q (s + 4) - 2 * LN q s ∧ LN q (s + 4) - 2 * LN q s ≤ 1 := by
  unfold LN at *
  by_cases c : q < 0
  · rw [if_pos c] at h
    rw [if_pos c, if_pos c]
    have b := ln_bd (q := -q) (s := s + 4) (by omega) (by omega)
    have := ln_four (q := -q) s0 s1 (by omega) (by unfold fa at h; omega)
    omega
  · rw [if_neg c] at h
    rw [if_neg c, if_neg c]
    have b := ln_bd (q := q) (s := s + 4) (by omega) (by omega)
    exact ln_four s0 s1 (by omega) (by unfold fa at h; omega)
theorem eight_pos {q s : Int} (s0 : 0 ≤ s) (h0 : 1 ≤ q) (h1 : 8 * q ≤ 8191) (h : ln (8 * q) s ≠ 268435455) : fa (ln (8 * q) s) (16 * ln q s) ≤ 16 + ln (8 * q) s / 4096 + ln (8 * q) s / q / 1024 := by
  have b := ln_bd (q := 8 * q) (s := s) s0 (by omega)
  have g : 0 ≤ ln (8 * q) s / q / 1024 := Int.ediv_nonneg (Int.ediv_nonneg b.1 (by omega)) (by decide)
  have := ln_eight (q := q) (s := s) (f := ln (8 * q) s / 4096) (g := ln (8 * q) s / q / 1024) s0 h0 h1 (by omega) (by omega) g
  unfold fa
  omega
theorem eight {q s : Int} (s0 : 0 ≤ s) (hq : q ≠ 0) (h0 : -8191 ≤ 8 * q) (h1 : 8 * q ≤ 8191) (h : fa (LN (8 * q) s) 0 ≠ 268435455) : fa (LN (8 * q) s) (16 * LN q s) ≤ 16 + fa (LN (8 * q) s) 0 / 4096 + fa (LN (8 * q) s) 0 / fa q 0 / 1024 := by
  by_cases c : q < 0
  · have e := LN_neg (q := -q) s0
    have e8 := LN_neg (q := 8 * -q) s0
    rw [Int.neg_neg, LN_pos (q := -q) (by omega)] at e
    rw [show -(8 * -q) = 8 * q by omega, LN_pos (q := 8 * -q) (by omega)] at e8
    rw [e8, (fa0 _).2.1] at h
    rw [e8, e, (fa0 _).2.1, show fa q 0 = -q by unfold fa; omega]
    have b := ln_bd (q := 8 * -q) (s := s) s0 (by omega)
    rw [(fa0 _).2.2 b.1] at h ⊢
    have := eight_pos (q := -q) s0 (by omega) (by omega) h
    have z : fa (-ln (8 * -q) s) (16 * -ln (-q) s) = fa (ln (8 * -q) s) (16 * ln (-q) s) := by unfold fa; omega
    rw [z]
    exact this
  · rw [LN_pos (q := 8 * q) (by omega)] at h
    rw [LN_pos (q := 8 * q) (by omega), LN_pos (q := q) (by omega), show fa q 0 = q by unfold fa; omega]
    have b := ln_bd (q := 8 * q) (s := s) s0 (by omega)
    rw [(fa0 _).2.2 b.1] at h ⊢
    exact eight_pos s0 (by omega) h1 h
set_option maxHeartbeats 8000000 in
theorem main' (q s : Int) (w : World) (hq : Qs w) (hs0 : -9223372036854775808 ≤ s) (hs1 : s ≤ 9223372036854775807) : Calls Tryd.prog 6 #[.int .i64 q, .int .i64 s] w fun e w' => e = .returned (.bool true) ∧ Kp w w' := by
  have hk := Kp.refl hq
  have H0 := Lib.hid (fun w1 (k : Kp w w1) => alive_k k)
  have H1 := Lib.hid (fun w1 (k : Kp w w1) => line_k q s k)
  have H2 := Lib.hid (fun t w1 (k : Kp w w1) => line_k q t k)
  by_cases c0 : q < -8191
  · obtain ⟨e1, e2⟩ := FL_bad (q := q) (s := s) (by unfold badL; omega)
    rw [e1, e2] at H1
    go_enter Tryd.func6, Tryd.ntmps6
    go_wp2_with (first | (go_at_call 21; ((with_reducible refine (H0.out _ ‹_›).mono ?_); rintro e w' ⟨rfl, hk⟩)) | (go_at_call 17; ((with_reducible refine (H1.out _ ‹_›).mono ?_); rintro e w' ⟨rfl, hk⟩)) | (go_at_call 17; ((with_reducible refine (H2.out _ _ ‹_›).mono ?_); rintro e w' ⟨rfl, hk⟩)))
    all_goals
      go_ret
      exact ⟨rfl, ‹_›⟩
  by_cases c1 : 8191 < q
  · obtain ⟨e1, e2⟩ := FL_bad (q := q) (s := s) (by unfold badL; omega)
    rw [e1, e2] at H1
    go_enter Tryd.func6, Tryd.ntmps6
    go_wp2_with (first | (go_at_call 21; ((with_reducible refine (H0.out _ ‹_›).mono ?_); rintro e w' ⟨rfl, hk⟩)) | (go_at_call 17; ((with_reducible refine (H1.out _ ‹_›).mono ?_); rintro e w' ⟨rfl, hk⟩)) | (go_at_call 17; ((with_reducible refine (H2.out _ _ ‹_›).mono ?_); rintro e w' ⟨rfl, hk⟩)))
    all_goals
      go_ret
      exact ⟨rfl, ‹_›⟩
  by_cases c2 : s < 0
  · obtain ⟨e1, e2⟩ := FL_bad (q := q) (s := s) (by unfold badL; omega)
    rw [e1, e2] at H1
    go_enter Tryd.func6, Tryd.ntmps6
    go_wp2_with (first | (go_at_call 21; ((with_reducible refine (H0.out _ ‹_›).mono ?_); rintro e w' ⟨rfl, hk⟩)) | (go_at_call 17; ((with_reducible refine (H1.out _ ‹_›).mono ?_); rintro e w' ⟨rfl, hk⟩)) | (go_at_call 17; ((with_reducible refine (H2.out _ _ ‹_›).mono ?_); rintro e w' ⟨rfl, hk⟩)))
    all_goals
      go_ret
      exact ⟨rfl, ‹_›⟩
  by_cases c3 : 255 < s
  · obtain ⟨e1, e2⟩ := FL_bad (q := q) (s := s) (by unfold badL; omega)
    rw [e1, e2] at H1
    go_enter Tryd.func6, Tryd.ntmps6
    go_wp2_with (first | (go_at_call 21; ((with_reducible refine (H0.out _ ‹_›).mono ?_); rintro e w' ⟨rfl, hk⟩)) | (go_at_call 17; ((with_reducible refine (H1.out _ ‹_›).mono ?_); rintro e w' ⟨rfl, hk⟩)) | (go_at_call 17; ((with_reducible refine (H2.out _ _ ‹_›).mono ?_); rintro e w' ⟨rfl, hk⟩)))
    all_goals
      go_ret
      exact ⟨rfl, ‹_›⟩
  have s0 : 0 ≤ s := by omega
  obtain ⟨e1, e2⟩ := FL_ok (q := q) (s := s) (by unfold badL; omega)
  rw [e1, e2] at H1
  clear e1 e2 hq
  have H3 := Lib.hid (H2.out (s + 4))
  by_cases hs4 : 251 < s
  · obtain ⟨e1, e2⟩ := FL_bad (q := q) (s := s + 4) (by unfold badL; omega)
    rw [e1, e2] at H3
    clear e1 e2 H2
    generalize LN q s = A at *
    go_enter Tryd.func6, Tryd.ntmps6
    go_wp2_with (first | (go_at_call 21; ((with_reducible refine (H0.out _ ‹_›).mono ?_); rintro e w' ⟨rfl, hk⟩)) | (go_at_call 17; ((with_reducible refine (H1.out _ ‹_›).mono ?_); rintro e w' ⟨rfl, hk⟩)) | (go_at_call 17; ((with_reducible refine (H3.out _ ‹_›).mono ?_); rintro e w' ⟨rfl, hk⟩)))
    go_ret
    exact ⟨rfl, ‹_›⟩
  obtain ⟨e1, e2⟩ := FL_ok (q := q) (s := s + 4) (by unfold badL; omega)
  rw [e1, e2] at H3
  clear e1 e2 H2
  have hd := dbl (q := q) s0 (by omega) (by omega) (by omega)
  have bA := LN_bd (q := q) s0
  have bB := LN_bd (q := q) (s := s + 4) (by omega)
  have H4 := Lib.hid (fun w1 (k : Kp w w1) => line_k (8 * q) s k)
  by_cases hb8 : 8 * q < -8191 ∨ 8191 < 8 * q
  · obtain ⟨e1, e2⟩ := FL_bad (q := 8 * q) (s := s) (by unfold badL; omega)
    rw [e1, e2] at H4
    clear e1 e2 hb8
    generalize LN q s = A at *
    generalize LN q (s + 4) = C at *
    obtain ⟨bA0, bA1⟩ := bA
    obtain ⟨bB0, bB1⟩ := bB
    have HF1 := Lib.hid (fun w1 (k : Kp w w1) => kp_same k (far_ok C 0 w1 (by omega) (by omega) (by omega) (by omega)))
    generalize fa C 0 = X at *
    by_cases hx : X < 268435455
    · obtain ⟨d0, d1⟩ := hd hx
      clear hd
      go_enter Tryd.func6, Tryd.ntmps6
      go_wp2_with (first | (go_at_call 21; ((with_reducible refine (H0.out _ ‹_›).mono ?_); rintro e w' ⟨rfl, hk⟩)) | (go_at_call 17; ((with_reducible refine (H1.out _ ‹_›).mono ?_); rintro e w' ⟨rfl, hk⟩)) | (go_at_call 17; ((with_reducible refine (H3.out _ ‹_›).mono ?_); rintro e w' ⟨rfl, hk⟩)) | (go_at_call 17; ((with_reducible refine (H4.out _ ‹_›).mono ?_); rintro e w' ⟨rfl, hk⟩)) | (go_at_call 22; ((with_reducible refine (HF1.out _ ‹_›).mono ?_); rintro e w' ⟨rfl, hk⟩)))
      go_ret
      exact ⟨rfl, ‹_›⟩
    · clear hd
      go_enter Tryd.func6, Tryd.ntmps6
      go_wp2_with (first | (go_at_call 21; ((with_reducible refine (H0.out _ ‹_›).mono ?_); rintro e w' ⟨rfl, hk⟩)) | (go_at_call 17; ((with_reducible refine (H1.out _ ‹_›).mono ?_); rintro e w' ⟨rfl, hk⟩)) | (go_at_call 17; ((with_reducible refine (H3.out _ ‹_›).mono ?_); rintro e w' ⟨rfl, hk⟩)) | (go_at_call 17; ((with_reducible refine (H4.out _ ‹_›).mono ?_); rintro e w' ⟨rfl, hk⟩)) | (go_at_call 22; ((with_reducible refine (HF1.out _ ‹_›).mono ?_); rintro e w' ⟨rfl, hk⟩)))
      go_ret
      exact ⟨rfl, ‹_›⟩
  obtain ⟨e1, e2⟩ := FL_ok (q := 8 * q) (s := s) (by unfold badL; omega)
  rw [e1, e2] at H4
  clear e1 e2
  have bC := LN_bd (q := 8 * q) s0
  have h8 := fun h => eight (q := q) s0 h (by omega) (by omega)
  have hz : q = 0 → LN (8 * q) s = 0 ∧ LN q s = 0 := fun h => by subst h; rw [LN_pos (by omega), LN_pos (by omega)]; exact ⟨ln_zero s0, ln_zero s0⟩
  generalize LN q s = A at *
  generalize LN q (s + 4) = C at *
  generalize LN (8 * q) s = G at *
  obtain ⟨bA0, bA1⟩ := bA
  obtain ⟨bB0, bB1⟩ := bB
  obtain ⟨bC0, bC1⟩ := bC
  have HF1 := Lib.hid (fun w1 (k : Kp w w1) => kp_same k (far_ok C 0 w1 (by omega) (by omega) (by omega) (by omega)))
  have HF2 := Lib.hid (fun w1 (k : Kp w w1) => kp_same k (far_ok G 0 w1 (by omega) (by omega) (by omega) (by omega)))
  have HF3 := Lib.hid (fun w1 (k : Kp w w1) => kp_same k (far_ok G (16 * A) w1 (by omega) (by omega) (by omega) (by omega)))
  have HF4 := Lib.hid (fun w1 (k : Kp w w1) => kp_same k (far_ok q 0 w1 (by omega) (by omega) (by omega) (by omega)))
  by_cases hq0 : q = 0
  · obtain ⟨z1, z2⟩ := hz hq0
    have z3 : fa q 0 = 0 := by subst hq0; rfl
    have z4 : fa G 0 = 0 := by subst z1; rfl
    have z5 : fa G (16 * A) = 0 := by subst z1 z2; rfl
    rw [z3] at HF4
    rw [z4] at HF2
    rw [z5] at HF3
    clear h8 z1 z2 z3 z4 z5 hz hq0
    generalize fa C 0 = X at *
    by_cases hx : X < 268435455
    · obtain ⟨d0, d1⟩ := hd hx
      clear hd
      go_enter Tryd.func6, Tryd.ntmps6
      go_wp2_with (first | (go_at_call 21; ((with_reducible refine (H0.out _ ‹_›).mono ?_); rintro e w' ⟨rfl, hk⟩)) | (go_at_call 17; ((with_reducible refine (H1.out _ ‹_›).mono ?_); rintro e w' ⟨rfl, hk⟩)) | (go_at_call 17; ((with_reducible refine (H3.out _ ‹_›).mono ?_); rintro e w' ⟨rfl, hk⟩)) | (go_at_call 17; ((with_reducible refine (H4.out _ ‹_›).mono ?_); rintro e w' ⟨rfl, hk⟩)) | (go_at_call 22; ((with_reducible refine (HF1.out _ ‹_›).mono ?_); rintro e w' ⟨rfl, hk⟩)) | (go_at_call 22; ((with_reducible refine (HF2.out _ ‹_›).mono ?_); rintro e w' ⟨rfl, hk⟩)) | (go_at_call 22; ((with_reducible refine (HF3.out _ ‹_›).mono ?_); rintro e w' ⟨rfl, hk⟩)) | (go_at_call 22; ((with_reducible refine (HF4.out _ ‹_›).mono ?_); rintro e w' ⟨rfl, hk⟩)))
      all_goals
        go_ret
        exact ⟨rfl, ‹_›⟩
    · clear hd
      go_enter Tryd.func6, Tryd.ntmps6
      go_wp2_with (first | (go_at_call 21; ((with_reducible refine (H0.out _ ‹_›).mono ?_); rintro e w' ⟨rfl, hk⟩)) | (go_at_call 17; ((with_reducible refine (H1.out _ ‹_›).mono ?_); rintro e w' ⟨rfl, hk⟩)) | (go_at_call 17; ((with_reducible refine (H3.out _ ‹_›).mono ?_); rintro e w' ⟨rfl, hk⟩)) | (go_at_call 17; ((with_reducible refine (H4.out _ ‹_›).mono ?_); rintro e w' ⟨rfl, hk⟩)) | (go_at_call 22; ((with_reducible refine (HF1.out _ ‹_›).mono ?_); rintro e w' ⟨rfl, hk⟩)) | (go_at_call 22; ((with_reducible refine (HF2.out _ ‹_›).mono ?_); rintro e w' ⟨rfl, hk⟩)) | (go_at_call 22; ((with_reducible refine (HF3.out _ ‹_›).mono ?_); rintro e w' ⟨rfl, hk⟩)) | (go_at_call 22; ((with_reducible refine (HF4.out _ ‹_›).mono ?_); rintro e w' ⟨rfl, hk⟩)))
      all_goals
        go_ret
        exact ⟨rfl, ‹_›⟩
  have h9 := h8 hq0
  have m1 : 1 ≤ fa q 0 := by unfold fa; omega
  have x0 := (fa0 G).1
  have x1 : fa G 0 ≤ 268435455 := by unfold fa; omega
  clear h8 hz
  generalize fa C 0 = X at *
  generalize fa G 0 = Y at *
  generalize fa q 0 = M at *
  generalize fa G (16 * A) = Z at *
  by_cases hy : Y = 268435455
  · clear h9
    by_cases hx : X < 268435455
    · obtain ⟨d0, d1⟩ := hd hx
      clear hd
      go_enter Tryd.func6, Tryd.ntmps6
      go_wp2_with (first | (go_at_call 21; ((with_reducible refine (H0.out _ ‹_›).mono ?_); rintro e w' ⟨rfl, hk⟩)) | (go_at_call 17; ((with_reducible refine (H1.out _ ‹_›).mono ?_); rintro e w' ⟨rfl, hk⟩)) | (go_at_call 17; ((with_reducible refine (H3.out _ ‹_›).mono ?_); rintro e w' ⟨rfl, hk⟩)) | (go_at_call 17; ((with_reducible refine (H4.out _ ‹_›).mono ?_); rintro e w' ⟨rfl, hk⟩)) | (go_at_call 22; ((with_reducible refine (HF1.out _ ‹_›).mono ?_); rintro e w' ⟨rfl, hk⟩)) | (go_at_call 22; ((with_reducible refine (HF2.out _ ‹_›).mono ?_); rintro e w' ⟨rfl, hk⟩)) | (go_at_call 22; ((with_reducible refine (HF3.out _ ‹_›).mono ?_); rintro e w' ⟨rfl, hk⟩)) | (go_at_call 22; ((with_reducible refine (HF4.out _ ‹_›).mono ?_); rintro e w' ⟨rfl, hk⟩)))
      all_goals
        go_ret
        exact ⟨rfl, ‹_›⟩
    · clear hd
      go_enter Tryd.func6, Tryd.ntmps6
      go_wp2_with (first | (go_at_call 21; ((with_reducible refine (H0.out _ ‹_›).mono ?_); rintro e w' ⟨rfl, hk⟩)) | (go_at_call 17; ((with_reducible refine (H1.out _ ‹_›).mono ?_); rintro e w' ⟨rfl, hk⟩)) | (go_at_call 17; ((with_reducible refine (H3.out _ ‹_›).mono ?_); rintro e w' ⟨rfl, hk⟩)) | (go_at_call 17; ((with_reducible refine (H4.out _ ‹_›).mono ?_); rintro e w' ⟨rfl, hk⟩)) | (go_at_call 22; ((with_reducible refine (HF1.out _ ‹_›).mono ?_); rintro e w' ⟨rfl, hk⟩)) | (go_at_call 22; ((with_reducible refine (HF2.out _ ‹_›).mono ?_); rintro e w' ⟨rfl, hk⟩)) | (go_at_call 22; ((with_reducible refine (HF3.out _ ‹_›).mono ?_); rintro e w' ⟨rfl, hk⟩)) | (go_at_call 22; ((with_reducible refine (HF4.out _ ‹_›).mono ?_); rintro e w' ⟨rfl, hk⟩)))
      all_goals
        go_ret
        exact ⟨rfl, ‹_›⟩
  have h10 := h9 hy
  clear h9
  have y0 : 0 ≤ Y / M := Int.ediv_nonneg x0 (by omega)
  have y1 : Y / M ≤ Y := Int.ediv_le_self _ x0
  have m2 : ¬ M < 1 := by omega
  generalize hu : Y / M = U at *
  have t1 : Int.tdiv Y M = U := by rw [Int.tdiv_eq_ediv_of_nonneg x0]; exact hu
  by_cases hx : X < 268435455
  · obtain ⟨d0, d1⟩ := hd hx
    clear hd
    go_enter Tryd.func6, Tryd.ntmps6
    go_wp2_with (first | (go_at_call 21; ((with_reducible refine (H0.out _ ‹_›).mono ?_); rintro e w' ⟨rfl, hk⟩)) | (go_at_call 17; ((with_reducible refine (H1.out _ ‹_›).mono ?_); rintro e w' ⟨rfl, hk⟩)) | (go_at_call 17; ((with_reducible refine (H3.out _ ‹_›).mono ?_); rintro e w' ⟨rfl, hk⟩)) | (go_at_call 17; ((with_reducible refine (H4.out _ ‹_›).mono ?_); rintro e w' ⟨rfl, hk⟩)) | (go_at_call 22; ((with_reducible refine (HF1.out _ ‹_›).mono ?_); rintro e w' ⟨rfl, hk⟩)) | (go_at_call 22; ((with_reducible refine (HF2.out _ ‹_›).mono ?_); rintro e w' ⟨rfl, hk⟩)) | (go_at_call 22; ((with_reducible refine (HF3.out _ ‹_›).mono ?_); rintro e w' ⟨rfl, hk⟩)) | (go_at_call 22; ((with_reducible refine (HF4.out _ ‹_›).mono ?_); rintro e w' ⟨rfl, hk⟩)))
    all_goals
      go_ret
      exact ⟨rfl, ‹_›⟩
  · clear hd
    go_enter Tryd.func6, Tryd.ntmps6
    go_wp2_with (first | (go_at_call 21; ((with_reducible refine (H0.out _ ‹_›).mono ?_); rintro e w' ⟨rfl, hk⟩)) | (go_at_call 17; ((with_reducible refine (H1.out _ ‹_›).mono ?_); rintro e w' ⟨rfl, hk⟩)) | (go_at_call 17; ((with_reducible refine (H3.out _ ‹_›).mono ?_); rintro e w' ⟨rfl, hk⟩)) | (go_at_call 17; ((with_reducible refine (H4.out _ ‹_›).mono ?_); rintro e w' ⟨rfl, hk⟩)) | (go_at_call 22; ((with_reducible refine (HF1.out _ ‹_›).mono ?_); rintro e w' ⟨rfl, hk⟩)) | (go_at_call 22; ((with_reducible refine (HF2.out _ ‹_›).mono ?_); rintro e w' ⟨rfl, hk⟩)) | (go_at_call 22; ((with_reducible refine (HF3.out _ ‹_›).mono ?_); rintro e w' ⟨rfl, hk⟩)) | (go_at_call 22; ((with_reducible refine (HF4.out _ ‹_›).mono ?_); rintro e w' ⟨rfl, hk⟩)))
    all_goals
      go_ret
      exact ⟨rfl, ‹_›⟩
theorem main (q s : Int) (w : World) (hq : Qs w) (h : (Lit.int .i64 s).wf = true) : Calls Tryd.prog 6 #[.int .i64 q, .int .i64 s] w fun e w' => e = .returned (.bool true) ∧ Kp w w' := main' q s w hq (wf64 h).1 (wf64 h).2

theorem named : Named Tryd.prog Rows.powerDoublesRow.laid [(0, 80)] := ⟨by kernel_rfl, by kernel_rfl, trivial⟩
theorem flat1 : flats E Rows.powerDoublesRow.laid [(0, 80)] = some [(0, [.int .i64 1073741824, .int .i64 1276901417, .int .i64 1518500250, .int .i64 1805811301])] := by kernel_rfl
theorem walk (a0 : Int) (a1 : Int) (w : World) (_ : (Lit.int .i64 a0).wf = true) (h1 : (Lit.int .i64 a1).wf = true) (hL : laidMetH Tryd.prog Rows.powerDoublesRow.laid w) :
    Calls Tryd.prog 6 #[.int .i64 a0, .int .i64 a1] w fun e w' => e = .returned (.bool true) ∧ Below w.heap.size w w' :=
  (main a0 a1 w (qs_of hL (by kernel_rfl) named flat1) h1).mono fun _ _ h => ⟨h.1, h.2.2⟩
noncomputable def laidWorld (os : Os) : World := lay E Rows.powerDoublesRow.laid [(0, 80)] (World.holding Tryd.prog os ⟨#[], #[.int .i64 0, .int .i64 0], []⟩)
theorem laid_os (os : Os) : (laidWorld os).os = os := by kernel_rfl
theorem own : ownKnob Tryd.prog.godebug = none := by kernel_rfl
set_option linter.unusedVariables false
theorem laid_met (os : Os) (args : Array Value) : laidMet Tryd.prog Rows.powerDoublesRow.laid ((laidWorld os).forCall (fun _ _ => 0) ⟨#[], args, []⟩).memory := laidMet_of_run' 8 (by kernel_rfl) (by kernel_rfl)
set_option maxRecDepth 100000 in
theorem lifted (os : Os) (started : os.Started) (H : Type) (enc : TypeId × Value → H) (F : Stop.Interp) :
    ReturnsInHanded {} Tryd.checked os 6 .any ((OpenSpec.ofChange Rows.powerDoublesSpec).preRow enc Tryd.prog Tryd.f6 Rows.powerDoublesRow.domain false Rows.powerDoublesRow.laid) (((OpenSpec.ofChange Rows.powerDoublesSpec).at F).post enc Tryd.prog Tryd.f6 false true false false) := by
  refine returnsInHanded_of_row (C := Tryd.checked) (s := OpenSpec.ofChange Rows.powerDoublesSpec) own started (by kernel_rfl) Tryd.func6
    (witness_row_at (enc := enc) (C := Tryd.checked) false (laidWorld os) #[.int .i64 0, .int .i64 0] (laid_os os) (by kernel_rfl) (by kernel_rfl) (by kernel_rfl)
      (OpenSpec.preRow_of_cond 8 (show DataW.whole enc Tryd.prog ((laidWorld os).forCall (fun _ _ => 0) ⟨#[], #[.int .i64 0, .int .i64 0], []⟩).memory Tryd.f6.params.toList Rows.powerDoublesSpec.vars false #[.int .i64 0, .int .i64 0].toList 8 = some ([.lit (.int .i64 0), .lit (.int .i64 0)], [], []) by kernel_rfl) (by kernel_rfl) (fun k hk => by cases hk) (by kernel_rfl) (laid_met os _))) ?_
  intro W base args ds gs before hval0 hW _ _ _ hL _ _
  have hval : ∀ (j : Nat) t v, Tryd.f6.params[j]? = some t → args[j]? = some v → Value.okWide Tryd.prog W .any base t v := hval0
  have hW' := hW
  obtain ⟨p, q, hA0, hV, rfl, hfz, hnd⟩ := hW
  have hA : DataW.TrodAll enc Tryd.prog W 0 (fun _ => true) true Tryd.f6.params.toList args.toList ds p := hA0
  rw [Tryd.params6] at hA hval
  obtain ⟨v0, vs0, d0, ds0, p0, q0, hargs, rfl, rfl, h0, r0⟩ := trodAll_cons hA
  obtain ⟨v1, vs1, d1, ds1, p1, q1, rfl, rfl, rfl, h1, r1⟩ := trodAll_cons r0
  obtain ⟨rfl, rfl, rfl⟩ := trodAll_nil r1
  obtain rfl : args = #[v0, v1] := by cases args; simp_all
  obtain ⟨rfl, rfl⟩ := trodVars_none hV
  obtain ⟨a0, rfl, rfl, rfl, w0⟩ := open_int Tryd.underlying3 (hval 0 3 v0 rfl rfl) h0
  obtain ⟨a1, rfl, rfl, rfl, w1⟩ := open_int Tryd.underlying3 (hval 1 3 v1 rfl rfl) h1
  clear hA0 hval0
  simp only [List.append_nil] at hW'
  refine (walk a0 a1 W w0 w1 hL).mono fun e W' ⟨he, bel⟩ => ?_
  subst he
  exact ⟨_, rfl, _, _, _, [], _, [], hW', trodAll_mk1 (shut_bool Tryd.underlying4 _), (trodAll_cons_mk (shut_int Tryd.underlying3 w0) (trodAll_cons_mk (shut_int Tryd.underlying3 w1) trodAll_mk0)), rfl, bel.frame _, fun h => by cases h⟩

theorem said : Rows.PowerDoublesSaid :=
  OpenClaim.holds_of_cond 6 Tryd.f6 rfl rfl rfl rfl rfl rfl rfl ⟨rfl, rfl, rfl, rfl, rfl⟩ rfl rfl rfl rfl rfl (by kernel_rfl) Tryd.func6 (by kernel_rfl)
    (of_decide_eq_true (by kernel_rfl)) (by unfold Func.isWrapper; first | (rw [if_pos (by decide +kernel)]; kernel_rfl) | (rw [if_neg (by decide +kernel)]; exact ⟨rfl, rfl⟩))
    (fun os started H enc _ F => by rw [OpenClaim.pre_eq_preRow]; exact lifted os started H enc F)

theorem plain (f : FuncId) (fn : Func) (hf : Tryd.pinned.checked.prog.funcNamed "reedpipe/reedpipelaw07.PowerDoubles" = some f) (hfn : Tryd.pinned.checked.prog.funcs[f]? = some fn) :
    false = Tryd.pinned.checked.prog.looks [] ∧ ∀ (j : Nat) t, fn.params[j]? = some t → Tryd.pinned.checked.prog.wantsStandIn t = false := by
  obtain rfl : f = 6 := Option.some.inj ((show Tryd.prog.funcNamed "reedpipe/reedpipelaw07.PowerDoubles" = some 6 by kernel_rfl).symm.trans hf) |>.symm
  obtain rfl : fn = Tryd.f6 := (Option.some.inj (Tryd.func6.symm.trans hfn)).symm
  refine ⟨by kernel_rfl, fun j t ht => ?_⟩
  rw [Tryd.params6] at ht
  have hm : t ∈ [3, 3] := by simpa using Array.mem_of_getElem? ht
  have hall : ([3, 3].all fun u => !Tryd.prog.wantsStandIn u) = true := by kernel_rfl
  exact (show Tryd.prog.wantsStandIn t = false by simpa using List.all_eq_true.1 hall t hm)

theorem proved : Rows.PowerDoublesCardSaid :=
  Claim7.holds_tied_plain_at .later [] _ _ _ _ said (fun _ h => by cases h) (by kernel_rfl) (fun _ h => by cases h) powerDoubles_row_tie rfl ⟨rfl, rfl⟩ (by kernel_rfl) rfl plain (by kernel_rfl)

end Go.Proofs.YtanjcbnkkhbkkaaDoor.powerDoubles

/- What power's calls answer. -/
import Derived.Test.YtanjcbnkkhbkkaaDoorPwQ
import Derived.WalkKit
import Derived.Below
import Derived.Deep.QuietTactic
import Derived.BigQuiet
import Derived.ProofKit
import Derived.OpenShut
import Derived.Lib.Hide
namespace Go.Proofs.YtanjcbnkkhbkkaaDoor.Fx
open Go Go.ChangeShapes Go.WideShapes Go.ChangeAt Go.RowKit

theorem Four_ok (q : Int) (w : World) : Calls Tryd.prog 15 #[.int .i64 q] w fun e w' => e = .returned (.tuple #[.int .i64 (F4 q), .int .i64 (E4 q)]) ∧ w = w' := by
  by_cases c1 : q < 0
  · rw [show F4 q = 0 by unfold F4; rw [if_pos (.inl c1)], show E4 q = 2 by unfold E4; rw [if_pos (.inl c1)]]
    go_enter Tryd.func15, Tryd.ntmps15
    go_wp2
    go_ret2
    exact ⟨rfl, rfl⟩
  by_cases c2 : 8191 < q
  · rw [show F4 q = 0 by unfold F4; rw [if_pos (.inr c2)], show E4 q = 2 by unfold E4; rw [if_pos (.inr c2)]]
    go_enter Tryd.func15, Tryd.ntmps15
    go_wp2
    go_ret2
    exact ⟨rfl, rfl⟩
  rw [show F4 q = fo q by unfold F4; rw [if_neg (by omega)], show E4 q = 0 by unfold E4; rw [if_neg (by omega)]]
  have HF := Lib.hid (fun w => four_ok q w (by omega) (by omega))
  go_enter Tryd.func15, Tryd.ntmps15
  go_wp2_with (go_at_call 41; ((with_reducible refine (HF.out _).mono ?_); rintro e w' ⟨rfl, rfl⟩))
  go_ret2
  exact ⟨rfl, rfl⟩
theorem rFour_ok (q : Int) (w : World) : Calls Tryd.prog 16 #[.int .i64 q] w fun e w' => e = .returned (.tuple #[.int .i64 (F4 q), .int .i64 (E4 q)]) ∧ w = w' := by
  by_cases c1 : q < 0
  · rw [show F4 q = 0 by unfold F4; rw [if_pos (.inl c1)], show E4 q = 2 by unfold E4; rw [if_pos (.inl c1)]]
    go_enter Tryd.func16, Tryd.ntmps16
    go_wp2
    go_ret2
    exact ⟨rfl, rfl⟩
  by_cases c2 : 8191 < q
  · rw [show F4 q = 0 by unfold F4; rw [if_pos (.inr c2)], show E4 q = 2 by unfold E4; rw [if_pos (.inr c2)]]
    go_enter Tryd.func16, Tryd.ntmps16
    go_wp2
    go_ret2
    exact ⟨rfl, rfl⟩
  rw [show F4 q = fo q by unfold F4; rw [if_neg (by omega)], show E4 q = 0 by unfold E4; rw [if_neg (by omega)]]
  have HF := Lib.hid (fun w => power_ok q w (by omega) (by omega))
  go_enter Tryd.func16, Tryd.ntmps16
  go_wp2_with (go_at_call 42; ((with_reducible refine (HF.out _).mono ?_); rintro e w' ⟨rfl, rfl⟩))
  go_ret2
  exact ⟨rfl, rfl⟩
theorem FL_bad {q s : Int} (h : badL q s) : FL q s = 0 ∧ EL q s = 2 := by unfold FL EL; rw [if_pos h, if_pos h]; exact ⟨rfl, rfl⟩
theorem FL_ok {q s : Int} (h : ¬ badL q s) : FL q s = LN q s ∧ EL q s = 0 := by unfold FL EL; rw [if_neg h, if_neg h]; exact ⟨rfl, rfl⟩
theorem FQ_bad {q s : Int} (h : badQ q s) : FQ q s = 0 ∧ EQ q s = 2 := by unfold FQ EQ; rw [if_pos h, if_pos h]; exact ⟨rfl, rfl⟩
theorem FQ_ok {q s : Int} (h : ¬ badQ q s) : FQ q s = NQ q s ∧ EQ q s = 0 := by unfold FQ EQ; rw [if_neg h, if_neg h]; exact ⟨rfl, rfl⟩
theorem NQ_bd (x s : Int) : -8191 ≤ NQ x s ∧ NQ x s ≤ 8191 := nearS_bd (NQ_is x s)
theorem Line_ok (q s : Int) (w : World) (hq : Qs w) : Calls Tryd.prog 17 #[.int .i64 q, .int .i64 s] w fun e w' => e = .returned (.tuple #[.int .i64 (FL q s), .int .i64 (EL q s)]) ∧ ∃ m, w' = w.drewN m := by
  by_cases c0 : q < -8191
  · obtain ⟨e1, e2⟩ := FL_bad (q := q) (s := s) (by unfold badL; omega)
    rw [e1, e2]
    go_enter Tryd.func17, Tryd.ntmps17
    go_wp2
    go_ret2
    exact ⟨rfl, 0, rfl⟩
  by_cases c1 : 8191 < q
  · obtain ⟨e1, e2⟩ := FL_bad (q := q) (s := s) (by unfold badL; omega)
    rw [e1, e2]
    go_enter Tryd.func17, Tryd.ntmps17
    go_wp2
    go_ret2
    exact ⟨rfl, 0, rfl⟩
  by_cases c2 : s < 0
  · obtain ⟨e1, e2⟩ := FL_bad (q := q) (s := s) (by unfold badL; omega)
    rw [e1, e2]
    go_enter Tryd.func17, Tryd.ntmps17
    go_wp2
    go_ret2
    exact ⟨rfl, 0, rfl⟩
  by_cases c3 : 255 < s
  · obtain ⟨e1, e2⟩ := FL_bad (q := q) (s := s) (by unfold badL; omega)
    rw [e1, e2]
    go_enter Tryd.func17, Tryd.ntmps17
    go_wp2
    go_ret2
    exact ⟨rfl, 0, rfl⟩
  obtain ⟨e1, e2⟩ := FL_ok (q := q) (s := s) (by unfold badL; omega)
  rw [e1, e2]
  have HQ := Lib.hid hq
  clear hq e1 e2
  by_cases c : q < 0
  · have HF := Lib.hid (fun w hw => line_ok (-q) s w (by omega) (by omega) (by omega) (by omega) hw)
    have hb := ln_bd (q := -q) (s := s) (by omega) (by omega)
    unfold LN
    rw [if_pos c]
    generalize ln (-q) s = L at *
    go_enter Tryd.func17, Tryd.ntmps17
    go_wp2_with (go_at_call 43; ((with_reducible refine (HF.out _ HQ.out).mono ?_); rintro e w' ⟨rfl, m, rfl⟩))
    go_ret2
    exact ⟨rfl, _, rfl⟩
  · have HF := Lib.hid (fun w hw => line_ok q s w (by omega) (by omega) (by omega) (by omega) hw)
    have hb := ln_bd (q := q) (s := s) (by omega) (by omega)
    unfold LN
    rw [if_neg c]
    generalize ln q s = L at *
    go_enter Tryd.func17, Tryd.ntmps17
    go_wp2_with (go_at_call 43; ((with_reducible refine (HF.out _ HQ.out).mono ?_); rintro e w' ⟨rfl, m, rfl⟩))
    go_ret2
    exact ⟨rfl, _, rfl⟩
theorem rLine_ok (q s : Int) (w : World) : Calls Tryd.prog 18 #[.int .i64 q, .int .i64 s] w fun e w' => e = .returned (.tuple #[.int .i64 (FL q s), .int .i64 (EL q s)]) ∧ w = w' := by
  by_cases c0 : q < -8191
  · obtain ⟨e1, e2⟩ := FL_bad (q := q) (s := s) (by unfold badL; omega)
    rw [e1, e2]
    go_enter Tryd.func18, Tryd.ntmps18
    go_wp2
    go_ret2
    exact ⟨rfl, rfl⟩
  by_cases c1 : 8191 < q
  · obtain ⟨e1, e2⟩ := FL_bad (q := q) (s := s) (by unfold badL; omega)
    rw [e1, e2]
    go_enter Tryd.func18, Tryd.ntmps18
    go_wp2
    go_ret2
    exact ⟨rfl, rfl⟩
  by_cases c2 : s < 0
  · obtain ⟨e1, e2⟩ := FL_bad (q := q) (s := s) (by unfold badL; omega)
    rw [e1, e2]
    go_enter Tryd.func18, Tryd.ntmps18
    go_wp2
    go_ret2
    exact ⟨rfl, rfl⟩
  by_cases c3 : 255 < s
  · obtain ⟨e1, e2⟩ := FL_bad (q := q) (s := s) (by unfold badL; omega)
    rw [e1, e2]
    go_enter Tryd.func18, Tryd.ntmps18
    go_wp2
    go_ret2
    exact ⟨rfl, rfl⟩
  obtain ⟨e1, e2⟩ := FL_ok (q := q) (s := s) (by unfold badL; omega)
  rw [e1, e2]
  clear e1 e2
  have HF := Lib.hid (fun w => value_ok q s w (by omega) (by omega) (by omega) (by omega))
  go_enter Tryd.func18, Tryd.ntmps18
  go_wp2_with (go_at_call 44; ((with_reducible refine (HF.out _).mono ?_); rintro e w' ⟨rfl, rfl⟩))
  go_ret2
  exact ⟨rfl, rfl⟩
theorem Quant_ok (q s : Int) (w : World) (hq : Qs w) : Calls Tryd.prog 19 #[.int .i64 q, .int .i64 s] w fun e w' => e = .returned (.tuple #[.int .i64 (FQ q s), .int .i64 (EQ q s)]) ∧ Below w.heap.size w w' := by
  by_cases c0 : q < -268435455
  · obtain ⟨e1, e2⟩ := FQ_bad (q := q) (s := s) (by unfold badQ; omega)
    rw [e1, e2]
    go_enter Tryd.func19, Tryd.ntmps19
    go_wp2
    go_ret2
    exact ⟨rfl, Below.refl _ _⟩
  by_cases c1 : 268435455 < q
  · obtain ⟨e1, e2⟩ := FQ_bad (q := q) (s := s) (by unfold badQ; omega)
    rw [e1, e2]
    go_enter Tryd.func19, Tryd.ntmps19
    go_wp2
    go_ret2
    exact ⟨rfl, Below.refl _ _⟩
  by_cases c2 : s < 0
  · obtain ⟨e1, e2⟩ := FQ_bad (q := q) (s := s) (by unfold badQ; omega)
    rw [e1, e2]
    go_enter Tryd.func19, Tryd.ntmps19
    go_wp2
    go_ret2
    exact ⟨rfl, Below.refl _ _⟩
  by_cases c3 : 255 < s
  · obtain ⟨e1, e2⟩ := FQ_bad (q := q) (s := s) (by unfold badQ; omega)
    rw [e1, e2]
    go_enter Tryd.func19, Tryd.ntmps19
    go_wp2
    go_ret2
    exact ⟨rfl, Below.refl _ _⟩
  obtain ⟨e1, e2⟩ := FQ_ok (q := q) (s := s) (by unfold badQ; omega)
  rw [e1, e2]
  have HQ := Lib.hid hq
  clear hq e1 e2
  by_cases c : q < 0
  · have HF := Lib.hid (fun w hw => quant_pos (-q) s w (by omega) (by omega) (by omega) (by omega) hw)
    have hb := nq_is (-q) s
    have hb1 := hb.1
    have hb2 := hb.2.1
    clear hb
    unfold NQ
    rw [if_pos c]
    generalize nq (-q) s = L at *
    go_enter Tryd.func19, Tryd.ntmps19
    go_wp2_with (go_at_call 45; ((with_reducible refine (HF.out _ HQ.out).mono ?_); rintro e w' ⟨rfl, hb⟩))
    go_ret2
    exact ⟨rfl, hb⟩
  · have HF := Lib.hid (fun w hw => quant_pos q s w (by omega) (by omega) (by omega) (by omega) hw)
    unfold NQ
    rw [if_neg c]
    generalize nq q s = L at *
    go_enter Tryd.func19, Tryd.ntmps19
    go_wp2_with (go_at_call 45; ((with_reducible refine (HF.out _ HQ.out).mono ?_); rintro e w' ⟨rfl, hb⟩))
    go_ret2
    exact ⟨rfl, hb⟩
theorem rNear_ok (x s : Int) (w : World) (s0 : 0 ≤ s) (s1 : s ≤ 255) (x0 : -268435455 ≤ x) (x1 : x ≤ 268435455) : Calls Tryd.prog 46 #[.int .i64 x, .int .i64 s] w fun e w' => e = .returned (.int .i64 (NQ x s)) ∧ w = w' := by
  by_cases c : x < 0
  · have HF := Lib.hid (fun w => near_pos (-x) s w (by omega) (by omega) (by omega) (by omega))
    have hb := nq_is (-x) s
    have hb1 := hb.1
    have hb2 := hb.2.1
    clear hb
    unfold NQ
    rw [if_pos c]
    generalize nq (-x) s = L at *
    go_enter Tryd.func46, Tryd.ntmps46
    go_wp2_with (go_at_call 46; ((with_reducible refine (HF.out _).mono ?_); rintro e w' ⟨rfl, rfl⟩))
    go_ret
    exact ⟨rfl, rfl⟩
  · unfold NQ
    rw [if_neg c]
    exact near_pos x s w s0 s1 (by omega) x1
theorem rQuant_ok (q s : Int) (w : World) : Calls Tryd.prog 20 #[.int .i64 q, .int .i64 s] w fun e w' => e = .returned (.tuple #[.int .i64 (FQ q s), .int .i64 (EQ q s)]) ∧ w = w' := by
  by_cases c0 : q < -268435455
  · obtain ⟨e1, e2⟩ := FQ_bad (q := q) (s := s) (by unfold badQ; omega)
    rw [e1, e2]
    go_enter Tryd.func20, Tryd.ntmps20
    go_wp2
    go_ret2
    exact ⟨rfl, rfl⟩
  by_cases c1 : 268435455 < q
  · obtain ⟨e1, e2⟩ := FQ_bad (q := q) (s := s) (by unfold badQ; omega)
    rw [e1, e2]
    go_enter Tryd.func20, Tryd.ntmps20
    go_wp2
    go_ret2
    exact ⟨rfl, rfl⟩
  by_cases c2 : s < 0
  · obtain ⟨e1, e2⟩ := FQ_bad (q := q) (s := s) (by unfold badQ; omega)
    rw [e1, e2]
    go_enter Tryd.func20, Tryd.ntmps20
    go_wp2
    go_ret2
    exact ⟨rfl, rfl⟩
  by_cases c3 : 255 < s
  · obtain ⟨e1, e2⟩ := FQ_bad (q := q) (s := s) (by unfold badQ; omega)
    rw [e1, e2]
    go_enter Tryd.func20, Tryd.ntmps20
    go_wp2
    go_ret2
    exact ⟨rfl, rfl⟩
  obtain ⟨e1, e2⟩ := FQ_ok (q := q) (s := s) (by unfold badQ; omega)
  rw [e1, e2]
  clear e1 e2
  have HF := Lib.hid (fun w => rNear_ok q s w (by omega) (by omega) (by omega) (by omega))
  go_enter Tryd.func20, Tryd.ntmps20
  go_wp2_with (go_at_call 46; ((with_reducible refine (HF.out _).mono ?_); rintro e w' ⟨rfl, rfl⟩))
  go_ret2
  exact ⟨rfl, rfl⟩
theorem f4_eight : F4 8 = 65536 ∧ E4 8 = 0 := by
  have h : cbF (8 * 68719476736) = 8192 := (cbF_of ⟨by decide, by decide, by decide⟩).symm
  unfold F4 E4 fo
  rw [if_neg (by omega), if_neg (by omega), h]
  exact ⟨rfl, rfl⟩
theorem alive_ok (w : World) : Calls Tryd.prog 21 #[] w fun e w' => e = .returned (.bool true) ∧ w = w' := by
  have HF := Lib.hid (fun w => Four_ok 8 w)
  rw [f4_eight.1, f4_eight.2] at HF
  go_enter Tryd.func21, Tryd.ntmps21
  go_wp2_with (go_at_call 15; ((with_reducible refine (HF.out _).mono ?_); rintro e w' ⟨rfl, rfl⟩))
  go_ret
  exact ⟨rfl, rfl⟩
def fa (a b : Int) : Int := max (a - b) (b - a)
theorem far_ok (a b : Int) (w : World) (a0 : -2305843009213693952 ≤ a) (a1 : a ≤ 2305843009213693952) (b0 : -2305843009213693952 ≤ b) (b1 : b ≤ 2305843009213693952) : Calls Tryd.prog 22 #[.int .i64 a, .int .i64 b] w fun e w' => e = .returned (.int .i64 (fa a b)) ∧ w = w' := by
  go_enter Tryd.func22, Tryd.ntmps22
  go_wp2
  all_goals
    go_ret
    refine ⟨ret1 ?_, rfl⟩
    unfold fa
    omega
end Go.Proofs.YtanjcbnkkhbkkaaDoor.Fx

/- What power's calls do. -/
import Derived.Test.YtanjcbnkkhbkkaaDoorRows
import Derived.Test.YtanjcbnkkhbkkaaDoorPwMath
import Derived.Test.YtanjcbnkkhbkkaaDoorRootCon
import Derived.Test.YtanjcbnkkhbkkaaDoorRefFix
import Derived.WalkKit
import Derived.Deep.QuietTactic
import Derived.BigQuiet
import Derived.ProofKit
import Derived.OpenShut
import Derived.Lib.Hide
namespace Go.Proofs.YtanjcbnkkhbkkaaDoor.Fx
open Go Go.ChangeShapes Go.WideShapes Go.ChangeAt Go.RowKit

/-- The table. -/
def Qs (w : World) : Prop := w.cell? ⟨0, 0, none⟩ = some (.int .i64 1073741824) ∧ w.cell? ⟨0, 1, none⟩ = some (.int .i64 1276901417) ∧ w.cell? ⟨0, 2, none⟩ = some (.int .i64 1518500250) ∧ w.cell? ⟨0, 3, none⟩ = some (.int .i64 1805811301)
theorem Qs.drewN {w : World} (h : Qs w) (n : Nat) : Qs (w.drewN n) := by
  unfold Qs at *
  simpa using h
theorem same_q {f : FuncId} {args : Array Value} {w : World} {v : Value} (h : Calls Tryd.prog f args w fun e w' => e = .returned v ∧ w = w') : Calls Tryd.prog f args w fun e w' => e = .returned v ∧ w' = w := h.mono fun _ _ h => ⟨h.1, h.2.symm⟩
theorem drewN_zero (w : World) : ∃ m, w = w.drewN m := ⟨0, rfl⟩

theorem four_ok (q : Int) (w : World) (h0 : 0 ≤ q) (h1 : q ≤ 8191) : Calls Tryd.prog 41 #[.int .i64 q] w fun e w' => e = .returned (.int .i64 (fo q)) ∧ w = w' := by
  obtain ⟨b1, b2⟩ := fo_bd h0 h1
  unfold fo at *
  have e1 : wrap64 (q * 68719476736) = q * 68719476736 := w64 (by omega) (by omega)
  have hb := cb_hi h0 h1
  have hb0 := cb_nn h0
  have HF : Hid (∀ r, IsCbrt (q * 68719476736) r → r = cbF (q * 68719476736)) := Lib.hid fun r hr => cbF_of hr
  generalize cbF (q * 68719476736) = c at *
  go_enter Tryd.func41, Tryd.ntmps41
  go_wp2_with (go_at_call 61; ((with_reducible refine (cbrt_in (q * 68719476736) _ (by omega) (by omega)).mono ?_); rintro e w' ⟨r, hr, rfl, rfl⟩; obtain rfl := HF.out r hr))
  go_ret
  exact ⟨rfl, rfl⟩
theorem line_0 (q s : Int) (w : World) (h0 : 0 ≤ q) (h1 : q ≤ 8191) (s0 : 0 ≤ s) (s1 : s ≤ 255) (hq : Qs w) (hm : s % 4 = 0) : Calls Tryd.prog 43 #[.int .i64 q, .int .i64 s] w fun e w' => e = .returned (.int .i64 (ln q s)) ∧ ∃ m, w' = w.drewN m := by
  have eq : qt s = 1073741824 := by unfold qt; omega
  obtain ⟨p0, p1⟩ := pr_bd (s := s) h0 h1
  obtain ⟨c0, c1, c2, c3⟩ := hq
  obtain ⟨b0, b1⟩ := bt'_bd s0
  rw [eq] at p0 p1
  have ht : Int.tmod s 4 = 0 := by rw [Int.tmod_eq_emod_of_nonneg s0]; exact hm
  have hd : Int.tdiv s 4 = s / 4 := Int.tdiv_eq_ediv_of_nonneg s0
  have HF := Lib.hid (four_ok q)
  have HB := Lib.hid (show (if 61 - s / 4 < 0 then 0 else 61 - s / 4) = bt' s by unfold bt'; omega)
  have HL := Lib.hid (show (if 268435455 < rnd (fo q * 1073741824) (bt' s) then 268435455 else rnd (fo q * 1073741824) (bt' s)) = ln q s by unfold ln; rw [eq]; omega)
  generalize bt' s = B at *
  generalize fo q = F at *
  go_enter Tryd.func43, Tryd.ntmps43
  go_wp2
  go_quiet ((first | (go_at_call 41; exact Calls.quiet_of_same (same_q (HF.out _ h0 h1))) | (go_at_call 63; rw [HB.out]; exact Calls.quiet_of_same (same_q (round_in _ _ _ (by omega) (by omega) b0 (by omega))))))
  go_wp2
  all_goals
    go_ret
    refine ⟨ret1 ?_, _, rfl⟩
    have := HL.out
    omega
theorem line_1 (q s : Int) (w : World) (h0 : 0 ≤ q) (h1 : q ≤ 8191) (s0 : 0 ≤ s) (s1 : s ≤ 255) (hq : Qs w) (hm : s % 4 = 1) : Calls Tryd.prog 43 #[.int .i64 q, .int .i64 s] w fun e w' => e = .returned (.int .i64 (ln q s)) ∧ ∃ m, w' = w.drewN m := by
  have eq : qt s = 1276901417 := by unfold qt; omega
  obtain ⟨p0, p1⟩ := pr_bd (s := s) h0 h1
  obtain ⟨c0, c1, c2, c3⟩ := hq
  obtain ⟨b0, b1⟩ := bt'_bd s0
  rw [eq] at p0 p1
  have ht : Int.tmod s 4 = 1 := by rw [Int.tmod_eq_emod_of_nonneg s0]; exact hm
  have hd : Int.tdiv s 4 = s / 4 := Int.tdiv_eq_ediv_of_nonneg s0
  have HF := Lib.hid (four_ok q)
  have HB := Lib.hid (show (if 61 - s / 4 < 0 then 0 else 61 - s / 4) = bt' s by unfold bt'; omega)
  have HL := Lib.hid (show (if 268435455 < rnd (fo q * 1276901417) (bt' s) then 268435455 else rnd (fo q * 1276901417) (bt' s)) = ln q s by unfold ln; rw [eq]; omega)
  generalize bt' s = B at *
  generalize fo q = F at *
  go_enter Tryd.func43, Tryd.ntmps43
  go_wp2
  go_quiet ((first | (go_at_call 41; exact Calls.quiet_of_same (same_q (HF.out _ h0 h1))) | (go_at_call 63; rw [HB.out]; exact Calls.quiet_of_same (same_q (round_in _ _ _ (by omega) (by omega) b0 (by omega))))))
  go_wp2
  all_goals
    go_ret
    refine ⟨ret1 ?_, _, rfl⟩
    have := HL.out
    omega
theorem line_2 (q s : Int) (w : World) (h0 : 0 ≤ q) (h1 : q ≤ 8191) (s0 : 0 ≤ s) (s1 : s ≤ 255) (hq : Qs w) (hm : s % 4 = 2) : Calls Tryd.prog 43 #[.int .i64 q, .int .i64 s] w fun e w' => e = .returned (.int .i64 (ln q s)) ∧ ∃ m, w' = w.drewN m := by
  have eq : qt s = 1518500250 := by unfold qt; omega
  obtain ⟨p0, p1⟩ := pr_bd (s := s) h0 h1
  obtain ⟨c0, c1, c2, c3⟩ := hq
  obtain ⟨b0, b1⟩ := bt'_bd s0
  rw [eq] at p0 p1
  have ht : Int.tmod s 4 = 2 := by rw [Int.tmod_eq_emod_of_nonneg s0]; exact hm
  have hd : Int.tdiv s 4 = s / 4 := Int.tdiv_eq_ediv_of_nonneg s0
  have HF := Lib.hid (four_ok q)
  have HB := Lib.hid (show (if 61 - s / 4 < 0 then 0 else 61 - s / 4) = bt' s by unfold bt'; omega)
  have HL := Lib.hid (show (if 268435455 < rnd (fo q * 1518500250) (bt' s) then 268435455 else rnd (fo q * 1518500250) (bt' s)) = ln q s by unfold ln; rw [eq]; omega)
  generalize bt' s = B at *
  generalize fo q = F at *
  go_enter Tryd.func43, Tryd.ntmps43
  go_wp2
  go_quiet ((first | (go_at_call 41; exact Calls.quiet_of_same (same_q (HF.out _ h0 h1))) | (go_at_call 63; rw [HB.out]; exact Calls.quiet_of_same (same_q (round_in _ _ _ (by omega) (by omega) b0 (by omega))))))
  go_wp2
  all_goals
    go_ret
    refine ⟨ret1 ?_, _, rfl⟩
    have := HL.out
    omega
theorem line_3 (q s : Int) (w : World) (h0 : 0 ≤ q) (h1 : q ≤ 8191) (s0 : 0 ≤ s) (s1 : s ≤ 255) (hq : Qs w) (hm : s % 4 = 3) : Calls Tryd.prog 43 #[.int .i64 q, .int .i64 s] w fun e w' => e = .returned (.int .i64 (ln q s)) ∧ ∃ m, w' = w.drewN m := by
  have eq : qt s = 1805811301 := by unfold qt; omega
  obtain ⟨p0, p1⟩ := pr_bd (s := s) h0 h1
  obtain ⟨c0, c1, c2, c3⟩ := hq
  obtain ⟨b0, b1⟩ := bt'_bd s0
  rw [eq] at p0 p1
  have ht : Int.tmod s 4 = 3 := by rw [Int.tmod_eq_emod_of_nonneg s0]; exact hm
  have hd : Int.tdiv s 4 = s / 4 := Int.tdiv_eq_ediv_of_nonneg s0
  have HF := Lib.hid (four_ok q)
  have HB := Lib.hid (show (if 61 - s / 4 < 0 then 0 else 61 - s / 4) = bt' s by unfold bt'; omega)
  have HL := Lib.hid (show (if 268435455 < rnd (fo q * 1805811301) (bt' s) then 268435455 else rnd (fo q * 1805811301) (bt' s)) = ln q s by unfold ln; rw [eq]; omega)
  generalize bt' s = B at *
  generalize fo q = F at *
  go_enter Tryd.func43, Tryd.ntmps43
  go_wp2
  go_quiet ((first | (go_at_call 41; exact Calls.quiet_of_same (same_q (HF.out _ h0 h1))) | (go_at_call 63; rw [HB.out]; exact Calls.quiet_of_same (same_q (round_in _ _ _ (by omega) (by omega) b0 (by omega))))))
  go_wp2
  all_goals
    go_ret
    refine ⟨ret1 ?_, _, rfl⟩
    have := HL.out
    omega
theorem line_ok (q s : Int) (w : World) (h0 : 0 ≤ q) (h1 : q ≤ 8191) (s0 : 0 ≤ s) (s1 : s ≤ 255) (hq : Qs w) : Calls Tryd.prog 43 #[.int .i64 q, .int .i64 s] w fun e w' => e = .returned (.int .i64 (ln q s)) ∧ ∃ m, w' = w.drewN m := by
  obtain h | h | h | h : s % 4 = 0 ∨ s % 4 = 1 ∨ s % 4 = 2 ∨ s % 4 = 3 := by omega
  · exact line_0 q s w h0 h1 s0 s1 hq h
  · exact line_1 q s w h0 h1 s0 s1 hq h
  · exact line_2 q s w h0 h1 s0 s1 hq h
  · exact line_3 q s w h0 h1 s0 s1 hq h

theorem quarter_K (k : Int) (w : World) (h0 : 0 ≤ k) (h1 : k ≤ 3) : Calls Tryd.prog 65 #[.int .i64 k] w fun e w' => e = .returned (.int .i64 (qt k)) ∧ w = w' := by
  obtain rfl | rfl | rfl | rfl : k = 0 ∨ k = 1 ∨ k = 2 ∨ k = 3 := by omega
  all_goals
    go_enter Tryd.func65, Tryd.ntmps65
    go_wp2
    go_ret
    exact ⟨rfl, rfl⟩
theorem power_ok (q : Int) (w : World) (h0 : 0 ≤ q) (h1 : q ≤ 8191) : Calls Tryd.prog 42 #[.int .i64 q] w fun e w' => e = .returned (.int .i64 (fo q)) ∧ w = w' := by
  obtain ⟨b1, b2⟩ := fo_bd h0 h1
  unfold fo at *
  have hb := cb_hi h0 h1
  have hb0 := cb_nn h0
  have HF : Hid (∀ r, IsCbrt (q * 68719476736) r → r = cbF (q * 68719476736)) := Lib.hid fun r hr => cbF_of hr
  generalize cbF (q * 68719476736) = c at *
  go_enter Tryd.func42, Tryd.ntmps42
  go_wp2_with (go_at_call 62; ((with_reducible refine (rthird (q * 68719476736) _ (by omega) (by omega)).mono ?_); rintro e w' ⟨r, hr, rfl, rfl⟩; obtain rfl := HF.out r hr))
  go_ret
  exact ⟨rfl, rfl⟩
theorem value_pos (q s : Int) (w : World) (h0 : 0 ≤ q) (h1 : q ≤ 8191) (s0 : 0 ≤ s) (s1 : s ≤ 255) : Calls Tryd.prog 44 #[.int .i64 q, .int .i64 s] w fun e w' => e = .returned (.int .i64 (ln q s)) ∧ w = w' := by
  obtain ⟨p0, p1⟩ := pr_bd (s := s) h0 h1
  obtain ⟨b0, b1⟩ := bt'_bd s0
  have hqt : qt (s % 4) = qt s := by unfold qt; rw [show s % 4 % 4 = s % 4 by omega]
  have ht : Int.tmod s 4 = s % 4 := Int.tmod_eq_emod_of_nonneg s0
  have hd : Int.tdiv s 4 = s / 4 := Int.tdiv_eq_ediv_of_nonneg s0
  have HF := Lib.hid (power_ok q)
  have HQ := Lib.hid (fun w => quarter_K (s % 4) w (by omega) (by omega))
  rw [hqt] at HQ
  have HB := Lib.hid (show (if 61 - s / 4 < 0 then 0 else 61 - s / 4) = bt' s by unfold bt'; omega)
  have HL := Lib.hid (show (if 268435455 < rnd (fo q * qt s) (bt' s) then 268435455 else rnd (fo q * qt s) (bt' s)) = ln q s by unfold ln; omega)
  clear hqt
  have hq0 := qt_bd s
  generalize bt' s = B at *
  generalize fo q = F at *
  generalize qt s = T at *
  go_enter Tryd.func44, Tryd.ntmps44
  go_wp2_with (first | (go_at_call 42; ((with_reducible refine (HF.out _ h0 h1).mono ?_); rintro e w' ⟨rfl, rfl⟩)) | (go_at_call 65; ((with_reducible refine (HQ.out _).mono ?_); rintro e w' ⟨rfl, rfl⟩)) | (go_at_call 64; rw [HB.out]; ((with_reducible refine (down_in _ _ _ (by omega) (by omega) b0 (by omega)).mono ?_); rintro e w' ⟨rfl, rfl⟩)))
  all_goals
    go_ret
    refine ⟨ret1 ?_, rfl⟩
    have := HL.out
    omega
theorem value_ok (q s : Int) (w : World) (h0 : -8191 ≤ q) (h1 : q ≤ 8191) (s0 : 0 ≤ s) (s1 : s ≤ 255) : Calls Tryd.prog 44 #[.int .i64 q, .int .i64 s] w fun e w' => e = .returned (.int .i64 (LN q s)) ∧ w = w' := by
  by_cases h : q < 0
  · have hv := Lib.hid (fun w => value_pos (-q) s w (by omega) (by omega) s0 s1)
    have hb := ln_bd (q := -q) s0 (by omega)
    unfold LN
    rw [if_pos h]
    generalize ln (-q) s = L at *
    go_enter Tryd.func44, Tryd.ntmps44
    go_wp2_with (go_at_call 44; ((with_reducible refine (hv.out _).mono ?_); rintro e w' ⟨rfl, rfl⟩))
    go_ret
    exact ⟨rfl, rfl⟩
  · rw [LN_pos (by omega)]; exact value_pos q s w (by omega) h1 s0 s1
end Go.Proofs.YtanjcbnkkhbkkaaDoor.Fx

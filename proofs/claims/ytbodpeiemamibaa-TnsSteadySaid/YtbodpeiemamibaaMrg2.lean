/- Texts of one claim, one behind the other: TnCon, TnChk. -/
import Derived.Test.YtbodpeiemamibaaTnMath
import Derived.Test.YtbodpeiemamibaaMrg1
import Derived.WalkKit
import Derived.Below
import Derived.Laws.AppendOwn
import Derived.Laws.AppendOwnNone
import Derived.RegionTactic
import Derived.Deep.QuietTactic
import Derived.BigQuiet
import Derived.WalkSpells
import Derived.ProofKit
import Derived.OpenShut
import Derived.Lib.Hide
set_option linter.unusedVariables false
/- Rounding, and the sine that a coefficient tells. -/
namespace Go.Proofs.Ytbodpeiemamibaa.Tn
open Go Go.ChangeShapes Go.WideShapes Go.ChangeAt Go.RowKit Go.Proofs.Ytbodpeiemamibaa.Fx
theorem bT {a b c : World} (h : Below a.heap.size a b) (k : Below b.heap.size b c) : Below a.heap.size a c := h.trans (k.mono h.size)
theorem round_k (n b : Int) (w : World) (h1 : -4611686018427387904 ≤ n) (h2 : n ≤ 4611686018427387904) (h3 : 0 ≤ b) (h4 : b ≤ 62) :
    Calls Try.prog 14 #[.int .i64 n, .int .i64 b] w fun e w' => e = .returned (.int .i64 (rnd n b)) ∧ w = w' := by
  go_enter Try.func14, Try.ntmps14
  go_wp2_with (go_at_call 20; ((with_reducible refine (round_in n b _ h1 h2 h3 h4).mono ?_); rintro e w' ⟨rfl, rfl⟩))
  go_ret
  exact ⟨rfl, rfl⟩
theorem floor {s W : Int} (hW : 0 < W) : (if s < Int.tdiv s W * W then Int.tdiv s W - 1 else Int.tdiv s W) = s / W := by
  by_cases h : 0 ≤ s
  · rw [Int.tdiv_eq_ediv_of_nonneg h]
    have := Int.ediv_mul_le s (show W ≠ 0 by omega)
    rw [if_neg (by omega)]
  · have h2 : s.tdiv W = -((-s) / W) := by rw [← Int.tdiv_eq_ediv_of_nonneg (show 0 ≤ -s by omega), Int.neg_tdiv, Int.neg_neg]
    have e1 := Int.mul_ediv_add_emod (-s) W
    have e2 := Int.emod_nonneg (-s) (show W ≠ 0 by omega)
    have e3 := Int.emod_lt_of_pos (-s) hW
    have f1 := Int.mul_ediv_add_emod s W
    have f2 := Int.emod_nonneg s (show W ≠ 0 by omega)
    have f3 := Int.emod_lt_of_pos s hW
    rw [h2]
    generalize (-s) / W = q at *
    generalize s / W = p at *
    generalize (-s) % W = r at *
    generalize s % W = t at *
    have g : -q * W = -(W * q) := by rw [Int.neg_mul, Int.mul_comm]
    rw [g]
    by_cases hr : r = 0
    · subst hr
      rw [if_neg (by omega)]
      have : W * (p + q) = -t := by rw [Int.mul_add]; omega
      have hpq : p + q = 0 := by
        by_cases c : p + q ≤ -1
        · have := Int.mul_le_mul_of_nonneg_left c (show 0 ≤ W by omega); omega
        · by_cases d : 1 ≤ p + q
          · have := Int.mul_le_mul_of_nonneg_left d (show 0 ≤ W by omega); omega
          · omega
      omega
    · rw [if_pos (by omega)]
      have : W * (p + q) = -r - t := by rw [Int.mul_add]; omega
      have hpq : p + q = -1 := by
        by_cases c : p + q ≤ -2
        · have := Int.mul_le_mul_of_nonneg_left c (show 0 ≤ W by omega); omega
        · by_cases d : 0 ≤ p + q
          · have := Int.mul_nonneg (show 0 ≤ W by omega) d; omega
          · omega
      omega
set_option maxRecDepth 100000 in
set_option maxHeartbeats 2000000 in
theorem refl_d (c D : Int) (f : Bool) (w : World) (h0 : -8 ≤ c) (h1 : c ≤ 7) (hD : dOf c f = D) :
    Calls Try.prog 13 #[.int .i64 c, .bool f] w fun e w' => e = .returned (.int .i64 (mir c f)) ∧ Below w.heap.size w w' := by
  obtain ⟨s0, s1⟩ := sin_bd f h0 h1
  obtain ⟨D0, D1⟩ := d_bd c f
  have hm : mir c f = rnd (sinF ((2048 * c + D) / (2 * D))) 6 := by unfold mir; rw [hD]
  rw [hD] at s0 s1 D0 D1
  rw [hm]
  have hfl := floor (s := 2048 * c + D) (W := 2 * D) (by omega)
  obtain ⟨R, hR⟩ : ∃ R, (2048 * c + D) / (2 * D) = R := ⟨_, rfl⟩
  rw [hR] at hfl s0 s1
  rw [hR]
  obtain ⟨q, hq⟩ : ∃ q, Int.tdiv (2048 * c + D) (2 * D) = q := ⟨_, rfl⟩
  have HQ := Lib.hid hq
  rw [hq] at hfl
  have qb : -4096 ≤ q ∧ q ≤ 4096 := by
    have hRb : -4000 ≤ R ∧ R ≤ 4000 := by
      subst hR
      refine ⟨Int.le_ediv_of_mul_le (by omega) (by omega), ?_⟩
      have := Int.ediv_lt_of_lt_mul (a := 2048 * c + D) (b := 4001) (c := 2 * D) (by omega) (by omega)
      omega
    clear HQ hq
    split at hfl <;> omega
  obtain ⟨q0, q1⟩ := qb
  have qD : q * (2 * D) ≤ 4096 * 34 ∧ -(4096 * 34) ≤ q * (2 * D) := by
    constructor
    · by_cases c0 : 0 ≤ q
      · exact Int.mul_le_mul q1 (by omega) (by omega) (by omega)
      · have := Int.mul_nonpos_of_nonpos_of_nonneg (show q ≤ 0 by omega) (show 0 ≤ 2 * D by omega); omega
    · by_cases c0 : 0 ≤ q
      · have := Int.mul_nonneg c0 (show 0 ≤ 2 * D by omega); omega
      · have h3 : (-q) * (2 * D) ≤ 4096 * 34 := Int.mul_le_mul (by omega) (by omega) (by omega) (by omega)
        rw [Int.neg_mul] at h3; omega
  have qE : q * 2 * D = q * (2 * D) := Int.mul_assoc _ _ _
  obtain ⟨P, hP⟩ : ∃ P, q * (2 * D) = P := ⟨_, rfl⟩
  rw [hP] at hfl qD qE
  obtain ⟨qD0, qD1⟩ := qD
  have HS := Lib.hid (fun w => tsin R w)
  have HR := Lib.hid (fun w => round_k (sinF R) 6 w (by omega) (by omega) (by omega) (by omega))
  clear hR hm hq
  generalize sinF R = Z at *
  unfold dOf at hD
  have W1 : 2 * D ≠ 0 := by omega
  have a1 : ¬ 2 * D = 0 := by omega
  have HP := Lib.hid hP
  have HE := Lib.hid qE
  clear hP qE
  cases f
  · by_cases hc : c < 0
    · obtain rfl : D = 9 := by simp [hc] at hD; omega
      have hq2 : (2048 * c + 9).tdiv 18 = q := HQ.out
      have hp2 : q * 18 = P := HP.out
      have hl0 : (2048 * c + 9 < P) = (2048 * c + 9 < q * 18) := by rw [hp2]
      clear HQ HP HE qD0 qD1 hD W1 a1
      by_cases hl : 2048 * c + 9 < q * 18
      · rw [if_pos (by rw [hl0]; exact hl)] at hfl
        subst hfl
        have hl2 : 2048 * c + 9 < q * 2 * 9 := by omega
        clear hl0 hp2 s0 s1
        go_enter Try.func13, Try.ntmps13
        go_wp2_with (first | (go_at_call 19; ((with_reducible refine (HS.out _).mono ?_); rintro e w1 ⟨rfl, hb⟩)) | (go_at_call 14; ((with_reducible refine (HR.out _).mono ?_); rintro e w2 ⟨rfl, rfl⟩)))
        go_ret
        exact ⟨rfl, hb⟩
      · rw [if_neg (by rw [hl0]; exact hl)] at hfl
        subst hfl
        have hl2 : ¬ 2048 * c + 9 < q * 2 * 9 := by omega
        clear hl0 hp2 s0 s1
        go_enter Try.func13, Try.ntmps13
        go_wp2_with (first | (go_at_call 19; ((with_reducible refine (HS.out _).mono ?_); rintro e w1 ⟨rfl, hb⟩)) | (go_at_call 14; ((with_reducible refine (HR.out _).mono ?_); rintro e w2 ⟨rfl, rfl⟩)))
        go_ret
        exact ⟨rfl, hb⟩
    · obtain rfl : D = 7 := by simp [hc] at hD; omega
      have hq2 : (2048 * c + 7).tdiv 14 = q := HQ.out
      have hp2 : q * 14 = P := HP.out
      have hl0 : (2048 * c + 7 < P) = (2048 * c + 7 < q * 14) := by rw [hp2]
      clear HQ HP HE qD0 qD1 hD W1 a1
      by_cases hl : 2048 * c + 7 < q * 14
      · rw [if_pos (by rw [hl0]; exact hl)] at hfl
        subst hfl
        have hl2 : 2048 * c + 7 < q * 2 * 7 := by omega
        clear hl0 hp2 s0 s1
        go_enter Try.func13, Try.ntmps13
        go_wp2_with (first | (go_at_call 19; ((with_reducible refine (HS.out _).mono ?_); rintro e w1 ⟨rfl, hb⟩)) | (go_at_call 14; ((with_reducible refine (HR.out _).mono ?_); rintro e w2 ⟨rfl, rfl⟩)))
        go_ret
        exact ⟨rfl, hb⟩
      · rw [if_neg (by rw [hl0]; exact hl)] at hfl
        subst hfl
        have hl2 : ¬ 2048 * c + 7 < q * 2 * 7 := by omega
        clear hl0 hp2 s0 s1
        go_enter Try.func13, Try.ntmps13
        go_wp2_with (first | (go_at_call 19; ((with_reducible refine (HS.out _).mono ?_); rintro e w1 ⟨rfl, hb⟩)) | (go_at_call 14; ((with_reducible refine (HR.out _).mono ?_); rintro e w2 ⟨rfl, rfl⟩)))
        go_ret
        exact ⟨rfl, hb⟩
  · by_cases hc : c < 0
    · obtain rfl : D = 17 := by simp [hc] at hD; omega
      have hq2 : (2048 * c + 17).tdiv 34 = q := HQ.out
      have hp2 : q * 34 = P := HP.out
      have hl0 : (2048 * c + 17 < P) = (2048 * c + 17 < q * 34) := by rw [hp2]
      clear HQ HP HE qD0 qD1 hD W1 a1
      by_cases hl : 2048 * c + 17 < q * 34
      · rw [if_pos (by rw [hl0]; exact hl)] at hfl
        subst hfl
        have hl2 : 2048 * c + 17 < q * 2 * 17 := by omega
        clear hl0 hp2 s0 s1
        go_enter Try.func13, Try.ntmps13
        go_wp2_with (first | (go_at_call 19; ((with_reducible refine (HS.out _).mono ?_); rintro e w1 ⟨rfl, hb⟩)) | (go_at_call 14; ((with_reducible refine (HR.out _).mono ?_); rintro e w2 ⟨rfl, rfl⟩)))
        go_ret
        exact ⟨rfl, hb⟩
      · rw [if_neg (by rw [hl0]; exact hl)] at hfl
        subst hfl
        have hl2 : ¬ 2048 * c + 17 < q * 2 * 17 := by omega
        clear hl0 hp2 s0 s1
        go_enter Try.func13, Try.ntmps13
        go_wp2_with (first | (go_at_call 19; ((with_reducible refine (HS.out _).mono ?_); rintro e w1 ⟨rfl, hb⟩)) | (go_at_call 14; ((with_reducible refine (HR.out _).mono ?_); rintro e w2 ⟨rfl, rfl⟩)))
        go_ret
        exact ⟨rfl, hb⟩
    · obtain rfl : D = 15 := by simp [hc] at hD; omega
      have hq2 : (2048 * c + 15).tdiv 30 = q := HQ.out
      have hp2 : q * 30 = P := HP.out
      have hl0 : (2048 * c + 15 < P) = (2048 * c + 15 < q * 30) := by rw [hp2]
      clear HQ HP HE qD0 qD1 hD W1 a1
      by_cases hl : 2048 * c + 15 < q * 30
      · rw [if_pos (by rw [hl0]; exact hl)] at hfl
        subst hfl
        have hl2 : 2048 * c + 15 < q * 2 * 15 := by omega
        clear hl0 hp2 s0 s1
        go_enter Try.func13, Try.ntmps13
        go_wp2_with (first | (go_at_call 19; ((with_reducible refine (HS.out _).mono ?_); rintro e w1 ⟨rfl, hb⟩)) | (go_at_call 14; ((with_reducible refine (HR.out _).mono ?_); rintro e w2 ⟨rfl, rfl⟩)))
        go_ret
        exact ⟨rfl, hb⟩
      · rw [if_neg (by rw [hl0]; exact hl)] at hfl
        subst hfl
        have hl2 : ¬ 2048 * c + 15 < q * 2 * 15 := by omega
        clear hl0 hp2 s0 s1
        go_enter Try.func13, Try.ntmps13
        go_wp2_with (first | (go_at_call 19; ((with_reducible refine (HS.out _).mono ?_); rintro e w1 ⟨rfl, hb⟩)) | (go_at_call 14; ((with_reducible refine (HR.out _).mono ?_); rintro e w2 ⟨rfl, rfl⟩)))
        go_ret
        exact ⟨rfl, hb⟩
set_option maxRecDepth 100000 in
set_option maxHeartbeats 2000000 in
theorem rmir_d (c D : Int) (f : Bool) (w : World) (h0 : -8 ≤ c) (h1 : c ≤ 7) (hD : dOf c f = D) :
    Calls Try.prog 15 #[.int .i64 c, .bool f] w fun e w' => e = .returned (.int .i64 (mir c f)) ∧ Below w.heap.size w w' := by
  obtain ⟨s0, s1⟩ := sin_bd f h0 h1
  obtain ⟨D0, D1⟩ := d_bd c f
  have hm : mir c f = rnd (sinF ((2048 * c + D) / (2 * D))) 6 := by unfold mir; rw [hD]
  rw [hD] at s0 s1 D0 D1
  rw [hm]
  have hfl := floor (s := 2048 * c + D) (W := 2 * D) (by omega)
  obtain ⟨R, hR⟩ : ∃ R, (2048 * c + D) / (2 * D) = R := ⟨_, rfl⟩
  rw [hR] at hfl s0 s1
  rw [hR]
  obtain ⟨q, hq⟩ : ∃ q, Int.tdiv (2048 * c + D) (2 * D) = q := ⟨_, rfl⟩
  have HQ := Lib.hid hq
  rw [hq] at hfl
  have qb : -4096 ≤ q ∧ q ≤ 4096 := by
    have hRb : -4000 ≤ R ∧ R ≤ 4000 := by
      subst hR
      refine ⟨Int.le_ediv_of_mul_le (by omega) (by omega), ?_⟩
      have := Int.ediv_lt_of_lt_mul (a := 2048 * c + D) (b := 4001) (c := 2 * D) (by omega) (by omega)
      omega
    clear HQ hq
    split at hfl <;> omega
  obtain ⟨q0, q1⟩ := qb
  have qD : q * (2 * D) ≤ 4096 * 34 ∧ -(4096 * 34) ≤ q * (2 * D) := by
    constructor
    · by_cases c0 : 0 ≤ q
      · exact Int.mul_le_mul q1 (by omega) (by omega) (by omega)
      · have := Int.mul_nonpos_of_nonpos_of_nonneg (show q ≤ 0 by omega) (show 0 ≤ 2 * D by omega); omega
    · by_cases c0 : 0 ≤ q
      · have := Int.mul_nonneg c0 (show 0 ≤ 2 * D by omega); omega
      · have h3 : (-q) * (2 * D) ≤ 4096 * 34 := Int.mul_le_mul (by omega) (by omega) (by omega) (by omega)
        rw [Int.neg_mul] at h3; omega
  have qE : q * 2 * D = q * (2 * D) := Int.mul_assoc _ _ _
  obtain ⟨P, hP⟩ : ∃ P, q * (2 * D) = P := ⟨_, rfl⟩
  rw [hP] at hfl qD qE
  obtain ⟨qD0, qD1⟩ := qD
  have HS := Lib.hid (fun w => rsin R w)
  have HR := Lib.hid (fun w => down_in (sinF R) 6 w (by omega) (by omega) (by omega) (by omega))
  clear hR hm hq
  generalize sinF R = Z at *
  unfold dOf at hD
  have W1 : 2 * D ≠ 0 := by omega
  have a1 : ¬ 2 * D = 0 := by omega
  have HP := Lib.hid hP
  have HE := Lib.hid qE
  clear hP qE
  cases f
  · by_cases hc : c < 0
    · obtain rfl : D = 9 := by simp [hc] at hD; omega
      have hq2 : (2048 * c + 9).tdiv 18 = q := HQ.out
      have hp2 : q * 18 = P := HP.out
      have hl0 : (2048 * c + 9 < P) = (2048 * c + 9 < q * 18) := by rw [hp2]
      clear HQ HP HE qD0 qD1 hD W1 a1
      by_cases hl : 2048 * c + 9 < q * 18
      · rw [if_pos (by rw [hl0]; exact hl)] at hfl
        subst hfl
        have hl2 : 2048 * c + 9 < q * 2 * 9 := by omega
        clear hl0 hp2 s0 s1
        go_enter Try.func15, Try.ntmps15
        go_wp2_with (first | (go_at_call 21; ((with_reducible refine (HS.out _).mono ?_); rintro e w1 ⟨rfl, rfl⟩)) | (go_at_call 16; ((with_reducible refine (HR.out _).mono ?_); rintro e w2 ⟨rfl, rfl⟩)))
        go_ret
        exact ⟨rfl, Below.refl _ _⟩
      · rw [if_neg (by rw [hl0]; exact hl)] at hfl
        subst hfl
        have hl2 : ¬ 2048 * c + 9 < q * 2 * 9 := by omega
        clear hl0 hp2 s0 s1
        go_enter Try.func15, Try.ntmps15
        go_wp2_with (first | (go_at_call 21; ((with_reducible refine (HS.out _).mono ?_); rintro e w1 ⟨rfl, rfl⟩)) | (go_at_call 16; ((with_reducible refine (HR.out _).mono ?_); rintro e w2 ⟨rfl, rfl⟩)))
        go_ret
        exact ⟨rfl, Below.refl _ _⟩
    · obtain rfl : D = 7 := by simp [hc] at hD; omega
      have hq2 : (2048 * c + 7).tdiv 14 = q := HQ.out
      have hp2 : q * 14 = P := HP.out
      have hl0 : (2048 * c + 7 < P) = (2048 * c + 7 < q * 14) := by rw [hp2]
      clear HQ HP HE qD0 qD1 hD W1 a1
      by_cases hl : 2048 * c + 7 < q * 14
      · rw [if_pos (by rw [hl0]; exact hl)] at hfl
        subst hfl
        have hl2 : 2048 * c + 7 < q * 2 * 7 := by omega
        clear hl0 hp2 s0 s1
        go_enter Try.func15, Try.ntmps15
        go_wp2_with (first | (go_at_call 21; ((with_reducible refine (HS.out _).mono ?_); rintro e w1 ⟨rfl, rfl⟩)) | (go_at_call 16; ((with_reducible refine (HR.out _).mono ?_); rintro e w2 ⟨rfl, rfl⟩)))
        go_ret
        exact ⟨rfl, Below.refl _ _⟩
      · rw [if_neg (by rw [hl0]; exact hl)] at hfl
        subst hfl
        have hl2 : ¬ 2048 * c + 7 < q * 2 * 7 := by omega
        clear hl0 hp2 s0 s1
        go_enter Try.func15, Try.ntmps15
        go_wp2_with (first | (go_at_call 21; ((with_reducible refine (HS.out _).mono ?_); rintro e w1 ⟨rfl, rfl⟩)) | (go_at_call 16; ((with_reducible refine (HR.out _).mono ?_); rintro e w2 ⟨rfl, rfl⟩)))
        go_ret
        exact ⟨rfl, Below.refl _ _⟩
  · by_cases hc : c < 0
    · obtain rfl : D = 17 := by simp [hc] at hD; omega
      have hq2 : (2048 * c + 17).tdiv 34 = q := HQ.out
      have hp2 : q * 34 = P := HP.out
      have hl0 : (2048 * c + 17 < P) = (2048 * c + 17 < q * 34) := by rw [hp2]
      clear HQ HP HE qD0 qD1 hD W1 a1
      by_cases hl : 2048 * c + 17 < q * 34
      · rw [if_pos (by rw [hl0]; exact hl)] at hfl
        subst hfl
        have hl2 : 2048 * c + 17 < q * 2 * 17 := by omega
        clear hl0 hp2 s0 s1
        go_enter Try.func15, Try.ntmps15
        go_wp2_with (first | (go_at_call 21; ((with_reducible refine (HS.out _).mono ?_); rintro e w1 ⟨rfl, rfl⟩)) | (go_at_call 16; ((with_reducible refine (HR.out _).mono ?_); rintro e w2 ⟨rfl, rfl⟩)))
        go_ret
        exact ⟨rfl, Below.refl _ _⟩
      · rw [if_neg (by rw [hl0]; exact hl)] at hfl
        subst hfl
        have hl2 : ¬ 2048 * c + 17 < q * 2 * 17 := by omega
        clear hl0 hp2 s0 s1
        go_enter Try.func15, Try.ntmps15
        go_wp2_with (first | (go_at_call 21; ((with_reducible refine (HS.out _).mono ?_); rintro e w1 ⟨rfl, rfl⟩)) | (go_at_call 16; ((with_reducible refine (HR.out _).mono ?_); rintro e w2 ⟨rfl, rfl⟩)))
        go_ret
        exact ⟨rfl, Below.refl _ _⟩
    · obtain rfl : D = 15 := by simp [hc] at hD; omega
      have hq2 : (2048 * c + 15).tdiv 30 = q := HQ.out
      have hp2 : q * 30 = P := HP.out
      have hl0 : (2048 * c + 15 < P) = (2048 * c + 15 < q * 30) := by rw [hp2]
      clear HQ HP HE qD0 qD1 hD W1 a1
      by_cases hl : 2048 * c + 15 < q * 30
      · rw [if_pos (by rw [hl0]; exact hl)] at hfl
        subst hfl
        have hl2 : 2048 * c + 15 < q * 2 * 15 := by omega
        clear hl0 hp2 s0 s1
        go_enter Try.func15, Try.ntmps15
        go_wp2_with (first | (go_at_call 21; ((with_reducible refine (HS.out _).mono ?_); rintro e w1 ⟨rfl, rfl⟩)) | (go_at_call 16; ((with_reducible refine (HR.out _).mono ?_); rintro e w2 ⟨rfl, rfl⟩)))
        go_ret
        exact ⟨rfl, Below.refl _ _⟩
      · rw [if_neg (by rw [hl0]; exact hl)] at hfl
        subst hfl
        have hl2 : ¬ 2048 * c + 15 < q * 2 * 15 := by omega
        clear hl0 hp2 s0 s1
        go_enter Try.func15, Try.ntmps15
        go_wp2_with (first | (go_at_call 21; ((with_reducible refine (HS.out _).mono ?_); rintro e w1 ⟨rfl, rfl⟩)) | (go_at_call 16; ((with_reducible refine (HR.out _).mono ?_); rintro e w2 ⟨rfl, rfl⟩)))
        go_ret
        exact ⟨rfl, Below.refl _ _⟩
theorem refl_ok (c : Int) (f : Bool) (w : World) (h0 : -8 ≤ c) (h1 : c ≤ 7) : Calls Try.prog 13 #[.int .i64 c, .bool f] w fun e w' => e = .returned (.int .i64 (mir c f)) ∧ Below w.heap.size w w' := refl_d c _ f w h0 h1 rfl
theorem rmir_ok (c : Int) (f : Bool) (w : World) (h0 : -8 ≤ c) (h1 : c ≤ 7) : Calls Try.prog 15 #[.int .i64 c, .bool f] w fun e w' => e = .returned (.int .i64 (mir c f)) ∧ Below w.heap.size w w' := rmir_d c _ f w h0 h1 rfl
end Go.Proofs.Ytbodpeiemamibaa.Tn

/- The errors of filters. -/
namespace Go.Proofs.Ytbodpeiemamibaa.Tn
open Go Go.ChangeShapes Go.WideShapes Go.ChangeAt Go.RowKit Go.Proofs.Ytbodpeiemamibaa.Fx
theorem box_below (w : World) (o : Obj) : Below w.heap.size w (w.alloc o) := (Below.refl _ _).alloc (Nat.le_refl _) _
/-- A box that holds a filter. -/
theorem boxed (w : World) (L O : Int) (dn f : Bool) (v : Value) (x : World) (hb : Below (w.alloc (.cells #[.int .i64 L, .int .i64 O, .bool dn, .bool f, v] 24)).heap.size (w.alloc (.cells #[.int .i64 L, .int .i64 O, .bool dn, .bool f, v] 24)) x) :
    x.cell? ⟨w.heap.size, 0, none⟩ = some (.int .i64 L) ∧ x.cell? ⟨w.heap.size, 1, none⟩ = some (.int .i64 O) ∧ x.cell? ⟨w.heap.size, 2, none⟩ = some (.bool dn) ∧ x.cell? ⟨w.heap.size, 3, none⟩ = some (.bool f) ∧ x.cell? ⟨w.heap.size, 4, none⟩ = some v := by
  refine ⟨(hb.cell (p := ⟨w.heap.size, 0, none⟩) (by simp)).trans ?_, (hb.cell (p := ⟨w.heap.size, 1, none⟩) (by simp)).trans ?_, (hb.cell (p := ⟨w.heap.size, 2, none⟩) (by simp)).trans ?_, (hb.cell (p := ⟨w.heap.size, 3, none⟩) (by simp)).trans ?_, (hb.cell (p := ⟨w.heap.size, 4, none⟩) (by simp)).trans ?_⟩ <;> simp
/-- Coefficients that may be. -/
def Rng (f : Bool) (zs : List Int) : Prop := ∀ i, i < zs.length → low f ≤ zs.getD i 0 ∧ zs.getD i 0 ≤ hgh f
theorem Rng.eight {f : Bool} {zs : List Int} (h : Rng f zs) : ∀ i, i < zs.length → -8 ≤ zs.getD i 0 ∧ zs.getD i 0 ≤ 7 := fun i hi => by
  have := h i hi
  cases f
  · have e : low false = -4 := rfl
    have e2 : hgh false = 3 := rfl
    omega
  · have e : low true = -8 := rfl
    have e2 : hgh true = 7 := rfl
    omega
theorem pred_many (L O : Int) (dn f : Bool) (a : Option Addr) (cap : Nat) (zs : List Int) (w : World) (hm : zs.length ≤ maxLen) (h : O < 0 ∨ 12 < O ∨ ¬ (zs.length : Int) = O) :
    Calls Try.prog 5 #[.agg #[.int .i64 L, .int .i64 O, .bool dn, .bool f, .slice a zs.length cap]] w fun e w' => e = .returned (.tuple #[.slice none 0 0, .int .i64 4]) ∧ Below w.heap.size w w' := by
  have HB := Lib.hid (box_below w (.cells #[.int .i64 L, .int .i64 O, .bool dn, .bool f, .slice a zs.length cap] 24))
  by_cases h0 : O < 0
  · clear h
    go_enter Try.func5, Try.ntmps5
    go_wp2
    go_ret2
    exact ⟨rfl, HB.out⟩
  by_cases h1 : 12 < O
  · clear h
    go_enter Try.func5, Try.ntmps5
    go_wp2
    go_ret2
    exact ⟨rfl, HB.out⟩
  have h2 : ¬ (zs.length : Int) = O := by omega
  have h3 : ((zs.length : Int) != O) = true := by simp [h2]
  clear h
  go_enter Try.func5, Try.ntmps5
  go_wp2
  go_ret2
  exact ⟨rfl, HB.out⟩
theorem pred_len (L O : Int) (dn f : Bool) (a : Option Addr) (cap : Nat) (zs : List Int) (w : World) (o0 : 0 ≤ O) (o1 : O ≤ 12) (o2 : (zs.length : Int) = O) (h : L < 0 ∨ 63 < L) :
    Calls Try.prog 5 #[.agg #[.int .i64 L, .int .i64 O, .bool dn, .bool f, .slice a zs.length cap]] w fun e w' => e = .returned (.tuple #[.slice none 0 0, .int .i64 2]) ∧ Below w.heap.size w w' := by
  have HB := Lib.hid (box_below w (.cells #[.int .i64 L, .int .i64 O, .bool dn, .bool f, .slice a zs.length cap] 24))
  have h3 : ((zs.length : Int) != O) = false := by simp [o2]
  have n12 : zs.length ≤ 12 := by omega
  subst o2
  by_cases h0 : L < 0
  · clear h
    cases f
    all_goals
      go_enter Try.func5, Try.ntmps5
      go_wp2
      go_ret2
      exact ⟨rfl, HB.out⟩
  · have h1 : 63 < L := by omega
    clear h
    cases f
    all_goals
      go_enter Try.func5, Try.ntmps5
      go_wp2
      go_ret2
      exact ⟨rfl, HB.out⟩
theorem rchk_many (L O : Int) (dn f : Bool) (a : Option Addr) (cap : Nat) (zs : List Int) (w : World) (hm : zs.length ≤ maxLen) (h : O < 0 ∨ 12 < O ∨ ¬ (zs.length : Int) = O) :
    Calls Try.prog 10 #[.agg #[.int .i64 L, .int .i64 O, .bool dn, .bool f, .slice a zs.length cap]] w fun e w' => e = .returned (.int .i64 4) ∧ Below w.heap.size w w' := by
  have HB := Lib.hid (box_below w (.cells #[.int .i64 L, .int .i64 O, .bool dn, .bool f, .slice a zs.length cap] 24))
  by_cases h0 : O < 0
  · clear h
    go_enter Try.func10, Try.ntmps10
    go_wp2
    go_ret
    exact ⟨rfl, HB.out⟩
  by_cases h1 : 12 < O
  · clear h
    go_enter Try.func10, Try.ntmps10
    go_wp2
    go_ret
    exact ⟨rfl, HB.out⟩
  have h2 : ¬ (zs.length : Int) = O := by omega
  have h3 : ((zs.length : Int) != O) = true := by simp [h2]
  clear h
  go_enter Try.func10, Try.ntmps10
  go_wp2
  go_ret
  exact ⟨rfl, HB.out⟩
theorem rchk_len (L O : Int) (dn f : Bool) (a : Option Addr) (cap : Nat) (zs : List Int) (w : World) (o0 : 0 ≤ O) (o1 : O ≤ 12) (o2 : (zs.length : Int) = O) (h : L < 0 ∨ 63 < L) :
    Calls Try.prog 10 #[.agg #[.int .i64 L, .int .i64 O, .bool dn, .bool f, .slice a zs.length cap]] w fun e w' => e = .returned (.int .i64 2) ∧ Below w.heap.size w w' := by
  have HB := Lib.hid (box_below w (.cells #[.int .i64 L, .int .i64 O, .bool dn, .bool f, .slice a zs.length cap] 24))
  have h3 : ((zs.length : Int) != O) = false := by simp [o2]
  have n12 : zs.length ≤ 12 := by omega
  subst o2
  by_cases h0 : L < 0
  · clear h
    cases f
    all_goals
      go_enter Try.func10, Try.ntmps10
      go_wp2
      go_ret
      exact ⟨rfl, HB.out⟩
  · have h1 : 63 < L := by omega
    clear h
    cases f
    all_goals
      go_enter Try.func10, Try.ntmps10
      go_wp2
      go_ret
      exact ⟨rfl, HB.out⟩
set_option maxRecDepth 100000 in
set_option maxHeartbeats 2000000 in
theorem rchk_rng (L O : Int) (dn f : Bool) (a : Option Addr) (cap : Nat) (zs : List Int) (w : World) (R : Int) (hr : RdA w a zs) (o0 : 0 ≤ O) (o1 : O ≤ 12) (o2 : (zs.length : Int) = O) (l0 : 0 ≤ L) (l1 : L ≤ 63) (hR : (Rng f zs → R = 0) ∧ (¬ Rng f zs → R = 2)) :
    Calls Try.prog 10 #[.agg #[.int .i64 L, .int .i64 O, .bool dn, .bool f, .slice a zs.length cap]] w fun e w' => e = .returned (.int .i64 R) ∧ Below w.heap.size w w' := by
  have HB := Lib.hid (box_below w (.cells #[.int .i64 L, .int .i64 O, .bool dn, .bool f, .slice a zs.length cap] 24))
  have HX := Lib.hid (fun x hx => boxed w L O dn f (.slice a zs.length cap) x hx)
  have h3 : ((zs.length : Int) != O) = false := by simp [o2]
  have n12 : zs.length ≤ 12 := by omega
  have HR := Lib.hid (hr.below HB.out)
  obtain ⟨hR0, hR1⟩ := hR
  have hR0 := Lib.hid hR0
  have hR1 := Lib.hid hR1
  clear hr
  subst o2
  cases f
  · go_enter Try.func10, Try.ntmps10
    go_wp2
    go_loop [4] (fun i => ∃ k : Nat, k ≤ zs.length ∧ i = .int .i64 k ∧ Hid (∀ j, j < k → (-4) ≤ zs.getD j 0 ∧ zs.getD j 0 ≤ 3)) (fun i => zs.length - (intOf i).toNat)
    case atStart => exact ⟨0, by omega, rfl, Lib.hid (fun j hj => by omega)⟩
    case round =>
      obtain ⟨k, hk, rfl, hg⟩ := hrel
      by_cases hlt : k < zs.length
      · obtain ⟨b, off, rfl, hlb, c⟩ := HR.out k hlt
        have hbad : ¬ ((-4) ≤ zs.getD k 0 ∧ zs.getD k 0 ≤ 3) → R = 2 := fun q => hR1.out (fun q2 => q (by simpa [low, hgh] using q2 k hlt))
        have hnx : (-4) ≤ zs.getD k 0 → zs.getD k 0 ≤ 3 → ∀ j, j < k + 1 → (-4) ≤ zs.getD j 0 ∧ zs.getD j 0 ≤ 3 := fun q0 q1 j hj => by
          by_cases e : j = k
          · subst e; exact ⟨q0, q1⟩
          · exact hg.out j (by omega)
        clear hg
        generalize zs.getD k 0 = z at *
        by_cases c0 : z < (-4)
        · obtain rfl := hbad (by omega)
          clear hbad hnx
          go_wp2
          go_ret
          exact ⟨rfl, HB.out⟩
        by_cases c1 : 3 < z
        · obtain rfl := hbad (by omega)
          clear hbad hnx
          go_wp2
          go_ret
          exact ⟨rfl, HB.out⟩
        have HN := Lib.hid (hnx (by omega) (by omega))
        clear hbad hnx
        go_wp2
        go_round
        case rel => exact ⟨k + 1, by omega, by go_num, HN⟩
        case measure => simp [intOf]; omega
      · have hend : k = zs.length := by omega
        subst hend
        obtain rfl : R = 0 := hR0.out (fun i hi => by simpa [low, hgh] using hg.out i hi)
        clear hg
        go_wp2
        go_ret
        exact ⟨rfl, HB.out⟩
  · go_enter Try.func10, Try.ntmps10
    go_wp2
    go_loop [4] (fun i => ∃ k : Nat, k ≤ zs.length ∧ i = .int .i64 k ∧ Hid (∀ j, j < k → (-8) ≤ zs.getD j 0 ∧ zs.getD j 0 ≤ 7)) (fun i => zs.length - (intOf i).toNat)
    case atStart => exact ⟨0, by omega, rfl, Lib.hid (fun j hj => by omega)⟩
    case round =>
      obtain ⟨k, hk, rfl, hg⟩ := hrel
      by_cases hlt : k < zs.length
      · obtain ⟨b, off, rfl, hlb, c⟩ := HR.out k hlt
        have hbad : ¬ ((-8) ≤ zs.getD k 0 ∧ zs.getD k 0 ≤ 7) → R = 2 := fun q => hR1.out (fun q2 => q (by simpa [low, hgh] using q2 k hlt))
        have hnx : (-8) ≤ zs.getD k 0 → zs.getD k 0 ≤ 7 → ∀ j, j < k + 1 → (-8) ≤ zs.getD j 0 ∧ zs.getD j 0 ≤ 7 := fun q0 q1 j hj => by
          by_cases e : j = k
          · subst e; exact ⟨q0, q1⟩
          · exact hg.out j (by omega)
        clear hg
        generalize zs.getD k 0 = z at *
        by_cases c0 : z < (-8)
        · obtain rfl := hbad (by omega)
          clear hbad hnx
          go_wp2
          go_ret
          exact ⟨rfl, HB.out⟩
        by_cases c1 : 7 < z
        · obtain rfl := hbad (by omega)
          clear hbad hnx
          go_wp2
          go_ret
          exact ⟨rfl, HB.out⟩
        have HN := Lib.hid (hnx (by omega) (by omega))
        clear hbad hnx
        go_wp2
        go_round
        case rel => exact ⟨k + 1, by omega, by go_num, HN⟩
        case measure => simp [intOf]; omega
      · have hend : k = zs.length := by omega
        subst hend
        obtain rfl : R = 0 := hR0.out (fun i hi => by simpa [low, hgh] using hg.out i hi)
        clear hg
        go_wp2
        go_ret
        exact ⟨rfl, HB.out⟩
end Go.Proofs.Ytbodpeiemamibaa.Tn

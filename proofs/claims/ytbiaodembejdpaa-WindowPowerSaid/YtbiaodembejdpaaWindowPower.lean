/- The values of all four halves rise, from above 0 to at most 2^22, and the squares of a value and of that as far from the end are together 2^44, but for 2^25 at most. WindowPower returns true, whatever the memory and the schedule. No condition. -/
import Derived.Test.YtbiaodembejdpaaWinHalf
import Derived.WalkKit
import Derived.RegionTactic
import Derived.Deep.QuietTactic
import Derived.BigQuiet
import Derived.ChangeAlike
import Derived.Deep.OwnRows
import Derived.ProofKit
import Derived.OpenShut
import Derived.ShutString
import Derived.ChangeOld
import Derived.Below
import Derived.Lib.Hide
namespace Go.Proofs.Ytbiaodembejdpaa.windowPower
open Go Go.ChangeShapes Go.WideShapes Go.ChangeAt Go.RowKit Go.Proofs.Ytbiaodembejdpaa.Fx

/-- What the statement asks of a half at one place. -/
def okAt (l : List Nat) (n j : Nat) : Bool := Nat.blt 0 (l.getD j 0) && (Nat.ble (l.getD j 0) 4194304 && (Nat.ble (l.getD (j - 1) 0) (l.getD j 0) && (Nat.ble (l.getD j 0 * l.getD j 0 + l.getD (n - 1 - j) 0 * l.getD (n - 1 - j) 0) 17592219598848 && Nat.ble 17592152489984 (l.getD j 0 * l.getD j 0 + l.getD (n - 1 - j) 0 * l.getD (n - 1 - j) 0))))
def okAll (l : List Nat) (n : Nat) : Nat → Bool
  | 0 => true
  | k + 1 => okAt l n k && okAll l n k
theorem at_place {l : List Nat} {n : Nat} : ∀ {k j : Nat}, okAll l n k = true → j < k → okAt l n j = true
  | 0, _, _, h => absurd h (Nat.not_lt_zero _)
  | k + 1, j, e, h => by
    obtain ⟨a, b⟩ := (Bool.and_eq_true_iff.mp e)
    by_cases c : j = k
    · subst c; exact a
    · exact at_place b (by omega)
theorem at_all {l : List Nat} {n j : Nat} (e : okAll l n n = true) (h : j < n) : ∃ V P M : Nat, Hid (l.getD j 0 = V) ∧ Hid (l.getD (j - 1) 0 = P) ∧ Hid (l.getD (n - 1 - j) 0 = M) ∧ 0 < V ∧ V ≤ 4194304 ∧ P ≤ V ∧ M ≤ 4194304 ∧ Hid (V * V + M * M ≤ 17592219598848) ∧ Hid (17592152489984 ≤ V * V + M * M) := by
  have a := at_place e h
  have b := at_place e (show n - 1 - j < n by omega)
  unfold okAt at a b
  simp only [Bool.and_eq_true_iff, Nat.ble_eq, Nat.blt_eq] at a b
  exact ⟨_, _, _, Lib.hid rfl, Lib.hid rfl, Lib.hid rfl, a.1, a.2.1, a.2.2.1, b.2.1, Lib.hid a.2.2.2.1, Lib.hid a.2.2.2.2⟩
theorem wrap_id {x : Int} (a : -9223372036854775808 ≤ x) (b : x ≤ 9223372036854775807) : IntKind.i64.wrap x = x := by
  simp [IntKind.wrap, IntKind.bits, IntKind.signed]
  omega
theorem sq_bd {V : Nat} (h : V ≤ 4194304) : V * V ≤ 17592186044416 := Nat.mul_le_mul h h
theorem all_sl : okAll win_sl 256 256 = true := by kernel_rfl
theorem all_ss : okAll win_ss 32 32 = true := by kernel_rfl
theorem all_kl : okAll win_kl 256 256 = true := by kernel_rfl
theorem all_ks : okAll win_ks 32 32 = true := by kernel_rfl

set_option maxRecDepth 100000 in
set_option maxHeartbeats 4000000 in
theorem walk (w : World) : Calls Try.prog 5 #[] w fun e w' => e = .returned (.bool true) ∧ Below w.heap.size w w' := by
  go_enter Try.func5, Try.ntmps5
  go_wp2_with (go_at_call 8; ((with_reducible refine (w_alive _).mono ?_); rintro e w0 ⟨rfl, hb0⟩; have hb0' := Lib.hid hb0; clear hb0))
  go_loopw [2] (fun i wr => ∃ k : Nat, k ≤ 4 ∧ i = .int .i64 k ∧ Hid (Below w.heap.size w wr)) (fun i _ => 4 - (intOf i).toNat)
  case atStart => exact ⟨0, by omega, rfl, hb0'⟩
  case round =>
    obtain ⟨k, hk, rfl, hbel⟩ := hrel
    obtain rfl | rfl | rfl | rfl | rfl : k = 0 ∨ k = 1 ∨ k = 2 ∨ k = 3 ∨ k = 4 := by omega
    · go_wp2_with (go_at_call 7; ((with_reducible refine (half_sl _).mono ?_); rintro e w1 ⟨g, rfl, hg, hr, hb1⟩; have hr1 := Lib.hid hr; have hb2 := Lib.hid (belowT hbel.out hb1); clear hr))
      go_loopw [6] (fun i wq => ∃ j : Nat, j ≤ 256 ∧ i = .int .i64 j ∧ Hid (wq.rowIs g 3 256 (fun j => .int .i64 (win_sl.getD j 0 : Nat))) ∧ Hid (Below w.heap.size w wq)) (fun i _ => 256 - (intOf i).toNat)
      case atStart => exact ⟨0, by omega, rfl, hr1, hb2⟩
      case round =>
        obtain ⟨j, hj, rfl, hR, hB⟩ := hrel
        by_cases hlt : j < 256
        · obtain ⟨V, P, M, eV, eP, eM, b1, b2, b3, b4, hs1, hs2⟩ := at_all all_sl hlt
          have c1 := hR.out.cell hlt
          have c2 := hR.out.cell (i := 256 - 1 - j) (by omega)
          have c3 := hR.out.cell (i := j - 1) (by omega)
          rw [eV.out] at c1; rw [eP.out] at c3; rw [eM.out] at c2
          obtain ⟨mm, hmm⟩ : ∃ mm, 256 - 1 - j = mm := ⟨_, rfl⟩
          have hm1 : 255 - (j : Int) = (mm : Int) := by omega
          have hm2 : mm < 256 := by omega
          rw [hmm] at c2
          clear hmm
          have q1 := sq_bd b2
          have q2 := sq_bd b4
          obtain ⟨A, hA⟩ : ∃ A, V * V = A := ⟨_, rfl⟩
          obtain ⟨C, hC⟩ : ∃ C, M * M = C := ⟨_, rfl⟩
          have s1 := hs1.out
          have s2 := hs2.out
          rw [hA] at q1 s1 s2
          rw [hC] at q2 s1 s2
          have hA' : (V : Int) * (V : Int) = (A : Int) := by rw [← hA, Int.natCast_mul]
          have hC' : (M : Int) * (M : Int) = (C : Int) := by rw [← hC, Int.natCast_mul]
          clear hs1 hs2 hA hC eV eP eM
          have x1 : IntKind.i64.wrap ((V : Int) * V) = A := by rw [hA']; exact wrap_id (by omega) (by omega)
          have x2 : IntKind.i64.wrap ((M : Int) * M) = C := by rw [hC']; exact wrap_id (by omega) (by omega)
          have x3 : IntKind.i64.wrap ((A : Int) + C) = (A : Int) + C := wrap_id (by omega) (by omega)
          have x4 : IntKind.i64.wrap ((A : Int) + C - 17592186044416) = (A : Int) + C - 17592186044416 := wrap_id (by omega) (by omega)
          have y1 : decide ((V : Int) ≤ 0) = false := decide_eq_false (by omega)
          have y2 : decide (4194304 < (V : Int)) = false := decide_eq_false (by omega)
          have y3 : decide ((V : Int) < P) = false := decide_eq_false (by omega)
          have z1 : decide (V = 0) = false := decide_eq_false (by omega)
          have z3 : decide (V < P) = false := decide_eq_false (by omega)
          have y4 : decide (33554432 < (A : Int) + C - 17592186044416) = false := decide_eq_false (by omega)
          have y5 : decide ((A : Int) + C - 17592186044416 < -33554432) = false := decide_eq_false (by omega)
          by_cases hj0 : 0 < j
          · have hjp := hj0
            obtain ⟨pp, hpp⟩ : ∃ pp, j - 1 = pp := ⟨_, rfl⟩
            have hp1 : (j : Int) - 1 = (pp : Int) := by omega
            have hp2 : pp < 256 := by omega
            rw [hpp] at c3
            clear hpp
            have y6 : decide (0 < (j : Int)) = true := decide_eq_true (by omega)
            have z6 : decide (0 < j) = true := decide_eq_true (by omega)
            go_wp2
            go_quiet (fail)
            go_wp2
            go_quiet (fail)
            go_wp2
            go_roundw
            case rel => exact ⟨j + 1, by omega, by go_num, Lib.hid (hR.out.of_block ((drewN_below _ _).block _ hR.out.lt)), Lib.hid (belowT hB.out (drewN_below _ _))⟩
            case measure => simp [intOf]; omega
          · have z6 : decide (0 < j) = false := decide_eq_false hj0
            have y6 : decide (0 < (j : Int)) = false := decide_eq_false (by omega)
            go_wp2
            go_quiet (fail)
            go_wp2
            go_quiet (fail)
            go_wp2
            go_roundw
            case rel => exact ⟨j + 1, by omega, by go_num, Lib.hid (hR.out.of_block ((drewN_below _ _).block _ hR.out.lt)), Lib.hid (belowT hB.out (drewN_below _ _))⟩
            case measure => simp [intOf]; omega
        · have hend : j = 256 := by omega
          subst hend
          clear hR
          go_wp2
          go_roundw
          case rel => exact ⟨1, by omega, by go_num, hB⟩
          case measure => simp [intOf]
    · go_wp2_with (go_at_call 7; ((with_reducible refine (half_ss _).mono ?_); rintro e w1 ⟨g, rfl, hg, hr, hb1⟩; have hr1 := Lib.hid hr; have hb2 := Lib.hid (belowT hbel.out hb1); clear hr))
      go_loopw [6] (fun i wq => ∃ j : Nat, j ≤ 32 ∧ i = .int .i64 j ∧ Hid (wq.rowIs g 3 32 (fun j => .int .i64 (win_ss.getD j 0 : Nat))) ∧ Hid (Below w.heap.size w wq)) (fun i _ => 32 - (intOf i).toNat)
      case atStart => exact ⟨0, by omega, rfl, hr1, hb2⟩
      case round =>
        obtain ⟨j, hj, rfl, hR, hB⟩ := hrel
        by_cases hlt : j < 32
        · obtain ⟨V, P, M, eV, eP, eM, b1, b2, b3, b4, hs1, hs2⟩ := at_all all_ss hlt
          have c1 := hR.out.cell hlt
          have c2 := hR.out.cell (i := 32 - 1 - j) (by omega)
          have c3 := hR.out.cell (i := j - 1) (by omega)
          rw [eV.out] at c1; rw [eP.out] at c3; rw [eM.out] at c2
          obtain ⟨mm, hmm⟩ : ∃ mm, 32 - 1 - j = mm := ⟨_, rfl⟩
          have hm1 : 31 - (j : Int) = (mm : Int) := by omega
          have hm2 : mm < 32 := by omega
          rw [hmm] at c2
          clear hmm
          have q1 := sq_bd b2
          have q2 := sq_bd b4
          obtain ⟨A, hA⟩ : ∃ A, V * V = A := ⟨_, rfl⟩
          obtain ⟨C, hC⟩ : ∃ C, M * M = C := ⟨_, rfl⟩
          have s1 := hs1.out
          have s2 := hs2.out
          rw [hA] at q1 s1 s2
          rw [hC] at q2 s1 s2
          have hA' : (V : Int) * (V : Int) = (A : Int) := by rw [← hA, Int.natCast_mul]
          have hC' : (M : Int) * (M : Int) = (C : Int) := by rw [← hC, Int.natCast_mul]
          clear hs1 hs2 hA hC eV eP eM
          have x1 : IntKind.i64.wrap ((V : Int) * V) = A := by rw [hA']; exact wrap_id (by omega) (by omega)
          have x2 : IntKind.i64.wrap ((M : Int) * M) = C := by rw [hC']; exact wrap_id (by omega) (by omega)
          have x3 : IntKind.i64.wrap ((A : Int) + C) = (A : Int) + C := wrap_id (by omega) (by omega)
          have x4 : IntKind.i64.wrap ((A : Int) + C - 17592186044416) = (A : Int) + C - 17592186044416 := wrap_id (by omega) (by omega)
          have y1 : decide ((V : Int) ≤ 0) = false := decide_eq_false (by omega)
          have y2 : decide (4194304 < (V : Int)) = false := decide_eq_false (by omega)
          have y3 : decide ((V : Int) < P) = false := decide_eq_false (by omega)
          have z1 : decide (V = 0) = false := decide_eq_false (by omega)
          have z3 : decide (V < P) = false := decide_eq_false (by omega)
          have y4 : decide (33554432 < (A : Int) + C - 17592186044416) = false := decide_eq_false (by omega)
          have y5 : decide ((A : Int) + C - 17592186044416 < -33554432) = false := decide_eq_false (by omega)
          by_cases hj0 : 0 < j
          · have hjp := hj0
            obtain ⟨pp, hpp⟩ : ∃ pp, j - 1 = pp := ⟨_, rfl⟩
            have hp1 : (j : Int) - 1 = (pp : Int) := by omega
            have hp2 : pp < 32 := by omega
            rw [hpp] at c3
            clear hpp
            have y6 : decide (0 < (j : Int)) = true := decide_eq_true (by omega)
            have z6 : decide (0 < j) = true := decide_eq_true (by omega)
            go_wp2
            go_quiet (fail)
            go_wp2
            go_quiet (fail)
            go_wp2
            go_roundw
            case rel => exact ⟨j + 1, by omega, by go_num, Lib.hid (hR.out.of_block ((drewN_below _ _).block _ hR.out.lt)), Lib.hid (belowT hB.out (drewN_below _ _))⟩
            case measure => simp [intOf]; omega
          · have z6 : decide (0 < j) = false := decide_eq_false hj0
            have y6 : decide (0 < (j : Int)) = false := decide_eq_false (by omega)
            go_wp2
            go_quiet (fail)
            go_wp2
            go_quiet (fail)
            go_wp2
            go_roundw
            case rel => exact ⟨j + 1, by omega, by go_num, Lib.hid (hR.out.of_block ((drewN_below _ _).block _ hR.out.lt)), Lib.hid (belowT hB.out (drewN_below _ _))⟩
            case measure => simp [intOf]; omega
        · have hend : j = 32 := by omega
          subst hend
          clear hR
          go_wp2
          go_roundw
          case rel => exact ⟨2, by omega, by go_num, hB⟩
          case measure => simp [intOf]
    · go_wp2_with (go_at_call 7; ((with_reducible refine (half_kl _).mono ?_); rintro e w1 ⟨g, rfl, hg, hr, hb1⟩; have hr1 := Lib.hid hr; have hb2 := Lib.hid (belowT hbel.out hb1); clear hr))
      go_loopw [6] (fun i wq => ∃ j : Nat, j ≤ 256 ∧ i = .int .i64 j ∧ Hid (wq.rowIs g 3 256 (fun j => .int .i64 (win_kl.getD j 0 : Nat))) ∧ Hid (Below w.heap.size w wq)) (fun i _ => 256 - (intOf i).toNat)
      case atStart => exact ⟨0, by omega, rfl, hr1, hb2⟩
      case round =>
        obtain ⟨j, hj, rfl, hR, hB⟩ := hrel
        by_cases hlt : j < 256
        · obtain ⟨V, P, M, eV, eP, eM, b1, b2, b3, b4, hs1, hs2⟩ := at_all all_kl hlt
          have c1 := hR.out.cell hlt
          have c2 := hR.out.cell (i := 256 - 1 - j) (by omega)
          have c3 := hR.out.cell (i := j - 1) (by omega)
          rw [eV.out] at c1; rw [eP.out] at c3; rw [eM.out] at c2
          obtain ⟨mm, hmm⟩ : ∃ mm, 256 - 1 - j = mm := ⟨_, rfl⟩
          have hm1 : 255 - (j : Int) = (mm : Int) := by omega
          have hm2 : mm < 256 := by omega
          rw [hmm] at c2
          clear hmm
          have q1 := sq_bd b2
          have q2 := sq_bd b4
          obtain ⟨A, hA⟩ : ∃ A, V * V = A := ⟨_, rfl⟩
          obtain ⟨C, hC⟩ : ∃ C, M * M = C := ⟨_, rfl⟩
          have s1 := hs1.out
          have s2 := hs2.out
          rw [hA] at q1 s1 s2
          rw [hC] at q2 s1 s2
          have hA' : (V : Int) * (V : Int) = (A : Int) := by rw [← hA, Int.natCast_mul]
          have hC' : (M : Int) * (M : Int) = (C : Int) := by rw [← hC, Int.natCast_mul]
          clear hs1 hs2 hA hC eV eP eM
          have x1 : IntKind.i64.wrap ((V : Int) * V) = A := by rw [hA']; exact wrap_id (by omega) (by omega)
          have x2 : IntKind.i64.wrap ((M : Int) * M) = C := by rw [hC']; exact wrap_id (by omega) (by omega)
          have x3 : IntKind.i64.wrap ((A : Int) + C) = (A : Int) + C := wrap_id (by omega) (by omega)
          have x4 : IntKind.i64.wrap ((A : Int) + C - 17592186044416) = (A : Int) + C - 17592186044416 := wrap_id (by omega) (by omega)
          have y1 : decide ((V : Int) ≤ 0) = false := decide_eq_false (by omega)
          have y2 : decide (4194304 < (V : Int)) = false := decide_eq_false (by omega)
          have y3 : decide ((V : Int) < P) = false := decide_eq_false (by omega)
          have z1 : decide (V = 0) = false := decide_eq_false (by omega)
          have z3 : decide (V < P) = false := decide_eq_false (by omega)
          have y4 : decide (33554432 < (A : Int) + C - 17592186044416) = false := decide_eq_false (by omega)
          have y5 : decide ((A : Int) + C - 17592186044416 < -33554432) = false := decide_eq_false (by omega)
          by_cases hj0 : 0 < j
          · have hjp := hj0
            obtain ⟨pp, hpp⟩ : ∃ pp, j - 1 = pp := ⟨_, rfl⟩
            have hp1 : (j : Int) - 1 = (pp : Int) := by omega
            have hp2 : pp < 256 := by omega
            rw [hpp] at c3
            clear hpp
            have y6 : decide (0 < (j : Int)) = true := decide_eq_true (by omega)
            have z6 : decide (0 < j) = true := decide_eq_true (by omega)
            go_wp2
            go_quiet (fail)
            go_wp2
            go_quiet (fail)
            go_wp2
            go_roundw
            case rel => exact ⟨j + 1, by omega, by go_num, Lib.hid (hR.out.of_block ((drewN_below _ _).block _ hR.out.lt)), Lib.hid (belowT hB.out (drewN_below _ _))⟩
            case measure => simp [intOf]; omega
          · have z6 : decide (0 < j) = false := decide_eq_false hj0
            have y6 : decide (0 < (j : Int)) = false := decide_eq_false (by omega)
            go_wp2
            go_quiet (fail)
            go_wp2
            go_quiet (fail)
            go_wp2
            go_roundw
            case rel => exact ⟨j + 1, by omega, by go_num, Lib.hid (hR.out.of_block ((drewN_below _ _).block _ hR.out.lt)), Lib.hid (belowT hB.out (drewN_below _ _))⟩
            case measure => simp [intOf]; omega
        · have hend : j = 256 := by omega
          subst hend
          clear hR
          go_wp2
          go_roundw
          case rel => exact ⟨3, by omega, by go_num, hB⟩
          case measure => simp [intOf]
    · go_wp2_with (go_at_call 7; ((with_reducible refine (half_ks _).mono ?_); rintro e w1 ⟨g, rfl, hg, hr, hb1⟩; have hr1 := Lib.hid hr; have hb2 := Lib.hid (belowT hbel.out hb1); clear hr))
      go_loopw [6] (fun i wq => ∃ j : Nat, j ≤ 32 ∧ i = .int .i64 j ∧ Hid (wq.rowIs g 3 32 (fun j => .int .i64 (win_ks.getD j 0 : Nat))) ∧ Hid (Below w.heap.size w wq)) (fun i _ => 32 - (intOf i).toNat)
      case atStart => exact ⟨0, by omega, rfl, hr1, hb2⟩
      case round =>
        obtain ⟨j, hj, rfl, hR, hB⟩ := hrel
        by_cases hlt : j < 32
        · obtain ⟨V, P, M, eV, eP, eM, b1, b2, b3, b4, hs1, hs2⟩ := at_all all_ks hlt
          have c1 := hR.out.cell hlt
          have c2 := hR.out.cell (i := 32 - 1 - j) (by omega)
          have c3 := hR.out.cell (i := j - 1) (by omega)
          rw [eV.out] at c1; rw [eP.out] at c3; rw [eM.out] at c2
          obtain ⟨mm, hmm⟩ : ∃ mm, 32 - 1 - j = mm := ⟨_, rfl⟩
          have hm1 : 31 - (j : Int) = (mm : Int) := by omega
          have hm2 : mm < 32 := by omega
          rw [hmm] at c2
          clear hmm
          have q1 := sq_bd b2
          have q2 := sq_bd b4
          obtain ⟨A, hA⟩ : ∃ A, V * V = A := ⟨_, rfl⟩
          obtain ⟨C, hC⟩ : ∃ C, M * M = C := ⟨_, rfl⟩
          have s1 := hs1.out
          have s2 := hs2.out
          rw [hA] at q1 s1 s2
          rw [hC] at q2 s1 s2
          have hA' : (V : Int) * (V : Int) = (A : Int) := by rw [← hA, Int.natCast_mul]
          have hC' : (M : Int) * (M : Int) = (C : Int) := by rw [← hC, Int.natCast_mul]
          clear hs1 hs2 hA hC eV eP eM
          have x1 : IntKind.i64.wrap ((V : Int) * V) = A := by rw [hA']; exact wrap_id (by omega) (by omega)
          have x2 : IntKind.i64.wrap ((M : Int) * M) = C := by rw [hC']; exact wrap_id (by omega) (by omega)
          have x3 : IntKind.i64.wrap ((A : Int) + C) = (A : Int) + C := wrap_id (by omega) (by omega)
          have x4 : IntKind.i64.wrap ((A : Int) + C - 17592186044416) = (A : Int) + C - 17592186044416 := wrap_id (by omega) (by omega)
          have y1 : decide ((V : Int) ≤ 0) = false := decide_eq_false (by omega)
          have y2 : decide (4194304 < (V : Int)) = false := decide_eq_false (by omega)
          have y3 : decide ((V : Int) < P) = false := decide_eq_false (by omega)
          have z1 : decide (V = 0) = false := decide_eq_false (by omega)
          have z3 : decide (V < P) = false := decide_eq_false (by omega)
          have y4 : decide (33554432 < (A : Int) + C - 17592186044416) = false := decide_eq_false (by omega)
          have y5 : decide ((A : Int) + C - 17592186044416 < -33554432) = false := decide_eq_false (by omega)
          by_cases hj0 : 0 < j
          · have hjp := hj0
            obtain ⟨pp, hpp⟩ : ∃ pp, j - 1 = pp := ⟨_, rfl⟩
            have hp1 : (j : Int) - 1 = (pp : Int) := by omega
            have hp2 : pp < 32 := by omega
            rw [hpp] at c3
            clear hpp
            have y6 : decide (0 < (j : Int)) = true := decide_eq_true (by omega)
            have z6 : decide (0 < j) = true := decide_eq_true (by omega)
            go_wp2
            go_quiet (fail)
            go_wp2
            go_quiet (fail)
            go_wp2
            go_roundw
            case rel => exact ⟨j + 1, by omega, by go_num, Lib.hid (hR.out.of_block ((drewN_below _ _).block _ hR.out.lt)), Lib.hid (belowT hB.out (drewN_below _ _))⟩
            case measure => simp [intOf]; omega
          · have z6 : decide (0 < j) = false := decide_eq_false hj0
            have y6 : decide (0 < (j : Int)) = false := decide_eq_false (by omega)
            go_wp2
            go_quiet (fail)
            go_wp2
            go_quiet (fail)
            go_wp2
            go_roundw
            case rel => exact ⟨j + 1, by omega, by go_num, Lib.hid (hR.out.of_block ((drewN_below _ _).block _ hR.out.lt)), Lib.hid (belowT hB.out (drewN_below _ _))⟩
            case measure => simp [intOf]; omega
        · have hend : j = 32 := by omega
          subst hend
          clear hR
          go_wp2
          go_roundw
          case rel => exact ⟨4, by omega, by go_num, hB⟩
          case measure => simp [intOf]
    · have hb := hbel.out
      go_wp2
      go_ret
      exact ⟨rfl, hb⟩

theorem own : ownKnob Try.prog.godebug = none := by kernel_rfl
set_option linter.unusedVariables false
set_option maxRecDepth 100000 in
theorem lifted (os : Os) (started : os.Started) (H : Type) (enc : TypeId × Value → H) :
    ReturnsInHanded {} Try.checked os 5 .any (Rows.windowPowerSpec.pre6 enc Try.prog Try.f5 Rows.windowPowerRow.domain false) (Rows.windowPowerSpec.post enc Try.prog Try.f5 false true false false) := by
  refine returnsInHanded_of_change (C := Try.checked) own started (by kernel_rfl) Try.func5
    (ChangeSpec.witness6 (enc := enc) (C := Try.checked) false ⟨#[], #[], []⟩ 8 (by kernel_rfl) (by kernel_rfl) (by kernel_rfl) (by kernel_rfl)) ?_
  intro W base args ds gs before hval0 hW hcnd _
  have hval : ∀ (j : Nat) t v, Try.f5.params[j]? = some t → args[j]? = some v → Value.okWide Try.prog W .any base t v := hval0
  have hW' := hW
  obtain ⟨p, q, hA0, hV, rfl, hfz, hnd⟩ := hW
  have hA : DataW.TrodAll enc Try.prog W 0 (fun _ => true) true Try.f5.params.toList args.toList ds p := hA0
  rw [Try.params5] at hA hval
  obtain ⟨rfl, rfl, rfl⟩ := trodAll_none hA
  obtain ⟨rfl, rfl⟩ := trodVars_none hV
  clear hA0 hval0
  simp only [List.append_nil] at hW'
  refine (walk  W ).mono fun e W' ⟨he, bel⟩ => ?_
  subst he
  exact ⟨_, rfl, _, _, _, [], _, [], hW', trodAll_mk1 (shut_bool Try.underlying4 _), trodAll_mk0, rfl, bel.frame _, fun h => by cases h⟩

theorem over : Rows.windowPowerRow.holds Try.pinned (OpenSpec.ofChange Rows.windowPowerSpec) :=
  OpenClaim.holds_of_wide 5 Try.f5 rfl rfl rfl rfl rfl rfl rfl ⟨rfl, rfl, rfl, rfl, rfl⟩ rfl rfl rfl rfl rfl (by kernel_rfl) Try.func5 (by kernel_rfl)
    (of_decide_eq_true (by kernel_rfl)) (by unfold Func.isWrapper; first | (rw [if_pos (by decide +kernel)]; kernel_rfl) | (rw [if_neg (by decide +kernel)]; exact ⟨rfl, rfl⟩))
    (fun os started H enc _ => lifted os started H enc)

theorem proved : Rows.WindowPowerSaid := over
end Go.Proofs.Ytbiaodembejdpaa.windowPower

/- A root's power is at most the number, that of one more is above it, roots rise, and powers have the roots of which they are. FixRoots returns true, whatever the two numbers and the root, the memory and the schedule. No condition. -/
import Derived.Test.YtiaacdkfknailaaRootCon
import Derived.Test.YtiaacdkfknailaaFixAlive
import Derived.WalkKit
import Derived.ProofKit
import Derived.OpenShut
import Derived.Lib.Hide
namespace Go.Proofs.Ytiaacdkfknailaa.fixRoots
open Go Go.ChangeShapes Go.WideShapes Go.ChangeAt Go.RowKit Go.Proofs.Ytiaacdkfknailaa.Fx

theorem sq_ex {n : Int} : ∀ (k : Nat) (R : Int), Sq n R k → ∃ r, IsSqrt n r
  | 0, R, h => ⟨R, sq_end h⟩
  | k + 1, R, h => by
    by_cases hc : (R + 2 ^ k) * (R + 2 ^ k) ≤ n
    · exact sq_ex k _ (sq_yes h hc)
    · exact sq_ex k _ (sq_no h hc)
theorem cb_ex {n : Int} : ∀ (k : Nat) (R : Int), Cb n R k → ∃ r, IsCbrt n r
  | 0, R, h => ⟨R, cb_end h⟩
  | k + 1, R, h => by
    by_cases hc : (R + 2 ^ k) * (R + 2 ^ k) * (R + 2 ^ k) ≤ n
    · exact cb_ex k _ (cb_yes h hc)
    · exact cb_ex k _ (cb_no h hc)
theorem sqrt_ex {n : Int} (h0 : 0 ≤ n) (h1 : n ≤ 4611686018427387904) : ∃ r, IsSqrt n r := sq_ex _ _ (sq_start h0 h1)
theorem cbrt_ex {n : Int} (h0 : 0 ≤ n) (h1 : n ≤ 4611686018427387904) : ∃ r, IsCbrt n r := cb_ex _ _ (cb_start h0 h1)
theorem sqrt_at {n A : Int} (w : World) (h1 : 0 ≤ n ∧ n ≤ 4611686018427387904) (hA : IsSqrt n A) :
    Calls Try.prog 18 #[.int .i64 n] w fun e w' => e = .returned (.tuple #[.int .i64 A, .int .i64 0]) ∧ w = w' :=
  (sqrt_in n w h1.1 h1.2).mono fun e w' ⟨r, hr, he, hw⟩ => by rw [sqrt_one hr hA] at he; exact ⟨he, hw⟩
theorem cbrt_at {n A : Int} (w : World) (h1 : 0 ≤ n ∧ n ≤ 4611686018427387904) (hA : IsCbrt n A) :
    Calls Try.prog 17 #[.int .i64 n] w fun e w' => e = .returned (.tuple #[.int .i64 A, .int .i64 0]) ∧ w = w' :=
  (cbrt_in n w h1.1 h1.2).mono fun e w' ⟨r, hr, he, hw⟩ => by rw [cbrt_one hr hA] at he; exact ⟨he, hw⟩

set_option maxRecDepth 100000 in
theorem out (n m s : Int) (w : World) (h : n < 0 ∨ 4611686018427387904 < n) :
    Calls Try.prog 7 #[.int .i64 n, .int .i64 m, .int .u16 s] w fun e w' => e = .returned (.bool true) ∧ Below w.heap.size w w' := by
  by_cases c1 : n < 0
  · go_enter Try.func7, Try.ntmps7
    go_wp2_with (first | (go_at_call 19; refine (alive_ok _).mono ?_; rintro e w' ⟨rfl, hb⟩) | (go_at_call 18; ((with_reducible refine (sqrt_out _ _ (by omega)).mono ?_); rintro e w' ⟨rfl, rfl⟩)) | (go_at_call 17; ((with_reducible refine (cbrt_out _ _ (by omega)).mono ?_); rintro e w' ⟨rfl, rfl⟩)))
    go_ret
    exact ⟨rfl, ‹_›⟩
  have c2 : 4611686018427387904 < n := by omega
  go_enter Try.func7, Try.ntmps7
  go_wp2_with (first | (go_at_call 19; refine (alive_ok _).mono ?_; rintro e w' ⟨rfl, hb⟩) | (go_at_call 18; ((with_reducible refine (sqrt_out _ _ (by omega)).mono ?_); rintro e w' ⟨rfl, rfl⟩)) | (go_at_call 17; ((with_reducible refine (cbrt_out _ _ (by omega)).mono ?_); rintro e w' ⟨rfl, rfl⟩)))
  go_ret
  exact ⟨rfl, ‹_›⟩

theorem mul_bd {a b M N : Int} (h1 : 0 ≤ a) (h2 : a ≤ M) (h3 : 0 ≤ b) (h4 : b ≤ N) : 0 ≤ a * b ∧ a * b ≤ M * N :=
  ⟨Int.mul_nonneg h1 h3, Int.mul_le_mul h2 h4 h3 (by omega)⟩

set_option maxRecDepth 100000 in
set_option maxHeartbeats 2000000 in
theorem pos_low (n m s A B : Int) (w : World) (h0 : 0 ≤ n) (h1 : n ≤ 4611686018427387904) (hs0 : 0 ≤ s) (hs1 : s ≤ 65535) (hA : IsSqrt n A) (hB : IsCbrt n B) (hn : 0 < n) (hA0 : 0 < A) (hB0 : 0 < B) (hm : m < 0) :
    Calls Try.prog 7 #[.int .i64 n, .int .i64 m, .int .u16 s] w fun e w' => e = .returned (.bool true) ∧ Below w.heap.size w w' := by
  have hX := sqrt_of hs0
  have hY := cbrt_of hs0
  obtain ⟨s1, s2⟩ := mul_bd hs0 hs1 hs0 hs1
  obtain ⟨s3, s4⟩ := mul_bd s1 s2 hs0 hs1
  have a0 := hA.1
  have a1 := sqrt_bd hA h1
  have b0 := hB.1
  have b1 := cbrt_bd hB h1
  have a3 := sqrt_div' hA
  have b3 := cbrt_div' hB
  obtain ⟨b4, b5⟩ := mul_bd b0 b1 b0 b1
  obtain ⟨b6, b7⟩ := mul_bd (a := B + 1) (b := B + 1) (M := 1664511) (N := 1664511) (by omega) (by omega) (by omega) (by omega)
  have a2 := sqrt_div hA hA0
  have b2 := cbrt_div hB hB0
  have n1 : 0 < n := hn
  go_enter Try.func7, Try.ntmps7
  go_wp2_with (first | (go_at_call 19; refine (alive_ok _).mono ?_; rintro e w' ⟨rfl, hb⟩) | (go_at_call 18; ((with_reducible refine (sqrt_at _ (by omega) ‹IsSqrt n _›).mono ?_); rintro e w' ⟨rfl, rfl⟩)) | (go_at_call 17; ((with_reducible refine (cbrt_at _ (by omega) ‹IsCbrt n _›).mono ?_); rintro e w' ⟨rfl, rfl⟩)) | (go_at_call 18; ((with_reducible refine (sqrt_at _ (by omega) ‹IsSqrt m _›).mono ?_); rintro e w' ⟨rfl, rfl⟩)) | (go_at_call 17; ((with_reducible refine (cbrt_at _ (by omega) ‹IsCbrt m _›).mono ?_); rintro e w' ⟨rfl, rfl⟩)) | (go_at_call 18; ((with_reducible refine (sqrt_at _ (by omega) ‹IsSqrt (s * s) _›).mono ?_); rintro e w' ⟨rfl, rfl⟩)) | (go_at_call 17; ((with_reducible refine (cbrt_at _ (by omega) ‹IsCbrt (s * s * s) _›).mono ?_); rintro e w' ⟨rfl, rfl⟩)) | (go_at_call 18; ((with_reducible refine (sqrt_out _ _ (by omega)).mono ?_); rintro e w' ⟨rfl, rfl⟩)) | (go_at_call 17; ((with_reducible refine (cbrt_out _ _ (by omega)).mono ?_); rintro e w' ⟨rfl, rfl⟩)))
  go_ret
  exact ⟨rfl, ‹_›⟩

set_option maxRecDepth 100000 in
set_option maxHeartbeats 2000000 in
theorem pos_high (n m s A B : Int) (w : World) (h0 : 0 ≤ n) (h1 : n ≤ 4611686018427387904) (hs0 : 0 ≤ s) (hs1 : s ≤ 65535) (hA : IsSqrt n A) (hB : IsCbrt n B) (hn : 0 < n) (hA0 : 0 < A) (hB0 : 0 < B) (hm : 4611686018427387904 < m) :
    Calls Try.prog 7 #[.int .i64 n, .int .i64 m, .int .u16 s] w fun e w' => e = .returned (.bool true) ∧ Below w.heap.size w w' := by
  have hX := sqrt_of hs0
  have hY := cbrt_of hs0
  obtain ⟨s1, s2⟩ := mul_bd hs0 hs1 hs0 hs1
  obtain ⟨s3, s4⟩ := mul_bd s1 s2 hs0 hs1
  have a0 := hA.1
  have a1 := sqrt_bd hA h1
  have b0 := hB.1
  have b1 := cbrt_bd hB h1
  have a3 := sqrt_div' hA
  have b3 := cbrt_div' hB
  obtain ⟨b4, b5⟩ := mul_bd b0 b1 b0 b1
  obtain ⟨b6, b7⟩ := mul_bd (a := B + 1) (b := B + 1) (M := 1664511) (N := 1664511) (by omega) (by omega) (by omega) (by omega)
  have a2 := sqrt_div hA hA0
  have b2 := cbrt_div hB hB0
  have n1 : 0 < n := hn
  go_enter Try.func7, Try.ntmps7
  go_wp2_with (first | (go_at_call 19; refine (alive_ok _).mono ?_; rintro e w' ⟨rfl, hb⟩) | (go_at_call 18; ((with_reducible refine (sqrt_at _ (by omega) ‹IsSqrt n _›).mono ?_); rintro e w' ⟨rfl, rfl⟩)) | (go_at_call 17; ((with_reducible refine (cbrt_at _ (by omega) ‹IsCbrt n _›).mono ?_); rintro e w' ⟨rfl, rfl⟩)) | (go_at_call 18; ((with_reducible refine (sqrt_at _ (by omega) ‹IsSqrt m _›).mono ?_); rintro e w' ⟨rfl, rfl⟩)) | (go_at_call 17; ((with_reducible refine (cbrt_at _ (by omega) ‹IsCbrt m _›).mono ?_); rintro e w' ⟨rfl, rfl⟩)) | (go_at_call 18; ((with_reducible refine (sqrt_at _ (by omega) ‹IsSqrt (s * s) _›).mono ?_); rintro e w' ⟨rfl, rfl⟩)) | (go_at_call 17; ((with_reducible refine (cbrt_at _ (by omega) ‹IsCbrt (s * s * s) _›).mono ?_); rintro e w' ⟨rfl, rfl⟩)) | (go_at_call 18; ((with_reducible refine (sqrt_out _ _ (by omega)).mono ?_); rintro e w' ⟨rfl, rfl⟩)) | (go_at_call 17; ((with_reducible refine (cbrt_out _ _ (by omega)).mono ?_); rintro e w' ⟨rfl, rfl⟩)))
  go_ret
  exact ⟨rfl, ‹_›⟩

set_option maxRecDepth 100000 in
set_option maxHeartbeats 2000000 in
theorem pos_less (n m s A B : Int) (w : World) (h0 : 0 ≤ n) (h1 : n ≤ 4611686018427387904) (hs0 : 0 ≤ s) (hs1 : s ≤ 65535) (hA : IsSqrt n A) (hB : IsCbrt n B) (hn : 0 < n) (hA0 : 0 < A) (hB0 : 0 < B) (hm0 : 0 ≤ m) (hm1 : m ≤ 4611686018427387904) (C D : Int) (hC : IsSqrt m C) (hD : IsCbrt m D) (hm : m < n) :
    Calls Try.prog 7 #[.int .i64 n, .int .i64 m, .int .u16 s] w fun e w' => e = .returned (.bool true) ∧ Below w.heap.size w w' := by
  have hX := sqrt_of hs0
  have hY := cbrt_of hs0
  obtain ⟨s1, s2⟩ := mul_bd hs0 hs1 hs0 hs1
  obtain ⟨s3, s4⟩ := mul_bd s1 s2 hs0 hs1
  have a0 := hA.1
  have a1 := sqrt_bd hA h1
  have b0 := hB.1
  have b1 := cbrt_bd hB h1
  have a3 := sqrt_div' hA
  have b3 := cbrt_div' hB
  obtain ⟨b4, b5⟩ := mul_bd b0 b1 b0 b1
  obtain ⟨b6, b7⟩ := mul_bd (a := B + 1) (b := B + 1) (M := 1664511) (N := 1664511) (by omega) (by omega) (by omega) (by omega)
  have a2 := sqrt_div hA hA0
  have b2 := cbrt_div hB hB0
  have n1 : 0 < n := hn
  go_enter Try.func7, Try.ntmps7
  go_wp2_with (first | (go_at_call 19; refine (alive_ok _).mono ?_; rintro e w' ⟨rfl, hb⟩) | (go_at_call 18; ((with_reducible refine (sqrt_at _ (by omega) ‹IsSqrt n _›).mono ?_); rintro e w' ⟨rfl, rfl⟩)) | (go_at_call 17; ((with_reducible refine (cbrt_at _ (by omega) ‹IsCbrt n _›).mono ?_); rintro e w' ⟨rfl, rfl⟩)) | (go_at_call 18; ((with_reducible refine (sqrt_at _ (by omega) ‹IsSqrt m _›).mono ?_); rintro e w' ⟨rfl, rfl⟩)) | (go_at_call 17; ((with_reducible refine (cbrt_at _ (by omega) ‹IsCbrt m _›).mono ?_); rintro e w' ⟨rfl, rfl⟩)) | (go_at_call 18; ((with_reducible refine (sqrt_at _ (by omega) ‹IsSqrt (s * s) _›).mono ?_); rintro e w' ⟨rfl, rfl⟩)) | (go_at_call 17; ((with_reducible refine (cbrt_at _ (by omega) ‹IsCbrt (s * s * s) _›).mono ?_); rintro e w' ⟨rfl, rfl⟩)) | (go_at_call 18; ((with_reducible refine (sqrt_out _ _ (by omega)).mono ?_); rintro e w' ⟨rfl, rfl⟩)) | (go_at_call 17; ((with_reducible refine (cbrt_out _ _ (by omega)).mono ?_); rintro e w' ⟨rfl, rfl⟩)))
  go_ret
  exact ⟨rfl, ‹_›⟩

set_option maxRecDepth 100000 in
set_option maxHeartbeats 2000000 in
theorem pos_more (n m s A B : Int) (w : World) (h0 : 0 ≤ n) (h1 : n ≤ 4611686018427387904) (hs0 : 0 ≤ s) (hs1 : s ≤ 65535) (hA : IsSqrt n A) (hB : IsCbrt n B) (hn : 0 < n) (hA0 : 0 < A) (hB0 : 0 < B) (hm0 : 0 ≤ m) (hm1 : m ≤ 4611686018427387904) (C D : Int) (hC : IsSqrt m C) (hD : IsCbrt m D) (hm : n ≤ m) :
    Calls Try.prog 7 #[.int .i64 n, .int .i64 m, .int .u16 s] w fun e w' => e = .returned (.bool true) ∧ Below w.heap.size w w' := by
  have hX := sqrt_of hs0
  have hY := cbrt_of hs0
  obtain ⟨s1, s2⟩ := mul_bd hs0 hs1 hs0 hs1
  obtain ⟨s3, s4⟩ := mul_bd s1 s2 hs0 hs1
  have a0 := hA.1
  have a1 := sqrt_bd hA h1
  have b0 := hB.1
  have b1 := cbrt_bd hB h1
  have a3 := sqrt_div' hA
  have b3 := cbrt_div' hB
  obtain ⟨b4, b5⟩ := mul_bd b0 b1 b0 b1
  obtain ⟨b6, b7⟩ := mul_bd (a := B + 1) (b := B + 1) (M := 1664511) (N := 1664511) (by omega) (by omega) (by omega) (by omega)
  have r1 := sqrt_mono hA hC hm
  have r2 := cbrt_mono hB hD hm
  have a2 := sqrt_div hA hA0
  have b2 := cbrt_div hB hB0
  have n1 : 0 < n := hn
  go_enter Try.func7, Try.ntmps7
  go_wp2_with (first | (go_at_call 19; refine (alive_ok _).mono ?_; rintro e w' ⟨rfl, hb⟩) | (go_at_call 18; ((with_reducible refine (sqrt_at _ (by omega) ‹IsSqrt n _›).mono ?_); rintro e w' ⟨rfl, rfl⟩)) | (go_at_call 17; ((with_reducible refine (cbrt_at _ (by omega) ‹IsCbrt n _›).mono ?_); rintro e w' ⟨rfl, rfl⟩)) | (go_at_call 18; ((with_reducible refine (sqrt_at _ (by omega) ‹IsSqrt m _›).mono ?_); rintro e w' ⟨rfl, rfl⟩)) | (go_at_call 17; ((with_reducible refine (cbrt_at _ (by omega) ‹IsCbrt m _›).mono ?_); rintro e w' ⟨rfl, rfl⟩)) | (go_at_call 18; ((with_reducible refine (sqrt_at _ (by omega) ‹IsSqrt (s * s) _›).mono ?_); rintro e w' ⟨rfl, rfl⟩)) | (go_at_call 17; ((with_reducible refine (cbrt_at _ (by omega) ‹IsCbrt (s * s * s) _›).mono ?_); rintro e w' ⟨rfl, rfl⟩)) | (go_at_call 18; ((with_reducible refine (sqrt_out _ _ (by omega)).mono ?_); rintro e w' ⟨rfl, rfl⟩)) | (go_at_call 17; ((with_reducible refine (cbrt_out _ _ (by omega)).mono ?_); rintro e w' ⟨rfl, rfl⟩)))
  go_ret
  exact ⟨rfl, ‹_›⟩

set_option maxRecDepth 100000 in
set_option maxHeartbeats 2000000 in
theorem zero_low (n m s A B : Int) (w : World) (h0 : 0 ≤ n) (h1 : n ≤ 4611686018427387904) (hs0 : 0 ≤ s) (hs1 : s ≤ 65535) (hA : IsSqrt n A) (hB : IsCbrt n B) (hA0 : A = 0) (hB0 : B = 0) (hm : m < 0) :
    Calls Try.prog 7 #[.int .i64 n, .int .i64 m, .int .u16 s] w fun e w' => e = .returned (.bool true) ∧ Below w.heap.size w w' := by
  have hX := sqrt_of hs0
  have hY := cbrt_of hs0
  obtain ⟨s1, s2⟩ := mul_bd hs0 hs1 hs0 hs1
  obtain ⟨s3, s4⟩ := mul_bd s1 s2 hs0 hs1
  have a0 := hA.1
  have a1 := sqrt_bd hA h1
  have b0 := hB.1
  have b1 := cbrt_bd hB h1
  have a3 := sqrt_div' hA
  have b3 := cbrt_div' hB
  obtain ⟨b4, b5⟩ := mul_bd b0 b1 b0 b1
  obtain ⟨b6, b7⟩ := mul_bd (a := B + 1) (b := B + 1) (M := 1664511) (N := 1664511) (by omega) (by omega) (by omega) (by omega)
  subst hA0
  subst hB0
  go_enter Try.func7, Try.ntmps7
  go_wp2_with (first | (go_at_call 19; refine (alive_ok _).mono ?_; rintro e w' ⟨rfl, hb⟩) | (go_at_call 18; ((with_reducible refine (sqrt_at _ (by omega) ‹IsSqrt n _›).mono ?_); rintro e w' ⟨rfl, rfl⟩)) | (go_at_call 17; ((with_reducible refine (cbrt_at _ (by omega) ‹IsCbrt n _›).mono ?_); rintro e w' ⟨rfl, rfl⟩)) | (go_at_call 18; ((with_reducible refine (sqrt_at _ (by omega) ‹IsSqrt m _›).mono ?_); rintro e w' ⟨rfl, rfl⟩)) | (go_at_call 17; ((with_reducible refine (cbrt_at _ (by omega) ‹IsCbrt m _›).mono ?_); rintro e w' ⟨rfl, rfl⟩)) | (go_at_call 18; ((with_reducible refine (sqrt_at _ (by omega) ‹IsSqrt (s * s) _›).mono ?_); rintro e w' ⟨rfl, rfl⟩)) | (go_at_call 17; ((with_reducible refine (cbrt_at _ (by omega) ‹IsCbrt (s * s * s) _›).mono ?_); rintro e w' ⟨rfl, rfl⟩)) | (go_at_call 18; ((with_reducible refine (sqrt_out _ _ (by omega)).mono ?_); rintro e w' ⟨rfl, rfl⟩)) | (go_at_call 17; ((with_reducible refine (cbrt_out _ _ (by omega)).mono ?_); rintro e w' ⟨rfl, rfl⟩)))
  go_ret
  exact ⟨rfl, ‹_›⟩

set_option maxRecDepth 100000 in
set_option maxHeartbeats 2000000 in
theorem zero_high (n m s A B : Int) (w : World) (h0 : 0 ≤ n) (h1 : n ≤ 4611686018427387904) (hs0 : 0 ≤ s) (hs1 : s ≤ 65535) (hA : IsSqrt n A) (hB : IsCbrt n B) (hA0 : A = 0) (hB0 : B = 0) (hm : 4611686018427387904 < m) :
    Calls Try.prog 7 #[.int .i64 n, .int .i64 m, .int .u16 s] w fun e w' => e = .returned (.bool true) ∧ Below w.heap.size w w' := by
  have hX := sqrt_of hs0
  have hY := cbrt_of hs0
  obtain ⟨s1, s2⟩ := mul_bd hs0 hs1 hs0 hs1
  obtain ⟨s3, s4⟩ := mul_bd s1 s2 hs0 hs1
  have a0 := hA.1
  have a1 := sqrt_bd hA h1
  have b0 := hB.1
  have b1 := cbrt_bd hB h1
  have a3 := sqrt_div' hA
  have b3 := cbrt_div' hB
  obtain ⟨b4, b5⟩ := mul_bd b0 b1 b0 b1
  obtain ⟨b6, b7⟩ := mul_bd (a := B + 1) (b := B + 1) (M := 1664511) (N := 1664511) (by omega) (by omega) (by omega) (by omega)
  subst hA0
  subst hB0
  go_enter Try.func7, Try.ntmps7
  go_wp2_with (first | (go_at_call 19; refine (alive_ok _).mono ?_; rintro e w' ⟨rfl, hb⟩) | (go_at_call 18; ((with_reducible refine (sqrt_at _ (by omega) ‹IsSqrt n _›).mono ?_); rintro e w' ⟨rfl, rfl⟩)) | (go_at_call 17; ((with_reducible refine (cbrt_at _ (by omega) ‹IsCbrt n _›).mono ?_); rintro e w' ⟨rfl, rfl⟩)) | (go_at_call 18; ((with_reducible refine (sqrt_at _ (by omega) ‹IsSqrt m _›).mono ?_); rintro e w' ⟨rfl, rfl⟩)) | (go_at_call 17; ((with_reducible refine (cbrt_at _ (by omega) ‹IsCbrt m _›).mono ?_); rintro e w' ⟨rfl, rfl⟩)) | (go_at_call 18; ((with_reducible refine (sqrt_at _ (by omega) ‹IsSqrt (s * s) _›).mono ?_); rintro e w' ⟨rfl, rfl⟩)) | (go_at_call 17; ((with_reducible refine (cbrt_at _ (by omega) ‹IsCbrt (s * s * s) _›).mono ?_); rintro e w' ⟨rfl, rfl⟩)) | (go_at_call 18; ((with_reducible refine (sqrt_out _ _ (by omega)).mono ?_); rintro e w' ⟨rfl, rfl⟩)) | (go_at_call 17; ((with_reducible refine (cbrt_out _ _ (by omega)).mono ?_); rintro e w' ⟨rfl, rfl⟩)))
  go_ret
  exact ⟨rfl, ‹_›⟩

set_option maxRecDepth 100000 in
set_option maxHeartbeats 2000000 in
theorem zero_more (n m s A B : Int) (w : World) (h0 : 0 ≤ n) (h1 : n ≤ 4611686018427387904) (hs0 : 0 ≤ s) (hs1 : s ≤ 65535) (hA : IsSqrt n A) (hB : IsCbrt n B) (hA0 : A = 0) (hB0 : B = 0) (hm0 : 0 ≤ m) (hm1 : m ≤ 4611686018427387904) (C D : Int) (hC : IsSqrt m C) (hD : IsCbrt m D) (hm : n ≤ m) :
    Calls Try.prog 7 #[.int .i64 n, .int .i64 m, .int .u16 s] w fun e w' => e = .returned (.bool true) ∧ Below w.heap.size w w' := by
  have hX := sqrt_of hs0
  have hY := cbrt_of hs0
  obtain ⟨s1, s2⟩ := mul_bd hs0 hs1 hs0 hs1
  obtain ⟨s3, s4⟩ := mul_bd s1 s2 hs0 hs1
  have a0 := hA.1
  have a1 := sqrt_bd hA h1
  have b0 := hB.1
  have b1 := cbrt_bd hB h1
  have a3 := sqrt_div' hA
  have b3 := cbrt_div' hB
  obtain ⟨b4, b5⟩ := mul_bd b0 b1 b0 b1
  obtain ⟨b6, b7⟩ := mul_bd (a := B + 1) (b := B + 1) (M := 1664511) (N := 1664511) (by omega) (by omega) (by omega) (by omega)
  have r1 := sqrt_mono hA hC hm
  have r2 := cbrt_mono hB hD hm
  subst hA0
  subst hB0
  go_enter Try.func7, Try.ntmps7
  go_wp2_with (first | (go_at_call 19; refine (alive_ok _).mono ?_; rintro e w' ⟨rfl, hb⟩) | (go_at_call 18; ((with_reducible refine (sqrt_at _ (by omega) ‹IsSqrt n _›).mono ?_); rintro e w' ⟨rfl, rfl⟩)) | (go_at_call 17; ((with_reducible refine (cbrt_at _ (by omega) ‹IsCbrt n _›).mono ?_); rintro e w' ⟨rfl, rfl⟩)) | (go_at_call 18; ((with_reducible refine (sqrt_at _ (by omega) ‹IsSqrt m _›).mono ?_); rintro e w' ⟨rfl, rfl⟩)) | (go_at_call 17; ((with_reducible refine (cbrt_at _ (by omega) ‹IsCbrt m _›).mono ?_); rintro e w' ⟨rfl, rfl⟩)) | (go_at_call 18; ((with_reducible refine (sqrt_at _ (by omega) ‹IsSqrt (s * s) _›).mono ?_); rintro e w' ⟨rfl, rfl⟩)) | (go_at_call 17; ((with_reducible refine (cbrt_at _ (by omega) ‹IsCbrt (s * s * s) _›).mono ?_); rintro e w' ⟨rfl, rfl⟩)) | (go_at_call 18; ((with_reducible refine (sqrt_out _ _ (by omega)).mono ?_); rintro e w' ⟨rfl, rfl⟩)) | (go_at_call 17; ((with_reducible refine (cbrt_out _ _ (by omega)).mono ?_); rintro e w' ⟨rfl, rfl⟩)))
  go_ret
  exact ⟨rfl, ‹_›⟩

theorem walk (n m s : Int) (w : World) (_ : (Lit.int .i64 n).wf = true) (_ : (Lit.int .i64 m).wf = true) (hs : (Lit.int .u16 s).wf = true) :
    Calls Try.prog 7 #[.int .i64 n, .int .i64 m, .int .u16 s] w fun e w' => e = .returned (.bool true) ∧ Below w.heap.size w w' := by
  have hs0 : 0 ≤ s ∧ s ≤ 65535 := bounds_u16 hs
  obtain ⟨hs0, hs1⟩ := hs0
  by_cases c1 : n < 0 ∨ 4611686018427387904 < n
  · exact out n m s w c1
  have h0 : 0 ≤ n := by omega
  have h1 : n ≤ 4611686018427387904 := by omega
  obtain ⟨A, hA⟩ := sqrt_ex h0 h1
  obtain ⟨B, hB⟩ := cbrt_ex h0 h1
  by_cases c2 : 0 < n
  · have hA0 : 0 < A := by
      obtain ⟨x, y, z⟩ := hA
      refine Int.not_le.1 fun h => ?_
      have : A = 0 := by omega
      subst this
      simp at z
      omega
    have hB0 : 0 < B := by
      obtain ⟨x, y, z⟩ := hB
      refine Int.not_le.1 fun h => ?_
      have : B = 0 := by omega
      subst this
      simp at z
      omega
    by_cases c3 : m < 0
    · exact pos_low n m s A B w h0 h1 hs0 hs1 hA hB c2 hA0 hB0 c3
    by_cases c4 : 4611686018427387904 < m
    · exact pos_high n m s A B w h0 h1 hs0 hs1 hA hB c2 hA0 hB0 c4
    obtain ⟨C, hC⟩ := sqrt_ex (n := m) (by omega) (by omega)
    obtain ⟨D, hD⟩ := cbrt_ex (n := m) (by omega) (by omega)
    by_cases c5 : m < n
    · exact pos_less n m s A B w h0 h1 hs0 hs1 hA hB c2 hA0 hB0 (by omega) (by omega) C D hC hD c5
    · exact pos_more n m s A B w h0 h1 hs0 hs1 hA hB c2 hA0 hB0 (by omega) (by omega) C D hC hD (by omega)
  · obtain rfl : n = 0 := by omega
    have hA0 : A = 0 := sqrt_one hA (by simpa using sqrt_of (s := 0) (by omega))
    have hB0 : B = 0 := cbrt_one hB (by simpa using cbrt_of (s := 0) (by omega))
    by_cases c3 : m < 0
    · exact zero_low 0 m s A B w h0 h1 hs0 hs1 hA hB hA0 hB0 c3
    by_cases c4 : 4611686018427387904 < m
    · exact zero_high 0 m s A B w h0 h1 hs0 hs1 hA hB hA0 hB0 c4
    obtain ⟨C, hC⟩ := sqrt_ex (n := m) (by omega) (by omega)
    obtain ⟨D, hD⟩ := cbrt_ex (n := m) (by omega) (by omega)
    by_cases c5 : m < 0
    · exact absurd c5 c3
    · exact zero_more 0 m s A B w h0 h1 hs0 hs1 hA hB hA0 hB0 (by omega) (by omega) C D hC hD (by omega)

theorem own : ownKnob Try.prog.godebug = none := by kernel_rfl
set_option linter.unusedVariables false
set_option maxRecDepth 100000 in
theorem lifted (os : Os) (started : os.Started) (H : Type) (enc : TypeId × Value → H) :
    ReturnsInHanded {} Try.checked os 7 .any (Rows.fixRootsSpec.pre6 enc Try.prog Try.f7 Rows.fixRootsRow.domain false) (Rows.fixRootsSpec.post enc Try.prog Try.f7 false true false false) := by
  refine returnsInHanded_of_change (C := Try.checked) own started (by kernel_rfl) Try.func7
    (ChangeSpec.witness6 (enc := enc) (C := Try.checked) false ⟨#[], #[.int .i64 0, .int .i64 0, .int .u16 0], []⟩ 8 (by kernel_rfl) (by kernel_rfl) (by kernel_rfl) (by kernel_rfl)) ?_
  intro W base args ds gs before hval0 hW hcnd _
  have hval : ∀ (j : Nat) t v, Try.f7.params[j]? = some t → args[j]? = some v → Value.okWide Try.prog W .any base t v := hval0
  have hW' := hW
  obtain ⟨p, q, hA0, hV, rfl, hfz, hnd⟩ := hW
  have hA : DataW.TrodAll enc Try.prog W 0 (fun _ => true) true Try.f7.params.toList args.toList ds p := hA0
  rw [Try.params7] at hA hval
  obtain ⟨v0, vs0, d0, ds0, p0, q0, hargs, rfl, rfl, h0, r0⟩ := trodAll_cons hA
  obtain ⟨v1, vs1, d1, ds1, p1, q1, rfl, rfl, rfl, h1, r1⟩ := trodAll_cons r0
  obtain ⟨v2, vs2, d2, ds2, p2, q2, rfl, rfl, rfl, h2, r2⟩ := trodAll_cons r1
  obtain ⟨rfl, rfl, rfl⟩ := trodAll_nil r2
  obtain rfl : args = #[v0, v1, v2] := by cases args; simp_all
  obtain ⟨rfl, rfl⟩ := trodVars_none hV
  obtain ⟨a0, rfl, rfl, rfl, w0⟩ := open_int Try.underlying3 (hval 0 3 v0 rfl rfl) h0
  obtain ⟨a1, rfl, rfl, rfl, w1⟩ := open_int Try.underlying3 (hval 1 3 v1 rfl rfl) h1
  obtain ⟨a2, rfl, rfl, rfl, w2⟩ := open_int Try.underlying32 (hval 2 32 v2 rfl rfl) h2
  clear hA0 hval0
  simp only [List.append_nil] at hW'
  refine (walk a0 a1 a2 W w0 w1 w2).mono fun e W' ⟨he, bel⟩ => ?_
  subst he
  exact ⟨_, rfl, _, _, _, [], _, [], hW', trodAll_mk1 (shut_bool Try.underlying4 _), (trodAll_cons_mk (shut_int Try.underlying3 w0) (trodAll_cons_mk (shut_int Try.underlying3 w1) (trodAll_cons_mk (shut_int Try.underlying32 w2) trodAll_mk0))), rfl, bel.frame _, fun h => by cases h⟩

theorem over : Rows.fixRootsRow.holds Try.pinned (OpenSpec.ofChange Rows.fixRootsSpec) :=
  OpenClaim.holds_of_wide 7 Try.f7 rfl rfl rfl rfl rfl rfl rfl ⟨rfl, rfl, rfl, rfl, rfl⟩ rfl rfl rfl rfl rfl (by kernel_rfl) Try.func7 (by kernel_rfl)
    (of_decide_eq_true (by kernel_rfl)) (by unfold Func.isWrapper; first | (rw [if_pos (by decide +kernel)]; kernel_rfl) | (rw [if_neg (by decide +kernel)]; exact ⟨rfl, rfl⟩))
    (fun os started H enc _ => lifted os started H enc)

theorem proved : Rows.FixRootsSaid := over
end Go.Proofs.Ytiaacdkfknailaa.fixRoots

/- Two numbers rounded off are together as their sum is, to 1, a number rounded off twice is off by 1 at most from being so once, and one that is turned over is rounded off to the turned one, or one more. FixSums returns true, whatever the two numbers and the bits, the memory and the schedule. No condition. -/
import Derived.Test.YtiaacdkfknailaaFixCon
import Derived.Test.YtiaacdkfknailaaFixAlive
import Derived.WalkKit
import Derived.ProofKit
import Derived.OpenShut
import Derived.Lib.Hide
namespace Go.Proofs.Ytiaacdkfknailaa.fixSums
open Go Go.ChangeShapes Go.WideShapes Go.ChangeAt Go.RowKit Go.Proofs.Ytiaacdkfknailaa.Fx

theorem rnd_in {n b M : Int} (hb : 0 ≤ b) (hM : 1 ≤ M) (h1 : -M ≤ n) (h2 : n ≤ M) : -M ≤ rnd n b ∧ rnd n b ≤ M := by
  by_cases e : b = 0
  · subst e; simpa [rnd] using ⟨h1, h2⟩
  · obtain ⟨H, h0, _, _, e2⟩ := rnd_at (n := n) (b := b) (by omega)
    rw [e2]
    have k : M * 1 ≤ M * H := Int.mul_le_mul_of_nonneg_left (by omega) (by omega)
    have k2 : 1 * H ≤ M * H := Int.mul_le_mul_of_nonneg_right (by omega) (by omega)
    have k3 : M * (2 * H) = 2 * (M * H) := by rw [Int.mul_left_comm]
    constructor
    · rw [Int.le_ediv_iff_mul_le (by omega), Int.neg_mul, k3]
      omega
    · have : (n + H) / (2 * H) < M + 1 := by
        rw [Int.ediv_lt_iff_lt_mul (by omega), Int.add_mul, k3]
        omega
      omega

set_option maxRecDepth 100000 in
set_option maxHeartbeats 2000000 in
theorem far (n m b c : Int) (w : World) (h : 1152921504606846976 < n ∨ n < -1152921504606846976 ∨ 1152921504606846976 < m ∨ m < -1152921504606846976) :
    Calls Try.prog 8 #[.int .i64 n, .int .i64 m, .int .i64 b, .int .i64 c] w fun e w' => e = .returned (.bool true) ∧ Below w.heap.size w w' := by
  by_cases c1 : 1152921504606846976 < n
  · go_enter Try.func8, Try.ntmps8
    go_wp2_with (first | (go_at_call 19; refine (alive_ok _).mono ?_; rintro e w' ⟨rfl, hb⟩) | (go_at_call 15; refine (round_in _ _ _ (by omega) (by omega) (by omega) (by omega)).mono ?_; rintro e w' ⟨rfl, rfl⟩) | (go_at_call 15; refine (round_out _ _ _ (by omega)).mono ?_; rintro e w' ⟨rfl, rfl⟩))
    go_ret
    exact ⟨rfl, ‹_›⟩
  by_cases c2 : n < -1152921504606846976
  · go_enter Try.func8, Try.ntmps8
    go_wp2_with (first | (go_at_call 19; refine (alive_ok _).mono ?_; rintro e w' ⟨rfl, hb⟩) | (go_at_call 15; refine (round_in _ _ _ (by omega) (by omega) (by omega) (by omega)).mono ?_; rintro e w' ⟨rfl, rfl⟩) | (go_at_call 15; refine (round_out _ _ _ (by omega)).mono ?_; rintro e w' ⟨rfl, rfl⟩))
    go_ret
    exact ⟨rfl, ‹_›⟩
  by_cases c3 : 1152921504606846976 < m
  · go_enter Try.func8, Try.ntmps8
    go_wp2_with (first | (go_at_call 19; refine (alive_ok _).mono ?_; rintro e w' ⟨rfl, hb⟩) | (go_at_call 15; refine (round_in _ _ _ (by omega) (by omega) (by omega) (by omega)).mono ?_; rintro e w' ⟨rfl, rfl⟩) | (go_at_call 15; refine (round_out _ _ _ (by omega)).mono ?_; rintro e w' ⟨rfl, rfl⟩))
    go_ret
    exact ⟨rfl, ‹_›⟩
  have c4 : m < -1152921504606846976 := by omega
  clear h
  go_enter Try.func8, Try.ntmps8
  go_wp2_with (first | (go_at_call 19; refine (alive_ok _).mono ?_; rintro e w' ⟨rfl, hb⟩) | (go_at_call 15; refine (round_in _ _ _ (by omega) (by omega) (by omega) (by omega)).mono ?_; rintro e w' ⟨rfl, rfl⟩) | (go_at_call 15; refine (round_out _ _ _ (by omega)).mono ?_; rintro e w' ⟨rfl, rfl⟩))
  go_ret
  exact ⟨rfl, ‹_›⟩

set_option maxRecDepth 100000 in
set_option maxHeartbeats 2000000 in
theorem bits_low (n m b c : Int) (w : World) (h1 : -1152921504606846976 ≤ n) (h2 : n ≤ 1152921504606846976) (h3 : -1152921504606846976 ≤ m) (h4 : m ≤ 1152921504606846976) (h5 : b < 0) :
    Calls Try.prog 8 #[.int .i64 n, .int .i64 m, .int .i64 b, .int .i64 c] w fun e w' => e = .returned (.bool true) ∧ Below w.heap.size w w' := by
  go_enter Try.func8, Try.ntmps8
  go_wp2_with (first | (go_at_call 19; refine (alive_ok _).mono ?_; rintro e w' ⟨rfl, hb⟩) | (go_at_call 15; refine (round_in _ _ _ (by omega) (by omega) (by omega) (by omega)).mono ?_; rintro e w' ⟨rfl, rfl⟩) | (go_at_call 15; refine (round_out _ _ _ (by omega)).mono ?_; rintro e w' ⟨rfl, rfl⟩))
  go_ret
  exact ⟨rfl, ‹_›⟩

set_option maxRecDepth 100000 in
set_option maxHeartbeats 2000000 in
theorem bits_high (n m b c : Int) (w : World) (h1 : -1152921504606846976 ≤ n) (h2 : n ≤ 1152921504606846976) (h3 : -1152921504606846976 ≤ m) (h4 : m ≤ 1152921504606846976) (h5 : 62 < b) :
    Calls Try.prog 8 #[.int .i64 n, .int .i64 m, .int .i64 b, .int .i64 c] w fun e w' => e = .returned (.bool true) ∧ Below w.heap.size w w' := by
  go_enter Try.func8, Try.ntmps8
  go_wp2_with (first | (go_at_call 19; refine (alive_ok _).mono ?_; rintro e w' ⟨rfl, hb⟩) | (go_at_call 15; refine (round_in _ _ _ (by omega) (by omega) (by omega) (by omega)).mono ?_; rintro e w' ⟨rfl, rfl⟩) | (go_at_call 15; refine (round_out _ _ _ (by omega)).mono ?_; rintro e w' ⟨rfl, rfl⟩))
  go_ret
  exact ⟨rfl, ‹_›⟩

set_option maxRecDepth 100000 in
set_option maxHeartbeats 2000000 in
theorem two_low (n m b c : Int) (w : World) (h1 : -1152921504606846976 ≤ n) (h2 : n ≤ 1152921504606846976) (h3 : -1152921504606846976 ≤ m) (h4 : m ≤ 1152921504606846976) (h5 : 0 ≤ b) (h6 : b ≤ 62) (h7 : c < 0) :
    Calls Try.prog 8 #[.int .i64 n, .int .i64 m, .int .i64 b, .int .i64 c] w fun e w' => e = .returned (.bool true) ∧ Below w.heap.size w w' := by
  have g := rnd_sum (n := n) (m := m) (b := b) h5
  obtain ⟨g1, g2⟩ := g
  have a1 := rnd_in (n := n) (b := b) (M := 1152921504606846976) h5 (by omega) h1 h2
  have a2 := rnd_in (n := m) (b := b) (M := 1152921504606846976) h5 (by omega) h3 h4
  have a3 := rnd_in (n := n + m) (b := b) (M := 2305843009213693952) h5 (by omega) (by omega) (by omega)
  have a4 := rnd_in (n := -n) (b := b) (M := 1152921504606846976) h5 (by omega) (by omega) (by omega)
  obtain ⟨a11, a12⟩ := a1
  obtain ⟨a21, a22⟩ := a2
  obtain ⟨a31, a32⟩ := a3
  obtain ⟨a41, a42⟩ := a4
  have k := rnd_neg (n := n) h5
  obtain ⟨k1, k2⟩ := k
  by_cases z : rnd n b + rnd (-n) b = 0
  · have z1 : (rnd n b + rnd (-n) b == 0) = true := by simp [z]
    have z2 : (rnd n b + rnd (-n) b != 0) = false := by simp [z]
    clear z
    go_enter Try.func8, Try.ntmps8
    go_wp2_with (first | (go_at_call 19; refine (alive_ok _).mono ?_; rintro e w' ⟨rfl, hb⟩) | (go_at_call 15; refine (round_in _ _ _ (by omega) (by omega) (by omega) (by omega)).mono ?_; rintro e w' ⟨rfl, rfl⟩) | (go_at_call 15; refine (round_out _ _ _ (by omega)).mono ?_; rintro e w' ⟨rfl, rfl⟩))
    go_ret
    exact ⟨rfl, ‹_›⟩

  · have z1 : (rnd n b + rnd (-n) b == 1) = true := by simp; omega
    have z3 : (rnd n b + rnd (-n) b == 0) = false := by simp; omega
    have z4 : (rnd n b + rnd (-n) b != 0) = true := by simp; omega
    have z2 : (rnd n b + rnd (-n) b != 1) = false := by simp; omega
    clear z
    go_enter Try.func8, Try.ntmps8
    go_wp2_with (first | (go_at_call 19; refine (alive_ok _).mono ?_; rintro e w' ⟨rfl, hb⟩) | (go_at_call 15; refine (round_in _ _ _ (by omega) (by omega) (by omega) (by omega)).mono ?_; rintro e w' ⟨rfl, rfl⟩) | (go_at_call 15; refine (round_out _ _ _ (by omega)).mono ?_; rintro e w' ⟨rfl, rfl⟩))
    go_ret
    exact ⟨rfl, ‹_›⟩


set_option maxRecDepth 100000 in
set_option maxHeartbeats 2000000 in
theorem two_high (n m b c : Int) (w : World) (h1 : -1152921504606846976 ≤ n) (h2 : n ≤ 1152921504606846976) (h3 : -1152921504606846976 ≤ m) (h4 : m ≤ 1152921504606846976) (h5 : 0 ≤ b) (h6 : b ≤ 62) (h7 : 62 < c) :
    Calls Try.prog 8 #[.int .i64 n, .int .i64 m, .int .i64 b, .int .i64 c] w fun e w' => e = .returned (.bool true) ∧ Below w.heap.size w w' := by
  have g := rnd_sum (n := n) (m := m) (b := b) h5
  obtain ⟨g1, g2⟩ := g
  have a1 := rnd_in (n := n) (b := b) (M := 1152921504606846976) h5 (by omega) h1 h2
  have a2 := rnd_in (n := m) (b := b) (M := 1152921504606846976) h5 (by omega) h3 h4
  have a3 := rnd_in (n := n + m) (b := b) (M := 2305843009213693952) h5 (by omega) (by omega) (by omega)
  have a4 := rnd_in (n := -n) (b := b) (M := 1152921504606846976) h5 (by omega) (by omega) (by omega)
  obtain ⟨a11, a12⟩ := a1
  obtain ⟨a21, a22⟩ := a2
  obtain ⟨a31, a32⟩ := a3
  obtain ⟨a41, a42⟩ := a4
  have k := rnd_neg (n := n) h5
  obtain ⟨k1, k2⟩ := k
  by_cases z : rnd n b + rnd (-n) b = 0
  · have z1 : (rnd n b + rnd (-n) b == 0) = true := by simp [z]
    have z2 : (rnd n b + rnd (-n) b != 0) = false := by simp [z]
    clear z
    go_enter Try.func8, Try.ntmps8
    go_wp2_with (first | (go_at_call 19; refine (alive_ok _).mono ?_; rintro e w' ⟨rfl, hb⟩) | (go_at_call 15; refine (round_in _ _ _ (by omega) (by omega) (by omega) (by omega)).mono ?_; rintro e w' ⟨rfl, rfl⟩) | (go_at_call 15; refine (round_out _ _ _ (by omega)).mono ?_; rintro e w' ⟨rfl, rfl⟩))
    go_ret
    exact ⟨rfl, ‹_›⟩

  · have z1 : (rnd n b + rnd (-n) b == 1) = true := by simp; omega
    have z3 : (rnd n b + rnd (-n) b == 0) = false := by simp; omega
    have z4 : (rnd n b + rnd (-n) b != 0) = true := by simp; omega
    have z2 : (rnd n b + rnd (-n) b != 1) = false := by simp; omega
    clear z
    go_enter Try.func8, Try.ntmps8
    go_wp2_with (first | (go_at_call 19; refine (alive_ok _).mono ?_; rintro e w' ⟨rfl, hb⟩) | (go_at_call 15; refine (round_in _ _ _ (by omega) (by omega) (by omega) (by omega)).mono ?_; rintro e w' ⟨rfl, rfl⟩) | (go_at_call 15; refine (round_out _ _ _ (by omega)).mono ?_; rintro e w' ⟨rfl, rfl⟩))
    go_ret
    exact ⟨rfl, ‹_›⟩


set_option maxRecDepth 100000 in
set_option maxHeartbeats 2000000 in
theorem both_high (n m b c : Int) (w : World) (h1 : -1152921504606846976 ≤ n) (h2 : n ≤ 1152921504606846976) (h3 : -1152921504606846976 ≤ m) (h4 : m ≤ 1152921504606846976) (h5 : 0 ≤ b) (h6 : b ≤ 62) (h7 : 0 ≤ c) (h8 : c ≤ 62) (h9 : 62 < b + c) :
    Calls Try.prog 8 #[.int .i64 n, .int .i64 m, .int .i64 b, .int .i64 c] w fun e w' => e = .returned (.bool true) ∧ Below w.heap.size w w' := by
  have g := rnd_sum (n := n) (m := m) (b := b) h5
  obtain ⟨g1, g2⟩ := g
  have a1 := rnd_in (n := n) (b := b) (M := 1152921504606846976) h5 (by omega) h1 h2
  have a2 := rnd_in (n := m) (b := b) (M := 1152921504606846976) h5 (by omega) h3 h4
  have a3 := rnd_in (n := n + m) (b := b) (M := 2305843009213693952) h5 (by omega) (by omega) (by omega)
  have a4 := rnd_in (n := -n) (b := b) (M := 1152921504606846976) h5 (by omega) (by omega) (by omega)
  obtain ⟨a11, a12⟩ := a1
  obtain ⟨a21, a22⟩ := a2
  obtain ⟨a31, a32⟩ := a3
  obtain ⟨a41, a42⟩ := a4
  have k := rnd_neg (n := n) h5
  obtain ⟨k1, k2⟩ := k
  by_cases z : rnd n b + rnd (-n) b = 0
  · have z1 : (rnd n b + rnd (-n) b == 0) = true := by simp [z]
    have z2 : (rnd n b + rnd (-n) b != 0) = false := by simp [z]
    clear z
    go_enter Try.func8, Try.ntmps8
    go_wp2_with (first | (go_at_call 19; refine (alive_ok _).mono ?_; rintro e w' ⟨rfl, hb⟩) | (go_at_call 15; refine (round_in _ _ _ (by omega) (by omega) (by omega) (by omega)).mono ?_; rintro e w' ⟨rfl, rfl⟩) | (go_at_call 15; refine (round_out _ _ _ (by omega)).mono ?_; rintro e w' ⟨rfl, rfl⟩))
    go_ret
    exact ⟨rfl, ‹_›⟩

  · have z1 : (rnd n b + rnd (-n) b == 1) = true := by simp; omega
    have z3 : (rnd n b + rnd (-n) b == 0) = false := by simp; omega
    have z4 : (rnd n b + rnd (-n) b != 0) = true := by simp; omega
    have z2 : (rnd n b + rnd (-n) b != 1) = false := by simp; omega
    clear z
    go_enter Try.func8, Try.ntmps8
    go_wp2_with (first | (go_at_call 19; refine (alive_ok _).mono ?_; rintro e w' ⟨rfl, hb⟩) | (go_at_call 15; refine (round_in _ _ _ (by omega) (by omega) (by omega) (by omega)).mono ?_; rintro e w' ⟨rfl, rfl⟩) | (go_at_call 15; refine (round_out _ _ _ (by omega)).mono ?_; rintro e w' ⟨rfl, rfl⟩))
    go_ret
    exact ⟨rfl, ‹_›⟩


set_option maxRecDepth 100000 in
set_option maxHeartbeats 2000000 in
theorem both (n m b c : Int) (w : World) (h1 : -1152921504606846976 ≤ n) (h2 : n ≤ 1152921504606846976) (h3 : -1152921504606846976 ≤ m) (h4 : m ≤ 1152921504606846976) (h5 : 0 ≤ b) (h6 : b ≤ 62) (h7 : 0 ≤ c) (h8 : c ≤ 62) (h9 : b + c ≤ 62) :
    Calls Try.prog 8 #[.int .i64 n, .int .i64 m, .int .i64 b, .int .i64 c] w fun e w' => e = .returned (.bool true) ∧ Below w.heap.size w w' := by
  have g := rnd_sum (n := n) (m := m) (b := b) h5
  obtain ⟨g1, g2⟩ := g
  have a1 := rnd_in (n := n) (b := b) (M := 1152921504606846976) h5 (by omega) h1 h2
  have a2 := rnd_in (n := m) (b := b) (M := 1152921504606846976) h5 (by omega) h3 h4
  have a3 := rnd_in (n := n + m) (b := b) (M := 2305843009213693952) h5 (by omega) (by omega) (by omega)
  have a4 := rnd_in (n := -n) (b := b) (M := 1152921504606846976) h5 (by omega) (by omega) (by omega)
  obtain ⟨a11, a12⟩ := a1
  obtain ⟨a21, a22⟩ := a2
  obtain ⟨a31, a32⟩ := a3
  obtain ⟨a41, a42⟩ := a4
  have k := rnd_neg (n := n) h5
  obtain ⟨k1, k2⟩ := k
  have y := rnd_twice (n := n) h5 h7
  have a5 := rnd_in (n := n) (b := b + c) (M := 1152921504606846976) (by omega) (by omega) h1 h2
  obtain ⟨a51, a52⟩ := a5
  by_cases z : rnd n b + rnd (-n) b = 0
  · have z1 : (rnd n b + rnd (-n) b == 0) = true := by simp [z]
    have z2 : (rnd n b + rnd (-n) b != 0) = false := by simp [z]
    clear z
    rcases y with y | y
    · have y1 : (rnd (rnd n b) c == rnd n (b + c)) = true := by simp [y]
      clear y
      go_enter Try.func8, Try.ntmps8
      go_wp2_with (first | (go_at_call 19; refine (alive_ok _).mono ?_; rintro e w' ⟨rfl, hb⟩) | (go_at_call 15; refine (round_in _ _ _ (by omega) (by omega) (by omega) (by omega)).mono ?_; rintro e w' ⟨rfl, rfl⟩) | (go_at_call 15; refine (round_out _ _ _ (by omega)).mono ?_; rintro e w' ⟨rfl, rfl⟩))
      go_ret
      exact ⟨rfl, ‹_›⟩

    · have y1 : (rnd (rnd n b) c == rnd n (b + c) + 1) = true := by simp [y]
      have y2 : (rnd (rnd n b) c == rnd n (b + c)) = false := by simp [y]; omega
      clear y
      go_enter Try.func8, Try.ntmps8
      go_wp2_with (first | (go_at_call 19; refine (alive_ok _).mono ?_; rintro e w' ⟨rfl, hb⟩) | (go_at_call 15; refine (round_in _ _ _ (by omega) (by omega) (by omega) (by omega)).mono ?_; rintro e w' ⟨rfl, rfl⟩) | (go_at_call 15; refine (round_out _ _ _ (by omega)).mono ?_; rintro e w' ⟨rfl, rfl⟩))
      go_ret
      exact ⟨rfl, ‹_›⟩

  · have z1 : (rnd n b + rnd (-n) b == 1) = true := by simp; omega
    have z3 : (rnd n b + rnd (-n) b == 0) = false := by simp; omega
    have z4 : (rnd n b + rnd (-n) b != 0) = true := by simp; omega
    have z2 : (rnd n b + rnd (-n) b != 1) = false := by simp; omega
    clear z
    rcases y with y | y
    · have y1 : (rnd (rnd n b) c == rnd n (b + c)) = true := by simp [y]
      clear y
      go_enter Try.func8, Try.ntmps8
      go_wp2_with (first | (go_at_call 19; refine (alive_ok _).mono ?_; rintro e w' ⟨rfl, hb⟩) | (go_at_call 15; refine (round_in _ _ _ (by omega) (by omega) (by omega) (by omega)).mono ?_; rintro e w' ⟨rfl, rfl⟩) | (go_at_call 15; refine (round_out _ _ _ (by omega)).mono ?_; rintro e w' ⟨rfl, rfl⟩))
      go_ret
      exact ⟨rfl, ‹_›⟩

    · have y1 : (rnd (rnd n b) c == rnd n (b + c) + 1) = true := by simp [y]
      have y2 : (rnd (rnd n b) c == rnd n (b + c)) = false := by simp [y]; omega
      clear y
      go_enter Try.func8, Try.ntmps8
      go_wp2_with (first | (go_at_call 19; refine (alive_ok _).mono ?_; rintro e w' ⟨rfl, hb⟩) | (go_at_call 15; refine (round_in _ _ _ (by omega) (by omega) (by omega) (by omega)).mono ?_; rintro e w' ⟨rfl, rfl⟩) | (go_at_call 15; refine (round_out _ _ _ (by omega)).mono ?_; rintro e w' ⟨rfl, rfl⟩))
      go_ret
      exact ⟨rfl, ‹_›⟩


theorem walk (n m b c : Int) (w : World) (_ : (Lit.int .i64 n).wf = true) (_ : (Lit.int .i64 m).wf = true) (_ : (Lit.int .i64 b).wf = true) (_ : (Lit.int .i64 c).wf = true) :
    Calls Try.prog 8 #[.int .i64 n, .int .i64 m, .int .i64 b, .int .i64 c] w fun e w' => e = .returned (.bool true) ∧ Below w.heap.size w w' := by
  by_cases c1 : 1152921504606846976 < n ∨ n < -1152921504606846976 ∨ 1152921504606846976 < m ∨ m < -1152921504606846976
  · exact far n m b c w c1
  by_cases c2 : b < 0
  · exact bits_low n m b c w (by omega) (by omega) (by omega) (by omega) c2
  by_cases c3 : 62 < b
  · exact bits_high n m b c w (by omega) (by omega) (by omega) (by omega) c3
  by_cases c4 : c < 0
  · exact two_low n m b c w (by omega) (by omega) (by omega) (by omega) (by omega) (by omega) c4
  by_cases c5 : 62 < c
  · exact two_high n m b c w (by omega) (by omega) (by omega) (by omega) (by omega) (by omega) c5
  by_cases c6 : 62 < b + c
  · exact both_high n m b c w (by omega) (by omega) (by omega) (by omega) (by omega) (by omega) (by omega) (by omega) c6
  exact both n m b c w (by omega) (by omega) (by omega) (by omega) (by omega) (by omega) (by omega) (by omega) (by omega)

theorem own : ownKnob Try.prog.godebug = none := by kernel_rfl
set_option linter.unusedVariables false
set_option maxRecDepth 100000 in
theorem lifted (os : Os) (started : os.Started) (H : Type) (enc : TypeId × Value → H) :
    ReturnsInHanded {} Try.checked os 8 .any (Rows.fixSumsSpec.pre6 enc Try.prog Try.f8 Rows.fixSumsRow.domain false) (Rows.fixSumsSpec.post enc Try.prog Try.f8 false true false false) := by
  refine returnsInHanded_of_change (C := Try.checked) own started (by kernel_rfl) Try.func8
    (ChangeSpec.witness6 (enc := enc) (C := Try.checked) false ⟨#[], #[.int .i64 0, .int .i64 0, .int .i64 0, .int .i64 0], []⟩ 8 (by kernel_rfl) (by kernel_rfl) (by kernel_rfl) (by kernel_rfl)) ?_
  intro W base args ds gs before hval0 hW hcnd _
  have hval : ∀ (j : Nat) t v, Try.f8.params[j]? = some t → args[j]? = some v → Value.okWide Try.prog W .any base t v := hval0
  have hW' := hW
  obtain ⟨p, q, hA0, hV, rfl, hfz, hnd⟩ := hW
  have hA : DataW.TrodAll enc Try.prog W 0 (fun _ => true) true Try.f8.params.toList args.toList ds p := hA0
  rw [Try.params8] at hA hval
  obtain ⟨v0, vs0, d0, ds0, p0, q0, hargs, rfl, rfl, h0, r0⟩ := trodAll_cons hA
  obtain ⟨v1, vs1, d1, ds1, p1, q1, rfl, rfl, rfl, h1, r1⟩ := trodAll_cons r0
  obtain ⟨v2, vs2, d2, ds2, p2, q2, rfl, rfl, rfl, h2, r2⟩ := trodAll_cons r1
  obtain ⟨v3, vs3, d3, ds3, p3, q3, rfl, rfl, rfl, h3, r3⟩ := trodAll_cons r2
  obtain ⟨rfl, rfl, rfl⟩ := trodAll_nil r3
  obtain rfl : args = #[v0, v1, v2, v3] := by cases args; simp_all
  obtain ⟨rfl, rfl⟩ := trodVars_none hV
  obtain ⟨a0, rfl, rfl, rfl, w0⟩ := open_int Try.underlying3 (hval 0 3 v0 rfl rfl) h0
  obtain ⟨a1, rfl, rfl, rfl, w1⟩ := open_int Try.underlying3 (hval 1 3 v1 rfl rfl) h1
  obtain ⟨a2, rfl, rfl, rfl, w2⟩ := open_int Try.underlying3 (hval 2 3 v2 rfl rfl) h2
  obtain ⟨a3, rfl, rfl, rfl, w3⟩ := open_int Try.underlying3 (hval 3 3 v3 rfl rfl) h3
  clear hA0 hval0
  simp only [List.append_nil] at hW'
  refine (walk a0 a1 a2 a3 W w0 w1 w2 w3).mono fun e W' ⟨he, bel⟩ => ?_
  subst he
  exact ⟨_, rfl, _, _, _, [], _, [], hW', trodAll_mk1 (shut_bool Try.underlying4 _), (trodAll_cons_mk (shut_int Try.underlying3 w0) (trodAll_cons_mk (shut_int Try.underlying3 w1) (trodAll_cons_mk (shut_int Try.underlying3 w2) (trodAll_cons_mk (shut_int Try.underlying3 w3) trodAll_mk0)))), rfl, bel.frame _, fun h => by cases h⟩

theorem over : Rows.fixSumsRow.holds Try.pinned (OpenSpec.ofChange Rows.fixSumsSpec) :=
  OpenClaim.holds_of_wide 8 Try.f8 rfl rfl rfl rfl rfl rfl rfl ⟨rfl, rfl, rfl, rfl, rfl⟩ rfl rfl rfl rfl rfl (by kernel_rfl) Try.func8 (by kernel_rfl)
    (of_decide_eq_true (by kernel_rfl)) (by unfold Func.isWrapper; first | (rw [if_pos (by decide +kernel)]; kernel_rfl) | (rw [if_neg (by decide +kernel)]; exact ⟨rfl, rfl⟩))
    (fun os started H enc _ => lifted os started H enc)

theorem proved : Rows.FixSumsSaid := over
end Go.Proofs.Ytiaacdkfknailaa.fixSums

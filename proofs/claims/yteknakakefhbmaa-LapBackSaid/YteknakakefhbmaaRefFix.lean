/- What the document's own answers of fix do. -/
import Derived.Test.YteknakakefhbmaaRootCon
import Derived.WalkKit
import Derived.ProofKit
import Derived.OpenShut
import Derived.Lib.Hide
namespace Go.Proofs.Yteknakakefhbmaa.Fx
open Go Go.ChangeShapes Go.WideShapes Go.ChangeAt Go.RowKit

theorem rnd_parts {n b : Int} (hb : 1 ≤ b) : ∃ q r : Int, n / 2 ^ b.toNat = q ∧ q * 2 ^ b.toNat + r = n ∧ 0 ≤ r ∧ r < 2 ^ b.toNat ∧ (rnd n b = if 2 ^ (b.toNat - 1) ≤ r then q + 1 else q) := by
  obtain ⟨H, h0, e0, e1, e2⟩ := rnd_at (n := n) hb
  have l := div_lo (x := n) (d := 2 * H) (by omega)
  have u := div_hi (x := n) (d := 2 * H) (by omega)
  refine ⟨n / 2 ^ b.toNat, n - n / 2 ^ b.toNat * 2 ^ b.toNat, rfl, by omega, ?_, ?_, ?_⟩
  · rw [e1]; omega
  · rw [e1]; omega
  · rw [e2, ← e0, e1]
    generalize n / (2 * H) = q at *
    split
    · rw [show n + H = (n + H - (q + 1) * (2 * H)) + (q + 1) * (2 * H) by omega, Int.add_mul_ediv_right _ _ (by omega), Int.ediv_eq_zero_of_lt (by rw [Int.add_mul]; omega) (by rw [Int.add_mul]; omega)]
      omega
    · rw [show n + H = (n + H - q * (2 * H)) + q * (2 * H) by omega, Int.add_mul_ediv_right _ _ (by omega), Int.ediv_eq_zero_of_lt (by omega) (by omega)]
      omega

theorem down_zero (n : Int) (w : World) :
    Calls Try.prog 63 #[.int .i64 n, .int .i64 0] w fun e w' => e = .returned (.int .i64 n) ∧ w = w' := by
  go_enter Try.func63, Try.ntmps63
  go_wp2
  go_ret
  exact ⟨rfl, rfl⟩

theorem ret1 {a b : Int} (h : a = b) : Ending.returned (.int .i64 a) = .returned (.int .i64 b) := by rw [h]

set_option maxHeartbeats 2000000 in
theorem down_pos (n b : Int) (w : World) (h1 : -4611686018427387904 ≤ n) (h2 : n ≤ 4611686018427387904) (h3 : 1 ≤ b) (h4 : b ≤ 62) :
    Calls Try.prog 63 #[.int .i64 n, .int .i64 b] w fun e w' => e = .returned (.int .i64 (rnd n b)) ∧ w = w' := by
  have c0 : (b == 0) = false := by simp; omega
  obtain ⟨q, r, e1, e2, e3, e4, e5⟩ := rnd_parts (n := n) h3
  have p0 := pow_pos' (b.toNat - 1)
  have p1 := pow61 h4
  have p2 := pow_succ' h3
  have x1 : wrap64 (2 ^ (b.toNat - 1)) = 2 ^ (b.toNat - 1) := w64 (by omega) (by omega)
  have key : ∀ P T H : Int, P + r = n → r < T → T = 2 * H → H ≤ 2305843009213693952 → wrap64 P = P ∧ wrap64 (n - P) = r := fun P T H g1 g2 g3 g4 =>
    ⟨w64 (by omega) (by omega), by rw [w64 (by omega) (by omega)]; omega⟩
  obtain ⟨x2, x3⟩ := key _ _ _ e2 e4 p2 p1
  clear key
  have q1 : -9223372036854775808 ≤ q ∧ q + 1 ≤ 9223372036854775807 := by
    have := rnd_bd (n := n) (b := b) (by omega) h1 h2
    clear e2 e4 p2 x1 x2 x3 e1 p1 p0
    split at e5 <;> omega
  obtain ⟨q1, q2⟩ := q1
  have E5 := Lib.hid e5
  clear e5 p2 e2 e4
  by_cases hr : 2 ^ (b.toNat - 1) ≤ r
  · go_enter Try.func63, Try.ntmps63
    go_wp2
    go_ret
    exact ⟨ret1 (by rw [E5.out, if_pos hr]), rfl⟩
  · go_enter Try.func63, Try.ntmps63
    go_wp2
    go_ret
    exact ⟨ret1 (by rw [E5.out, if_neg (Int.not_le.2 hr)]), rfl⟩

theorem down_in (n b : Int) (w : World) (h1 : -4611686018427387904 ≤ n) (h2 : n ≤ 4611686018427387904) (h3 : 0 ≤ b) (h4 : b ≤ 62) :
    Calls Try.prog 63 #[.int .i64 n, .int .i64 b] w fun e w' => e = .returned (.int .i64 (rnd n b)) ∧ w = w' := by
  by_cases e : b = 0
  · subst e; exact down_zero n w
  · exact down_pos n b w h1 h2 (by omega) h4

theorem le_div {c n : Int} (h : 0 < c) : c ≤ n / c ↔ c * c ≤ n := Int.le_ediv_iff_mul_le h
theorem le_div2 {c n : Int} (h : 0 < c) : c * c ≤ n / c ↔ c * c * c ≤ n := Int.le_ediv_iff_mul_le h

theorem rroot (n : Int) (w : World) (h0 : 0 ≤ n) (h1 : n ≤ 4611686018427387904) :
    Calls Try.prog 78 #[.int .i64 n] w fun e w' => ∃ r, IsSqrt n r ∧ e = .returned (.int .i64 r) ∧ w = w' := by
  have hs := sq_start h0 h1
  go_enter Try.func78, Try.ntmps78
  go_wp2
  go_loop [3, 4] (fun r b => ∃ (k : Nat) (R : Int), k ≤ 32 ∧ Sq n R k ∧ r = .int .i64 R ∧ b = .int .i64 (bt k)) (fun _ b => (intOf b).toNat)
  case atStart => exact ⟨32, 0, by omega, hs, rfl, rfl⟩
  case round =>
    obtain ⟨k, R, hk, hq, rfl, rfl⟩ := hrel
    cases k with
    | zero =>
      have b0 : ¬ 0 < bt 0 := by decide
      go_wp2
      go_ret
      exact ⟨R, sq_end hq, rfl, rfl⟩
    | succ k =>
      have p := ppos k
      have q1 := sq_bd hq
      have q0 := nn hq.1
      have b0 : 0 < bt (k + 1) := p
      have e2 : bt (k + 1) / 2 = bt k := bt_half k
      obtain ⟨q2, q3, q4, q5⟩ := q1
      have e4 : bt k < bt (k + 1) := bt_lt k
      have e5 := bt_nn k
      have e6 : R + bt (k + 1) = R + 2 ^ k := rfl
      have q2' : 0 < R + bt (k + 1) := by omega
      have q3' : R + bt (k + 1) < 4294967296 := by omega
      by_cases hc : (R + 2 ^ k) * (R + 2 ^ k) ≤ n
      · have hy := sq_yes hq hc
        have hd : R + bt (k + 1) ≤ n / (R + bt (k + 1)) := (le_div q2').2 hc
        clear e6
        go_wp2
        go_round
        case rel => exact ⟨k, R + 2 ^ k, by omega, hy, rfl, by rw [e2]⟩
        case measure => simp [intOf]; omega
      · have hy := sq_no hq hc
        have hd : ¬ R + bt (k + 1) ≤ n / (R + bt (k + 1)) := fun h => hc ((le_div q2').1 h)
        clear e6
        go_wp2
        go_round
        case rel => exact ⟨k, R, by omega, hy, rfl, by rw [e2]⟩
        case measure => simp [intOf]; omega

end Go.Proofs.Yteknakakefhbmaa.Fx

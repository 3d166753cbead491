/- Where one window's second half and the next one's first half are both long, or both short there, squares of values over one place are together 2^44, but for 2^25 at most, of all sequences that have a window, and shapes. BlockPower returns true, whatever the arguments, the memory and the schedule. No condition. -/
import Derived.Test.YteknakakefhbmaaBlPow
import Derived.WalkKit
import Derived.Below
import Derived.RegionTactic
import Derived.Deep.QuietTactic
import Derived.BigQuiet
import Derived.ChangeAlike
import Derived.Deep.OwnRows
import Derived.Deep.RegionLaw
import Derived.ProofKit
import Derived.OpenShut
import Derived.ChangeSlices
import Derived.Lib.Hide
import Derived.Great.Walk
import Derived.ChangeKeysEq
import Derived.ChangeOld
import Derived.ShutString
namespace Go.Proofs.Yteknakakefhbmaa.blockPower
open Go Go.ChangeShapes Go.WideShapes Go.ChangeAt Go.RowKit Go.Proofs.Yteknakakefhbmaa.Fx Go.Proofs.Yteknakakefhbmaa.Rk Go.Proofs.Yteknakakefhbmaa.Mm Go.Proofs.Yteknakakefhbmaa.Md Go.Proofs.Yteknakakefhbmaa.Bl

theorem wO_ok {seq was shape : Int} (h : seq ≠ 2) (h3 : seq ≤ 3) (hw : was = 0 ∨ was = 1) (hs : shape = 0 ∨ shape = 1) : wO seq was shape = (wv seq was shape, 0) := if_neg (by rintro (q | q); exact h q; exact q ⟨h3, by omega, by omega⟩)
theorem wrap_id {x : Int} (a : -9223372036854775808 ≤ x) (b : x ≤ 9223372036854775807) : IntKind.i64.wrap x = x := by
  simp [IntKind.wrap, IntKind.bits, IntKind.signed]
  omega
theorem sqI {x : Int} (h0 : 0 ≤ x) (h1 : x ≤ 4194304) : 0 ≤ x * x ∧ x * x ≤ 17592186044416 := ⟨Int.mul_nonneg h0 h0, Int.le_trans (Int.mul_le_mul h1 h1 h0 (by decide)) (by decide)⟩
set_option maxRecDepth 100000 in
set_option maxHeartbeats 16000000 in
theorem walk (w : World) : Calls Try.prog 5 #[] w fun e w' => e = .returned (.bool true) ∧ Below w.heap.size w w' := by
  have HL := Lib.hid (alive_ok w)
  go_enter Try.func5, Try.ntmps5
  go_wp2_with (go_at_call 16; ((with_reducible refine (HL.out).mono ?_); rintro e w0 ⟨rfl, hb0⟩; have B0 := Lib.hid hb0; clear hb0))
  go_loopw [2] (fun i wr => ∃ k : Nat, k ≤ 72 ∧ i = .int .i64 k ∧ Hid (Below w.heap.size w wr)) (fun i _ => 72 - (intOf i).toNat)
  case atStart => exact ⟨0, by omega, rfl, B0⟩
  case round =>
    obtain ⟨k, hk, rfl, hB⟩ := hrel
    clear B0
    by_cases hlt : k < 72
    · obtain ⟨a, ha0⟩ : ∃ a : Int, (k : Int) / 9 % 2 = a := ⟨_, rfl⟩
      obtain ⟨b, hb0⟩ : ∃ a : Int, (k : Int) / 18 % 2 = a := ⟨_, rfl⟩
      obtain ⟨c, hc0⟩ : ∃ a : Int, (k : Int) / 36 % 2 = a := ⟨_, rfl⟩
      have ha : a = 0 ∨ a = 1 := by omega
      have hb : b = 0 ∨ b = 1 := by omega
      have hc : c = 0 ∨ c = 1 := by omega
      have a0 : 0 ≤ a := by omega
      have b0 : 0 ≤ b := by omega
      have c0 : 0 ≤ c := by omega
      have w1 : IntKind.u8.wrap a = a := by rcases ha with rfl | rfl <;> rfl
      have w2 : IntKind.u8.wrap b = b := by rcases hb with rfl | rfl <;> rfl
      have w3 : IntKind.u8.wrap c = c := by rcases hc with rfl | rfl <;> rfl
      have hm : ((k : Int) % 3 = 0 ∨ (k : Int) % 3 = 1 ∨ (k : Int) % 3 = 2) ∧ ((k : Int) / 3 % 3 = 0 ∨ (k : Int) / 3 % 3 = 1 ∨ (k : Int) / 3 % 3 = 2) := by omega
      obtain ⟨h1 | h1 | h1, h2 | h2 | h2⟩ := hm
      · have e1 : (k : Int) % 3 = 0 := h1
        have e2 : (k : Int) / 3 % 3 = 0 := h2
        clear h1 h2
        have HA := Lib.hid (fun W => window_O 0 a b W (by decide) a0 b0)
        have HC := Lib.hid (fun W => window_O 0 b c W (by decide) b0 c0)
        rw [wO_ok (by decide) (by decide) ha hb] at HA
        rw [wO_ok (by decide) (by decide) hb hc] at HC
        have HP := Lib.hid (fun n hn => pw (one := 0) (two := 0) (was := a) (mid := b) (shape := c) (.inl ⟨by decide, by decide⟩) hb n hn)
        have HR1 := Lib.hid (wv_rng 0 a b)
        have HR2 := Lib.hid (wv_rng 0 b c)
        clear ha hb hc a0 b0 c0
        go_wp2_with first
          | (go_at_call 13; ((with_reducible refine (HA.out _).mono ?_); rintro e w1 ⟨v1, rfl, ho1, hb1⟩; obtain ⟨g1, cap1, rfl, hg1, hg2, hc1, hc2, hc3, hf3⟩ := own_open ho1 (wv_len 0 a b) (by decide); have C1 := Lib.hid hc3; have B1 := Lib.hid (bt hB.out hb1); clear ho1 hb1 hc3 hf3))
          | (go_at_call 13; ((with_reducible refine (HC.out _).mono ?_); rintro e w2 ⟨v2, rfl, ho2, hb2⟩; obtain ⟨g2, cap2, rfl, hg3, hg4, hc4, hc5, hc6, hf6⟩ := own_open ho2 (wv_len 0 b c) (by decide); have C2 := Lib.hid hc6; have C3 := Lib.hid (fun j hj => (hb2.cell (p := ⟨g1, j, none⟩) hg2).trans (C1.out j hj)); have B2 := Lib.hid (bt B1.out hb2); have hg5 := Nat.lt_of_lt_of_le hg2 hb2.size; clear ho2 hb2 hc6 hf6))
        clear HA HC C1 hB B1
        go_loopw [12] (fun i wq => ∃ n : Nat, n ≤ 256 ∧ i = .int .i64 n ∧ Hid (Below w2.heap.size w2 wq)) (fun i _ => 256 - (intOf i).toNat)
        case atStart => exact ⟨0, by omega, rfl, Lib.hid (Below.refl _ _)⟩
        case round =>
          obtain ⟨n, hn, rfl, hB⟩ := hrel
          by_cases hlt : n < 256
          · have c1 := (hB.out.cell (p := ⟨g1, 256 + n, none⟩) hg5).trans (C3.out (256 + n) (by omega))
            have c2 := (hB.out.cell (p := ⟨g2, n, none⟩) hg4).trans (C2.out n (by omega))
            obtain ⟨r1, r2⟩ := HR1.out (256 + n) (by omega)
            obtain ⟨r3, r4⟩ := HR2.out n (by omega)
            obtain ⟨q1, q2⟩ := HP.out n hlt
            generalize (wv 0 a b).getD (256 + n) 0 = X at *
            generalize (wv 0 b c).getD n 0 = Y at *
            have s1 := sqI r1 r2
            have s2 := sqI r3 r4
            obtain ⟨P, hP⟩ : ∃ P, X * X = P := ⟨_, rfl⟩
            obtain ⟨Q, hQ⟩ : ∃ Q, Y * Y = Q := ⟨_, rfl⟩
            rw [hP, hQ] at q1 q2
            rw [hP] at s1
            rw [hQ] at s2
            obtain ⟨s11, s12⟩ := s1
            obtain ⟨s21, s22⟩ := s2
            have x1 : IntKind.i64.wrap (X * X) = P := by rw [hP]; exact wrap_id (by omega) (by omega)
            have x2 : IntKind.i64.wrap (Y * Y) = Q := by rw [hQ]; exact wrap_id (by omega) (by omega)
            have x3 : IntKind.i64.wrap (P + Q) = P + Q := wrap_id (by omega) (by omega)
            have x4 : IntKind.i64.wrap (P + Q - 17592186044416) = P + Q - 17592186044416 := wrap_id (by omega) (by omega)
            have y1 : ¬ 33554432 < P + Q - 17592186044416 := by omega
            have y2 : ¬ P + Q - 17592186044416 < -33554432 := by omega
            have k1 : (256 : Int) + (n : Int) < 512 := by omega
            clear hP hQ
            go_wp2
            go_quiet (fail)
            go_wp2
            go_roundw
            case rel => exact ⟨n + 1, by omega, by go_num, Lib.hid (hB.out.trans ((drewN_below _ _).mono hB.out.size))⟩
            case measure => simp [intOf]; omega
          · obtain rfl : n = 256 := by omega
            have hB3 := Lib.hid (bt B2.out hB.out)
            clear hB C2 C3 B2
            go_wp2
            go_roundw
            case rel => exact ⟨k + 1, by omega, by go_num, hB3⟩
            case measure => simp [intOf]; omega
      · have e1 : (k : Int) % 3 = 0 := h1
        have e2 : (k : Int) / 3 % 3 = 1 := h2
        clear h1 h2
        have HA := Lib.hid (fun W => window_O 0 a b W (by decide) a0 b0)
        have HC := Lib.hid (fun W => window_O 1 b c W (by decide) b0 c0)
        rw [wO_ok (by decide) (by decide) ha hb] at HA
        rw [wO_ok (by decide) (by decide) hb hc] at HC
        have HP := Lib.hid (fun n hn => pw (one := 0) (two := 1) (was := a) (mid := b) (shape := c) (.inl ⟨by decide, by decide⟩) hb n hn)
        have HR1 := Lib.hid (wv_rng 0 a b)
        have HR2 := Lib.hid (wv_rng 1 b c)
        clear ha hb hc a0 b0 c0
        go_wp2_with first
          | (go_at_call 13; ((with_reducible refine (HA.out _).mono ?_); rintro e w1 ⟨v1, rfl, ho1, hb1⟩; obtain ⟨g1, cap1, rfl, hg1, hg2, hc1, hc2, hc3, hf3⟩ := own_open ho1 (wv_len 0 a b) (by decide); have C1 := Lib.hid hc3; have B1 := Lib.hid (bt hB.out hb1); clear ho1 hb1 hc3 hf3))
          | (go_at_call 13; ((with_reducible refine (HC.out _).mono ?_); rintro e w2 ⟨v2, rfl, ho2, hb2⟩; obtain ⟨g2, cap2, rfl, hg3, hg4, hc4, hc5, hc6, hf6⟩ := own_open ho2 (wv_len 1 b c) (by decide); have C2 := Lib.hid hc6; have C3 := Lib.hid (fun j hj => (hb2.cell (p := ⟨g1, j, none⟩) hg2).trans (C1.out j hj)); have B2 := Lib.hid (bt B1.out hb2); have hg5 := Nat.lt_of_lt_of_le hg2 hb2.size; clear ho2 hb2 hc6 hf6))
        clear HA HC C1 hB B1
        go_loopw [12] (fun i wq => ∃ n : Nat, n ≤ 256 ∧ i = .int .i64 n ∧ Hid (Below w2.heap.size w2 wq)) (fun i _ => 256 - (intOf i).toNat)
        case atStart => exact ⟨0, by omega, rfl, Lib.hid (Below.refl _ _)⟩
        case round =>
          obtain ⟨n, hn, rfl, hB⟩ := hrel
          by_cases hlt : n < 256
          · have c1 := (hB.out.cell (p := ⟨g1, 256 + n, none⟩) hg5).trans (C3.out (256 + n) (by omega))
            have c2 := (hB.out.cell (p := ⟨g2, n, none⟩) hg4).trans (C2.out n (by omega))
            obtain ⟨r1, r2⟩ := HR1.out (256 + n) (by omega)
            obtain ⟨r3, r4⟩ := HR2.out n (by omega)
            obtain ⟨q1, q2⟩ := HP.out n hlt
            generalize (wv 0 a b).getD (256 + n) 0 = X at *
            generalize (wv 1 b c).getD n 0 = Y at *
            have s1 := sqI r1 r2
            have s2 := sqI r3 r4
            obtain ⟨P, hP⟩ : ∃ P, X * X = P := ⟨_, rfl⟩
            obtain ⟨Q, hQ⟩ : ∃ Q, Y * Y = Q := ⟨_, rfl⟩
            rw [hP, hQ] at q1 q2
            rw [hP] at s1
            rw [hQ] at s2
            obtain ⟨s11, s12⟩ := s1
            obtain ⟨s21, s22⟩ := s2
            have x1 : IntKind.i64.wrap (X * X) = P := by rw [hP]; exact wrap_id (by omega) (by omega)
            have x2 : IntKind.i64.wrap (Y * Y) = Q := by rw [hQ]; exact wrap_id (by omega) (by omega)
            have x3 : IntKind.i64.wrap (P + Q) = P + Q := wrap_id (by omega) (by omega)
            have x4 : IntKind.i64.wrap (P + Q - 17592186044416) = P + Q - 17592186044416 := wrap_id (by omega) (by omega)
            have y1 : ¬ 33554432 < P + Q - 17592186044416 := by omega
            have y2 : ¬ P + Q - 17592186044416 < -33554432 := by omega
            have k1 : (256 : Int) + (n : Int) < 512 := by omega
            clear hP hQ
            go_wp2
            go_quiet (fail)
            go_wp2
            go_roundw
            case rel => exact ⟨n + 1, by omega, by go_num, Lib.hid (hB.out.trans ((drewN_below _ _).mono hB.out.size))⟩
            case measure => simp [intOf]; omega
          · obtain rfl : n = 256 := by omega
            have hB3 := Lib.hid (bt B2.out hB.out)
            clear hB C2 C3 B2
            go_wp2
            go_roundw
            case rel => exact ⟨k + 1, by omega, by go_num, hB3⟩
            case measure => simp [intOf]; omega
      · have e1 : (k : Int) % 3 = 0 := h1
        have e2 : (k : Int) / 3 % 3 = 2 := h2
        clear h1 h2
        go_wp2
        go_roundw
        case rel => exact ⟨k + 1, by omega, by go_num, hB⟩
        case measure => simp [intOf]; omega
      · have e1 : (k : Int) % 3 = 1 := h1
        have e2 : (k : Int) / 3 % 3 = 0 := h2
        clear h1 h2
        go_wp2
        go_roundw
        case rel => exact ⟨k + 1, by omega, by go_num, hB⟩
        case measure => simp [intOf]; omega
      · have e1 : (k : Int) % 3 = 1 := h1
        have e2 : (k : Int) / 3 % 3 = 1 := h2
        clear h1 h2
        go_wp2
        go_roundw
        case rel => exact ⟨k + 1, by omega, by go_num, hB⟩
        case measure => simp [intOf]; omega
      · have e1 : (k : Int) % 3 = 1 := h1
        have e2 : (k : Int) / 3 % 3 = 2 := h2
        clear h1 h2
        have HA := Lib.hid (fun W => window_O 1 a b W (by decide) a0 b0)
        have HC := Lib.hid (fun W => window_O 3 b c W (by decide) b0 c0)
        rw [wO_ok (by decide) (by decide) ha hb] at HA
        rw [wO_ok (by decide) (by decide) hb hc] at HC
        have HP := Lib.hid (fun n hn => pw (one := 1) (two := 3) (was := a) (mid := b) (shape := c) (.inr ⟨rfl, rfl⟩) hb n hn)
        have HR1 := Lib.hid (wv_rng 1 a b)
        have HR2 := Lib.hid (wv_rng 3 b c)
        clear ha hb hc a0 b0 c0
        go_wp2_with first
          | (go_at_call 13; ((with_reducible refine (HA.out _).mono ?_); rintro e w1 ⟨v1, rfl, ho1, hb1⟩; obtain ⟨g1, cap1, rfl, hg1, hg2, hc1, hc2, hc3, hf3⟩ := own_open ho1 (wv_len 1 a b) (by decide); have C1 := Lib.hid hc3; have B1 := Lib.hid (bt hB.out hb1); clear ho1 hb1 hc3 hf3))
          | (go_at_call 13; ((with_reducible refine (HC.out _).mono ?_); rintro e w2 ⟨v2, rfl, ho2, hb2⟩; obtain ⟨g2, cap2, rfl, hg3, hg4, hc4, hc5, hc6, hf6⟩ := own_open ho2 (wv_len 3 b c) (by decide); have C2 := Lib.hid hc6; have C3 := Lib.hid (fun j hj => (hb2.cell (p := ⟨g1, j, none⟩) hg2).trans (C1.out j hj)); have B2 := Lib.hid (bt B1.out hb2); have hg5 := Nat.lt_of_lt_of_le hg2 hb2.size; clear ho2 hb2 hc6 hf6))
        clear HA HC C1 hB B1
        go_loopw [12] (fun i wq => ∃ n : Nat, n ≤ 256 ∧ i = .int .i64 n ∧ Hid (Below w2.heap.size w2 wq)) (fun i _ => 256 - (intOf i).toNat)
        case atStart => exact ⟨0, by omega, rfl, Lib.hid (Below.refl _ _)⟩
        case round =>
          obtain ⟨n, hn, rfl, hB⟩ := hrel
          by_cases hlt : n < 256
          · have c1 := (hB.out.cell (p := ⟨g1, 256 + n, none⟩) hg5).trans (C3.out (256 + n) (by omega))
            have c2 := (hB.out.cell (p := ⟨g2, n, none⟩) hg4).trans (C2.out n (by omega))
            obtain ⟨r1, r2⟩ := HR1.out (256 + n) (by omega)
            obtain ⟨r3, r4⟩ := HR2.out n (by omega)
            obtain ⟨q1, q2⟩ := HP.out n hlt
            generalize (wv 1 a b).getD (256 + n) 0 = X at *
            generalize (wv 3 b c).getD n 0 = Y at *
            have s1 := sqI r1 r2
            have s2 := sqI r3 r4
            obtain ⟨P, hP⟩ : ∃ P, X * X = P := ⟨_, rfl⟩
            obtain ⟨Q, hQ⟩ : ∃ Q, Y * Y = Q := ⟨_, rfl⟩
            rw [hP, hQ] at q1 q2
            rw [hP] at s1
            rw [hQ] at s2
            obtain ⟨s11, s12⟩ := s1
            obtain ⟨s21, s22⟩ := s2
            have x1 : IntKind.i64.wrap (X * X) = P := by rw [hP]; exact wrap_id (by omega) (by omega)
            have x2 : IntKind.i64.wrap (Y * Y) = Q := by rw [hQ]; exact wrap_id (by omega) (by omega)
            have x3 : IntKind.i64.wrap (P + Q) = P + Q := wrap_id (by omega) (by omega)
            have x4 : IntKind.i64.wrap (P + Q - 17592186044416) = P + Q - 17592186044416 := wrap_id (by omega) (by omega)
            have y1 : ¬ 33554432 < P + Q - 17592186044416 := by omega
            have y2 : ¬ P + Q - 17592186044416 < -33554432 := by omega
            have k1 : (256 : Int) + (n : Int) < 512 := by omega
            clear hP hQ
            go_wp2
            go_quiet (fail)
            go_wp2
            go_roundw
            case rel => exact ⟨n + 1, by omega, by go_num, Lib.hid (hB.out.trans ((drewN_below _ _).mono hB.out.size))⟩
            case measure => simp [intOf]; omega
          · obtain rfl : n = 256 := by omega
            have hB3 := Lib.hid (bt B2.out hB.out)
            clear hB C2 C3 B2
            go_wp2
            go_roundw
            case rel => exact ⟨k + 1, by omega, by go_num, hB3⟩
            case measure => simp [intOf]; omega
      · have e1 : (k : Int) % 3 = 2 := h1
        have e2 : (k : Int) / 3 % 3 = 0 := h2
        clear h1 h2
        have HA := Lib.hid (fun W => window_O 3 a b W (by decide) a0 b0)
        have HC := Lib.hid (fun W => window_O 0 b c W (by decide) b0 c0)
        rw [wO_ok (by decide) (by decide) ha hb] at HA
        rw [wO_ok (by decide) (by decide) hb hc] at HC
        have HP := Lib.hid (fun n hn => pw (one := 3) (two := 0) (was := a) (mid := b) (shape := c) (.inl ⟨by decide, by decide⟩) hb n hn)
        have HR1 := Lib.hid (wv_rng 3 a b)
        have HR2 := Lib.hid (wv_rng 0 b c)
        clear ha hb hc a0 b0 c0
        go_wp2_with first
          | (go_at_call 13; ((with_reducible refine (HA.out _).mono ?_); rintro e w1 ⟨v1, rfl, ho1, hb1⟩; obtain ⟨g1, cap1, rfl, hg1, hg2, hc1, hc2, hc3, hf3⟩ := own_open ho1 (wv_len 3 a b) (by decide); have C1 := Lib.hid hc3; have B1 := Lib.hid (bt hB.out hb1); clear ho1 hb1 hc3 hf3))
          | (go_at_call 13; ((with_reducible refine (HC.out _).mono ?_); rintro e w2 ⟨v2, rfl, ho2, hb2⟩; obtain ⟨g2, cap2, rfl, hg3, hg4, hc4, hc5, hc6, hf6⟩ := own_open ho2 (wv_len 0 b c) (by decide); have C2 := Lib.hid hc6; have C3 := Lib.hid (fun j hj => (hb2.cell (p := ⟨g1, j, none⟩) hg2).trans (C1.out j hj)); have B2 := Lib.hid (bt B1.out hb2); have hg5 := Nat.lt_of_lt_of_le hg2 hb2.size; clear ho2 hb2 hc6 hf6))
        clear HA HC C1 hB B1
        go_loopw [12] (fun i wq => ∃ n : Nat, n ≤ 256 ∧ i = .int .i64 n ∧ Hid (Below w2.heap.size w2 wq)) (fun i _ => 256 - (intOf i).toNat)
        case atStart => exact ⟨0, by omega, rfl, Lib.hid (Below.refl _ _)⟩
        case round =>
          obtain ⟨n, hn, rfl, hB⟩ := hrel
          by_cases hlt : n < 256
          · have c1 := (hB.out.cell (p := ⟨g1, 256 + n, none⟩) hg5).trans (C3.out (256 + n) (by omega))
            have c2 := (hB.out.cell (p := ⟨g2, n, none⟩) hg4).trans (C2.out n (by omega))
            obtain ⟨r1, r2⟩ := HR1.out (256 + n) (by omega)
            obtain ⟨r3, r4⟩ := HR2.out n (by omega)
            obtain ⟨q1, q2⟩ := HP.out n hlt
            generalize (wv 3 a b).getD (256 + n) 0 = X at *
            generalize (wv 0 b c).getD n 0 = Y at *
            have s1 := sqI r1 r2
            have s2 := sqI r3 r4
            obtain ⟨P, hP⟩ : ∃ P, X * X = P := ⟨_, rfl⟩
            obtain ⟨Q, hQ⟩ : ∃ Q, Y * Y = Q := ⟨_, rfl⟩
            rw [hP, hQ] at q1 q2
            rw [hP] at s1
            rw [hQ] at s2
            obtain ⟨s11, s12⟩ := s1
            obtain ⟨s21, s22⟩ := s2
            have x1 : IntKind.i64.wrap (X * X) = P := by rw [hP]; exact wrap_id (by omega) (by omega)
            have x2 : IntKind.i64.wrap (Y * Y) = Q := by rw [hQ]; exact wrap_id (by omega) (by omega)
            have x3 : IntKind.i64.wrap (P + Q) = P + Q := wrap_id (by omega) (by omega)
            have x4 : IntKind.i64.wrap (P + Q - 17592186044416) = P + Q - 17592186044416 := wrap_id (by omega) (by omega)
            have y1 : ¬ 33554432 < P + Q - 17592186044416 := by omega
            have y2 : ¬ P + Q - 17592186044416 < -33554432 := by omega
            have k1 : (256 : Int) + (n : Int) < 512 := by omega
            clear hP hQ
            go_wp2
            go_quiet (fail)
            go_wp2
            go_roundw
            case rel => exact ⟨n + 1, by omega, by go_num, Lib.hid (hB.out.trans ((drewN_below _ _).mono hB.out.size))⟩
            case measure => simp [intOf]; omega
          · obtain rfl : n = 256 := by omega
            have hB3 := Lib.hid (bt B2.out hB.out)
            clear hB C2 C3 B2
            go_wp2
            go_roundw
            case rel => exact ⟨k + 1, by omega, by go_num, hB3⟩
            case measure => simp [intOf]; omega
      · have e1 : (k : Int) % 3 = 2 := h1
        have e2 : (k : Int) / 3 % 3 = 1 := h2
        clear h1 h2
        have HA := Lib.hid (fun W => window_O 3 a b W (by decide) a0 b0)
        have HC := Lib.hid (fun W => window_O 1 b c W (by decide) b0 c0)
        rw [wO_ok (by decide) (by decide) ha hb] at HA
        rw [wO_ok (by decide) (by decide) hb hc] at HC
        have HP := Lib.hid (fun n hn => pw (one := 3) (two := 1) (was := a) (mid := b) (shape := c) (.inl ⟨by decide, by decide⟩) hb n hn)
        have HR1 := Lib.hid (wv_rng 3 a b)
        have HR2 := Lib.hid (wv_rng 1 b c)
        clear ha hb hc a0 b0 c0
        go_wp2_with first
          | (go_at_call 13; ((with_reducible refine (HA.out _).mono ?_); rintro e w1 ⟨v1, rfl, ho1, hb1⟩; obtain ⟨g1, cap1, rfl, hg1, hg2, hc1, hc2, hc3, hf3⟩ := own_open ho1 (wv_len 3 a b) (by decide); have C1 := Lib.hid hc3; have B1 := Lib.hid (bt hB.out hb1); clear ho1 hb1 hc3 hf3))
          | (go_at_call 13; ((with_reducible refine (HC.out _).mono ?_); rintro e w2 ⟨v2, rfl, ho2, hb2⟩; obtain ⟨g2, cap2, rfl, hg3, hg4, hc4, hc5, hc6, hf6⟩ := own_open ho2 (wv_len 1 b c) (by decide); have C2 := Lib.hid hc6; have C3 := Lib.hid (fun j hj => (hb2.cell (p := ⟨g1, j, none⟩) hg2).trans (C1.out j hj)); have B2 := Lib.hid (bt B1.out hb2); have hg5 := Nat.lt_of_lt_of_le hg2 hb2.size; clear ho2 hb2 hc6 hf6))
        clear HA HC C1 hB B1
        go_loopw [12] (fun i wq => ∃ n : Nat, n ≤ 256 ∧ i = .int .i64 n ∧ Hid (Below w2.heap.size w2 wq)) (fun i _ => 256 - (intOf i).toNat)
        case atStart => exact ⟨0, by omega, rfl, Lib.hid (Below.refl _ _)⟩
        case round =>
          obtain ⟨n, hn, rfl, hB⟩ := hrel
          by_cases hlt : n < 256
          · have c1 := (hB.out.cell (p := ⟨g1, 256 + n, none⟩) hg5).trans (C3.out (256 + n) (by omega))
            have c2 := (hB.out.cell (p := ⟨g2, n, none⟩) hg4).trans (C2.out n (by omega))
            obtain ⟨r1, r2⟩ := HR1.out (256 + n) (by omega)
            obtain ⟨r3, r4⟩ := HR2.out n (by omega)
            obtain ⟨q1, q2⟩ := HP.out n hlt
            generalize (wv 3 a b).getD (256 + n) 0 = X at *
            generalize (wv 1 b c).getD n 0 = Y at *
            have s1 := sqI r1 r2
            have s2 := sqI r3 r4
            obtain ⟨P, hP⟩ : ∃ P, X * X = P := ⟨_, rfl⟩
            obtain ⟨Q, hQ⟩ : ∃ Q, Y * Y = Q := ⟨_, rfl⟩
            rw [hP, hQ] at q1 q2
            rw [hP] at s1
            rw [hQ] at s2
            obtain ⟨s11, s12⟩ := s1
            obtain ⟨s21, s22⟩ := s2
            have x1 : IntKind.i64.wrap (X * X) = P := by rw [hP]; exact wrap_id (by omega) (by omega)
            have x2 : IntKind.i64.wrap (Y * Y) = Q := by rw [hQ]; exact wrap_id (by omega) (by omega)
            have x3 : IntKind.i64.wrap (P + Q) = P + Q := wrap_id (by omega) (by omega)
            have x4 : IntKind.i64.wrap (P + Q - 17592186044416) = P + Q - 17592186044416 := wrap_id (by omega) (by omega)
            have y1 : ¬ 33554432 < P + Q - 17592186044416 := by omega
            have y2 : ¬ P + Q - 17592186044416 < -33554432 := by omega
            have k1 : (256 : Int) + (n : Int) < 512 := by omega
            clear hP hQ
            go_wp2
            go_quiet (fail)
            go_wp2
            go_roundw
            case rel => exact ⟨n + 1, by omega, by go_num, Lib.hid (hB.out.trans ((drewN_below _ _).mono hB.out.size))⟩
            case measure => simp [intOf]; omega
          · obtain rfl : n = 256 := by omega
            have hB3 := Lib.hid (bt B2.out hB.out)
            clear hB C2 C3 B2
            go_wp2
            go_roundw
            case rel => exact ⟨k + 1, by omega, by go_num, hB3⟩
            case measure => simp [intOf]; omega
      · have e1 : (k : Int) % 3 = 2 := h1
        have e2 : (k : Int) / 3 % 3 = 2 := h2
        clear h1 h2
        go_wp2
        go_roundw
        case rel => exact ⟨k + 1, by omega, by go_num, hB⟩
        case measure => simp [intOf]; omega
    · obtain rfl : k = 72 := by omega
      have hB2 := hB.out
      go_wp2
      go_ret
      exact ⟨rfl, hB2⟩

theorem own : ownKnob Try.prog.godebug = none := by kernel_rfl
set_option linter.unusedVariables false
set_option maxRecDepth 100000 in
theorem lifted (os : Os) (started : os.Started) (H : Type) (enc : TypeId × Value → H) :
    ReturnsInHanded {} Try.checked os 5 .any (Rows.blockPowerSpec.pre6 enc Try.prog Try.f5 Rows.blockPowerRow.domain false) (Rows.blockPowerSpec.post enc Try.prog Try.f5 false true false false) := by
  refine returnsInHanded_of_change (C := Try.checked) own started (by kernel_rfl) Try.func5
    (ChangeSpec.witness6 (enc := enc) (C := Try.checked) false ⟨#[], #[], []⟩ 8 (by kernel_rfl) (by kernel_rfl) (by kernel_rfl) (by kernel_rfl)) ?_
  intro W base args ds gs before hval0 hW hcnd _
  have hval : ∀ (j : Nat) t v, Try.f5.params[j]? = some t → args[j]? = some v → Value.okWide Try.prog W .any base t v := hval0
  have hW' := hW
  obtain ⟨p, q, hA0, hV, rfl, hfz, hnd⟩ := hW
  have hA : DataW.TrodAll enc Try.prog W 0 (fun _ => true) true Try.f5.params.toList args.toList ds p := hA0
  rw [Try.params5] at hA hval
  obtain ⟨rfl, rfl, rfl⟩ := trodAll_none hA
  obtain ⟨rfl, rfl⟩ := trodVars_none hV
  clear hA0 hval0
  simp only [List.append_nil] at hW'
  refine (walk  W ).mono fun e W' ⟨he, bel⟩ => ?_
  subst he
  exact ⟨_, rfl, _, _, _, [], _, [], hW', trodAll_mk1 (shut_bool Try.underlying4 _), trodAll_mk0, rfl, bel.frame _, fun h => by cases h⟩

theorem over : Rows.blockPowerRow.holds Try.pinned (OpenSpec.ofChange Rows.blockPowerSpec) :=
  OpenClaim.holds_of_wide 5 Try.f5 rfl rfl rfl rfl rfl rfl rfl ⟨rfl, rfl, rfl, rfl, rfl⟩ rfl rfl rfl rfl rfl (by kernel_rfl) Try.func5 (by kernel_rfl)
    (of_decide_eq_true (by kernel_rfl)) (by unfold Func.isWrapper; first | (rw [if_pos (by decide +kernel)]; kernel_rfl) | (rw [if_neg (by decide +kernel)]; exact ⟨rfl, rfl⟩))
    (fun os started H enc _ => lifted os started H enc)

theorem proved : Rows.BlockPowerSaid := over
end Go.Proofs.Yteknakakefhbmaa.blockPower

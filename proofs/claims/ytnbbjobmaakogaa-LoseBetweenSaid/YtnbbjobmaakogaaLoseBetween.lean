/- No lost line is greater than the greater one of both sides, or less than the lesser one, and behind a long run's eighth frame there is silence. LoseBetween returns true, whatever the lines and numbers, the memory and the schedule. No condition. -/
import Derived.Test.YtnbbjobmaakogaaLoAlive
import Derived.Test.YtnbbjobmaakogaaLoFade
import Derived.Test.YtnbbjobmaakogaaLoErr
import Derived.WalkKit
import Derived.Deep.QuietTactic
import Derived.BigQuiet
import Derived.ProofKit
import Derived.OpenShut
import Derived.ShutString
import Derived.ChangeOld
import Derived.Below
import Derived.Lib.Hide
namespace Go.Proofs.Ytnbbjobmaakogaa.loseBetween
open Go Go.ChangeShapes Go.WideShapes Go.ChangeAt Go.RowKit Go.Proofs.Ytnbbjobmaakogaa.Lo

theorem drewN_below (w : World) : ∀ n, Below w.heap.size w (w.drewN n)
  | 0 => Below.refl _ _
  | n + 1 => (drewN_below w n).drew

theorem fade_bd (x : Int) (n : Nat) : (x < 0 → x ≤ x / 2 ^ n ∧ x / 2 ^ n ≤ 0) ∧ (¬ x < 0 → 0 ≤ x / 2 ^ n ∧ x / 2 ^ n ≤ x) := by
  have p : (0 : Int) < 2 ^ n := Int.pow_pos (by decide)
  refine ⟨fun h => ⟨?_, ?_⟩, fun h => ⟨Int.ediv_nonneg (by omega) (by omega), Int.ediv_le_self _ (by omega)⟩⟩
  · rw [Int.le_ediv_iff_mul_le p]
    have : x * 2 ^ n ≤ x * 1 := Int.mul_le_mul_of_nonpos_left (by omega) (by omega)
    omega
  · have : x / 2 ^ n < 1 := by
      rw [Int.ediv_lt_iff_lt_mul p]; omega
    omega
theorem btw_bd (x y W T : Int) (h : (W = 2 ∧ T = 1) ∨ (W = 3 ∧ T = 1) ∨ (W = 3 ∧ T = 2)) : (x < y → x ≤ btw x y W T ∧ btw x y W T ≤ y) ∧ (¬ x < y → y ≤ btw x y W T ∧ btw x y W T ≤ x) := by
  unfold btw
  rcases h with ⟨rfl, rfl⟩ | ⟨rfl, rfl⟩ | ⟨rfl, rfl⟩ <;> omega

set_option maxRecDepth 100000 in
set_option maxHeartbeats 4000000 in
theorem b_zero_e (b off cap : Nat) (a1 : Option Addr) (c1 : Nat) (zb za : List Int) (T M : Int) (w : World) (t0 : 1 ≤ T) (t1 : T ≤ M) (t2 : M ≤ 65536) (hT : 8 < T) (lb : zb.length = 256) (hb : InLine zb) (ha : InLine za)
    (hrb : Rd w (.slice (some ⟨b, off, none⟩) 256 cap) zb) (hra : Rd w (.slice a1 0 c1) za) (kb : b < w.heap.size)
    (cb : ∀ i, i < 256 → w.cell? ⟨b, off + i, none⟩ = some (.int .i64 (zb.getD i 0))) :
    Calls Try.prog 11 #[.slice (some ⟨b, off, none⟩) 256 cap, .slice a1 0 c1, .int .i64 T, .int .i64 M] w fun e w' => e = .returned (.bool true) ∧ Below w.heap.size w w' := by
  have HB := Lib.hid hb
  have HA := Lib.hid ha
  have RB := Lib.hid hrb
  have RA := Lib.hid hra
  have CB := Lib.hid cb
  have LB := Lib.hid lb
  clear hb ha hrb hra cb lb
  go_enter Try.func11, Try.ntmps11
  go_wp2_with (first
    | (go_at_call 28; refine (lo_alive _).mono ?_; rintro e w1 ⟨rfl, hb1⟩)
    | (go_at_call 30; refine (zero_e b off cap a1 c1 zb za T M _ t0 t1 t2 hT HB.out HA.out (RB.out.below hb1) (RA.out.below hb1) (Nat.lt_of_lt_of_le kb hb1.size) (fun i hi => (hb1.cell (p := ⟨b, off + i, none⟩) kb).trans (CB.out i hi))).mono ?_; rintro e w3 ⟨g, rfl, hrow, hb3⟩))
  have hbw := belowT hb1 hb3
  have Hrow := Lib.hid hrow
  clear hrow
  have kb3 : b < w3.heap.size := Nat.lt_of_lt_of_le kb hbw.size
  go_loopw [12] (fun i wr => ∃ k : Nat, k ≤ 256 ∧ i = .int .i64 k ∧ Below w3.heap.size w3 wr) (fun i _ => 256 - (intOf i).toNat)
  case atStart => exact ⟨0, by omega, rfl, Below.refl _ _⟩
  case round =>
    obtain ⟨k, hk, rfl, hbel⟩ := hrel
    by_cases hlt : k < 256
    · have q1 : wr.cell? ⟨b, off + k, none⟩ = some (.int .i64 (zb.getD k 0)) := (hbel.cell (p := ⟨b, off + k, none⟩) kb3).trans ((hbw.cell (p := ⟨b, off + k, none⟩) kb).trans (CB.out k hlt))
      have q2 : wr.cell? ⟨g, k, none⟩ = some (.int .i64 0) := ((Hrow.out.of_block (hbel.block _ Hrow.out.lt)).cell hlt)
      generalize zb.getD k 0 = x at *
      have fb : (x < 0 → x ≤ 0 ∧ (0 : Int) ≤ 0) ∧ (¬ x < 0 → (0 : Int) ≤ 0 ∧ 0 ≤ x) := by omega
      by_cases hx : x < 0
      · obtain ⟨l1, l2⟩ := fb.1 hx
        have d1 : decide (0 < x) = false := by first | (simp; done) | (simp; omega)
        have d2 : decide (0 < 0) = false := by first | (simp; done) | (simp; omega)
        have d3 : decide (0 < x) = false := by first | (simp; done) | (simp; omega)
        clear fb
        go_wp2
        go_quiet (fail)
        go_wp2
        go_roundw
        case rel => exact ⟨k + 1, by omega, by go_num, hbel.trans ((drewN_below wr nq).mono hbel.size)⟩
        case measure => simp [intOf]; omega
      · obtain ⟨l1, l2⟩ := fb.2 hx
        have d1 : decide (x < 0) = false := by first | (simp; done) | (simp; omega)
        have d2 : decide (x < 0) = false := by first | (simp; done) | (simp; omega)
        have d3 : decide (0 < 0) = false := by first | (simp; done) | (simp; omega)
        clear fb
        by_cases hy : 0 < x
        · go_wp2
          go_quiet (fail)
          go_wp2
          go_roundw
          case rel => exact ⟨k + 1, by omega, by go_num, hbel.trans ((drewN_below wr nq).mono hbel.size)⟩
          case measure => simp [intOf]; omega
        · have d4 : decide (0 < x) = false := by first | (simp; done) | (simp; omega)
          have d5 : decide (0 < x) = false := by first | (simp; done) | (simp; omega)
          go_wp2
          go_quiet (fail)
          go_wp2
          go_roundw
          case rel => exact ⟨k + 1, by omega, by go_num, hbel.trans ((drewN_below wr nq).mono hbel.size)⟩
          case measure => simp [intOf]; omega
    · go_wp2
      go_ret
      exact ⟨rfl, belowT hbw hbel⟩

set_option maxRecDepth 100000 in
set_option maxHeartbeats 4000000 in
theorem b_zero_f (b off cap : Nat) (a1 : Option Addr) (c1 : Nat) (zb za : List Int) (T M : Int) (w : World) (t0 : 1 ≤ T) (t1 : T ≤ M) (t2 : M ≤ 65536) (hT : 8 < T) (hM : 2 < M) (lb : zb.length = 256) (hb : InLine zb) (ha : InLine za)
    (hrb : Rd w (.slice (some ⟨b, off, none⟩) 256 cap) zb) (hra : Rd w (.slice a1 256 c1) za) (kb : b < w.heap.size)
    (cb : ∀ i, i < 256 → w.cell? ⟨b, off + i, none⟩ = some (.int .i64 (zb.getD i 0))) :
    Calls Try.prog 11 #[.slice (some ⟨b, off, none⟩) 256 cap, .slice a1 256 c1, .int .i64 T, .int .i64 M] w fun e w' => e = .returned (.bool true) ∧ Below w.heap.size w w' := by
  have HB := Lib.hid hb
  have HA := Lib.hid ha
  have RB := Lib.hid hrb
  have RA := Lib.hid hra
  have CB := Lib.hid cb
  have LB := Lib.hid lb
  have dM : decide (M ≤ 2) = false := by first | (simp; done) | (simp; omega)
  clear hb ha hrb hra cb lb
  go_enter Try.func11, Try.ntmps11
  go_wp2_with (first
    | (go_at_call 28; refine (lo_alive _).mono ?_; rintro e w1 ⟨rfl, hb1⟩)
    | (go_at_call 30; refine (zero_f b off cap a1 c1 zb za T M _ t0 t1 t2 hT hM HB.out HA.out (RB.out.below hb1) (RA.out.below hb1) (Nat.lt_of_lt_of_le kb hb1.size) (fun i hi => (hb1.cell (p := ⟨b, off + i, none⟩) kb).trans (CB.out i hi))).mono ?_; rintro e w3 ⟨g, rfl, hrow, hb3⟩))
  have hbw := belowT hb1 hb3
  have Hrow := Lib.hid hrow
  clear hrow
  have kb3 : b < w3.heap.size := Nat.lt_of_lt_of_le kb hbw.size
  go_loopw [12] (fun i wr => ∃ k : Nat, k ≤ 256 ∧ i = .int .i64 k ∧ Below w3.heap.size w3 wr) (fun i _ => 256 - (intOf i).toNat)
  case atStart => exact ⟨0, by omega, rfl, Below.refl _ _⟩
  case round =>
    obtain ⟨k, hk, rfl, hbel⟩ := hrel
    by_cases hlt : k < 256
    · have q1 : wr.cell? ⟨b, off + k, none⟩ = some (.int .i64 (zb.getD k 0)) := (hbel.cell (p := ⟨b, off + k, none⟩) kb3).trans ((hbw.cell (p := ⟨b, off + k, none⟩) kb).trans (CB.out k hlt))
      have q2 : wr.cell? ⟨g, k, none⟩ = some (.int .i64 0) := ((Hrow.out.of_block (hbel.block _ Hrow.out.lt)).cell hlt)
      generalize zb.getD k 0 = x at *
      have fb : (x < 0 → x ≤ 0 ∧ (0 : Int) ≤ 0) ∧ (¬ x < 0 → (0 : Int) ≤ 0 ∧ 0 ≤ x) := by omega
      by_cases hx : x < 0
      · obtain ⟨l1, l2⟩ := fb.1 hx
        have d1 : decide (0 < x) = false := by first | (simp; done) | (simp; omega)
        have d2 : decide (0 < 0) = false := by first | (simp; done) | (simp; omega)
        have d3 : decide (0 < x) = false := by first | (simp; done) | (simp; omega)
        clear fb
        go_wp2
        go_quiet (fail)
        go_wp2
        go_roundw
        case rel => exact ⟨k + 1, by omega, by go_num, hbel.trans ((drewN_below wr nq).mono hbel.size)⟩
        case measure => simp [intOf]; omega
      · obtain ⟨l1, l2⟩ := fb.2 hx
        have d1 : decide (x < 0) = false := by first | (simp; done) | (simp; omega)
        have d2 : decide (x < 0) = false := by first | (simp; done) | (simp; omega)
        have d3 : decide (0 < 0) = false := by first | (simp; done) | (simp; omega)
        clear fb
        by_cases hy : 0 < x
        · go_wp2
          go_quiet (fail)
          go_wp2
          go_roundw
          case rel => exact ⟨k + 1, by omega, by go_num, hbel.trans ((drewN_below wr nq).mono hbel.size)⟩
          case measure => simp [intOf]; omega
        · have d4 : decide (0 < x) = false := by first | (simp; done) | (simp; omega)
          have d5 : decide (0 < x) = false := by first | (simp; done) | (simp; omega)
          go_wp2
          go_quiet (fail)
          go_wp2
          go_roundw
          case rel => exact ⟨k + 1, by omega, by go_num, hbel.trans ((drewN_below wr nq).mono hbel.size)⟩
          case measure => simp [intOf]; omega
    · go_wp2
      go_ret
      exact ⟨rfl, belowT hbw hbel⟩

set_option maxRecDepth 100000 in
set_option maxHeartbeats 4000000 in
theorem b_fade_e1 (b off cap : Nat) (a1 : Option Addr) (c1 : Nat) (zb za : List Int) (T M : Int) (w : World) (t0 : 1 ≤ T) (t1 : T ≤ M) (t2 : M ≤ 65536) (hT : T ≤ 8) (hM : M ≤ 2) (lb : zb.length = 256) (hb : InLine zb) (ha : InLine za)
    (hrb : Rd w (.slice (some ⟨b, off, none⟩) 256 cap) zb) (hra : Rd w (.slice a1 0 c1) za) (kb : b < w.heap.size)
    (cb : ∀ i, i < 256 → w.cell? ⟨b, off + i, none⟩ = some (.int .i64 (zb.getD i 0))) :
    Calls Try.prog 11 #[.slice (some ⟨b, off, none⟩) 256 cap, .slice a1 0 c1, .int .i64 T, .int .i64 M] w fun e w' => e = .returned (.bool true) ∧ Below w.heap.size w w' := by
  have HB := Lib.hid hb
  have HA := Lib.hid ha
  have RB := Lib.hid hrb
  have RA := Lib.hid hra
  have CB := Lib.hid cb
  have LB := Lib.hid lb
  have dT : decide (8 < T) = false := by first | (simp; done) | (simp; omega)
  have dM : decide (2 < M) = false := by first | (simp; done) | (simp; omega)
  clear hb ha hrb hra cb lb
  go_enter Try.func11, Try.ntmps11
  go_wp2_with (first
    | (go_at_call 28; refine (lo_alive _).mono ?_; rintro e w1 ⟨rfl, hb1⟩)
    | (go_at_call 30; refine (fade_e1 b off cap a1 c1 zb za T M _ t0 t1 t2 hT hM HB.out HA.out (RB.out.below hb1) (RA.out.below hb1) (Nat.lt_of_lt_of_le kb hb1.size) (fun i hi => (hb1.cell (p := ⟨b, off + i, none⟩) kb).trans (CB.out i hi))).mono ?_; rintro e w3 ⟨g, rfl, hrow, hb3⟩))
  have hbw := belowT hb1 hb3
  have Hrow := Lib.hid hrow
  clear hrow
  have kb3 : b < w3.heap.size := Nat.lt_of_lt_of_le kb hbw.size
  go_loopw [12] (fun i wr => ∃ k : Nat, k ≤ 256 ∧ i = .int .i64 k ∧ Below w3.heap.size w3 wr) (fun i _ => 256 - (intOf i).toNat)
  case atStart => exact ⟨0, by omega, rfl, Below.refl _ _⟩
  case round =>
    obtain ⟨k, hk, rfl, hbel⟩ := hrel
    by_cases hlt : k < 256
    · have q1 : wr.cell? ⟨b, off + k, none⟩ = some (.int .i64 (zb.getD k 0)) := (hbel.cell (p := ⟨b, off + k, none⟩) kb3).trans ((hbw.cell (p := ⟨b, off + k, none⟩) kb).trans (CB.out k hlt))
      have q2 : wr.cell? ⟨g, k, none⟩ = some (.int .i64 (zb.getD k 0 / 2 ^ T.toNat)) := ((Hrow.out.of_block (hbel.block _ Hrow.out.lt)).cell hlt)
      generalize zb.getD k 0 = x at *
      have fb := fade_bd x T.toNat
      generalize x / 2 ^ T.toNat = L at *
      by_cases hx : x < 0
      · obtain ⟨l1, l2⟩ := fb.1 hx
        have d1 : decide (0 < x) = false := by first | (simp; done) | (simp; omega)
        have d2 : decide (0 < L) = false := by first | (simp; done) | (simp; omega)
        have d3 : decide (L < x) = false := by first | (simp; done) | (simp; omega)
        clear fb
        go_wp2
        go_quiet (fail)
        go_wp2
        go_roundw
        case rel => exact ⟨k + 1, by omega, by go_num, hbel.trans ((drewN_below wr nq).mono hbel.size)⟩
        case measure => simp [intOf]; omega
      · obtain ⟨l1, l2⟩ := fb.2 hx
        have d1 : decide (x < 0) = false := by first | (simp; done) | (simp; omega)
        have d2 : decide (x < L) = false := by first | (simp; done) | (simp; omega)
        have d3 : decide (L < 0) = false := by first | (simp; done) | (simp; omega)
        clear fb
        by_cases hy : 0 < x
        · go_wp2
          go_quiet (fail)
          go_wp2
          go_roundw
          case rel => exact ⟨k + 1, by omega, by go_num, hbel.trans ((drewN_below wr nq).mono hbel.size)⟩
          case measure => simp [intOf]; omega
        · have d4 : decide (0 < x) = false := by first | (simp; done) | (simp; omega)
          have d5 : decide (L < x) = false := by first | (simp; done) | (simp; omega)
          go_wp2
          go_quiet (fail)
          go_wp2
          go_roundw
          case rel => exact ⟨k + 1, by omega, by go_num, hbel.trans ((drewN_below wr nq).mono hbel.size)⟩
          case measure => simp [intOf]; omega
    · go_wp2
      go_ret
      exact ⟨rfl, belowT hbw hbel⟩

set_option maxRecDepth 100000 in
set_option maxHeartbeats 4000000 in
theorem b_fade_e2 (b off cap : Nat) (a1 : Option Addr) (c1 : Nat) (zb za : List Int) (T M : Int) (w : World) (t0 : 1 ≤ T) (t1 : T ≤ M) (t2 : M ≤ 65536) (hT : T ≤ 8) (hM : 2 < M) (lb : zb.length = 256) (hb : InLine zb) (ha : InLine za)
    (hrb : Rd w (.slice (some ⟨b, off, none⟩) 256 cap) zb) (hra : Rd w (.slice a1 0 c1) za) (kb : b < w.heap.size)
    (cb : ∀ i, i < 256 → w.cell? ⟨b, off + i, none⟩ = some (.int .i64 (zb.getD i 0))) :
    Calls Try.prog 11 #[.slice (some ⟨b, off, none⟩) 256 cap, .slice a1 0 c1, .int .i64 T, .int .i64 M] w fun e w' => e = .returned (.bool true) ∧ Below w.heap.size w w' := by
  have HB := Lib.hid hb
  have HA := Lib.hid ha
  have RB := Lib.hid hrb
  have RA := Lib.hid hra
  have CB := Lib.hid cb
  have LB := Lib.hid lb
  have dT : decide (8 < T) = false := by first | (simp; done) | (simp; omega)
  have dM : decide (M ≤ 2) = false := by first | (simp; done) | (simp; omega)
  clear hb ha hrb hra cb lb
  go_enter Try.func11, Try.ntmps11
  go_wp2_with (first
    | (go_at_call 28; refine (lo_alive _).mono ?_; rintro e w1 ⟨rfl, hb1⟩)
    | (go_at_call 30; refine (fade_e2 b off cap a1 c1 zb za T M _ t0 t1 t2 hT hM HB.out HA.out (RB.out.below hb1) (RA.out.below hb1) (Nat.lt_of_lt_of_le kb hb1.size) (fun i hi => (hb1.cell (p := ⟨b, off + i, none⟩) kb).trans (CB.out i hi))).mono ?_; rintro e w3 ⟨g, rfl, hrow, hb3⟩))
  have hbw := belowT hb1 hb3
  have Hrow := Lib.hid hrow
  clear hrow
  have kb3 : b < w3.heap.size := Nat.lt_of_lt_of_le kb hbw.size
  go_loopw [12] (fun i wr => ∃ k : Nat, k ≤ 256 ∧ i = .int .i64 k ∧ Below w3.heap.size w3 wr) (fun i _ => 256 - (intOf i).toNat)
  case atStart => exact ⟨0, by omega, rfl, Below.refl _ _⟩
  case round =>
    obtain ⟨k, hk, rfl, hbel⟩ := hrel
    by_cases hlt : k < 256
    · have q1 : wr.cell? ⟨b, off + k, none⟩ = some (.int .i64 (zb.getD k 0)) := (hbel.cell (p := ⟨b, off + k, none⟩) kb3).trans ((hbw.cell (p := ⟨b, off + k, none⟩) kb).trans (CB.out k hlt))
      have q2 : wr.cell? ⟨g, k, none⟩ = some (.int .i64 (zb.getD k 0 / 2 ^ T.toNat)) := ((Hrow.out.of_block (hbel.block _ Hrow.out.lt)).cell hlt)
      generalize zb.getD k 0 = x at *
      have fb := fade_bd x T.toNat
      generalize x / 2 ^ T.toNat = L at *
      by_cases hx : x < 0
      · obtain ⟨l1, l2⟩ := fb.1 hx
        have d1 : decide (0 < x) = false := by first | (simp; done) | (simp; omega)
        have d2 : decide (0 < L) = false := by first | (simp; done) | (simp; omega)
        have d3 : decide (L < x) = false := by first | (simp; done) | (simp; omega)
        clear fb
        go_wp2
        go_quiet (fail)
        go_wp2
        go_roundw
        case rel => exact ⟨k + 1, by omega, by go_num, hbel.trans ((drewN_below wr nq).mono hbel.size)⟩
        case measure => simp [intOf]; omega
      · obtain ⟨l1, l2⟩ := fb.2 hx
        have d1 : decide (x < 0) = false := by first | (simp; done) | (simp; omega)
        have d2 : decide (x < L) = false := by first | (simp; done) | (simp; omega)
        have d3 : decide (L < 0) = false := by first | (simp; done) | (simp; omega)
        clear fb
        by_cases hy : 0 < x
        · go_wp2
          go_quiet (fail)
          go_wp2
          go_roundw
          case rel => exact ⟨k + 1, by omega, by go_num, hbel.trans ((drewN_below wr nq).mono hbel.size)⟩
          case measure => simp [intOf]; omega
        · have d4 : decide (0 < x) = false := by first | (simp; done) | (simp; omega)
          have d5 : decide (L < x) = false := by first | (simp; done) | (simp; omega)
          go_wp2
          go_quiet (fail)
          go_wp2
          go_roundw
          case rel => exact ⟨k + 1, by omega, by go_num, hbel.trans ((drewN_below wr nq).mono hbel.size)⟩
          case measure => simp [intOf]; omega
    · go_wp2
      go_ret
      exact ⟨rfl, belowT hbw hbel⟩

set_option maxRecDepth 100000 in
set_option maxHeartbeats 4000000 in
theorem b_fade_f (b off cap : Nat) (a1 : Option Addr) (c1 : Nat) (zb za : List Int) (T M : Int) (w : World) (t0 : 1 ≤ T) (t1 : T ≤ M) (t2 : M ≤ 65536) (hT : T ≤ 8) (hM : 2 < M) (lb : zb.length = 256) (hb : InLine zb) (ha : InLine za)
    (hrb : Rd w (.slice (some ⟨b, off, none⟩) 256 cap) zb) (hra : Rd w (.slice a1 256 c1) za) (kb : b < w.heap.size)
    (cb : ∀ i, i < 256 → w.cell? ⟨b, off + i, none⟩ = some (.int .i64 (zb.getD i 0))) :
    Calls Try.prog 11 #[.slice (some ⟨b, off, none⟩) 256 cap, .slice a1 256 c1, .int .i64 T, .int .i64 M] w fun e w' => e = .returned (.bool true) ∧ Below w.heap.size w w' := by
  have HB := Lib.hid hb
  have HA := Lib.hid ha
  have RB := Lib.hid hrb
  have RA := Lib.hid hra
  have CB := Lib.hid cb
  have LB := Lib.hid lb
  have dT : decide (8 < T) = false := by first | (simp; done) | (simp; omega)
  have dM : decide (M ≤ 2) = false := by first | (simp; done) | (simp; omega)
  clear hb ha hrb hra cb lb
  go_enter Try.func11, Try.ntmps11
  go_wp2_with (first
    | (go_at_call 28; refine (lo_alive _).mono ?_; rintro e w1 ⟨rfl, hb1⟩)
    | (go_at_call 30; refine (fade_f b off cap a1 c1 zb za T M _ t0 t1 t2 hT hM HB.out HA.out (RB.out.below hb1) (RA.out.below hb1) (Nat.lt_of_lt_of_le kb hb1.size) (fun i hi => (hb1.cell (p := ⟨b, off + i, none⟩) kb).trans (CB.out i hi))).mono ?_; rintro e w3 ⟨g, rfl, hrow, hb3⟩))
  have hbw := belowT hb1 hb3
  have Hrow := Lib.hid hrow
  clear hrow
  have kb3 : b < w3.heap.size := Nat.lt_of_lt_of_le kb hbw.size
  go_loopw [12] (fun i wr => ∃ k : Nat, k ≤ 256 ∧ i = .int .i64 k ∧ Below w3.heap.size w3 wr) (fun i _ => 256 - (intOf i).toNat)
  case atStart => exact ⟨0, by omega, rfl, Below.refl _ _⟩
  case round =>
    obtain ⟨k, hk, rfl, hbel⟩ := hrel
    by_cases hlt : k < 256
    · have q1 : wr.cell? ⟨b, off + k, none⟩ = some (.int .i64 (zb.getD k 0)) := (hbel.cell (p := ⟨b, off + k, none⟩) kb3).trans ((hbw.cell (p := ⟨b, off + k, none⟩) kb).trans (CB.out k hlt))
      have q2 : wr.cell? ⟨g, k, none⟩ = some (.int .i64 (zb.getD k 0 / 2 ^ T.toNat)) := ((Hrow.out.of_block (hbel.block _ Hrow.out.lt)).cell hlt)
      generalize zb.getD k 0 = x at *
      have fb := fade_bd x T.toNat
      generalize x / 2 ^ T.toNat = L at *
      by_cases hx : x < 0
      · obtain ⟨l1, l2⟩ := fb.1 hx
        have d1 : decide (0 < x) = false := by first | (simp; done) | (simp; omega)
        have d2 : decide (0 < L) = false := by first | (simp; done) | (simp; omega)
        have d3 : decide (L < x) = false := by first | (simp; done) | (simp; omega)
        clear fb
        go_wp2
        go_quiet (fail)
        go_wp2
        go_roundw
        case rel => exact ⟨k + 1, by omega, by go_num, hbel.trans ((drewN_below wr nq).mono hbel.size)⟩
        case measure => simp [intOf]; omega
      · obtain ⟨l1, l2⟩ := fb.2 hx
        have d1 : decide (x < 0) = false := by first | (simp; done) | (simp; omega)
        have d2 : decide (x < L) = false := by first | (simp; done) | (simp; omega)
        have d3 : decide (L < 0) = false := by first | (simp; done) | (simp; omega)
        clear fb
        by_cases hy : 0 < x
        · go_wp2
          go_quiet (fail)
          go_wp2
          go_roundw
          case rel => exact ⟨k + 1, by omega, by go_num, hbel.trans ((drewN_below wr nq).mono hbel.size)⟩
          case measure => simp [intOf]; omega
        · have d4 : decide (0 < x) = false := by first | (simp; done) | (simp; omega)
          have d5 : decide (L < x) = false := by first | (simp; done) | (simp; omega)
          go_wp2
          go_quiet (fail)
          go_wp2
          go_roundw
          case rel => exact ⟨k + 1, by omega, by go_num, hbel.trans ((drewN_below wr nq).mono hbel.size)⟩
          case measure => simp [intOf]; omega
    · go_wp2
      go_ret
      exact ⟨rfl, belowT hbw hbel⟩

set_option maxRecDepth 100000 in
set_option maxHeartbeats 4000000 in
theorem b_btw (b off cap : Nat) (b1 o1 c1 : Nat) (zb za : List Int) (T M : Int) (w : World) (t0 : 1 ≤ T) (t1 : T ≤ M) (t2 : M ≤ 65536) (hM : (M = 1 ∧ T = 1) ∨ (M = 2 ∧ T = 1) ∨ (M = 2 ∧ T = 2)) (lb : zb.length = 256) (hb : InLine zb) (ha : InLine za)
    (hrb : Rd w (.slice (some ⟨b, off, none⟩) 256 cap) zb) (hra : Rd w (.slice (some ⟨b1, o1, none⟩) 256 c1) za) (kb : b < w.heap.size)
    (cb : ∀ i, i < 256 → w.cell? ⟨b, off + i, none⟩ = some (.int .i64 (zb.getD i 0))) (la : za.length = 256) (ka : b1 < w.heap.size) (ca : ∀ i, i < 256 → w.cell? ⟨b1, o1 + i, none⟩ = some (.int .i64 (za.getD i 0))) :
    Calls Try.prog 11 #[.slice (some ⟨b, off, none⟩) 256 cap, .slice (some ⟨b1, o1, none⟩) 256 c1, .int .i64 T, .int .i64 M] w fun e w' => e = .returned (.bool true) ∧ Below w.heap.size w w' := by
  have HB := Lib.hid hb
  have HA := Lib.hid ha
  have RB := Lib.hid hrb
  have RA := Lib.hid hra
  have CB := Lib.hid cb
  have LB := Lib.hid lb
  have HM := Lib.hid hM
  have HW : Hid ((M + 1 = 2 ∧ T = 1) ∨ (M + 1 = 3 ∧ T = 1) ∨ (M + 1 = 3 ∧ T = 2)) := Lib.hid (by omega)
  have CA := Lib.hid ca
  have LA := Lib.hid la
  have dM : decide (2 < M) = false := by first | (simp; done) | (simp; omega)
  have m2 : M ≤ 2 := by omega
  clear hb ha hrb hra cb lb ca la hM
  go_enter Try.func11, Try.ntmps11
  go_wp2_with (first
    | (go_at_call 28; refine (lo_alive _).mono ?_; rintro e w1 ⟨rfl, hb1⟩)
    | (go_at_call 30; refine (lines_btw b off cap b1 o1 c1 zb za T M _ HM.out LB.out LA.out HB.out HA.out (RB.out.below hb1) (RA.out.below hb1) (Nat.lt_of_lt_of_le kb hb1.size) (Nat.lt_of_lt_of_le ka hb1.size) (fun i hi => (hb1.cell (p := ⟨b, off + i, none⟩) kb).trans (CB.out i hi)) (fun i hi => (hb1.cell (p := ⟨b1, o1 + i, none⟩) ka).trans (CA.out i hi))).mono ?_; rintro e w3 ⟨g, rfl, hrow, hb3⟩))
  have hbw := belowT hb1 hb3
  have Hrow := Lib.hid hrow
  clear hrow
  have ka3 : b1 < w3.heap.size := Nat.lt_of_lt_of_le ka hbw.size
  have kb3 : b < w3.heap.size := Nat.lt_of_lt_of_le kb hbw.size
  go_loopw [12] (fun i wr => ∃ k : Nat, k ≤ 256 ∧ i = .int .i64 k ∧ Below w3.heap.size w3 wr) (fun i _ => 256 - (intOf i).toNat)
  case atStart => exact ⟨0, by omega, rfl, Below.refl _ _⟩
  case round =>
    obtain ⟨k, hk, rfl, hbel⟩ := hrel
    by_cases hlt : k < 256
    · have q1 : wr.cell? ⟨b, off + k, none⟩ = some (.int .i64 (zb.getD k 0)) := (hbel.cell (p := ⟨b, off + k, none⟩) kb3).trans ((hbw.cell (p := ⟨b, off + k, none⟩) kb).trans (CB.out k hlt))
      have q2 : wr.cell? ⟨g, k, none⟩ = some (.int .i64 (btw (zb.getD k 0) (za.getD k 0) (M + 1) T)) := ((Hrow.out.of_block (hbel.block _ Hrow.out.lt)).cell hlt)
      have q3 : wr.cell? ⟨b1, o1 + k, none⟩ = some (.int .i64 (za.getD k 0)) := (hbel.cell (p := ⟨b1, o1 + k, none⟩) ka3).trans ((hbw.cell (p := ⟨b1, o1 + k, none⟩) ka).trans (CA.out k hlt))
      generalize zb.getD k 0 = x at *
      generalize za.getD k 0 = y at *
      have fb := btw_bd x y (M + 1) T HW.out
      generalize btw x y (M + 1) T = L at *
      by_cases hx : x < y
      · obtain ⟨l1, l2⟩ := fb.1 hx
        have d1 : decide (y < x) = false := by first | (simp; done) | (simp; omega)
        have d2 : decide (y < L) = false := by first | (simp; done) | (simp; omega)
        have d3 : decide (L < x) = false := by first | (simp; done) | (simp; omega)
        clear fb
        go_wp2
        go_quiet (fail)
        go_wp2
        go_roundw
        case rel => exact ⟨k + 1, by omega, by go_num, hbel.trans ((drewN_below wr nq).mono hbel.size)⟩
        case measure => simp [intOf]; omega
      · obtain ⟨l1, l2⟩ := fb.2 hx
        have d1 : decide (x < y) = false := by first | (simp; done) | (simp; omega)
        have d2 : decide (x < L) = false := by first | (simp; done) | (simp; omega)
        have d3 : decide (L < y) = false := by first | (simp; done) | (simp; omega)
        clear fb
        by_cases hy : y < x
        · go_wp2
          go_quiet (fail)
          go_wp2
          go_roundw
          case rel => exact ⟨k + 1, by omega, by go_num, hbel.trans ((drewN_below wr nq).mono hbel.size)⟩
          case measure => simp [intOf]; omega
        · have d4 : decide (y < x) = false := by first | (simp; done) | (simp; omega)
          have d5 : decide (L < x) = false := by first | (simp; done) | (simp; omega)
          go_wp2
          go_quiet (fail)
          go_wp2
          go_roundw
          case rel => exact ⟨k + 1, by omega, by go_num, hbel.trans ((drewN_below wr nq).mono hbel.size)⟩
          case measure => simp [intOf]; omega
    · go_wp2
      go_ret
      exact ⟨rfl, belowT hbw hbel⟩

theorem b_long (a0 a1 : Option Addr) (l0 l1 c0 c1 : Nat) (T M : Int) (w : World) (m0 : l0 ≤ maxLen) (m1 : l1 ≤ maxLen) (h : 1000 < l0 ∨ 1000 < l1) :
    Calls Try.prog 11 #[.slice a0 l0 c0, .slice a1 l1 c1, .int .i64 T, .int .i64 M] w fun e w' => e = .returned (.bool true) ∧ Below w.heap.size w w' := by
  unfold maxLen at m0 m1
  by_cases h0 : 1000 < l0
  · go_enter Try.func11, Try.ntmps11
    go_wp2_with (go_at_call 28; refine (lo_alive _).mono ?_; rintro e w1 ⟨rfl, hb1⟩)
    go_ret
    exact ⟨rfl, by assumption⟩
  · have h1 : 1000 < l1 := by omega
    clear h
    go_enter Try.func11, Try.ntmps11
    go_wp2_with (go_at_call 28; refine (lo_alive _).mono ?_; rintro e w1 ⟨rfl, hb1⟩)
    go_ret
    exact ⟨rfl, by assumption⟩

set_option maxRecDepth 100000 in
/-- Where Lines tells an error. -/
theorem b_err (a0 a1 : Option Addr) (l0 l1 c0 c1 : Nat) (T M r : Int) (w : World) (m0 : l0 ≤ 1000) (m1 : l1 ≤ 1000) (hr : (r == 0) = false)
    (hE : ∀ w1, Below w.heap.size w w1 → Calls Try.prog 30 #[.slice a0 l0 c0, .slice a1 l1 c1, .int .i64 T, .int .i64 M] w1 fun e w' => e = .returned (.tuple #[.slice none 0 0, .int .i64 r]) ∧ w1 = w') :
    Calls Try.prog 11 #[.slice a0 l0 c0, .slice a1 l1 c1, .int .i64 T, .int .i64 M] w fun e w' => e = .returned (.bool true) ∧ Below w.heap.size w w' := by
  have HE := Lib.hid hE
  have hr2 : (r != 0) = true := by rw [bne, hr]; rfl
  clear hE
  go_enter Try.func11, Try.ntmps11
  go_wp2_with (first | (go_at_call 28; refine (lo_alive _).mono ?_; rintro e w1 ⟨rfl, hb1⟩) | (go_at_call 30; refine (HE.out _ hb1).mono ?_; rintro e w3 ⟨rfl, rfl⟩))
  go_ret
  exact ⟨rfl, by assumption⟩

def IsRow (k : IntKind) (w : World) (a : Option Addr) (len cap : Nat) (zs : List Int) : Prop :=
  (a = none ∧ len = 0 ∧ cap = 0 ∧ zs = []) ∨
  ∃ x, a = some x ∧ len ≤ cap ∧ cap ≤ maxLen ∧ zs.length = cap ∧ (∀ i, i < zs.length → w.cell? (x.add i) = some (.int k (zs.getD i 0))) ∧ ∀ n ∈ zs, (Lit.int k n).wf = true
theorem lt_of_cell {w : World} {p : Addr} {v : Value} (h : w.cell? p = some v) : p.block < w.heap.size := by
  refine Nat.not_le.1 fun hle => ?_
  have : w.heap[p.block]? = none := by simp; omega
  simp [World.cell?, this] at h
theorem IsRow.rd {w : World} {a : Option Addr} {len cap : Nat} {zs : List Int} (h : IsRow .i64 w a len cap zs) : ∃ xs : List Int, xs.length = len ∧ Rd w (.slice a xs.length cap) xs := by
  rcases h with ⟨rfl, rfl, rfl, rfl⟩ | ⟨x, rfl, hl, hm, hz, hc, hwf⟩
  · exact ⟨[], rfl, .inl ⟨_, _, rfl, rfl⟩⟩
  · have hlen : (zs.take len).length = len := by simp; omega
    refine ⟨zs.take len, hlen, ?_⟩
    rw [hlen]
    by_cases h0 : len = 0
    · subst h0; exact .inl ⟨_, _, rfl, rfl⟩
    · obtain ⟨b, off, rfl, hc'⟩ := ints_at hc (by omega)
      have hb := lt_of_cell (hc' 0 (by omega))
      refine .inr ⟨b, off, cap, by rw [hlen], hb, by omega, hm, fun i hi => ?_⟩
      rw [hlen] at hi
      rw [hc' i (by omega)]
      simp [hi]
theorem IsRow.le {w : World} {a : Option Addr} {len cap : Nat} {zs : List Int} (h : IsRow .i64 w a len cap zs) : len ≤ maxLen := by
  rcases h with ⟨_, rfl, _, _⟩ | ⟨_, _, hl, hm, _⟩
  · unfold maxLen; omega
  · omega

theorem walk (a0 : Option Addr) (l0 c0 : Nat) (z0 : List Int) (a1 : Option Addr) (l1 c1 : Nat) (z1 : List Int) (T M : Int) (w : World) (w0 : IsRow .i64 w a0 l0 c0 z0) (w1 : IsRow .i64 w a1 l1 c1 z1) (_ : (Lit.int .i64 T).wf = true) (_ : (Lit.int .i64 M).wf = true) :
    Calls Try.prog 11 #[.slice a0 l0 c0, .slice a1 l1 c1, .int .i64 T, .int .i64 M] w fun e w' => e = .returned (.bool true) ∧ Below w.heap.size w w' := by
  by_cases h : 1000 < l0 ∨ 1000 < l1
  · exact b_long a0 a1 l0 l1 c0 c1 T M w w0.le w1.le h
  by_cases h1 : T < 1 ∨ M < T ∨ 65536 < M
  · exact b_err a0 a1 l0 l1 c0 c1 T M 2 w (by omega) (by omega) rfl fun _ _ => err1 _ _ T M _ h1
  by_cases h2 : l0 ≠ 256 ∨ (l1 ≠ 256 ∧ l1 ≠ 0)
  · exact b_err a0 a1 l0 l1 c0 c1 T M 4 w (by omega) (by omega) rfl fun _ _ => err2 a0 a1 l0 l1 c0 c1 T M _ (by omega) (by omega) (by omega) (by omega) (by omega) h2
  obtain rfl : l0 = 256 := by omega
  obtain ⟨zb, lb, rb⟩ := w0.rd
  obtain ⟨za, la, ra⟩ := w1.rd
  rw [lb] at rb
  rw [la] at ra
  by_cases hb : InLine zb
  · by_cases ha : InLine za
    · have rb' := rb
      rcases rb with ⟨_, _, e, _⟩ | ⟨b, off, cap, e, k2, k3, k4, k5⟩
      · simp only [Value.slice.injEq] at e; omega
      simp only [Value.slice.injEq] at e
      obtain ⟨rfl, _, rfl⟩ := e
      rw [lb] at k5
      by_cases hl : l1 = 0
      · subst hl
        by_cases hT : 8 < T
        · exact b_zero_e b off _ a1 c1 zb za T M w (by omega) (by omega) (by omega) hT lb hb ha rb' ra k2 k5
        · by_cases hM : M ≤ 2
          · exact b_fade_e1 b off _ a1 c1 zb za T M w (by omega) (by omega) (by omega) (by omega) hM lb hb ha rb' ra k2 k5
          · exact b_fade_e2 b off _ a1 c1 zb za T M w (by omega) (by omega) (by omega) (by omega) (by omega) lb hb ha rb' ra k2 k5
      · obtain rfl : l1 = 256 := by omega
        by_cases hM : M ≤ 2
        · have ra' := ra
          rcases ra with ⟨_, _, f, _⟩ | ⟨b1, o1, cap1, f, g2, g3, g4, g5⟩
          · simp only [Value.slice.injEq] at f; omega
          simp only [Value.slice.injEq] at f
          obtain ⟨rfl, _, rfl⟩ := f
          rw [la] at g5
          exact b_btw b off _ b1 o1 _ zb za T M w (by omega) (by omega) (by omega) (by omega) lb hb ha rb' ra' k2 k5 la g2 g5
        · by_cases hT : 8 < T
          · exact b_zero_f b off _ a1 c1 zb za T M w (by omega) (by omega) (by omega) hT (by omega) lb hb ha rb' ra k2 k5
          · exact b_fade_f b off _ a1 c1 zb za T M w (by omega) (by omega) (by omega) (by omega) (by omega) lb hb ha rb' ra k2 k5
    · exact b_err a0 a1 256 l1 c0 c1 T M 2 w (by omega) (by omega) rfl fun _ hbl => err3 a0 a1 l1 c0 c1 zb za T M _ (by omega) (by omega) (by omega) (by omega) (rb.below hbl) (ra.below hbl) (.inr ⟨hb, bad_of ha⟩)
  · exact b_err a0 a1 256 l1 c0 c1 T M 2 w (by omega) (by omega) rfl fun _ hbl => err3 a0 a1 l1 c0 c1 zb za T M _ (by omega) (by omega) (by omega) (by omega) (rb.below hbl) (ra.below hbl) (.inl (bad_of hb))

theorem own : ownKnob Try.prog.godebug = none := by kernel_rfl
theorem laidOut : laidOutB Try.prog = true := by kernel_rfl
set_option linter.unusedVariables false
set_option maxRecDepth 100000 in
theorem lifted (os : Os) (started : os.Started) (H : Type) (enc : TypeId × Value → H) :
    ReturnsInHanded {} Try.checked os 11 .any (Rows.loseBetweenSpec.pre6 enc Try.prog Try.f11 Rows.loseBetweenRow.domain false) (Rows.loseBetweenSpec.post enc Try.prog Try.f11 false true false false) := by
  refine returnsInHanded_of_change (C := Try.checked) own started (by kernel_rfl) Try.func11
    (ChangeSpec.witness6 (enc := enc) (C := Try.checked) false ⟨#[], #[.slice none 0 0, .slice none 0 0, .int .i64 0, .int .i64 0], []⟩ 8 (by kernel_rfl) (by kernel_rfl) (by kernel_rfl) (by kernel_rfl)) ?_
  intro W base args ds gs before hval0 hW hcnd _
  have hval : ∀ (j : Nat) t v, Try.f11.params[j]? = some t → args[j]? = some v → Value.okWide Try.prog W .any base t v := hval0
  have hW' := hW
  obtain ⟨p, q, hA0, hV, rfl, hfz, hnd⟩ := hW
  have hA : DataW.TrodAll enc Try.prog W 0 (fun _ => true) true Try.f11.params.toList args.toList ds p := hA0
  rw [Try.params11] at hA hval
  obtain ⟨v0, vs0, d0, ds0, p0, q0, hargs, rfl, rfl, h0, r0⟩ := trodAll_cons hA
  obtain ⟨v1, vs1, d1, ds1, p1, q1, rfl, rfl, rfl, h1, r1⟩ := trodAll_cons r0
  obtain ⟨v2, vs2, d2, ds2, p2, q2, rfl, rfl, rfl, h2, r2⟩ := trodAll_cons r1
  obtain ⟨v3, vs3, d3, ds3, p3, q3, rfl, rfl, rfl, h3, r3⟩ := trodAll_cons r2
  obtain ⟨rfl, rfl, rfl⟩ := trodAll_nil r3
  obtain rfl : args = #[v0, v1, v2, v3] := by cases args; simp_all
  obtain ⟨rfl, rfl⟩ := trodVars_none hV
  obtain ⟨a0, len0, cap0, rfl⟩ := okWide_slice Try.underlying22 (hval 0 22 v0 rfl rfl)
  have k0 := h0
  have lt0 : ∀ x ∈ p0, x.block < W.heap.size := by obtain ⟨m, hm⟩ := k0; exact DataW.trod_lt m _ _ _ hm
  obtain ⟨z0, w0⟩ : ∃ zs, IsRow .i64 W a0 len0 cap0 zs := by
    obtain ⟨fuel, hf⟩ := h0
    rcases open_ints Try.underlying22 Try.underlying3 (by kernel_rfl) hf with ⟨hcs, _⟩ | ⟨x, l, c, zs, hcs, _, hl, hm, hz, _, hcell, hwz⟩
    · simp [Value.cells] at hcs
      obtain ⟨rfl, rfl, rfl⟩ := hcs
      exact ⟨[], .inl ⟨rfl, rfl, rfl, rfl⟩⟩
    · simp [Value.cells] at hcs
      obtain ⟨rfl, rfl, rfl⟩ := hcs
      exact ⟨zs, .inr ⟨_, rfl, hl, hm, by simpa using hz, hcell, hwz⟩⟩
  obtain ⟨a1, len1, cap1, rfl⟩ := okWide_slice Try.underlying22 (hval 1 22 v1 rfl rfl)
  have k1 := h1
  have lt1 : ∀ x ∈ p1, x.block < W.heap.size := by obtain ⟨m, hm⟩ := k1; exact DataW.trod_lt m _ _ _ hm
  obtain ⟨z1, w1⟩ : ∃ zs, IsRow .i64 W a1 len1 cap1 zs := by
    obtain ⟨fuel, hf⟩ := h1
    rcases open_ints Try.underlying22 Try.underlying3 (by kernel_rfl) hf with ⟨hcs, _⟩ | ⟨x, l, c, zs, hcs, _, hl, hm, hz, _, hcell, hwz⟩
    · simp [Value.cells] at hcs
      obtain ⟨rfl, rfl, rfl⟩ := hcs
      exact ⟨[], .inl ⟨rfl, rfl, rfl, rfl⟩⟩
    · simp [Value.cells] at hcs
      obtain ⟨rfl, rfl, rfl⟩ := hcs
      exact ⟨zs, .inr ⟨_, rfl, hl, hm, by simpa using hz, hcell, hwz⟩⟩
  obtain ⟨a2, rfl, rfl, rfl, w2⟩ := open_int Try.underlying3 (hval 2 3 v2 rfl rfl) h2
  obtain ⟨a3, rfl, rfl, rfl, w3⟩ := open_int Try.underlying3 (hval 3 3 v3 rfl rfl) h3
  clear hA0 hval0
  refine (walk a0 len0 cap0 z0 a1 len1 cap1 z1 a2 a3 W w0 w1 w2 w3).mono fun e W' ⟨he, bel⟩ => ?_
  subst he
  exact ⟨_, rfl, _, _, _, [], _, [], hW', trodAll_mk1 (shut_bool Try.underlying4 _), (trodAll_cons_mk (Below.trod laidOut (by kernel_rfl) (of_decide_eq_true (by kernel_rfl)) k0 bel lt0) (trodAll_cons_mk (Below.trod laidOut (by kernel_rfl) (of_decide_eq_true (by kernel_rfl)) k1 bel lt1) (trodAll_cons_mk (shut_int Try.underlying3 w2) (trodAll_cons_mk (shut_int Try.underlying3 w3) trodAll_mk0)))), rfl, bel.frame _, fun h => by cases h⟩

theorem over : Rows.loseBetweenRow.holds Try.pinned (OpenSpec.ofChange Rows.loseBetweenSpec) :=
  OpenClaim.holds_of_wide 11 Try.f11 rfl rfl rfl rfl rfl rfl rfl ⟨rfl, rfl, rfl, rfl, rfl⟩ rfl rfl rfl rfl rfl (by kernel_rfl) Try.func11 (by kernel_rfl)
    (of_decide_eq_true (by kernel_rfl)) (by unfold Func.isWrapper; first | (rw [if_pos (by decide +kernel)]; kernel_rfl) | (rw [if_neg (by decide +kernel)]; exact ⟨rfl, rfl⟩))
    (fun os started H enc _ => lifted os started H enc)

theorem proved : Rows.LoseBetweenSaid := over
end Go.Proofs.Ytnbbjobmaakogaa.loseBetween

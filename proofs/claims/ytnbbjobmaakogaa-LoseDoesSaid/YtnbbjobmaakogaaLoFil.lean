/- What the document's own answer fills for a lost frame. -/
import Derived.Test.YtnbbjobmaakogaaLoRef
import Derived.WalkKit
import Derived.RegionTactic
import Derived.StillTailTactics
import Derived.ChangeAlike
import Derived.Deep.OwnRows
import Derived.ProofKit
import Derived.OpenShut
import Derived.Lib.Hide
namespace Go.Proofs.Ytnbbjobmaakogaa.Lo
open Go Go.ChangeShapes Go.WideShapes Go.ChangeAt Go.RowKit

theorem pow_bd : ∀ m : Nat, m ≤ 8 → (1 : Int) ≤ 2 ^ m ∧ (2 : Int) ^ m ≤ 256
  | 0, _ | 1, _ | 2, _ | 3, _ | 4, _ | 5, _ | 6, _ | 7, _ | 8, _ => by decide
  | n + 9, h => by omega
theorem wrap_in {n : Int} (h0 : -9223372036854775808 ≤ n) (h1 : n ≤ 9223372036854775807) : IntKind.i64.wrap n = n := by rw [IntKind.wrap_i64]; omega
theorem down_still (a b : Int) (w : World) (a0 : -1073741824 ≤ a) (a1 : a ≤ 1073741824) (b0 : 1 ≤ b) (b1 : b ≤ 256) :
    Calls Try.prog 61 #[.int .i64 a, .int .i64 b] w fun e w' => e = .returned (.int .i64 (a / b)) ∧ w' = w := (down_ok a b w a0 a1 b0 b1).mono fun _ _ h => ⟨h.1, h.2.symm⟩

set_option maxRecDepth 100000 in
set_option maxHeartbeats 2000000 in
theorem rf_zero (b off cap : Nat) (v1 : Value) (zb : List Int) (T M : Int) (w : World) (t0 : 1 ≤ T) (t1 : T ≤ M) (t2 : M ≤ 65536) (hb : Ln w b off cap zb) (hM : 2 < M) (hT : 8 < T) :
    Calls Try.prog 51 #[.slice (some ⟨b, off, none⟩) 256 cap, v1, .int .i64 T, .int .i64 M] w fun e w' => e = .returned (.slice (some ⟨w.heap.size, 0, none⟩) 256 256) ∧ w'.rowIs w.heap.size 3 256 (fun j => .int .i64 (0)) ∧ Below w.heap.size w w' := by
  obtain ⟨i0, hi, hz0, hz1, hz2⟩ := info_parts info3
  have hrow : (w.alloc (.cells (madeCells #[.int .i64 0] 256) 3)).rowIs w.heap.size 3 256 (fillF (fun j => 0) 0) := (World.rowIs_made w (.int .i64 0) 256 3).congr fun i _ => by unfold fillF; simp
  have hbm : Below w.heap.size w (w.alloc (.cells (madeCells #[.int .i64 0] 256) 3)) := (Below.refl _ _).alloc (Nat.le_refl _) _
  have Hrow := Lib.hid hrow
  clear hrow
  have HB := Lib.hid hb
  have kb := hb.lt
  clear hb
  go_enter Try.func51, Try.ntmps51
  go_wp2_with ((refine wpList_make_row _ rfl _ _ 22 rfl 3 i0 (.int .i64 0) Try.underlying22 hi hz0 hz1 rfl .i64 .i64 256 rfl rfl (by rw [hz2]; omega) (by omega) ?_))
  go_loopw [10] (fun i wr => ∃ k : Nat, k ≤ 256 ∧ i = .int .i64 k ∧ Hid (wr.rowIs w.heap.size 3 256 (fillF (fun j => 0) k)) ∧ Below w.heap.size w wr) (fun i _ => 256 - (intOf i).toNat)
  case atStart => exact ⟨0, by omega, rfl, Hrow, hbm⟩
  case round =>
    obtain ⟨k, hk, rfl, hR, hbel⟩ := hrel
    by_cases hlt : k < 256
    · have hg := hR.out.lt
      have hst : Hid (wr.rowIs w.heap.size 3 256 (fillF (fun _ => 0) (k + 1))) := Lib.hid (hR.out.congr fun i _ => by unfold fillF; by_cases h1 : i < k <;> by_cases h2 : i < k + 1 <;> simp [h1, h2])
      go_wp2
      go_roundw
      case rel => exact ⟨k + 1, by omega, by go_num, hst, hbel⟩
      case measure => simp [intOf]; omega
    · have hend : k = 256 := by omega
      subst hend
      have hF := fill_end hR.out
      clear hR
      go_wp2
      go_ret
      exact ⟨rfl, hF, hbel⟩

set_option maxRecDepth 100000 in
set_option maxHeartbeats 2000000 in
theorem rf_btw (b off cap : Nat) (b1 o1 c1 : Nat) (zb za : List Int) (T M : Int) (w : World) (t0 : 1 ≤ T) (t1 : T ≤ M) (t2 : M ≤ 65536) (hb : Ln w b off cap zb) (ha : Ln w b1 o1 c1 za) (hM : M ≤ 2) :
    Calls Try.prog 51 #[.slice (some ⟨b, off, none⟩) 256 cap, .slice (some ⟨b1, o1, none⟩) 256 c1, .int .i64 T, .int .i64 M] w fun e w' => e = .returned (.slice (some ⟨w.heap.size, 0, none⟩) 256 256) ∧ w'.rowIs w.heap.size 3 256 (fun j => .int .i64 (btw (zb.getD j 0) (za.getD j 0) (M + 1) T)) ∧ Below w.heap.size w w' := by
  obtain ⟨i0, hi, hz0, hz1, hz2⟩ := info_parts info3
  have hrow : (w.alloc (.cells (madeCells #[.int .i64 0] 256) 3)).rowIs w.heap.size 3 256 (fillF (fun j => btw (zb.getD j 0) (za.getD j 0) (M + 1) T) 0) := (World.rowIs_made w (.int .i64 0) 256 3).congr fun i _ => by unfold fillF; simp
  have hbm : Below w.heap.size w (w.alloc (.cells (madeCells #[.int .i64 0] 256) 3)) := (Below.refl _ _).alloc (Nat.le_refl _) _
  have Hrow := Lib.hid hrow
  clear hrow
  have HB := Lib.hid hb
  have kb := hb.lt
  clear hb
  have HA := Lib.hid ha
  have ka := ha.lt
  clear ha
  have hWT : (M = 1 ∧ T = 1) ∨ (M = 2 ∧ T = 1) ∨ (M = 2 ∧ T = 2) := by omega
  have HWT := Lib.hid hWT
  clear hWT
  go_enter Try.func51, Try.ntmps51
  go_wp2_with ((refine wpList_make_row _ rfl _ _ 22 rfl 3 i0 (.int .i64 0) Try.underlying22 hi hz0 hz1 rfl .i64 .i64 256 rfl rfl (by rw [hz2]; omega) (by omega) ?_))
  go_loopw [10] (fun i wr => ∃ k : Nat, k ≤ 256 ∧ i = .int .i64 k ∧ Hid (wr.rowIs w.heap.size 3 256 (fillF (fun j => btw (zb.getD j 0) (za.getD j 0) (M + 1) T) k)) ∧ Below w.heap.size w wr) (fun i _ => 256 - (intOf i).toNat)
  case atStart => exact ⟨0, by omega, rfl, Hrow, hbm⟩
  case round =>
    obtain ⟨k, hk, rfl, hR, hbel⟩ := hrel
    by_cases hlt : k < 256
    · have hg := hR.out.lt
      have xb := HB.out.bd hlt
      have yb := HA.out.bd hlt
      have q1 := (HB.out.below hbel).cells k hlt
      have q2 := (HA.out.below hbel).cells k hlt
      have hd : Below wr.heap.size wr wr.drew := (Below.refl _ _).drew
      have hR2 := Lib.hid (hR.out.of_block (hd.block _ hg))
      have hbel2 := hbel.trans (hd.mono hbel.size)
      have HS := Lib.hid (fill_step (v := btw (zb.getD k 0) (za.getD k 0) (M + 1) T) hR2.out rfl)
      obtain ⟨S, hS⟩ : ∃ S, btw (zb.getD k 0) (za.getD k 0) (M + 1) T = S := ⟨_, rfl⟩
      have hSd : (zb.getD k 0 * (M + 1 - T) + za.getD k 0 * T) / (M + 1) = S := hS
      rw [hS] at HS
      have qo : wr.drew.cell? ⟨w.heap.size, k, none⟩ = some (.int .i64 0) := by have h := hR2.out.cell hlt; rw [fillF, if_neg (Nat.lt_irrefl k)] at h; exact h
      have qf := hR2.out.frozen k
      have Qo := Lib.hid qo
      have Qf := Lib.hid qf
      clear qo qf
      generalize zb.getD k 0 = x at *
      generalize za.getD k 0 = y at *
      have bds : -1073741824 ≤ x * (M + 1 - T) + y * T ∧ x * (M + 1 - T) + y * T ≤ 1073741824 ∧ -1073741824 ≤ x * (M + 1 - T) ∧ x * (M + 1 - T) ≤ 1073741824 ∧ -1073741824 ≤ y * T ∧ y * T ≤ 1073741824 := by
        rcases HWT.out with ⟨rfl, rfl⟩ | ⟨rfl, rfl⟩ | ⟨rfl, rfl⟩ <;> omega
      have HSd := Lib.hid hSd
      clear hSd hS xb yb
      obtain ⟨s0, s1, s2, s3, s4, s5⟩ := bds
      go_wp2
      go_still_tail 22, (by kernel_rfl)
      rw [wrap_in (n := M + 1) (by omega) (by omega), wrap_in (n := M + 1 - T) (by omega) (by omega), wrap_in (n := x * (M + 1 - T)) (by omega) (by omega), wrap_in (n := y * T) (by omega) (by omega), wrap_in (n := x * (M + 1 - T) + y * T) (by omega) (by omega)]
      still_call (down_still (x * (M + 1 - T) + y * T) (M + 1) _ s0 s1 (by omega) (by omega))
      repeat still_step
      refine wpStill_nil ?_
      change wpList _ _ _ _ _ wr.drew
      generalize wr.drew = w2 at *
      have qo := Qo.out
      have qf := Qf.out
      rw [HSd.out]
      go_wp2
      go_roundw
      case rel => exact ⟨k + 1, by omega, by go_num, HS, hbel2.setCell (p := ⟨w.heap.size, k, none⟩) (Nat.le_refl _) _⟩
      case measure => simp [intOf]; omega
    · have hend : k = 256 := by omega
      subst hend
      have hF := fill_end hR.out
      clear hR
      go_wp2
      go_ret
      exact ⟨rfl, hF, hbel⟩

set_option maxRecDepth 100000 in
set_option maxHeartbeats 2000000 in
theorem rf_fade (b off cap : Nat) (v1 : Value) (zb : List Int) (T M : Int) (w : World) (t0 : 1 ≤ T) (t1 : T ≤ M) (t2 : M ≤ 65536) (hb : Ln w b off cap zb) (hM : 2 < M) (hT : T ≤ 8) :
    Calls Try.prog 51 #[.slice (some ⟨b, off, none⟩) 256 cap, v1, .int .i64 T, .int .i64 M] w fun e w' => e = .returned (.slice (some ⟨w.heap.size, 0, none⟩) 256 256) ∧ w'.rowIs w.heap.size 3 256 (fun j => .int .i64 (zb.getD j 0 / 2 ^ T.toNat)) ∧ Below w.heap.size w w' := by
  obtain ⟨i0, hi, hz0, hz1, hz2⟩ := info_parts info3
  have hrow : (w.alloc (.cells (madeCells #[.int .i64 0] 256) 3)).rowIs w.heap.size 3 256 (fillF (fun j => zb.getD j 0 / 2 ^ T.toNat) 0) := (World.rowIs_made w (.int .i64 0) 256 3).congr fun i _ => by unfold fillF; simp
  have hbm : Below w.heap.size w (w.alloc (.cells (madeCells #[.int .i64 0] 256) 3)) := (Below.refl _ _).alloc (Nat.le_refl _) _
  have Hrow := Lib.hid hrow
  clear hrow
  have HB := Lib.hid hb
  have kb := hb.lt
  clear hb
  go_enter Try.func51, Try.ntmps51
  go_wp2_with ((refine wpList_make_row _ rfl _ _ 22 rfl 3 i0 (.int .i64 0) Try.underlying22 hi hz0 hz1 rfl .i64 .i64 256 rfl rfl (by rw [hz2]; omega) (by omega) ?_))
  go_loopw [10] (fun i wr => ∃ k : Nat, k ≤ 256 ∧ i = .int .i64 k ∧ Hid (wr.rowIs w.heap.size 3 256 (fillF (fun j => zb.getD j 0 / 2 ^ T.toNat) k)) ∧ Below w.heap.size w wr) (fun i _ => 256 - (intOf i).toNat)
  case atStart => exact ⟨0, by omega, rfl, Hrow, hbm⟩
  case round =>
    obtain ⟨k, hk, rfl, hR, hbel⟩ := hrel
    by_cases hlt : k < 256
    · have hg := hR.out.lt
      have xb := HB.out.bd hlt
      have q1 := (HB.out.below hbel).cells k hlt
      have hp := pow_bd T.toNat (show T.toNat ≤ 8 by omega)
      obtain ⟨x, hx⟩ : ∃ x, zb.getD k 0 = x := ⟨_, rfl⟩
      have Hx := Lib.hid hx
      rw [hx] at xb q1
      clear hx
      go_wp2
      go_loopw [11, 12] (fun p i wi => ∃ m : Nat, m ≤ T.toNat ∧ p = .int .i64 (2 ^ m) ∧ i = .int .i64 m ∧ wi = wr) (fun _ i _ => T.toNat - (intOf i).toNat)
      case atStart => exact ⟨0, by omega, rfl, rfl, rfl⟩
      case round =>
        obtain ⟨m, hm, rfl, rfl, rfl⟩ := hrel
        by_cases hmt : (m : Int) < T
        · have hp3 : (2 : Int) * 2 ^ m = 2 ^ (m + 1) := by rw [Int.pow_succ]; omega
          have hp4 := pow_bd m (by omega)
          have HP := Lib.hid hp3
          clear hp3
          generalize (2 : Int) ^ m = P at *
          go_wp2
          go_roundw
          case rel => exact ⟨m + 1, by omega, by rw [HP.out], by go_num, by trivial⟩
          case measure => simp [intOf]; omega
        · obtain rfl : m = T.toNat := by omega
          have qo2 : wr.cell? ⟨w.heap.size, k, none⟩ = some (.int .i64 0) := by have h := hR.out.cell hlt; rw [fillF, if_neg (Nat.lt_irrefl k)] at h; exact h
          have qf2 := hR.out.frozen k
          have HS3 := Lib.hid (fill_step (v := zb.getD k 0 / 2 ^ T.toNat) hR.out rfl)
          rw [Hx.out] at HS3
          go_wp2_with (go_at_call 61; ((with_reducible refine (down_ok x (2 ^ T.toNat) _ (by omega) (by omega) hp.1 hp.2).mono ?_); rintro e w5 ⟨rfl, rfl⟩))
          go_roundw
          case rel => exact ⟨k + 1, by omega, by go_num, HS3, hbel.setCell (p := ⟨w.heap.size, k, none⟩) (Nat.le_refl _) _⟩
          case measure => simp [intOf]; omega
    · have hend : k = 256 := by omega
      subst hend
      have hF := fill_end hR.out
      clear hR
      go_wp2
      go_ret
      exact ⟨rfl, hF, hbel⟩

set_option maxRecDepth 100000 in
set_option maxHeartbeats 2000000 in
theorem rf_fade1 (b off cap : Nat) (a1 : Option Addr) (c1 : Nat) (zb : List Int) (T M : Int) (w : World) (t0 : 1 ≤ T) (t1 : T ≤ M) (t2 : M ≤ 65536) (hb : Ln w b off cap zb) (hM : M ≤ 2) (hT : T ≤ 8) :
    Calls Try.prog 51 #[.slice (some ⟨b, off, none⟩) 256 cap, .slice a1 0 c1, .int .i64 T, .int .i64 M] w fun e w' => e = .returned (.slice (some ⟨w.heap.size, 0, none⟩) 256 256) ∧ w'.rowIs w.heap.size 3 256 (fun j => .int .i64 (zb.getD j 0 / 2 ^ T.toNat)) ∧ Below w.heap.size w w' := by
  obtain ⟨i0, hi, hz0, hz1, hz2⟩ := info_parts info3
  have hrow : (w.alloc (.cells (madeCells #[.int .i64 0] 256) 3)).rowIs w.heap.size 3 256 (fillF (fun j => zb.getD j 0 / 2 ^ T.toNat) 0) := (World.rowIs_made w (.int .i64 0) 256 3).congr fun i _ => by unfold fillF; simp
  have hbm : Below w.heap.size w (w.alloc (.cells (madeCells #[.int .i64 0] 256) 3)) := (Below.refl _ _).alloc (Nat.le_refl _) _
  have Hrow := Lib.hid hrow
  clear hrow
  have HB := Lib.hid hb
  have kb := hb.lt
  clear hb
  go_enter Try.func51, Try.ntmps51
  go_wp2_with ((refine wpList_make_row _ rfl _ _ 22 rfl 3 i0 (.int .i64 0) Try.underlying22 hi hz0 hz1 rfl .i64 .i64 256 rfl rfl (by rw [hz2]; omega) (by omega) ?_))
  go_loopw [10] (fun i wr => ∃ k : Nat, k ≤ 256 ∧ i = .int .i64 k ∧ Hid (wr.rowIs w.heap.size 3 256 (fillF (fun j => zb.getD j 0 / 2 ^ T.toNat) k)) ∧ Below w.heap.size w wr) (fun i _ => 256 - (intOf i).toNat)
  case atStart => exact ⟨0, by omega, rfl, Hrow, hbm⟩
  case round =>
    obtain ⟨k, hk, rfl, hR, hbel⟩ := hrel
    by_cases hlt : k < 256
    · have hg := hR.out.lt
      have xb := HB.out.bd hlt
      have q1 := (HB.out.below hbel).cells k hlt
      have hp := pow_bd T.toNat (show T.toNat ≤ 8 by omega)
      obtain ⟨x, hx⟩ : ∃ x, zb.getD k 0 = x := ⟨_, rfl⟩
      have Hx := Lib.hid hx
      rw [hx] at xb q1
      clear hx
      go_wp2
      go_loopw [11, 12] (fun p i wi => ∃ m : Nat, m ≤ T.toNat ∧ p = .int .i64 (2 ^ m) ∧ i = .int .i64 m ∧ wi = wr) (fun _ i _ => T.toNat - (intOf i).toNat)
      case atStart => exact ⟨0, by omega, rfl, rfl, rfl⟩
      case round =>
        obtain ⟨m, hm, rfl, rfl, rfl⟩ := hrel
        by_cases hmt : (m : Int) < T
        · have hp3 : (2 : Int) * 2 ^ m = 2 ^ (m + 1) := by rw [Int.pow_succ]; omega
          have hp4 := pow_bd m (by omega)
          have HP := Lib.hid hp3
          clear hp3
          generalize (2 : Int) ^ m = P at *
          go_wp2
          go_roundw
          case rel => exact ⟨m + 1, by omega, by rw [HP.out], by go_num, by trivial⟩
          case measure => simp [intOf]; omega
        · obtain rfl : m = T.toNat := by omega
          have qo2 : wr.cell? ⟨w.heap.size, k, none⟩ = some (.int .i64 0) := by have h := hR.out.cell hlt; rw [fillF, if_neg (Nat.lt_irrefl k)] at h; exact h
          have qf2 := hR.out.frozen k
          have HS3 := Lib.hid (fill_step (v := zb.getD k 0 / 2 ^ T.toNat) hR.out rfl)
          rw [Hx.out] at HS3
          go_wp2_with (go_at_call 61; ((with_reducible refine (down_ok x (2 ^ T.toNat) _ (by omega) (by omega) hp.1 hp.2).mono ?_); rintro e w5 ⟨rfl, rfl⟩))
          go_roundw
          case rel => exact ⟨k + 1, by omega, by go_num, HS3, hbel.setCell (p := ⟨w.heap.size, k, none⟩) (Nat.le_refl _) _⟩
          case measure => simp [intOf]; omega
    · have hend : k = 256 := by omega
      subst hend
      have hF := fill_end hR.out
      clear hR
      go_wp2
      go_ret
      exact ⟨rfl, hF, hbel⟩


theorem fill_any (v0 v1 : Value) (zb za : List Int) (T M : Int) (w : World) (rb : Rd w v0 zb) (ra : Rd w v1 za) (hG : Good zb za T M) :
    Calls Try.prog 51 #[v0, v1, .int .i64 T, .int .i64 M] w fun e w' => e = .returned (.slice (some ⟨w.heap.size, 0, none⟩) 256 256) ∧ w'.rowIs w.heap.size 3 256 (fun j => .int .i64 (lineF zb za za.length T M j)) ∧ Below w.heap.size w w' := by
  obtain ⟨t0, t1, t2, lb, la, hb, ha⟩ := hG
  obtain ⟨a0, c0, rfl⟩ := rb.shape
  obtain ⟨a1, c1, rfl⟩ := ra.shape
  rw [lb] at rb ⊢
  obtain ⟨b, off, rfl, hL⟩ := rb.ln lb hb
  by_cases hM : M ≤ 2
  · rcases la with la | la
    · rw [la] at ra ⊢
      refine (rf_fade1 b off c0 a1 c1 zb T M w t0 t1 t2 hL hM (by omega)).mono ?_
      rintro e w' ⟨rfl, hr, hw⟩
      exact ⟨rfl, hr.congr fun i _ => by unfold lineF; simp [show ¬ 8 < T by omega], hw⟩
    · rw [la] at ra ⊢
      obtain ⟨b1, o1, rfl, hL1⟩ := ra.ln la ha
      refine (rf_btw b off c0 b1 o1 c1 zb za T M w t0 t1 t2 hL hL1 hM).mono ?_
      rintro e w' ⟨rfl, hr, hw⟩
      exact ⟨rfl, hr.congr fun i _ => by unfold lineF; simp [hM], hw⟩
  by_cases hT : 8 < T
  · refine (rf_zero b off c0 _ zb T M w t0 t1 t2 hL (by omega) hT).mono ?_
    rintro e w' ⟨rfl, hr, hw⟩
    exact ⟨rfl, hr.congr fun i _ => by unfold lineF; simp [hT, hM], hw⟩
  · refine (rf_fade b off c0 _ zb T M w t0 t1 t2 hL (by omega) (by omega)).mono ?_
    rintro e w' ⟨rfl, hr, hw⟩
    exact ⟨rfl, hr.congr fun i _ => by unfold lineF; simp [hT, hM], hw⟩

theorem rerr1 (v0 v1 : Value) (T M : Int) (w : World) (h : T < 1 ∨ M < T ∨ 65536 < M) :
    Calls Try.prog 34 #[v0, v1, .int .i64 T, .int .i64 M] w fun e w' => e = .returned (.tuple #[.slice none 0 0, .int .i64 2]) ∧ w = w' := by
  by_cases h1 : T < 1
  · go_enter Try.func34, Try.ntmps34
    go_wp2
    go_ret2
    exact ⟨rfl, rfl⟩
  by_cases h2 : M < T
  · go_enter Try.func34, Try.ntmps34
    go_wp2
    go_ret2
    exact ⟨rfl, rfl⟩
  have h3 : 65536 < M := by omega
  go_enter Try.func34, Try.ntmps34
  go_wp2
  go_ret2
  exact ⟨rfl, rfl⟩

theorem rerr2 (a0 a1 : Option Addr) (l0 l1 c0 c1 : Nat) (T M : Int) (w : World) (t0 : 1 ≤ T) (t1 : T ≤ M) (t2 : M ≤ 65536) (m0 : l0 ≤ 1000) (_ : l1 ≤ 1000) (h : l0 ≠ 256 ∨ (l1 ≠ 256 ∧ l1 ≠ 0)) :
    Calls Try.prog 34 #[.slice a0 l0 c0, .slice a1 l1 c1, .int .i64 T, .int .i64 M] w fun e w' => e = .returned (.tuple #[.slice none 0 0, .int .i64 4]) ∧ w = w' := by
  by_cases h1 : l0 = 256
  · subst h1
    have e1 : ((l1 : Int) != 256) = true := by simp; omega
    have e2 : ((l1 : Int) != 0) = true := by simp; omega
    clear h
    go_enter Try.func34, Try.ntmps34
    go_wp2
    go_ret2
    exact ⟨rfl, rfl⟩
  · have e1 : ((l0 : Int) != 256) = true := by simp; omega
    clear h h1
    go_enter Try.func34, Try.ntmps34
    go_wp2
    go_ret2
    exact ⟨rfl, rfl⟩

theorem rerr3 (a0 a1 : Option Addr) (l1 c0 c1 : Nat) (zb za : List Int) (T M : Int) (w : World) (t0 : 1 ≤ T) (t1 : T ≤ M) (t2 : M ≤ 65536) (hl : l1 = 0 ∨ l1 = 256)
    (hrb : Rd w (.slice a0 256 c0) zb) (hra : Rd w (.slice a1 l1 c1) za) (h : Bad zb 0 ∨ (InLine zb ∧ Bad za 0)) :
    Calls Try.prog 34 #[.slice a0 256 c0, .slice a1 l1 c1, .int .i64 T, .int .i64 M] w fun e w' => e = .returned (.tuple #[.slice none 0 0, .int .i64 2]) ∧ w = w' := by
  have RB := Lib.hid hrb
  have RA := Lib.hid hra
  clear hrb hra
  rcases hl with rfl | rfl
  all_goals
    rcases h with h | ⟨h, h'⟩
    · have HB := Lib.hid h
      clear h
      go_enter Try.func34, Try.ntmps34
      go_wp2_with (go_at_call 50; ((with_reducible refine (in_no _ zb _ HB.out RB.out).mono ?_); rintro e w1 ⟨rfl, rfl⟩))
      go_ret2
      exact ⟨rfl, rfl⟩
    · have HB := Lib.hid h
      have HA := Lib.hid h'
      clear h h'
      go_enter Try.func34, Try.ntmps34
      go_wp2_with (first
        | (go_at_call 50; ((with_reducible refine (in_yes _ zb _ HB.out RB.out).mono ?_); rintro e w1 ⟨rfl, rfl⟩))
        | (go_at_call 50; ((with_reducible refine (in_no _ za _ HA.out RA.out).mono ?_); rintro e w1 ⟨rfl, rfl⟩)))
      go_ret2
      exact ⟨rfl, rfl⟩

theorem rlines_bad (v0 v1 : Value) (zb za : List Int) (T M : Int) (w : World) (m0 : zb.length ≤ 1000) (m1 : za.length ≤ 1000) (rb : Rd w v0 zb) (ra : Rd w v1 za) (hG : ¬ Good zb za T M) :
    Calls Try.prog 34 #[v0, v1, .int .i64 T, .int .i64 M] w fun e w' => e = .returned (.tuple #[.slice none 0 0, .int .i64 (errF zb za T M)]) ∧ w = w' := by
  obtain ⟨a0, c0, rfl⟩ := rb.shape
  obtain ⟨a1, c1, rfl⟩ := ra.shape
  by_cases h1 : T < 1 ∨ M < T ∨ 65536 < M
  · rw [show errF zb za T M = 2 by unfold errF; rw [if_pos h1]]
    exact rerr1 _ _ T M w h1
  by_cases h2 : zb.length ≠ 256 ∨ (za.length ≠ 256 ∧ za.length ≠ 0)
  · rw [show errF zb za T M = 4 by unfold errF; rw [if_neg h1, if_pos h2]]
    exact rerr2 a0 a1 _ _ c0 c1 T M w (by omega) (by omega) (by omega) m0 m1 h2
  rw [show errF zb za T M = 2 by unfold errF; rw [if_neg h1, if_neg h2]]
  have e0 : zb.length = 256 := by omega
  rw [e0] at rb
  rw [e0]
  refine rerr3 a0 a1 _ c0 c1 zb za T M w (by omega) (by omega) (by omega) (by omega) rb ra ?_
  by_cases hb : InLine zb
  · by_cases ha : InLine za
    · exact absurd ⟨by omega, by omega, by omega, e0, by omega, hb, ha⟩ hG
    · exact .inr ⟨hb, bad_of ha⟩
  · exact .inl (bad_of hb)

theorem rlines_good (v0 v1 : Value) (zb za : List Int) (T M : Int) (w : World) (rb : Rd w v0 zb) (ra : Rd w v1 za) (hG : Good zb za T M) :
    Calls Try.prog 34 #[v0, v1, .int .i64 T, .int .i64 M] w fun e w' => ∃ g, w.heap.size ≤ g ∧ e = .returned (.tuple #[.slice (some ⟨g, 0, none⟩) 256 256, .int .i64 0]) ∧ w'.rowIs g 3 256 (fun j => .int .i64 (lineF zb za za.length T M j)) ∧ Below w.heap.size w w' := by
  have hG' := hG
  obtain ⟨t0, t1, t2, lb, la, hb, ha⟩ := hG
  obtain ⟨a0, c0, rfl⟩ := rb.shape
  obtain ⟨a1, c1, rfl⟩ := ra.shape
  have HB := Lib.hid hb
  have HA := Lib.hid ha
  have RB := Lib.hid rb
  have RA := Lib.hid ra
  have HG := Lib.hid hG'
  clear hb ha rb ra hG'
  rcases la with la | la
  all_goals
    have LB := Lib.hid lb
    have LA := Lib.hid la
    have RB' := RB.out
    have RA' := RA.out
    rw [lb] at RB' ⊢
    rw [la] at RA' ⊢
    have RB2 := Lib.hid RB'
    have RA2 := Lib.hid RA'
    clear RB' RA' lb la
    go_enter Try.func34, Try.ntmps34
    go_wp2_with (first
      | (go_at_call 50; ((with_reducible refine (in_yes _ zb _ HB.out RB2.out).mono ?_); rintro e w1 ⟨rfl, rfl⟩))
      | (go_at_call 50; ((with_reducible refine (in_yes _ za _ HA.out RA2.out).mono ?_); rintro e w1 ⟨rfl, rfl⟩))
      | (go_at_call 51; ((with_reducible refine (fill_any _ _ zb za T M _ RB2.out RA2.out HG.out).mono ?_); rintro e w1 ⟨rfl, hr, hw⟩)))
    go_ret2
    rw [LA.out] at hr
    exact ⟨_, Nat.le_refl _, rfl, hr, hw⟩
end Go.Proofs.Ytnbbjobmaakogaa.Lo

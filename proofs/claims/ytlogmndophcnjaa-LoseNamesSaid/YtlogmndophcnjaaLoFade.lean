/- What lose's Lines does where lines fade. -/
import Derived.Test.YtlogmndophcnjaaLoLines
import Derived.WalkKit
import Derived.RegionTactic
import Derived.ChangeAlike
import Derived.Deep.OwnRows
import Derived.ProofKit
import Derived.OpenShut
import Derived.Lib.Hide
namespace Go.Proofs.Ytlogmndophcnjaa.Lo
open Go Go.ChangeShapes Go.WideShapes Go.ChangeAt Go.RowKit

def Caught2 (w : World) (p1 p2 : Nat) (v : Value) (T : Int) : Prop :=
  w.cell? ⟨p1, 0, none⟩ = some v ∧ w.cell? ⟨p2, 0, none⟩ = some (.int .i64 T) ∧ p1 < w.heap.size ∧ p2 < w.heap.size
theorem Caught2.below {w w' : World} {p1 p2 : Nat} {v : Value} {T : Int} (h : Caught2 w p1 p2 v T) (hb : Below w.heap.size w w') : Caught2 w' p1 p2 v T := by
  obtain ⟨a, b, e, f⟩ := h
  have := hb.size
  exact ⟨(hb.cell (p := ⟨p1, 0, none⟩) e).trans a, (hb.cell (p := ⟨p2, 0, none⟩) f).trans b, by omega, by omega⟩

theorem fading_zero (b off cap : Nat) (t : Int) (w : World) (h : 8 < t) :
    Calls Try.prog 10 #[.slice (some ⟨b, off, none⟩) 256 cap, .int .i64 t] w fun e w' => e = .returned (.func (.func 12) #[] #[]) ∧ Below w.heap.size w w' := by
  have hb : Below w.heap.size w (((w.alloc (.cells #[.slice (some ⟨b, off, none⟩) 256 cap] 22)).alloc (.cells #[.int .i64 t] 3))) := ((Below.refl _ _).alloc (Nat.le_refl _) _).alloc (by simp) _
  go_enter Try.func10, Try.ntmps10
  go_wp2
  go_ret
  exact ⟨rfl, hb⟩
theorem fading_fade (b off cap : Nat) (t : Int) (w : World) (h : t ≤ 8) :
    Calls Try.prog 10 #[.slice (some ⟨b, off, none⟩) 256 cap, .int .i64 t] w fun e w' => ∃ p1 p2, e = .returned (.func (.func 13) #[] #[.pointer (some ⟨p1, 0, none⟩), .pointer (some ⟨p2, 0, none⟩)]) ∧ Caught2 w' p1 p2 (.slice (some ⟨b, off, none⟩) 256 cap) t ∧ Below w.heap.size w w' := by
  have hb : Below w.heap.size w (((w.alloc (.cells #[.slice (some ⟨b, off, none⟩) 256 cap] 22)).alloc (.cells #[.int .i64 t] 3))) := ((Below.refl _ _).alloc (Nat.le_refl _) _).alloc (by simp) _
  have h' : ¬ 8 < t := by omega
  go_enter Try.func10, Try.ntmps10
  go_wp2
  go_ret
  refine ⟨_, _, rfl, ⟨?_, ?_, ?_, ?_⟩, hb⟩
  · simp [go_sem]
  · simp [go_sem]
  · first | (simp; done) | (simp; omega)
  · first | (simp; done) | (simp; omega)

set_option maxRecDepth 100000 in
set_option maxHeartbeats 2000000 in
theorem zero_e (b off cap : Nat) (a1 : Option Addr) (c1 : Nat) (zb za : List Int) (T M : Int) (w : World) (t0 : 1 ≤ T) (t1 : T ≤ M) (t2 : M ≤ 65536) (hT : 8 < T) (hb : InLine zb) (ha : InLine za)
    (hrb : Rd w (.slice (some ⟨b, off, none⟩) 256 cap) zb) (hra : Rd w (.slice a1 0 c1) za) (kb : b < w.heap.size)
    (cb : ∀ i, i < 256 → w.cell? ⟨b, off + i, none⟩ = some (.int .i64 (zb.getD i 0))) :
    Calls Try.prog 4 #[.slice (some ⟨b, off, none⟩) 256 cap, .slice a1 0 c1, .int .i64 T, .int .i64 M] w fun e w' => ∃ g, e = .returned (.tuple #[.slice (some ⟨g, 0, none⟩) 256 256, .int .i64 0]) ∧ w'.rowIs g 3 256 (fun j => .int .i64 ((fun _ => 0) j)) ∧ Below w.heap.size w w' := by
  obtain ⟨i0, hi, hz0, hz1, hz2⟩ := info_parts info3
  have HB := Lib.hid hb
  have HA := Lib.hid ha
  have RB := Lib.hid hrb
  have RA := Lib.hid hra
  have CB := Lib.hid cb
  clear hb ha hrb hra cb
  go_enter Try.func4, Try.ntmps4
  go_wp2_with (first
    | (go_at_call 9; ((with_reducible refine (lines_yes _ zb _ HB.out RB.out).mono ?_); rintro e w1 ⟨rfl, rfl⟩))
    | (go_at_call 9; ((with_reducible refine (lines_yes _ za _ HA.out RA.out).mono ?_); rintro e w1 ⟨rfl, rfl⟩))
    | (go_at_call 10; ((with_reducible refine (fading_zero b off cap T _ hT).mono ?_); rintro e w2 ⟨rfl, hb1⟩))
    | (refine wpList_make_row _ rfl _ _ 22 rfl 3 i0 (.int .i64 0) Try.underlying22 hi hz0 hz1 rfl .i64 .i64 256 rfl rfl (by rw [hz2]; omega) (by omega) ?_))
  have hbm : Below w2.heap.size w2 (w2.alloc (.cells (madeCells #[.int .i64 0] 256) 3)) := (Below.refl _ _).alloc (Nat.le_refl _) _
  have hrow : (w2.alloc (.cells (madeCells #[.int .i64 0] 256) 3)).rowIs w2.heap.size 3 256 (fillF (fun _ => 0) 0) := (World.rowIs_made w2 (.int .i64 0) 256 3).congr fun i _ => by unfold fillF; simp
  have Hrow := Lib.hid hrow
  have kb2 : b < w2.heap.size := Nat.lt_of_lt_of_le kb hb1.size
  clear hrow
  go_loopw [63] (fun i wr => ∃ k : Nat, k ≤ 256 ∧ i = .int .i64 k ∧ Hid (wr.rowIs w2.heap.size 3 256 (fillF (fun _ => 0) k)) ∧ Below w2.heap.size w2 wr) (fun i _ => 256 - (intOf i).toNat)
  case atStart => exact ⟨0, by omega, rfl, Hrow, hbm⟩
  case round =>
    obtain ⟨k, hk, rfl, hR, hbel⟩ := hrel
    by_cases hlt : k < 256
    · have hg := hR.out.lt
      go_wp2_with (go_at_call 12; refine (zero_line k _).mono ?_; rintro e w5 ⟨rfl, hb5⟩; have hR5 := Lib.hid (hR.out.of_block (hb5.block _ hg)); have qo := hR5.out.cell hlt; rw [fillF, if_neg (Nat.lt_irrefl k)] at qo; have qf := hR5.out.frozen k; have hst := Lib.hid (fill_step hR5.out rfl))
      go_roundw
      case rel => exact ⟨k + 1, by omega, by go_num, hst, (belowT hbel hb5).setCell (p := ⟨w2.heap.size, k, none⟩) (Nat.le_refl _) _⟩
      case measure => simp [intOf]; omega
    · have hend : k = 256 := by omega
      subst hend
      have hF := fill_end hR.out
      have hfin := belowT hb1 hbel
      clear hR
      go_wp2
      go_ret2
      exact ⟨_, rfl, hF, hfin⟩

set_option maxRecDepth 100000 in
set_option maxHeartbeats 2000000 in
theorem zero_f (b off cap : Nat) (a1 : Option Addr) (c1 : Nat) (zb za : List Int) (T M : Int) (w : World) (t0 : 1 ≤ T) (t1 : T ≤ M) (t2 : M ≤ 65536) (hT : 8 < T) (hM : 2 < M) (hb : InLine zb) (ha : InLine za)
    (hrb : Rd w (.slice (some ⟨b, off, none⟩) 256 cap) zb) (hra : Rd w (.slice a1 256 c1) za) (kb : b < w.heap.size)
    (cb : ∀ i, i < 256 → w.cell? ⟨b, off + i, none⟩ = some (.int .i64 (zb.getD i 0))) :
    Calls Try.prog 4 #[.slice (some ⟨b, off, none⟩) 256 cap, .slice a1 256 c1, .int .i64 T, .int .i64 M] w fun e w' => ∃ g, e = .returned (.tuple #[.slice (some ⟨g, 0, none⟩) 256 256, .int .i64 0]) ∧ w'.rowIs g 3 256 (fun j => .int .i64 ((fun _ => 0) j)) ∧ Below w.heap.size w w' := by
  obtain ⟨i0, hi, hz0, hz1, hz2⟩ := info_parts info3
  have HB := Lib.hid hb
  have HA := Lib.hid ha
  have RB := Lib.hid hrb
  have RA := Lib.hid hra
  have CB := Lib.hid cb
  clear hb ha hrb hra cb
  go_enter Try.func4, Try.ntmps4
  go_wp2_with (first
    | (go_at_call 9; ((with_reducible refine (lines_yes _ zb _ HB.out RB.out).mono ?_); rintro e w1 ⟨rfl, rfl⟩))
    | (go_at_call 9; ((with_reducible refine (lines_yes _ za _ HA.out RA.out).mono ?_); rintro e w1 ⟨rfl, rfl⟩))
    | (go_at_call 10; ((with_reducible refine (fading_zero b off cap T _ hT).mono ?_); rintro e w2 ⟨rfl, hb1⟩))
    | (refine wpList_make_row _ rfl _ _ 22 rfl 3 i0 (.int .i64 0) Try.underlying22 hi hz0 hz1 rfl .i64 .i64 256 rfl rfl (by rw [hz2]; omega) (by omega) ?_))
  have hbm : Below w2.heap.size w2 (w2.alloc (.cells (madeCells #[.int .i64 0] 256) 3)) := (Below.refl _ _).alloc (Nat.le_refl _) _
  have hrow : (w2.alloc (.cells (madeCells #[.int .i64 0] 256) 3)).rowIs w2.heap.size 3 256 (fillF (fun _ => 0) 0) := (World.rowIs_made w2 (.int .i64 0) 256 3).congr fun i _ => by unfold fillF; simp
  have Hrow := Lib.hid hrow
  have kb2 : b < w2.heap.size := Nat.lt_of_lt_of_le kb hb1.size
  clear hrow
  go_loopw [63] (fun i wr => ∃ k : Nat, k ≤ 256 ∧ i = .int .i64 k ∧ Hid (wr.rowIs w2.heap.size 3 256 (fillF (fun _ => 0) k)) ∧ Below w2.heap.size w2 wr) (fun i _ => 256 - (intOf i).toNat)
  case atStart => exact ⟨0, by omega, rfl, Hrow, hbm⟩
  case round =>
    obtain ⟨k, hk, rfl, hR, hbel⟩ := hrel
    by_cases hlt : k < 256
    · have hg := hR.out.lt
      go_wp2_with (go_at_call 12; refine (zero_line k _).mono ?_; rintro e w5 ⟨rfl, hb5⟩; have hR5 := Lib.hid (hR.out.of_block (hb5.block _ hg)); have qo := hR5.out.cell hlt; rw [fillF, if_neg (Nat.lt_irrefl k)] at qo; have qf := hR5.out.frozen k; have hst := Lib.hid (fill_step hR5.out rfl))
      go_roundw
      case rel => exact ⟨k + 1, by omega, by go_num, hst, (belowT hbel hb5).setCell (p := ⟨w2.heap.size, k, none⟩) (Nat.le_refl _) _⟩
      case measure => simp [intOf]; omega
    · have hend : k = 256 := by omega
      subst hend
      have hF := fill_end hR.out
      have hfin := belowT hb1 hbel
      clear hR
      go_wp2
      go_ret2
      exact ⟨_, rfl, hF, hfin⟩

set_option maxRecDepth 100000 in
set_option maxHeartbeats 2000000 in
theorem fade_e1 (b off cap : Nat) (a1 : Option Addr) (c1 : Nat) (zb za : List Int) (T M : Int) (w : World) (t0 : 1 ≤ T) (t1 : T ≤ M) (_ : M ≤ 65536) (hT : T ≤ 8) (hM : M ≤ 2) (hb : InLine zb) (ha : InLine za)
    (hrb : Rd w (.slice (some ⟨b, off, none⟩) 256 cap) zb) (hra : Rd w (.slice a1 0 c1) za) (kb : b < w.heap.size)
    (cb : ∀ i, i < 256 → w.cell? ⟨b, off + i, none⟩ = some (.int .i64 (zb.getD i 0))) :
    Calls Try.prog 4 #[.slice (some ⟨b, off, none⟩) 256 cap, .slice a1 0 c1, .int .i64 T, .int .i64 M] w fun e w' => ∃ g, e = .returned (.tuple #[.slice (some ⟨g, 0, none⟩) 256 256, .int .i64 0]) ∧ w'.rowIs g 3 256 (fun j => .int .i64 ((fun j => zb.getD j 0 / 2 ^ T.toNat) j)) ∧ Below w.heap.size w w' := by
  obtain ⟨i0, hi, hz0, hz1, hz2⟩ := info_parts info3
  have HB := Lib.hid hb
  have HA := Lib.hid ha
  have RB := Lib.hid hrb
  have RA := Lib.hid hra
  have CB := Lib.hid cb
  clear hb ha hrb hra cb
  go_enter Try.func4, Try.ntmps4
  go_wp2_with (first
    | (go_at_call 9; ((with_reducible refine (lines_yes _ zb _ HB.out RB.out).mono ?_); rintro e w1 ⟨rfl, rfl⟩))
    | (go_at_call 9; ((with_reducible refine (lines_yes _ za _ HA.out RA.out).mono ?_); rintro e w1 ⟨rfl, rfl⟩))
    | (go_at_call 10; ((with_reducible refine (fading_fade b off cap T _ hT).mono ?_); rintro e w2 ⟨p1, p2, rfl, hcau, hb1⟩))
    | (refine wpList_make_row _ rfl _ _ 22 rfl 3 i0 (.int .i64 0) Try.underlying22 hi hz0 hz1 rfl .i64 .i64 256 rfl rfl (by rw [hz2]; omega) (by omega) ?_))
  have hbm : Below w2.heap.size w2 (w2.alloc (.cells (madeCells #[.int .i64 0] 256) 3)) := (Below.refl _ _).alloc (Nat.le_refl _) _
  have hrow : (w2.alloc (.cells (madeCells #[.int .i64 0] 256) 3)).rowIs w2.heap.size 3 256 (fillF (fun j => zb.getD j 0 / 2 ^ T.toNat) 0) := (World.rowIs_made w2 (.int .i64 0) 256 3).congr fun i _ => by unfold fillF; simp
  have Hrow := Lib.hid hrow
  have kb2 : b < w2.heap.size := Nat.lt_of_lt_of_le kb hb1.size
  clear hrow
  have Hcau := Lib.hid hcau
  clear hcau
  go_loopw [63] (fun i wr => ∃ k : Nat, k ≤ 256 ∧ i = .int .i64 k ∧ Hid (wr.rowIs w2.heap.size 3 256 (fillF (fun j => zb.getD j 0 / 2 ^ T.toNat) k)) ∧ Below w2.heap.size w2 wr) (fun i _ => 256 - (intOf i).toNat)
  case atStart => exact ⟨0, by omega, rfl, Hrow, hbm⟩
  case round =>
    obtain ⟨k, hk, rfl, hR, hbel⟩ := hrel
    by_cases hlt : k < 256
    · have hg := hR.out.lt
      have hC := Lib.hid (Hcau.out.below hbel)
      have q1 := Lib.hid ((hbel.cell (p := ⟨b, off + k, none⟩) kb2).trans ((hb1.cell (p := ⟨b, off + k, none⟩) kb).trans (CB.out k hlt)))
      go_wp2_with (go_at_call 13; refine (fade_line k p1 p2 b off cap (zb.getD k 0) T _ hlt t0 (by omega) hC.out.1 hC.out.2.1 q1.out).mono ?_; rintro e w5 ⟨rfl, hb5⟩; have hR5 := Lib.hid (hR.out.of_block (hb5.block _ hg)); have qo := hR5.out.cell hlt; rw [fillF, if_neg (Nat.lt_irrefl k)] at qo; have qf := hR5.out.frozen k; have hst := Lib.hid (fill_step hR5.out rfl))
      go_roundw
      case rel => exact ⟨k + 1, by omega, by go_num, hst, (belowT hbel hb5).setCell (p := ⟨w2.heap.size, k, none⟩) (Nat.le_refl _) _⟩
      case measure => simp [intOf]; omega
    · have hend : k = 256 := by omega
      subst hend
      have hF := fill_end hR.out
      have hfin := belowT hb1 hbel
      clear hR
      go_wp2
      go_ret2
      exact ⟨_, rfl, hF, hfin⟩

set_option maxRecDepth 100000 in
set_option maxHeartbeats 2000000 in
theorem fade_e2 (b off cap : Nat) (a1 : Option Addr) (c1 : Nat) (zb za : List Int) (T M : Int) (w : World) (t0 : 1 ≤ T) (t1 : T ≤ M) (t2 : M ≤ 65536) (hT : T ≤ 8) (hM : 2 < M) (hb : InLine zb) (ha : InLine za)
    (hrb : Rd w (.slice (some ⟨b, off, none⟩) 256 cap) zb) (hra : Rd w (.slice a1 0 c1) za) (kb : b < w.heap.size)
    (cb : ∀ i, i < 256 → w.cell? ⟨b, off + i, none⟩ = some (.int .i64 (zb.getD i 0))) :
    Calls Try.prog 4 #[.slice (some ⟨b, off, none⟩) 256 cap, .slice a1 0 c1, .int .i64 T, .int .i64 M] w fun e w' => ∃ g, e = .returned (.tuple #[.slice (some ⟨g, 0, none⟩) 256 256, .int .i64 0]) ∧ w'.rowIs g 3 256 (fun j => .int .i64 ((fun j => zb.getD j 0 / 2 ^ T.toNat) j)) ∧ Below w.heap.size w w' := by
  obtain ⟨i0, hi, hz0, hz1, hz2⟩ := info_parts info3
  have HB := Lib.hid hb
  have HA := Lib.hid ha
  have RB := Lib.hid hrb
  have RA := Lib.hid hra
  have CB := Lib.hid cb
  clear hb ha hrb hra cb
  go_enter Try.func4, Try.ntmps4
  go_wp2_with (first
    | (go_at_call 9; ((with_reducible refine (lines_yes _ zb _ HB.out RB.out).mono ?_); rintro e w1 ⟨rfl, rfl⟩))
    | (go_at_call 9; ((with_reducible refine (lines_yes _ za _ HA.out RA.out).mono ?_); rintro e w1 ⟨rfl, rfl⟩))
    | (go_at_call 10; ((with_reducible refine (fading_fade b off cap T _ hT).mono ?_); rintro e w2 ⟨p1, p2, rfl, hcau, hb1⟩))
    | (refine wpList_make_row _ rfl _ _ 22 rfl 3 i0 (.int .i64 0) Try.underlying22 hi hz0 hz1 rfl .i64 .i64 256 rfl rfl (by rw [hz2]; omega) (by omega) ?_))
  have hbm : Below w2.heap.size w2 (w2.alloc (.cells (madeCells #[.int .i64 0] 256) 3)) := (Below.refl _ _).alloc (Nat.le_refl _) _
  have hrow : (w2.alloc (.cells (madeCells #[.int .i64 0] 256) 3)).rowIs w2.heap.size 3 256 (fillF (fun j => zb.getD j 0 / 2 ^ T.toNat) 0) := (World.rowIs_made w2 (.int .i64 0) 256 3).congr fun i _ => by unfold fillF; simp
  have Hrow := Lib.hid hrow
  have kb2 : b < w2.heap.size := Nat.lt_of_lt_of_le kb hb1.size
  clear hrow
  have Hcau := Lib.hid hcau
  clear hcau
  go_loopw [63] (fun i wr => ∃ k : Nat, k ≤ 256 ∧ i = .int .i64 k ∧ Hid (wr.rowIs w2.heap.size 3 256 (fillF (fun j => zb.getD j 0 / 2 ^ T.toNat) k)) ∧ Below w2.heap.size w2 wr) (fun i _ => 256 - (intOf i).toNat)
  case atStart => exact ⟨0, by omega, rfl, Hrow, hbm⟩
  case round =>
    obtain ⟨k, hk, rfl, hR, hbel⟩ := hrel
    by_cases hlt : k < 256
    · have hg := hR.out.lt
      have hC := Lib.hid (Hcau.out.below hbel)
      have q1 := Lib.hid ((hbel.cell (p := ⟨b, off + k, none⟩) kb2).trans ((hb1.cell (p := ⟨b, off + k, none⟩) kb).trans (CB.out k hlt)))
      go_wp2_with (go_at_call 13; refine (fade_line k p1 p2 b off cap (zb.getD k 0) T _ hlt t0 (by omega) hC.out.1 hC.out.2.1 q1.out).mono ?_; rintro e w5 ⟨rfl, hb5⟩; have hR5 := Lib.hid (hR.out.of_block (hb5.block _ hg)); have qo := hR5.out.cell hlt; rw [fillF, if_neg (Nat.lt_irrefl k)] at qo; have qf := hR5.out.frozen k; have hst := Lib.hid (fill_step hR5.out rfl))
      go_roundw
      case rel => exact ⟨k + 1, by omega, by go_num, hst, (belowT hbel hb5).setCell (p := ⟨w2.heap.size, k, none⟩) (Nat.le_refl _) _⟩
      case measure => simp [intOf]; omega
    · have hend : k = 256 := by omega
      subst hend
      have hF := fill_end hR.out
      have hfin := belowT hb1 hbel
      clear hR
      go_wp2
      go_ret2
      exact ⟨_, rfl, hF, hfin⟩

set_option maxRecDepth 100000 in
set_option maxHeartbeats 2000000 in
theorem fade_f (b off cap : Nat) (a1 : Option Addr) (c1 : Nat) (zb za : List Int) (T M : Int) (w : World) (t0 : 1 ≤ T) (t1 : T ≤ M) (t2 : M ≤ 65536) (hT : T ≤ 8) (hM : 2 < M) (hb : InLine zb) (ha : InLine za)
    (hrb : Rd w (.slice (some ⟨b, off, none⟩) 256 cap) zb) (hra : Rd w (.slice a1 256 c1) za) (kb : b < w.heap.size)
    (cb : ∀ i, i < 256 → w.cell? ⟨b, off + i, none⟩ = some (.int .i64 (zb.getD i 0))) :
    Calls Try.prog 4 #[.slice (some ⟨b, off, none⟩) 256 cap, .slice a1 256 c1, .int .i64 T, .int .i64 M] w fun e w' => ∃ g, e = .returned (.tuple #[.slice (some ⟨g, 0, none⟩) 256 256, .int .i64 0]) ∧ w'.rowIs g 3 256 (fun j => .int .i64 ((fun j => zb.getD j 0 / 2 ^ T.toNat) j)) ∧ Below w.heap.size w w' := by
  obtain ⟨i0, hi, hz0, hz1, hz2⟩ := info_parts info3
  have HB := Lib.hid hb
  have HA := Lib.hid ha
  have RB := Lib.hid hrb
  have RA := Lib.hid hra
  have CB := Lib.hid cb
  clear hb ha hrb hra cb
  go_enter Try.func4, Try.ntmps4
  go_wp2_with (first
    | (go_at_call 9; ((with_reducible refine (lines_yes _ zb _ HB.out RB.out).mono ?_); rintro e w1 ⟨rfl, rfl⟩))
    | (go_at_call 9; ((with_reducible refine (lines_yes _ za _ HA.out RA.out).mono ?_); rintro e w1 ⟨rfl, rfl⟩))
    | (go_at_call 10; ((with_reducible refine (fading_fade b off cap T _ hT).mono ?_); rintro e w2 ⟨p1, p2, rfl, hcau, hb1⟩))
    | (refine wpList_make_row _ rfl _ _ 22 rfl 3 i0 (.int .i64 0) Try.underlying22 hi hz0 hz1 rfl .i64 .i64 256 rfl rfl (by rw [hz2]; omega) (by omega) ?_))
  have hbm : Below w2.heap.size w2 (w2.alloc (.cells (madeCells #[.int .i64 0] 256) 3)) := (Below.refl _ _).alloc (Nat.le_refl _) _
  have hrow : (w2.alloc (.cells (madeCells #[.int .i64 0] 256) 3)).rowIs w2.heap.size 3 256 (fillF (fun j => zb.getD j 0 / 2 ^ T.toNat) 0) := (World.rowIs_made w2 (.int .i64 0) 256 3).congr fun i _ => by unfold fillF; simp
  have Hrow := Lib.hid hrow
  have kb2 : b < w2.heap.size := Nat.lt_of_lt_of_le kb hb1.size
  clear hrow
  have Hcau := Lib.hid hcau
  clear hcau
  go_loopw [63] (fun i wr => ∃ k : Nat, k ≤ 256 ∧ i = .int .i64 k ∧ Hid (wr.rowIs w2.heap.size 3 256 (fillF (fun j => zb.getD j 0 / 2 ^ T.toNat) k)) ∧ Below w2.heap.size w2 wr) (fun i _ => 256 - (intOf i).toNat)
  case atStart => exact ⟨0, by omega, rfl, Hrow, hbm⟩
  case round =>
    obtain ⟨k, hk, rfl, hR, hbel⟩ := hrel
    by_cases hlt : k < 256
    · have hg := hR.out.lt
      have hC := Lib.hid (Hcau.out.below hbel)
      have q1 := Lib.hid ((hbel.cell (p := ⟨b, off + k, none⟩) kb2).trans ((hb1.cell (p := ⟨b, off + k, none⟩) kb).trans (CB.out k hlt)))
      go_wp2_with (go_at_call 13; refine (fade_line k p1 p2 b off cap (zb.getD k 0) T _ hlt t0 (by omega) hC.out.1 hC.out.2.1 q1.out).mono ?_; rintro e w5 ⟨rfl, hb5⟩; have hR5 := Lib.hid (hR.out.of_block (hb5.block _ hg)); have qo := hR5.out.cell hlt; rw [fillF, if_neg (Nat.lt_irrefl k)] at qo; have qf := hR5.out.frozen k; have hst := Lib.hid (fill_step hR5.out rfl))
      go_roundw
      case rel => exact ⟨k + 1, by omega, by go_num, hst, (belowT hbel hb5).setCell (p := ⟨w2.heap.size, k, none⟩) (Nat.le_refl _) _⟩
      case measure => simp [intOf]; omega
    · have hend : k = 256 := by omega
      subst hend
      have hF := fill_end hR.out
      have hfin := belowT hb1 hbel
      clear hR
      go_wp2
      go_ret2
      exact ⟨_, rfl, hF, hfin⟩

end Go.Proofs.Ytlogmndophcnjaa.Lo

/- What lose's Lines does, its answer being new memory. -/
import Derived.Test.YtnbbjobmaakogaaLoUni
import Derived.WalkKit
import Derived.RegionTactic
import Derived.ChangeAlike
import Derived.Deep.OwnRows
import Derived.ProofKit
import Derived.OpenShut
import Derived.Lib.Hide
namespace Go.Proofs.Ytnbbjobmaakogaa.Lo
open Go Go.ChangeShapes Go.WideShapes Go.ChangeAt Go.RowKit

set_option maxRecDepth 100000 in
set_option maxHeartbeats 2000000 in
/-- Lines between both sides. -/
theorem lines_btw_n (b off cap b' off' cap' : Nat) (zb za : List Int) (T M : Int) (w : World) (hM : (M = 1 ∧ T = 1) ∨ (M = 2 ∧ T = 1) ∨ (M = 2 ∧ T = 2)) (lb : zb.length = 256) (la : za.length = 256) (hb : InLine zb) (ha : InLine za)
    (hrb : Rd w (.slice (some ⟨b, off, none⟩) 256 cap) zb) (hra : Rd w (.slice (some ⟨b', off', none⟩) 256 cap') za) (kb : b < w.heap.size) (ka : b' < w.heap.size)
    (cb : ∀ i, i < 256 → w.cell? ⟨b, off + i, none⟩ = some (.int .i64 (zb.getD i 0))) (ca : ∀ i, i < 256 → w.cell? ⟨b', off' + i, none⟩ = some (.int .i64 (za.getD i 0))) :
    Calls Try.prog 30 #[.slice (some ⟨b, off, none⟩) 256 cap, .slice (some ⟨b', off', none⟩) 256 cap', .int .i64 T, .int .i64 M] w fun e w' => ∃ g, w.heap.size ≤ g ∧ e = .returned (.tuple #[.slice (some ⟨g, 0, none⟩) 256 256, .int .i64 0]) ∧ w'.rowIs g 3 256 (fun j => .int .i64 (btw (zb.getD j 0) (za.getD j 0) (M + 1) T)) ∧ Below w.heap.size w w' := by
  obtain ⟨i0, hi, hz0, hz1, hz2⟩ := info_parts info3
  have hWT : (M + 1 = 2 ∧ T = 1) ∨ (M + 1 = 3 ∧ T = 1) ∨ (M + 1 = 3 ∧ T = 2) := by omega
  have m0 : 1 ≤ T := by omega
  have m1 : T ≤ M := by omega
  have m2 : M ≤ 2 := by omega
  have HWT := Lib.hid hWT
  have HB := Lib.hid hb
  have HA := Lib.hid ha
  have RB := Lib.hid hrb
  have RA := Lib.hid hra
  have CB := Lib.hid cb
  have CA := Lib.hid ca
  have LB := Lib.hid lb
  have LA := Lib.hid la
  clear hWT hM hb ha hrb hra cb ca lb la
  go_enter Try.func30, Try.ntmps30
  go_wp2_with (first
    | (go_at_call 46; ((with_reducible refine (lines_yes _ zb _ HB.out RB.out).mono ?_); rintro e w1 ⟨rfl, rfl⟩))
    | (go_at_call 46; ((with_reducible refine (lines_yes _ za _ HA.out RA.out).mono ?_); rintro e w1 ⟨rfl, rfl⟩))
    | (go_at_call 47; ((with_reducible refine (fading_any b off cap T _).mono ?_); rintro e w1 ⟨⟨fv, rfl⟩, hb1⟩))
    | (go_at_call 48; ((with_reducible refine (between_ok b off cap b' off' cap' T M _ (by omega) (by omega)).mono ?_); rintro e w2 ⟨p1, p2, p3, p4, rfl, hcau, hb2⟩))
    | (refine wpList_make_row _ rfl _ _ 22 rfl 3 i0 (.int .i64 0) Try.underlying22 hi hz0 hz1 rfl .i64 .i64 256 rfl rfl (by rw [hz2]; omega) (by omega) ?_))
  have hbw := belowT hb1 hb2
  have hbm : Below w2.heap.size w2 (w2.alloc (.cells (madeCells #[.int .i64 0] 256) 3)) := (Below.refl _ _).alloc (Nat.le_refl _) _
  have hrow : (w2.alloc (.cells (madeCells #[.int .i64 0] 256) 3)).rowIs w2.heap.size 3 256 (fillF (fun j => btw (zb.getD j 0) (za.getD j 0) (M + 1) T) 0) := (World.rowIs_made w2 (.int .i64 0) 256 3).congr fun i _ => by unfold fillF; simp
  have Hcau := Lib.hid hcau
  have Hrow := Lib.hid hrow
  have kb2 : b < w2.heap.size := Nat.lt_of_lt_of_le kb hbw.size
  have ka2 : b' < w2.heap.size := Nat.lt_of_lt_of_le ka hbw.size
  clear hcau hrow
  go_loopw [63] (fun i wr => ∃ k : Nat, k ≤ 256 ∧ i = .int .i64 k ∧ Hid (wr.rowIs w2.heap.size 3 256 (fillF (fun j => btw (zb.getD j 0) (za.getD j 0) (M + 1) T) k)) ∧ Below w2.heap.size w2 wr) (fun i _ => 256 - (intOf i).toNat)
  case atStart => exact ⟨0, by omega, rfl, Hrow, hbm⟩
  case round =>
    obtain ⟨k, hk, rfl, hR, hbel⟩ := hrel
    by_cases hlt : k < 256
    · have hC := Lib.hid (Hcau.out.below hbel)
      have q1 := Lib.hid ((hbel.cell (p := ⟨b, off + k, none⟩) kb2).trans ((hbw.cell (p := ⟨b, off + k, none⟩) kb).trans (CB.out k hlt)))
      have q2 := Lib.hid ((hbel.cell (p := ⟨b', off' + k, none⟩) ka2).trans ((hbw.cell (p := ⟨b', off' + k, none⟩) ka).trans (CA.out k hlt)))
      have xb := HB.out (zb.getD k 0) (by simp [LB.out, hlt])
      have ya := HA.out (za.getD k 0) (by simp [LA.out, hlt])
      have hg := hR.out.lt
      go_wp2_with (go_at_call 60; refine (btw_line k p1 p2 p3 p4 b off cap b' off' cap' (zb.getD k 0) (za.getD k 0) (M + 1) T _ hlt HWT.out xb.1 xb.2 ya.1 ya.2 hC.out.1 hC.out.2.1 hC.out.2.2.1 hC.out.2.2.2.1 q1.out q2.out).mono ?_; rintro e w5 ⟨rfl, hb5⟩; have hR5 := Lib.hid (hR.out.of_block (hb5.block _ hg)); have qo := hR5.out.cell hlt; rw [fillF, if_neg (Nat.lt_irrefl k)] at qo; have qf := hR5.out.frozen k; have hst := Lib.hid (fill_step hR5.out rfl))
      go_roundw
      case rel => exact ⟨k + 1, by omega, by go_num, hst, (belowT hbel hb5).setCell (p := ⟨w2.heap.size, k, none⟩) (Nat.le_refl _) _⟩
      case measure => simp [intOf]; omega
    · have hend : k = 256 := by omega
      subst hend
      have hF := fill_end hR.out
      have hfin := belowT hbw hbel
      have hszz := hbw.size
      clear hR
      go_wp2
      go_ret2
      exact ⟨_, hszz, rfl, hF, hfin⟩
set_option maxRecDepth 100000 in
set_option maxHeartbeats 2000000 in
theorem zero_e_n (b off cap : Nat) (a1 : Option Addr) (c1 : Nat) (zb za : List Int) (T M : Int) (w : World) (t0 : 1 ≤ T) (t1 : T ≤ M) (t2 : M ≤ 65536) (hT : 8 < T) (hb : InLine zb) (ha : InLine za)
    (hrb : Rd w (.slice (some ⟨b, off, none⟩) 256 cap) zb) (hra : Rd w (.slice a1 0 c1) za) (kb : b < w.heap.size)
    (cb : ∀ i, i < 256 → w.cell? ⟨b, off + i, none⟩ = some (.int .i64 (zb.getD i 0))) :
    Calls Try.prog 30 #[.slice (some ⟨b, off, none⟩) 256 cap, .slice a1 0 c1, .int .i64 T, .int .i64 M] w fun e w' => ∃ g, w.heap.size ≤ g ∧ e = .returned (.tuple #[.slice (some ⟨g, 0, none⟩) 256 256, .int .i64 0]) ∧ w'.rowIs g 3 256 (fun j => .int .i64 ((fun _ => 0) j)) ∧ Below w.heap.size w w' := by
  obtain ⟨i0, hi, hz0, hz1, hz2⟩ := info_parts info3
  have HB := Lib.hid hb
  have HA := Lib.hid ha
  have RB := Lib.hid hrb
  have RA := Lib.hid hra
  have CB := Lib.hid cb
  clear hb ha hrb hra cb
  go_enter Try.func30, Try.ntmps30
  go_wp2_with (first
    | (go_at_call 46; ((with_reducible refine (lines_yes _ zb _ HB.out RB.out).mono ?_); rintro e w1 ⟨rfl, rfl⟩))
    | (go_at_call 46; ((with_reducible refine (lines_yes _ za _ HA.out RA.out).mono ?_); rintro e w1 ⟨rfl, rfl⟩))
    | (go_at_call 47; ((with_reducible refine (fading_zero b off cap T _ hT).mono ?_); rintro e w2 ⟨rfl, hb1⟩))
    | (refine wpList_make_row _ rfl _ _ 22 rfl 3 i0 (.int .i64 0) Try.underlying22 hi hz0 hz1 rfl .i64 .i64 256 rfl rfl (by rw [hz2]; omega) (by omega) ?_))
  have hbm : Below w2.heap.size w2 (w2.alloc (.cells (madeCells #[.int .i64 0] 256) 3)) := (Below.refl _ _).alloc (Nat.le_refl _) _
  have hrow : (w2.alloc (.cells (madeCells #[.int .i64 0] 256) 3)).rowIs w2.heap.size 3 256 (fillF (fun _ => 0) 0) := (World.rowIs_made w2 (.int .i64 0) 256 3).congr fun i _ => by unfold fillF; simp
  have Hrow := Lib.hid hrow
  have kb2 : b < w2.heap.size := Nat.lt_of_lt_of_le kb hb1.size
  clear hrow
  go_loopw [63] (fun i wr => ∃ k : Nat, k ≤ 256 ∧ i = .int .i64 k ∧ Hid (wr.rowIs w2.heap.size 3 256 (fillF (fun _ => 0) k)) ∧ Below w2.heap.size w2 wr) (fun i _ => 256 - (intOf i).toNat)
  case atStart => exact ⟨0, by omega, rfl, Hrow, hbm⟩
  case round =>
    obtain ⟨k, hk, rfl, hR, hbel⟩ := hrel
    by_cases hlt : k < 256
    · have hg := hR.out.lt
      go_wp2_with (go_at_call 58; refine (zero_line k _).mono ?_; rintro e w5 ⟨rfl, hb5⟩; have hR5 := Lib.hid (hR.out.of_block (hb5.block _ hg)); have qo := hR5.out.cell hlt; rw [fillF, if_neg (Nat.lt_irrefl k)] at qo; have qf := hR5.out.frozen k; have hst := Lib.hid (fill_step hR5.out rfl))
      go_roundw
      case rel => exact ⟨k + 1, by omega, by go_num, hst, (belowT hbel hb5).setCell (p := ⟨w2.heap.size, k, none⟩) (Nat.le_refl _) _⟩
      case measure => simp [intOf]; omega
    · have hend : k = 256 := by omega
      subst hend
      have hF := fill_end hR.out
      have hfin := belowT hb1 hbel
      have hszz := hb1.size
      clear hR
      go_wp2
      go_ret2
      exact ⟨_, hszz, rfl, hF, hfin⟩

set_option maxRecDepth 100000 in
set_option maxHeartbeats 2000000 in
theorem zero_f_n (b off cap : Nat) (a1 : Option Addr) (c1 : Nat) (zb za : List Int) (T M : Int) (w : World) (t0 : 1 ≤ T) (t1 : T ≤ M) (t2 : M ≤ 65536) (hT : 8 < T) (hM : 2 < M) (hb : InLine zb) (ha : InLine za)
    (hrb : Rd w (.slice (some ⟨b, off, none⟩) 256 cap) zb) (hra : Rd w (.slice a1 256 c1) za) (kb : b < w.heap.size)
    (cb : ∀ i, i < 256 → w.cell? ⟨b, off + i, none⟩ = some (.int .i64 (zb.getD i 0))) :
    Calls Try.prog 30 #[.slice (some ⟨b, off, none⟩) 256 cap, .slice a1 256 c1, .int .i64 T, .int .i64 M] w fun e w' => ∃ g, w.heap.size ≤ g ∧ e = .returned (.tuple #[.slice (some ⟨g, 0, none⟩) 256 256, .int .i64 0]) ∧ w'.rowIs g 3 256 (fun j => .int .i64 ((fun _ => 0) j)) ∧ Below w.heap.size w w' := by
  obtain ⟨i0, hi, hz0, hz1, hz2⟩ := info_parts info3
  have HB := Lib.hid hb
  have HA := Lib.hid ha
  have RB := Lib.hid hrb
  have RA := Lib.hid hra
  have CB := Lib.hid cb
  clear hb ha hrb hra cb
  go_enter Try.func30, Try.ntmps30
  go_wp2_with (first
    | (go_at_call 46; ((with_reducible refine (lines_yes _ zb _ HB.out RB.out).mono ?_); rintro e w1 ⟨rfl, rfl⟩))
    | (go_at_call 46; ((with_reducible refine (lines_yes _ za _ HA.out RA.out).mono ?_); rintro e w1 ⟨rfl, rfl⟩))
    | (go_at_call 47; ((with_reducible refine (fading_zero b off cap T _ hT).mono ?_); rintro e w2 ⟨rfl, hb1⟩))
    | (refine wpList_make_row _ rfl _ _ 22 rfl 3 i0 (.int .i64 0) Try.underlying22 hi hz0 hz1 rfl .i64 .i64 256 rfl rfl (by rw [hz2]; omega) (by omega) ?_))
  have hbm : Below w2.heap.size w2 (w2.alloc (.cells (madeCells #[.int .i64 0] 256) 3)) := (Below.refl _ _).alloc (Nat.le_refl _) _
  have hrow : (w2.alloc (.cells (madeCells #[.int .i64 0] 256) 3)).rowIs w2.heap.size 3 256 (fillF (fun _ => 0) 0) := (World.rowIs_made w2 (.int .i64 0) 256 3).congr fun i _ => by unfold fillF; simp
  have Hrow := Lib.hid hrow
  have kb2 : b < w2.heap.size := Nat.lt_of_lt_of_le kb hb1.size
  clear hrow
  go_loopw [63] (fun i wr => ∃ k : Nat, k ≤ 256 ∧ i = .int .i64 k ∧ Hid (wr.rowIs w2.heap.size 3 256 (fillF (fun _ => 0) k)) ∧ Below w2.heap.size w2 wr) (fun i _ => 256 - (intOf i).toNat)
  case atStart => exact ⟨0, by omega, rfl, Hrow, hbm⟩
  case round =>
    obtain ⟨k, hk, rfl, hR, hbel⟩ := hrel
    by_cases hlt : k < 256
    · have hg := hR.out.lt
      go_wp2_with (go_at_call 58; refine (zero_line k _).mono ?_; rintro e w5 ⟨rfl, hb5⟩; have hR5 := Lib.hid (hR.out.of_block (hb5.block _ hg)); have qo := hR5.out.cell hlt; rw [fillF, if_neg (Nat.lt_irrefl k)] at qo; have qf := hR5.out.frozen k; have hst := Lib.hid (fill_step hR5.out rfl))
      go_roundw
      case rel => exact ⟨k + 1, by omega, by go_num, hst, (belowT hbel hb5).setCell (p := ⟨w2.heap.size, k, none⟩) (Nat.le_refl _) _⟩
      case measure => simp [intOf]; omega
    · have hend : k = 256 := by omega
      subst hend
      have hF := fill_end hR.out
      have hfin := belowT hb1 hbel
      have hszz := hb1.size
      clear hR
      go_wp2
      go_ret2
      exact ⟨_, hszz, rfl, hF, hfin⟩

set_option maxRecDepth 100000 in
set_option maxHeartbeats 2000000 in
theorem fade_e1_n (b off cap : Nat) (a1 : Option Addr) (c1 : Nat) (zb za : List Int) (T M : Int) (w : World) (t0 : 1 ≤ T) (t1 : T ≤ M) (_ : M ≤ 65536) (hT : T ≤ 8) (hM : M ≤ 2) (hb : InLine zb) (ha : InLine za)
    (hrb : Rd w (.slice (some ⟨b, off, none⟩) 256 cap) zb) (hra : Rd w (.slice a1 0 c1) za) (kb : b < w.heap.size)
    (cb : ∀ i, i < 256 → w.cell? ⟨b, off + i, none⟩ = some (.int .i64 (zb.getD i 0))) :
    Calls Try.prog 30 #[.slice (some ⟨b, off, none⟩) 256 cap, .slice a1 0 c1, .int .i64 T, .int .i64 M] w fun e w' => ∃ g, w.heap.size ≤ g ∧ e = .returned (.tuple #[.slice (some ⟨g, 0, none⟩) 256 256, .int .i64 0]) ∧ w'.rowIs g 3 256 (fun j => .int .i64 ((fun j => zb.getD j 0 / 2 ^ T.toNat) j)) ∧ Below w.heap.size w w' := by
  obtain ⟨i0, hi, hz0, hz1, hz2⟩ := info_parts info3
  have HB := Lib.hid hb
  have HA := Lib.hid ha
  have RB := Lib.hid hrb
  have RA := Lib.hid hra
  have CB := Lib.hid cb
  clear hb ha hrb hra cb
  go_enter Try.func30, Try.ntmps30
  go_wp2_with (first
    | (go_at_call 46; ((with_reducible refine (lines_yes _ zb _ HB.out RB.out).mono ?_); rintro e w1 ⟨rfl, rfl⟩))
    | (go_at_call 46; ((with_reducible refine (lines_yes _ za _ HA.out RA.out).mono ?_); rintro e w1 ⟨rfl, rfl⟩))
    | (go_at_call 47; ((with_reducible refine (fading_fade b off cap T _ hT).mono ?_); rintro e w2 ⟨p1, p2, rfl, hcau, hb1⟩))
    | (refine wpList_make_row _ rfl _ _ 22 rfl 3 i0 (.int .i64 0) Try.underlying22 hi hz0 hz1 rfl .i64 .i64 256 rfl rfl (by rw [hz2]; omega) (by omega) ?_))
  have hbm : Below w2.heap.size w2 (w2.alloc (.cells (madeCells #[.int .i64 0] 256) 3)) := (Below.refl _ _).alloc (Nat.le_refl _) _
  have hrow : (w2.alloc (.cells (madeCells #[.int .i64 0] 256) 3)).rowIs w2.heap.size 3 256 (fillF (fun j => zb.getD j 0 / 2 ^ T.toNat) 0) := (World.rowIs_made w2 (.int .i64 0) 256 3).congr fun i _ => by unfold fillF; simp
  have Hrow := Lib.hid hrow
  have kb2 : b < w2.heap.size := Nat.lt_of_lt_of_le kb hb1.size
  clear hrow
  have Hcau := Lib.hid hcau
  clear hcau
  go_loopw [63] (fun i wr => ∃ k : Nat, k ≤ 256 ∧ i = .int .i64 k ∧ Hid (wr.rowIs w2.heap.size 3 256 (fillF (fun j => zb.getD j 0 / 2 ^ T.toNat) k)) ∧ Below w2.heap.size w2 wr) (fun i _ => 256 - (intOf i).toNat)
  case atStart => exact ⟨0, by omega, rfl, Hrow, hbm⟩
  case round =>
    obtain ⟨k, hk, rfl, hR, hbel⟩ := hrel
    by_cases hlt : k < 256
    · have hg := hR.out.lt
      have hC := Lib.hid (Hcau.out.below hbel)
      have q1 := Lib.hid ((hbel.cell (p := ⟨b, off + k, none⟩) kb2).trans ((hb1.cell (p := ⟨b, off + k, none⟩) kb).trans (CB.out k hlt)))
      go_wp2_with (go_at_call 59; refine (fade_line k p1 p2 b off cap (zb.getD k 0) T _ hlt t0 (by omega) hC.out.1 hC.out.2.1 q1.out).mono ?_; rintro e w5 ⟨rfl, hb5⟩; have hR5 := Lib.hid (hR.out.of_block (hb5.block _ hg)); have qo := hR5.out.cell hlt; rw [fillF, if_neg (Nat.lt_irrefl k)] at qo; have qf := hR5.out.frozen k; have hst := Lib.hid (fill_step hR5.out rfl))
      go_roundw
      case rel => exact ⟨k + 1, by omega, by go_num, hst, (belowT hbel hb5).setCell (p := ⟨w2.heap.size, k, none⟩) (Nat.le_refl _) _⟩
      case measure => simp [intOf]; omega
    · have hend : k = 256 := by omega
      subst hend
      have hF := fill_end hR.out
      have hfin := belowT hb1 hbel
      have hszz := hb1.size
      clear hR
      go_wp2
      go_ret2
      exact ⟨_, hszz, rfl, hF, hfin⟩

set_option maxRecDepth 100000 in
set_option maxHeartbeats 2000000 in
theorem fade_e2_n (b off cap : Nat) (a1 : Option Addr) (c1 : Nat) (zb za : List Int) (T M : Int) (w : World) (t0 : 1 ≤ T) (t1 : T ≤ M) (t2 : M ≤ 65536) (hT : T ≤ 8) (hM : 2 < M) (hb : InLine zb) (ha : InLine za)
    (hrb : Rd w (.slice (some ⟨b, off, none⟩) 256 cap) zb) (hra : Rd w (.slice a1 0 c1) za) (kb : b < w.heap.size)
    (cb : ∀ i, i < 256 → w.cell? ⟨b, off + i, none⟩ = some (.int .i64 (zb.getD i 0))) :
    Calls Try.prog 30 #[.slice (some ⟨b, off, none⟩) 256 cap, .slice a1 0 c1, .int .i64 T, .int .i64 M] w fun e w' => ∃ g, w.heap.size ≤ g ∧ e = .returned (.tuple #[.slice (some ⟨g, 0, none⟩) 256 256, .int .i64 0]) ∧ w'.rowIs g 3 256 (fun j => .int .i64 ((fun j => zb.getD j 0 / 2 ^ T.toNat) j)) ∧ Below w.heap.size w w' := by
  obtain ⟨i0, hi, hz0, hz1, hz2⟩ := info_parts info3
  have HB := Lib.hid hb
  have HA := Lib.hid ha
  have RB := Lib.hid hrb
  have RA := Lib.hid hra
  have CB := Lib.hid cb
  clear hb ha hrb hra cb
  go_enter Try.func30, Try.ntmps30
  go_wp2_with (first
    | (go_at_call 46; ((with_reducible refine (lines_yes _ zb _ HB.out RB.out).mono ?_); rintro e w1 ⟨rfl, rfl⟩))
    | (go_at_call 46; ((with_reducible refine (lines_yes _ za _ HA.out RA.out).mono ?_); rintro e w1 ⟨rfl, rfl⟩))
    | (go_at_call 47; ((with_reducible refine (fading_fade b off cap T _ hT).mono ?_); rintro e w2 ⟨p1, p2, rfl, hcau, hb1⟩))
    | (refine wpList_make_row _ rfl _ _ 22 rfl 3 i0 (.int .i64 0) Try.underlying22 hi hz0 hz1 rfl .i64 .i64 256 rfl rfl (by rw [hz2]; omega) (by omega) ?_))
  have hbm : Below w2.heap.size w2 (w2.alloc (.cells (madeCells #[.int .i64 0] 256) 3)) := (Below.refl _ _).alloc (Nat.le_refl _) _
  have hrow : (w2.alloc (.cells (madeCells #[.int .i64 0] 256) 3)).rowIs w2.heap.size 3 256 (fillF (fun j => zb.getD j 0 / 2 ^ T.toNat) 0) := (World.rowIs_made w2 (.int .i64 0) 256 3).congr fun i _ => by unfold fillF; simp
  have Hrow := Lib.hid hrow
  have kb2 : b < w2.heap.size := Nat.lt_of_lt_of_le kb hb1.size
  clear hrow
  have Hcau := Lib.hid hcau
  clear hcau
  go_loopw [63] (fun i wr => ∃ k : Nat, k ≤ 256 ∧ i = .int .i64 k ∧ Hid (wr.rowIs w2.heap.size 3 256 (fillF (fun j => zb.getD j 0 / 2 ^ T.toNat) k)) ∧ Below w2.heap.size w2 wr) (fun i _ => 256 - (intOf i).toNat)
  case atStart => exact ⟨0, by omega, rfl, Hrow, hbm⟩
  case round =>
    obtain ⟨k, hk, rfl, hR, hbel⟩ := hrel
    by_cases hlt : k < 256
    · have hg := hR.out.lt
      have hC := Lib.hid (Hcau.out.below hbel)
      have q1 := Lib.hid ((hbel.cell (p := ⟨b, off + k, none⟩) kb2).trans ((hb1.cell (p := ⟨b, off + k, none⟩) kb).trans (CB.out k hlt)))
      go_wp2_with (go_at_call 59; refine (fade_line k p1 p2 b off cap (zb.getD k 0) T _ hlt t0 (by omega) hC.out.1 hC.out.2.1 q1.out).mono ?_; rintro e w5 ⟨rfl, hb5⟩; have hR5 := Lib.hid (hR.out.of_block (hb5.block _ hg)); have qo := hR5.out.cell hlt; rw [fillF, if_neg (Nat.lt_irrefl k)] at qo; have qf := hR5.out.frozen k; have hst := Lib.hid (fill_step hR5.out rfl))
      go_roundw
      case rel => exact ⟨k + 1, by omega, by go_num, hst, (belowT hbel hb5).setCell (p := ⟨w2.heap.size, k, none⟩) (Nat.le_refl _) _⟩
      case measure => simp [intOf]; omega
    · have hend : k = 256 := by omega
      subst hend
      have hF := fill_end hR.out
      have hfin := belowT hb1 hbel
      have hszz := hb1.size
      clear hR
      go_wp2
      go_ret2
      exact ⟨_, hszz, rfl, hF, hfin⟩

set_option maxRecDepth 100000 in
set_option maxHeartbeats 2000000 in
theorem fade_f_n (b off cap : Nat) (a1 : Option Addr) (c1 : Nat) (zb za : List Int) (T M : Int) (w : World) (t0 : 1 ≤ T) (t1 : T ≤ M) (t2 : M ≤ 65536) (hT : T ≤ 8) (hM : 2 < M) (hb : InLine zb) (ha : InLine za)
    (hrb : Rd w (.slice (some ⟨b, off, none⟩) 256 cap) zb) (hra : Rd w (.slice a1 256 c1) za) (kb : b < w.heap.size)
    (cb : ∀ i, i < 256 → w.cell? ⟨b, off + i, none⟩ = some (.int .i64 (zb.getD i 0))) :
    Calls Try.prog 30 #[.slice (some ⟨b, off, none⟩) 256 cap, .slice a1 256 c1, .int .i64 T, .int .i64 M] w fun e w' => ∃ g, w.heap.size ≤ g ∧ e = .returned (.tuple #[.slice (some ⟨g, 0, none⟩) 256 256, .int .i64 0]) ∧ w'.rowIs g 3 256 (fun j => .int .i64 ((fun j => zb.getD j 0 / 2 ^ T.toNat) j)) ∧ Below w.heap.size w w' := by
  obtain ⟨i0, hi, hz0, hz1, hz2⟩ := info_parts info3
  have HB := Lib.hid hb
  have HA := Lib.hid ha
  have RB := Lib.hid hrb
  have RA := Lib.hid hra
  have CB := Lib.hid cb
  clear hb ha hrb hra cb
  go_enter Try.func30, Try.ntmps30
  go_wp2_with (first
    | (go_at_call 46; ((with_reducible refine (lines_yes _ zb _ HB.out RB.out).mono ?_); rintro e w1 ⟨rfl, rfl⟩))
    | (go_at_call 46; ((with_reducible refine (lines_yes _ za _ HA.out RA.out).mono ?_); rintro e w1 ⟨rfl, rfl⟩))
    | (go_at_call 47; ((with_reducible refine (fading_fade b off cap T _ hT).mono ?_); rintro e w2 ⟨p1, p2, rfl, hcau, hb1⟩))
    | (refine wpList_make_row _ rfl _ _ 22 rfl 3 i0 (.int .i64 0) Try.underlying22 hi hz0 hz1 rfl .i64 .i64 256 rfl rfl (by rw [hz2]; omega) (by omega) ?_))
  have hbm : Below w2.heap.size w2 (w2.alloc (.cells (madeCells #[.int .i64 0] 256) 3)) := (Below.refl _ _).alloc (Nat.le_refl _) _
  have hrow : (w2.alloc (.cells (madeCells #[.int .i64 0] 256) 3)).rowIs w2.heap.size 3 256 (fillF (fun j => zb.getD j 0 / 2 ^ T.toNat) 0) := (World.rowIs_made w2 (.int .i64 0) 256 3).congr fun i _ => by unfold fillF; simp
  have Hrow := Lib.hid hrow
  have kb2 : b < w2.heap.size := Nat.lt_of_lt_of_le kb hb1.size
  clear hrow
  have Hcau := Lib.hid hcau
  clear hcau
  go_loopw [63] (fun i wr => ∃ k : Nat, k ≤ 256 ∧ i = .int .i64 k ∧ Hid (wr.rowIs w2.heap.size 3 256 (fillF (fun j => zb.getD j 0 / 2 ^ T.toNat) k)) ∧ Below w2.heap.size w2 wr) (fun i _ => 256 - (intOf i).toNat)
  case atStart => exact ⟨0, by omega, rfl, Hrow, hbm⟩
  case round =>
    obtain ⟨k, hk, rfl, hR, hbel⟩ := hrel
    by_cases hlt : k < 256
    · have hg := hR.out.lt
      have hC := Lib.hid (Hcau.out.below hbel)
      have q1 := Lib.hid ((hbel.cell (p := ⟨b, off + k, none⟩) kb2).trans ((hb1.cell (p := ⟨b, off + k, none⟩) kb).trans (CB.out k hlt)))
      go_wp2_with (go_at_call 59; refine (fade_line k p1 p2 b off cap (zb.getD k 0) T _ hlt t0 (by omega) hC.out.1 hC.out.2.1 q1.out).mono ?_; rintro e w5 ⟨rfl, hb5⟩; have hR5 := Lib.hid (hR.out.of_block (hb5.block _ hg)); have qo := hR5.out.cell hlt; rw [fillF, if_neg (Nat.lt_irrefl k)] at qo; have qf := hR5.out.frozen k; have hst := Lib.hid (fill_step hR5.out rfl))
      go_roundw
      case rel => exact ⟨k + 1, by omega, by go_num, hst, (belowT hbel hb5).setCell (p := ⟨w2.heap.size, k, none⟩) (Nat.le_refl _) _⟩
      case measure => simp [intOf]; omega
    · have hend : k = 256 := by omega
      subst hend
      have hF := fill_end hR.out
      have hfin := belowT hb1 hbel
      have hszz := hb1.size
      clear hR
      go_wp2
      go_ret2
      exact ⟨_, hszz, rfl, hF, hfin⟩


/-! ### Told as one -/
def Good (zb za : List Int) (T M : Int) : Prop := 1 ≤ T ∧ T ≤ M ∧ M ≤ 65536 ∧ zb.length = 256 ∧ (za.length = 0 ∨ za.length = 256) ∧ InLine zb ∧ InLine za
open Classical in
noncomputable def errF (zb za : List Int) (T M : Int) : Int :=
  if T < 1 ∨ M < T ∨ 65536 < M then 2 else if zb.length ≠ 256 ∨ (za.length ≠ 256 ∧ za.length ≠ 0) then 4 else 2
theorem errF_bd (zb za : List Int) (T M : Int) : errF zb za T M = 2 ∨ errF zb za T M = 4 := by
  unfold errF; split
  · exact .inl rfl
  · split
    · exact .inr rfl
    · exact .inl rfl

theorem Rd.shape {w : World} {v : Value} {z : List Int} (h : Rd w v z) : ∃ a c, v = .slice a z.length c := by
  rcases h with ⟨a, cap, rfl, rfl⟩ | ⟨b, off, cap, rfl, _⟩
  · exact ⟨_, _, rfl⟩
  · exact ⟨_, _, rfl⟩

theorem lines_bad (v0 v1 : Value) (zb za : List Int) (T M : Int) (w : World) (m0 : zb.length ≤ 1000) (m1 : za.length ≤ 1000) (rb : Rd w v0 zb) (ra : Rd w v1 za) (hG : ¬ Good zb za T M) :
    Calls Try.prog 30 #[v0, v1, .int .i64 T, .int .i64 M] w fun e w' => e = .returned (.tuple #[.slice none 0 0, .int .i64 (errF zb za T M)]) ∧ w = w' := by
  obtain ⟨a0, c0, rfl⟩ := rb.shape
  obtain ⟨a1, c1, rfl⟩ := ra.shape
  by_cases h1 : T < 1 ∨ M < T ∨ 65536 < M
  · rw [show errF zb za T M = 2 by unfold errF; rw [if_pos h1]]
    exact err1 _ _ T M w h1
  by_cases h2 : zb.length ≠ 256 ∨ (za.length ≠ 256 ∧ za.length ≠ 0)
  · rw [show errF zb za T M = 4 by unfold errF; rw [if_neg h1, if_pos h2]]
    exact err2 a0 a1 _ _ c0 c1 T M w (by omega) (by omega) (by omega) m0 m1 h2
  rw [show errF zb za T M = 2 by unfold errF; rw [if_neg h1, if_neg h2]]
  have e0 : zb.length = 256 := by omega
  rw [e0] at rb
  rw [e0]
  refine err3 a0 a1 _ c0 c1 zb za T M w (by omega) (by omega) (by omega) (by omega) rb ra ?_
  by_cases hb : InLine zb
  · by_cases ha : InLine za
    · exact absurd ⟨by omega, by omega, by omega, e0, by omega, hb, ha⟩ hG
    · exact .inr ⟨hb, bad_of ha⟩
  · exact .inl (bad_of hb)

theorem lines_good (v0 v1 : Value) (zb za : List Int) (T M : Int) (w : World) (rb : Rd w v0 zb) (ra : Rd w v1 za) (hG : Good zb za T M) :
    Calls Try.prog 30 #[v0, v1, .int .i64 T, .int .i64 M] w fun e w' => ∃ g, w.heap.size ≤ g ∧ e = .returned (.tuple #[.slice (some ⟨g, 0, none⟩) 256 256, .int .i64 0]) ∧ w'.rowIs g 3 256 (fun j => .int .i64 (lineF zb za za.length T M j)) ∧ Below w.heap.size w w' := by
  obtain ⟨t0, t1, t2, lb, la, hb, ha⟩ := hG
  obtain ⟨a0, c0, rfl⟩ := rb.shape
  obtain ⟨a1, c1, rfl⟩ := ra.shape
  rw [lb] at rb ⊢
  obtain ⟨b, off, rfl, hL⟩ := rb.ln lb hb
  rcases la with la | la
  · rw [la] at ra ⊢
    by_cases hT : 8 < T
    · refine (zero_e_n b off c0 a1 c1 zb za T M w t0 t1 t2 hT hL.inl ha hL.rd ra hL.lt hL.cells).mono ?_
      rintro e w' ⟨g, hg, rfl, hr, hw⟩
      exact ⟨g, hg, rfl, hr.congr fun i _ => by unfold lineF; simp [hT], hw⟩
    · by_cases hM : M ≤ 2
      · refine (fade_e1_n b off c0 a1 c1 zb za T M w t0 t1 t2 (by omega) hM hL.inl ha hL.rd ra hL.lt hL.cells).mono ?_
        rintro e w' ⟨g, hg, rfl, hr, hw⟩
        exact ⟨g, hg, rfl, hr.congr fun i _ => by unfold lineF; simp [hT], hw⟩
      · refine (fade_e2_n b off c0 a1 c1 zb za T M w t0 t1 t2 (by omega) (by omega) hL.inl ha hL.rd ra hL.lt hL.cells).mono ?_
        rintro e w' ⟨g, hg, rfl, hr, hw⟩
        exact ⟨g, hg, rfl, hr.congr fun i _ => by unfold lineF; simp [hT], hw⟩
  · rw [la] at ra ⊢
    obtain ⟨b1, o1, rfl, hL1⟩ := ra.ln la ha
    by_cases hM : M ≤ 2
    · refine (lines_btw_n b off c0 b1 o1 c1 zb za T M w (by omega) hL.len hL1.len hL.inl hL1.inl hL.rd hL1.rd hL.lt hL1.lt hL.cells hL1.cells).mono ?_
      rintro e w' ⟨g, hg, rfl, hr, hw⟩
      exact ⟨g, hg, rfl, hr.congr fun i _ => by unfold lineF; simp [hM], hw⟩
    by_cases hT : 8 < T
    · refine (zero_f_n b off c0 _ c1 zb za T M w t0 t1 t2 hT (by omega) hL.inl hL1.inl hL.rd hL1.rd hL.lt hL.cells).mono ?_
      rintro e w' ⟨g, hg, rfl, hr, hw⟩
      exact ⟨g, hg, rfl, hr.congr fun i _ => by unfold lineF; simp [hT, hM], hw⟩
    · refine (fade_f_n b off c0 _ c1 zb za T M w t0 t1 t2 (by omega) (by omega) hL.inl hL1.inl hL.rd hL1.rd hL.lt hL.cells).mono ?_
      rintro e w' ⟨g, hg, rfl, hr, hw⟩
      exact ⟨g, hg, rfl, hr.congr fun i _ => by unfold lineF; simp [hT, hM], hw⟩
end Go.Proofs.Ytnbbjobmaakogaa.Lo

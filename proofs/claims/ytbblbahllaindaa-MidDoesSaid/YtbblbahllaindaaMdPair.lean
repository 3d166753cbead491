/- What mid's pairs does. -/
import Derived.Test.YtbblbahllaindaaMdCon
import Derived.WalkKit
import Derived.OwnWalk
import Derived.RegionTactic
import Derived.StillTailTactics
import Derived.Deep.OwnRows
import Derived.ProofKit
import Derived.OpenShut
import Derived.Lib.Hide
namespace Go.Proofs.Ytbblbahllaindaa.Md
open Go Go.ChangeShapes Go.WideShapes Go.ChangeAt Go.RowKit Go.Proofs.Ytbblbahllaindaa.Lo

theorem two_rows (w : World) (n : Nat) (F G : Nat → Int) : ((w.alloc (.cells (madeCells #[.int .i64 0] n) 3)).alloc (.cells (madeCells #[.int .i64 0] n) 3)).drew.rowIs w.heap.size 3 n (fillF F 0) ∧ ((w.alloc (.cells (madeCells #[.int .i64 0] n) 3)).alloc (.cells (madeCells #[.int .i64 0] n) 3)).drew.rowIs (w.heap.size + 1) 3 n (fillF G 0) ∧ Below w.heap.size w ((w.alloc (.cells (madeCells #[.int .i64 0] n) 3)).alloc (.cells (madeCells #[.int .i64 0] n) 3)).drew := by
  have h1 := (World.rowIs_made w (.int .i64 0) n 3).alloc (.cells (madeCells #[.int .i64 0] n) 3)
  have h2 := World.rowIs_made (w.alloc (.cells (madeCells #[.int .i64 0] n) 3)) (.int .i64 0) n 3
  rw [World.size_alloc] at h2
  exact ⟨(h1.drew).congr fun i _ => by unfold fillF; simp, (h2.drew).congr fun i _ => by unfold fillF; simp, (((Below.refl _ w).alloc (Nat.le_refl _) _).alloc (by simp) _).drew⟩
theorem other_row {w : World} {g g' n k : Nat} {F : Nat → Int} {v : Value} (h : w.rowIs g 3 n (fillF F k)) (hne : g ≠ g') (i : Nat) : (w.setCell ⟨g', i, none⟩ v).rowIs g 3 n (fillF F k) := h.setOther hne v

set_option maxRecDepth 100000 in
set_option maxHeartbeats 2000000 in
theorem pair_jo (b off cap b' off' cap' n : Nat) (za zb : List Int) (w : World) (hn : n ≤ 256) (la : za.length = n) (lb : zb.length = n) (ha : InLine za) (hb : InLine zb)
    (ra : Rd w (.slice (some ⟨b, off, none⟩) n cap) za) (rb : Rd w (.slice (some ⟨b', off', none⟩) n cap') zb) (ka : b < w.heap.size) (kb : b' < w.heap.size)
    (ca : ∀ i, i < n → w.cell? ⟨b, off + i, none⟩ = some (.int .i64 (za.getD i 0))) (cb : ∀ i, i < n → w.cell? ⟨b', off' + i, none⟩ = some (.int .i64 (zb.getD i 0))) :
    Calls Try.prog 13 #[.slice (some ⟨b, off, none⟩) n cap, .slice (some ⟨b', off', none⟩) n cap', .func (.func 18) #[] #[], .func (.func 19) #[] #[]] w fun e w' => ∃ gx gy, e = .returned (.tuple #[.slice (some ⟨gx, 0, none⟩) n n, .slice (some ⟨gy, 0, none⟩) n n, .int .i64 0]) ∧ (w.heap.size ≤ gx ∧ w.heap.size ≤ gy ∧ gx ≠ gy) ∧ w'.rowIs gx 3 n (fun j => .int .i64 (kept (za.getD j 0 + zb.getD j 0))) ∧ w'.rowIs gy 3 n (fun j => .int .i64 (kept (za.getD j 0 - zb.getD j 0))) ∧ Below w.heap.size w w' := by
  obtain ⟨i0, hi, hz0, hz1, hz2⟩ := info_parts info3
  have HA := Lib.hid ha
  have HB := Lib.hid hb
  have LA := Lib.hid la
  have LB := Lib.hid lb
  have RA := Lib.hid ra
  have RB := Lib.hid rb
  have CA := Lib.hid ca
  have CB := Lib.hid cb
  clear ha hb ra rb ca cb la lb
  have hmk := fun W => run_make_row (P := Try.prog) 22 3 i0 (.int .i64 0) Try.underlying22 hi hz0 hz1 rfl .i64 .i64 n (by rw [hz2]; omega) (by omega) W
  obtain ⟨r1, r2, hbw⟩ := two_rows w n (fun j => kept (za.getD j 0 + zb.getD j 0)) (fun j => kept (za.getD j 0 - zb.getD j 0))
  obtain ⟨r3, r4, _⟩ := two_rows w n (fun j => kept (za.getD j 0 - zb.getD j 0)) (fun j => kept (za.getD j 0 + zb.getD j 0))
  have R1 := Lib.hid r1
  have R2 := Lib.hid r2
  have R3 := Lib.hid r3
  have R4 := Lib.hid r4
  clear r1 r2 r3 r4
  go_enter Try.func13, Try.ntmps13
  go_wp2_with (first
    | (go_at_call 21; ((with_reducible refine (mlines_yes _ za _ HA.out RA.out).mono ?_); rintro e w1 ⟨rfl, rfl⟩))
    | (go_at_call 21; ((with_reducible refine (mlines_yes _ zb _ HB.out RB.out).mono ?_); rintro e w1 ⟨rfl, rfl⟩)))
  go_region
  all_goals
    generalize ((w.alloc (.cells (madeCells #[.int .i64 0] n) 3)).alloc (.cells (madeCells #[.int .i64 0] n) 3)).drew = w0 at *
  · go_wp2
    go_loopw [11, 38] (fun _ i wr => ∃ k : Nat, k ≤ n ∧ i = .int .i64 k ∧ Hid (wr.rowIs w.heap.size 3 n (fillF (fun j => kept (za.getD j 0 + zb.getD j 0)) k)) ∧ Hid (wr.rowIs (w.heap.size + 1) 3 n (fillF (fun j => kept (za.getD j 0 - zb.getD j 0)) k)) ∧ Below w.heap.size w wr) (fun _ i _ => n - (intOf i).toNat)
    case atStart => exact ⟨0, by omega, rfl, R1, R2, hbw⟩
    case round =>
      obtain ⟨k, hk, rfl, hX, hY, hbel⟩ := hrel
      by_cases hlt : k < n
      · have q1 := (hbel.cell (p := ⟨b, off + k, none⟩) ka).trans (CA.out k hlt)
        have q2 := (hbel.cell (p := ⟨b', off' + k, none⟩) kb).trans (CB.out k hlt)
        have xb := HA.out (za.getD k 0) (by simp [LA.out, hlt])
        have yb := HB.out (zb.getD k 0) (by simp [LB.out, hlt])
        obtain ⟨x, hx⟩ : ∃ x, za.getD k 0 = x := ⟨_, rfl⟩
        obtain ⟨y, hy⟩ : ∃ y, zb.getD k 0 = y := ⟨_, rfl⟩
        rw [hx] at q1 xb
        rw [hy] at q2 yb
        obtain ⟨x0, x1⟩ := xb
        obtain ⟨y0, y1⟩ := yb
        have Q1 := Lib.hid q1
        have Q2 := Lib.hid q2
        have HX := Lib.hid hx
        have HY := Lib.hid hy
        clear q1 q2
        clear hx hy
        have hx := HX.out
        have hy := HY.out
        have q1 := Q1.out
        have q2 := Q2.out
        go_wp2
        have hd1 : Below wr.heap.size wr wr.drew := (Below.refl _ _).drew
        have A1 := Lib.hid (hX.out.of_block (hd1.block _ hX.out.lt))
        have B1 := Lib.hid (hY.out.of_block (hd1.block _ hY.out.lt))
        have C1 := hbel.trans (hd1.mono hbel.size)
        have S1 := Lib.hid (fill_step (v := kept (za.getD k 0 + zb.getD k 0)) A1.out rfl)
        have O1 := Lib.hid (World.rowIs.setOther B1.out (a := ⟨w.heap.size, k, none⟩) (by omega : (w.heap.size + 1) ≠ w.heap.size) (.int .i64 (kept (za.getD k 0 + zb.getD k 0))))
        have Qo1 : Hid (wr.drew.cell? ⟨w.heap.size, k, none⟩ = some (.int .i64 0)) := Lib.hid (by have h := A1.out.cell hlt; rw [fillF, if_neg (Nat.lt_irrefl k)] at h; exact h)
        have Qf1 := Lib.hid (A1.out.frozen k)
        have D1 := C1.setCell (p := ⟨w.heap.size, k, none⟩) (show w.heap.size ≤ w.heap.size by omega) (.int .i64 (kept (za.getD k 0 + zb.getD k 0)))
        have T1 := Lib.hid ((D1.cell (p := ⟨b, off + k, none⟩) ka).trans (CA.out k hlt))
        have U1 := Lib.hid ((D1.cell (p := ⟨b', off' + k, none⟩) kb).trans (CB.out k hlt))
        rw [HX.out, HY.out] at S1 O1 D1 T1 U1
        go_still_tail 14, (by kernel_rfl)
        still_call (jo_s x y _ x0 x1 y0 y1)
        repeat still_step
        still_call (kept_still ((x + y)) _)
        repeat still_step
        refine wpStill_nil ?_
        change wpList _ _ _ _ _ wr.drew
        have qo1 := Qo1.out
        have qf1 := Qf1.out
        generalize wr.drew = v1 at *
        go_wp2
        generalize v1.setCell ⟨w.heap.size, k, none⟩ (.int .i64 (kept ((x + y)))) = w3 at *
        have q1 := T1.out
        have q2 := U1.out
        have hd2 : Below w3.heap.size w3 w3.drew := (Below.refl _ _).drew
        have A2 := Lib.hid (O1.out.of_block (hd2.block _ O1.out.lt))
        have B2 := Lib.hid (S1.out.of_block (hd2.block _ S1.out.lt))
        have C2 := D1.trans (hd2.mono D1.size)
        have S2 := Lib.hid (fill_step (v := kept (za.getD k 0 - zb.getD k 0)) A2.out rfl)
        have O2 := Lib.hid (World.rowIs.setOther B2.out (a := ⟨(w.heap.size + 1), k, none⟩) (by omega : w.heap.size ≠ (w.heap.size + 1)) (.int .i64 (kept (za.getD k 0 - zb.getD k 0))))
        have Qo2 : Hid (w3.drew.cell? ⟨(w.heap.size + 1), k, none⟩ = some (.int .i64 0)) := Lib.hid (by have h := A2.out.cell hlt; rw [fillF, if_neg (Nat.lt_irrefl k)] at h; exact h)
        have Qf2 := Lib.hid (A2.out.frozen k)
        have D2 := C2.setCell (p := ⟨(w.heap.size + 1), k, none⟩) (show w.heap.size ≤ (w.heap.size + 1) by omega) (.int .i64 (kept (za.getD k 0 - zb.getD k 0)))
        have T2 := Lib.hid ((D2.cell (p := ⟨b, off + k, none⟩) ka).trans (CA.out k hlt))
        have U2 := Lib.hid ((D2.cell (p := ⟨b', off' + k, none⟩) kb).trans (CB.out k hlt))
        rw [HX.out, HY.out] at S2 O2 D2 T2 U2
        go_still_tail 14, (by kernel_rfl)
        still_call (jo_d x y _ x0 x1 y0 y1)
        repeat still_step
        still_call (kept_still ((x - y)) _)
        repeat still_step
        refine wpStill_nil ?_
        change wpList _ _ _ _ _ w3.drew
        have qo2 := Qo2.out
        have qf2 := Qf2.out
        generalize w3.drew = v2 at *
        go_wp2
        go_roundw
        case rel => exact ⟨k + 1, by omega, by go_num, O2, S2, D2⟩
        case measure => simp [intOf]; omega
      · have hend : k = n := by omega
        subst hend
        have hF := fill_end hX.out
        have hG := fill_end hY.out
        clear hX hY
        go_wp2
        go_ret3
        exact ⟨_, _, rfl, ⟨by omega, by omega, by omega⟩, hF, hG, hbel⟩
  · go_wp2
    go_loopw [11, 38] (fun _ i wr => ∃ k : Nat, k ≤ n ∧ i = .int .i64 k ∧ Hid (wr.rowIs (w.heap.size + 1) 3 n (fillF (fun j => kept (za.getD j 0 + zb.getD j 0)) k)) ∧ Hid (wr.rowIs w.heap.size 3 n (fillF (fun j => kept (za.getD j 0 - zb.getD j 0)) k)) ∧ Below w.heap.size w wr) (fun _ i _ => n - (intOf i).toNat)
    case atStart => exact ⟨0, by omega, rfl, R4, R3, hbw⟩
    case round =>
      obtain ⟨k, hk, rfl, hX, hY, hbel⟩ := hrel
      by_cases hlt : k < n
      · have q1 := (hbel.cell (p := ⟨b, off + k, none⟩) ka).trans (CA.out k hlt)
        have q2 := (hbel.cell (p := ⟨b', off' + k, none⟩) kb).trans (CB.out k hlt)
        have xb := HA.out (za.getD k 0) (by simp [LA.out, hlt])
        have yb := HB.out (zb.getD k 0) (by simp [LB.out, hlt])
        obtain ⟨x, hx⟩ : ∃ x, za.getD k 0 = x := ⟨_, rfl⟩
        obtain ⟨y, hy⟩ : ∃ y, zb.getD k 0 = y := ⟨_, rfl⟩
        rw [hx] at q1 xb
        rw [hy] at q2 yb
        obtain ⟨x0, x1⟩ := xb
        obtain ⟨y0, y1⟩ := yb
        have Q1 := Lib.hid q1
        have Q2 := Lib.hid q2
        have HX := Lib.hid hx
        have HY := Lib.hid hy
        clear q1 q2
        clear hx hy
        have hx := HX.out
        have hy := HY.out
        have q1 := Q1.out
        have q2 := Q2.out
        go_wp2
        have hd1 : Below wr.heap.size wr wr.drew := (Below.refl _ _).drew
        have A1 := Lib.hid (hX.out.of_block (hd1.block _ hX.out.lt))
        have B1 := Lib.hid (hY.out.of_block (hd1.block _ hY.out.lt))
        have C1 := hbel.trans (hd1.mono hbel.size)
        have S1 := Lib.hid (fill_step (v := kept (za.getD k 0 + zb.getD k 0)) A1.out rfl)
        have O1 := Lib.hid (World.rowIs.setOther B1.out (a := ⟨(w.heap.size + 1), k, none⟩) (by omega : w.heap.size ≠ (w.heap.size + 1)) (.int .i64 (kept (za.getD k 0 + zb.getD k 0))))
        have Qo1 : Hid (wr.drew.cell? ⟨(w.heap.size + 1), k, none⟩ = some (.int .i64 0)) := Lib.hid (by have h := A1.out.cell hlt; rw [fillF, if_neg (Nat.lt_irrefl k)] at h; exact h)
        have Qf1 := Lib.hid (A1.out.frozen k)
        have D1 := C1.setCell (p := ⟨(w.heap.size + 1), k, none⟩) (show w.heap.size ≤ (w.heap.size + 1) by omega) (.int .i64 (kept (za.getD k 0 + zb.getD k 0)))
        have T1 := Lib.hid ((D1.cell (p := ⟨b, off + k, none⟩) ka).trans (CA.out k hlt))
        have U1 := Lib.hid ((D1.cell (p := ⟨b', off' + k, none⟩) kb).trans (CB.out k hlt))
        rw [HX.out, HY.out] at S1 O1 D1 T1 U1
        go_still_tail 14, (by kernel_rfl)
        still_call (jo_s x y _ x0 x1 y0 y1)
        repeat still_step
        still_call (kept_still ((x + y)) _)
        repeat still_step
        refine wpStill_nil ?_
        change wpList _ _ _ _ _ wr.drew
        have qo1 := Qo1.out
        have qf1 := Qf1.out
        generalize wr.drew = v1 at *
        go_wp2
        generalize v1.setCell ⟨(w.heap.size + 1), k, none⟩ (.int .i64 (kept ((x + y)))) = w3 at *
        have q1 := T1.out
        have q2 := U1.out
        have hd2 : Below w3.heap.size w3 w3.drew := (Below.refl _ _).drew
        have A2 := Lib.hid (O1.out.of_block (hd2.block _ O1.out.lt))
        have B2 := Lib.hid (S1.out.of_block (hd2.block _ S1.out.lt))
        have C2 := D1.trans (hd2.mono D1.size)
        have S2 := Lib.hid (fill_step (v := kept (za.getD k 0 - zb.getD k 0)) A2.out rfl)
        have O2 := Lib.hid (World.rowIs.setOther B2.out (a := ⟨w.heap.size, k, none⟩) (by omega : (w.heap.size + 1) ≠ w.heap.size) (.int .i64 (kept (za.getD k 0 - zb.getD k 0))))
        have Qo2 : Hid (w3.drew.cell? ⟨w.heap.size, k, none⟩ = some (.int .i64 0)) := Lib.hid (by have h := A2.out.cell hlt; rw [fillF, if_neg (Nat.lt_irrefl k)] at h; exact h)
        have Qf2 := Lib.hid (A2.out.frozen k)
        have D2 := C2.setCell (p := ⟨w.heap.size, k, none⟩) (show w.heap.size ≤ w.heap.size by omega) (.int .i64 (kept (za.getD k 0 - zb.getD k 0)))
        have T2 := Lib.hid ((D2.cell (p := ⟨b, off + k, none⟩) ka).trans (CA.out k hlt))
        have U2 := Lib.hid ((D2.cell (p := ⟨b', off' + k, none⟩) kb).trans (CB.out k hlt))
        rw [HX.out, HY.out] at S2 O2 D2 T2 U2
        go_still_tail 14, (by kernel_rfl)
        still_call (jo_d x y _ x0 x1 y0 y1)
        repeat still_step
        still_call (kept_still ((x - y)) _)
        repeat still_step
        refine wpStill_nil ?_
        change wpList _ _ _ _ _ w3.drew
        have qo2 := Qo2.out
        have qf2 := Qf2.out
        generalize w3.drew = v2 at *
        go_wp2
        go_roundw
        case rel => exact ⟨k + 1, by omega, by go_num, O2, S2, D2⟩
        case measure => simp [intOf]; omega
      · have hend : k = n := by omega
        subst hend
        have hF := fill_end hX.out
        have hG := fill_end hY.out
        clear hX hY
        go_wp2
        go_ret3
        exact ⟨_, _, rfl, ⟨by omega, by omega, by omega⟩, hF, hG, hbel⟩

set_option maxRecDepth 100000 in
set_option maxHeartbeats 2000000 in
theorem pair_sp (b off cap b' off' cap' n : Nat) (za zb : List Int) (p : Nat) (w : World) (hn : n ≤ 256) (la : za.length = n) (lb : zb.length = n) (ha : InLine za) (hb : InLine zb)
    (ra : Rd w (.slice (some ⟨b, off, none⟩) n cap) za) (rb : Rd w (.slice (some ⟨b', off', none⟩) n cap') zb) (ka : b < w.heap.size) (kb : b' < w.heap.size)
    (ca : ∀ i, i < n → w.cell? ⟨b, off + i, none⟩ = some (.int .i64 (za.getD i 0))) (cb : ∀ i, i < n → w.cell? ⟨b', off' + i, none⟩ = some (.int .i64 (zb.getD i 0))) (kp : p < w.heap.size) (hp : w.cell? ⟨p, 0, none⟩ = some (.func (.func 11) #[] #[])) :
    Calls Try.prog 13 #[.slice (some ⟨b, off, none⟩) n cap, .slice (some ⟨b', off', none⟩) n cap', .func (.func 14) #[] #[.pointer (some ⟨p, 0, none⟩)], .func (.func 15) #[] #[.pointer (some ⟨p, 0, none⟩)]] w fun e w' => ∃ gx gy, e = .returned (.tuple #[.slice (some ⟨gx, 0, none⟩) n n, .slice (some ⟨gy, 0, none⟩) n n, .int .i64 0]) ∧ (w.heap.size ≤ gx ∧ w.heap.size ≤ gy ∧ gx ≠ gy) ∧ w'.rowIs gx 3 n (fun j => .int .i64 (kept (half (za.getD j 0 + zb.getD j 0)))) ∧ w'.rowIs gy 3 n (fun j => .int .i64 (kept (half (za.getD j 0 - zb.getD j 0)))) ∧ Below w.heap.size w w' := by
  obtain ⟨i0, hi, hz0, hz1, hz2⟩ := info_parts info3
  have HA := Lib.hid ha
  have HB := Lib.hid hb
  have LA := Lib.hid la
  have LB := Lib.hid lb
  have RA := Lib.hid ra
  have RB := Lib.hid rb
  have CA := Lib.hid ca
  have CB := Lib.hid cb
  have HP := Lib.hid hp
  clear hp
  clear ha hb ra rb ca cb la lb
  have hmk := fun W => run_make_row (P := Try.prog) 22 3 i0 (.int .i64 0) Try.underlying22 hi hz0 hz1 rfl .i64 .i64 n (by rw [hz2]; omega) (by omega) W
  obtain ⟨r1, r2, hbw⟩ := two_rows w n (fun j => kept (half (za.getD j 0 + zb.getD j 0))) (fun j => kept (half (za.getD j 0 - zb.getD j 0)))
  obtain ⟨r3, r4, _⟩ := two_rows w n (fun j => kept (half (za.getD j 0 - zb.getD j 0))) (fun j => kept (half (za.getD j 0 + zb.getD j 0)))
  have R1 := Lib.hid r1
  have R2 := Lib.hid r2
  have R3 := Lib.hid r3
  have R4 := Lib.hid r4
  clear r1 r2 r3 r4
  go_enter Try.func13, Try.ntmps13
  go_wp2_with (first
    | (go_at_call 21; ((with_reducible refine (mlines_yes _ za _ HA.out RA.out).mono ?_); rintro e w1 ⟨rfl, rfl⟩))
    | (go_at_call 21; ((with_reducible refine (mlines_yes _ zb _ HB.out RB.out).mono ?_); rintro e w1 ⟨rfl, rfl⟩)))
  go_region
  all_goals
    generalize ((w.alloc (.cells (madeCells #[.int .i64 0] n) 3)).alloc (.cells (madeCells #[.int .i64 0] n) 3)).drew = w0 at *
  · go_wp2
    go_loopw [11, 38] (fun _ i wr => ∃ k : Nat, k ≤ n ∧ i = .int .i64 k ∧ Hid (wr.rowIs w.heap.size 3 n (fillF (fun j => kept (half (za.getD j 0 + zb.getD j 0))) k)) ∧ Hid (wr.rowIs (w.heap.size + 1) 3 n (fillF (fun j => kept (half (za.getD j 0 - zb.getD j 0))) k)) ∧ Below w.heap.size w wr) (fun _ i _ => n - (intOf i).toNat)
    case atStart => exact ⟨0, by omega, rfl, R1, R2, hbw⟩
    case round =>
      obtain ⟨k, hk, rfl, hX, hY, hbel⟩ := hrel
      by_cases hlt : k < n
      · have q1 := (hbel.cell (p := ⟨b, off + k, none⟩) ka).trans (CA.out k hlt)
        have q2 := (hbel.cell (p := ⟨b', off' + k, none⟩) kb).trans (CB.out k hlt)
        have xb := HA.out (za.getD k 0) (by simp [LA.out, hlt])
        have yb := HB.out (zb.getD k 0) (by simp [LB.out, hlt])
        obtain ⟨x, hx⟩ : ∃ x, za.getD k 0 = x := ⟨_, rfl⟩
        obtain ⟨y, hy⟩ : ∃ y, zb.getD k 0 = y := ⟨_, rfl⟩
        rw [hx] at q1 xb
        rw [hy] at q2 yb
        obtain ⟨x0, x1⟩ := xb
        obtain ⟨y0, y1⟩ := yb
        have Q1 := Lib.hid q1
        have Q2 := Lib.hid q2
        have HX := Lib.hid hx
        have HY := Lib.hid hy
        clear q1 q2
        clear hx hy
        have hx := HX.out
        have hy := HY.out
        have q1 := Q1.out
        have q2 := Q2.out
        go_wp2
        have hd1 : Below wr.heap.size wr wr.drew := (Below.refl _ _).drew
        have A1 := Lib.hid (hX.out.of_block (hd1.block _ hX.out.lt))
        have B1 := Lib.hid (hY.out.of_block (hd1.block _ hY.out.lt))
        have C1 := hbel.trans (hd1.mono hbel.size)
        have S1 := Lib.hid (fill_step (v := kept (half (za.getD k 0 + zb.getD k 0))) A1.out rfl)
        have O1 := Lib.hid (World.rowIs.setOther B1.out (a := ⟨w.heap.size, k, none⟩) (by omega : (w.heap.size + 1) ≠ w.heap.size) (.int .i64 (kept (half (za.getD k 0 + zb.getD k 0)))))
        have Qo1 : Hid (wr.drew.cell? ⟨w.heap.size, k, none⟩ = some (.int .i64 0)) := Lib.hid (by have h := A1.out.cell hlt; rw [fillF, if_neg (Nat.lt_irrefl k)] at h; exact h)
        have Qf1 := Lib.hid (A1.out.frozen k)
        have D1 := C1.setCell (p := ⟨w.heap.size, k, none⟩) (show w.heap.size ≤ w.heap.size by omega) (.int .i64 (kept (half (za.getD k 0 + zb.getD k 0))))
        have T1 := Lib.hid ((D1.cell (p := ⟨b, off + k, none⟩) ka).trans (CA.out k hlt))
        have U1 := Lib.hid ((D1.cell (p := ⟨b', off' + k, none⟩) kb).trans (CB.out k hlt))
        rw [HX.out, HY.out] at S1 O1 D1 T1 U1
        go_still_tail 14, (by kernel_rfl)
        still_call (sp_s x y p _ x0 x1 y0 y1 (((C1.cell (p := ⟨p, 0, none⟩) kp)).trans HP.out))
        repeat still_step
        still_call (kept_still (half (x + y)) _)
        repeat still_step
        refine wpStill_nil ?_
        change wpList _ _ _ _ _ wr.drew
        have qo1 := Qo1.out
        have qf1 := Qf1.out
        generalize wr.drew = v1 at *
        go_wp2
        generalize v1.setCell ⟨w.heap.size, k, none⟩ (.int .i64 (kept (half (x + y)))) = w3 at *
        have q1 := T1.out
        have q2 := U1.out
        have hd2 : Below w3.heap.size w3 w3.drew := (Below.refl _ _).drew
        have A2 := Lib.hid (O1.out.of_block (hd2.block _ O1.out.lt))
        have B2 := Lib.hid (S1.out.of_block (hd2.block _ S1.out.lt))
        have C2 := D1.trans (hd2.mono D1.size)
        have S2 := Lib.hid (fill_step (v := kept (half (za.getD k 0 - zb.getD k 0))) A2.out rfl)
        have O2 := Lib.hid (World.rowIs.setOther B2.out (a := ⟨(w.heap.size + 1), k, none⟩) (by omega : w.heap.size ≠ (w.heap.size + 1)) (.int .i64 (kept (half (za.getD k 0 - zb.getD k 0)))))
        have Qo2 : Hid (w3.drew.cell? ⟨(w.heap.size + 1), k, none⟩ = some (.int .i64 0)) := Lib.hid (by have h := A2.out.cell hlt; rw [fillF, if_neg (Nat.lt_irrefl k)] at h; exact h)
        have Qf2 := Lib.hid (A2.out.frozen k)
        have D2 := C2.setCell (p := ⟨(w.heap.size + 1), k, none⟩) (show w.heap.size ≤ (w.heap.size + 1) by omega) (.int .i64 (kept (half (za.getD k 0 - zb.getD k 0))))
        have T2 := Lib.hid ((D2.cell (p := ⟨b, off + k, none⟩) ka).trans (CA.out k hlt))
        have U2 := Lib.hid ((D2.cell (p := ⟨b', off' + k, none⟩) kb).trans (CB.out k hlt))
        rw [HX.out, HY.out] at S2 O2 D2 T2 U2
        go_still_tail 14, (by kernel_rfl)
        still_call (sp_d x y p _ x0 x1 y0 y1 (((C2.cell (p := ⟨p, 0, none⟩) kp)).trans HP.out))
        repeat still_step
        still_call (kept_still (half (x - y)) _)
        repeat still_step
        refine wpStill_nil ?_
        change wpList _ _ _ _ _ w3.drew
        have qo2 := Qo2.out
        have qf2 := Qf2.out
        generalize w3.drew = v2 at *
        go_wp2
        go_roundw
        case rel => exact ⟨k + 1, by omega, by go_num, O2, S2, D2⟩
        case measure => simp [intOf]; omega
      · have hend : k = n := by omega
        subst hend
        have hF := fill_end hX.out
        have hG := fill_end hY.out
        clear hX hY
        go_wp2
        go_ret3
        exact ⟨_, _, rfl, ⟨by omega, by omega, by omega⟩, hF, hG, hbel⟩
  · go_wp2
    go_loopw [11, 38] (fun _ i wr => ∃ k : Nat, k ≤ n ∧ i = .int .i64 k ∧ Hid (wr.rowIs (w.heap.size + 1) 3 n (fillF (fun j => kept (half (za.getD j 0 + zb.getD j 0))) k)) ∧ Hid (wr.rowIs w.heap.size 3 n (fillF (fun j => kept (half (za.getD j 0 - zb.getD j 0))) k)) ∧ Below w.heap.size w wr) (fun _ i _ => n - (intOf i).toNat)
    case atStart => exact ⟨0, by omega, rfl, R4, R3, hbw⟩
    case round =>
      obtain ⟨k, hk, rfl, hX, hY, hbel⟩ := hrel
      by_cases hlt : k < n
      · have q1 := (hbel.cell (p := ⟨b, off + k, none⟩) ka).trans (CA.out k hlt)
        have q2 := (hbel.cell (p := ⟨b', off' + k, none⟩) kb).trans (CB.out k hlt)
        have xb := HA.out (za.getD k 0) (by simp [LA.out, hlt])
        have yb := HB.out (zb.getD k 0) (by simp [LB.out, hlt])
        obtain ⟨x, hx⟩ : ∃ x, za.getD k 0 = x := ⟨_, rfl⟩
        obtain ⟨y, hy⟩ : ∃ y, zb.getD k 0 = y := ⟨_, rfl⟩
        rw [hx] at q1 xb
        rw [hy] at q2 yb
        obtain ⟨x0, x1⟩ := xb
        obtain ⟨y0, y1⟩ := yb
        have Q1 := Lib.hid q1
        have Q2 := Lib.hid q2
        have HX := Lib.hid hx
        have HY := Lib.hid hy
        clear q1 q2
        clear hx hy
        have hx := HX.out
        have hy := HY.out
        have q1 := Q1.out
        have q2 := Q2.out
        go_wp2
        have hd1 : Below wr.heap.size wr wr.drew := (Below.refl _ _).drew
        have A1 := Lib.hid (hX.out.of_block (hd1.block _ hX.out.lt))
        have B1 := Lib.hid (hY.out.of_block (hd1.block _ hY.out.lt))
        have C1 := hbel.trans (hd1.mono hbel.size)
        have S1 := Lib.hid (fill_step (v := kept (half (za.getD k 0 + zb.getD k 0))) A1.out rfl)
        have O1 := Lib.hid (World.rowIs.setOther B1.out (a := ⟨(w.heap.size + 1), k, none⟩) (by omega : w.heap.size ≠ (w.heap.size + 1)) (.int .i64 (kept (half (za.getD k 0 + zb.getD k 0)))))
        have Qo1 : Hid (wr.drew.cell? ⟨(w.heap.size + 1), k, none⟩ = some (.int .i64 0)) := Lib.hid (by have h := A1.out.cell hlt; rw [fillF, if_neg (Nat.lt_irrefl k)] at h; exact h)
        have Qf1 := Lib.hid (A1.out.frozen k)
        have D1 := C1.setCell (p := ⟨(w.heap.size + 1), k, none⟩) (show w.heap.size ≤ (w.heap.size + 1) by omega) (.int .i64 (kept (half (za.getD k 0 + zb.getD k 0))))
        have T1 := Lib.hid ((D1.cell (p := ⟨b, off + k, none⟩) ka).trans (CA.out k hlt))
        have U1 := Lib.hid ((D1.cell (p := ⟨b', off' + k, none⟩) kb).trans (CB.out k hlt))
        rw [HX.out, HY.out] at S1 O1 D1 T1 U1
        go_still_tail 14, (by kernel_rfl)
        still_call (sp_s x y p _ x0 x1 y0 y1 (((C1.cell (p := ⟨p, 0, none⟩) kp)).trans HP.out))
        repeat still_step
        still_call (kept_still (half (x + y)) _)
        repeat still_step
        refine wpStill_nil ?_
        change wpList _ _ _ _ _ wr.drew
        have qo1 := Qo1.out
        have qf1 := Qf1.out
        generalize wr.drew = v1 at *
        go_wp2
        generalize v1.setCell ⟨(w.heap.size + 1), k, none⟩ (.int .i64 (kept (half (x + y)))) = w3 at *
        have q1 := T1.out
        have q2 := U1.out
        have hd2 : Below w3.heap.size w3 w3.drew := (Below.refl _ _).drew
        have A2 := Lib.hid (O1.out.of_block (hd2.block _ O1.out.lt))
        have B2 := Lib.hid (S1.out.of_block (hd2.block _ S1.out.lt))
        have C2 := D1.trans (hd2.mono D1.size)
        have S2 := Lib.hid (fill_step (v := kept (half (za.getD k 0 - zb.getD k 0))) A2.out rfl)
        have O2 := Lib.hid (World.rowIs.setOther B2.out (a := ⟨w.heap.size, k, none⟩) (by omega : (w.heap.size + 1) ≠ w.heap.size) (.int .i64 (kept (half (za.getD k 0 - zb.getD k 0)))))
        have Qo2 : Hid (w3.drew.cell? ⟨w.heap.size, k, none⟩ = some (.int .i64 0)) := Lib.hid (by have h := A2.out.cell hlt; rw [fillF, if_neg (Nat.lt_irrefl k)] at h; exact h)
        have Qf2 := Lib.hid (A2.out.frozen k)
        have D2 := C2.setCell (p := ⟨w.heap.size, k, none⟩) (show w.heap.size ≤ w.heap.size by omega) (.int .i64 (kept (half (za.getD k 0 - zb.getD k 0))))
        have T2 := Lib.hid ((D2.cell (p := ⟨b, off + k, none⟩) ka).trans (CA.out k hlt))
        have U2 := Lib.hid ((D2.cell (p := ⟨b', off' + k, none⟩) kb).trans (CB.out k hlt))
        rw [HX.out, HY.out] at S2 O2 D2 T2 U2
        go_still_tail 14, (by kernel_rfl)
        still_call (sp_d x y p _ x0 x1 y0 y1 (((C2.cell (p := ⟨p, 0, none⟩) kp)).trans HP.out))
        repeat still_step
        still_call (kept_still (half (x - y)) _)
        repeat still_step
        refine wpStill_nil ?_
        change wpList _ _ _ _ _ w3.drew
        have qo2 := Qo2.out
        have qf2 := Qf2.out
        generalize w3.drew = v2 at *
        go_wp2
        go_roundw
        case rel => exact ⟨k + 1, by omega, by go_num, O2, S2, D2⟩
        case measure => simp [intOf]; omega
      · have hend : k = n := by omega
        subst hend
        have hF := fill_end hX.out
        have hG := fill_end hY.out
        clear hX hY
        go_wp2
        go_ret3
        exact ⟨_, _, rfl, ⟨by omega, by omega, by omega⟩, hF, hG, hbel⟩

theorem pair_zero (a a' : Option Addr) (cap cap' : Nat) (f g : Value) (w : World) (FX FY : Nat → Int) :
    Calls Try.prog 13 #[.slice a 0 cap, .slice a' 0 cap', f, g] w fun e w' => ∃ gx gy, e = .returned (.tuple #[.slice (some ⟨gx, 0, none⟩) 0 0, .slice (some ⟨gy, 0, none⟩) 0 0, .int .i64 0]) ∧ (w.heap.size ≤ gx ∧ w.heap.size ≤ gy ∧ gx ≠ gy) ∧ w'.rowIs gx 3 0 (fun j => .int .i64 (FX j)) ∧ w'.rowIs gy 3 0 (fun j => .int .i64 (FY j)) ∧ Below w.heap.size w w' := by
  obtain ⟨i0, hi, hz0, hz1, hz2⟩ := info_parts info3
  have hmk := fun W => run_make_row (P := Try.prog) 22 3 i0 (.int .i64 0) Try.underlying22 hi hz0 hz1 rfl .i64 .i64 0 (by omega) (by omega) W
  simp only [Int.natCast_zero] at hmk
  obtain ⟨r1, r2, hbw⟩ := two_rows w 0 FX FY
  obtain ⟨r3, r4, _⟩ := two_rows w 0 FY FX
  have R1 := Lib.hid (fill_end r1)
  have R2 := Lib.hid (fill_end r2)
  have R3 := Lib.hid (fill_end r3)
  have R4 := Lib.hid (fill_end r4)
  have ra : ∀ w, Rd w (.slice a 0 cap) [] := fun w => .inl ⟨_, _, rfl, rfl⟩
  have rb : ∀ w, Rd w (.slice a' 0 cap') [] := fun w => .inl ⟨_, _, rfl, rfl⟩
  have RA := Lib.hid ra
  have RB := Lib.hid rb
  have HI : Hid (InLine []) := Lib.hid (fun z h => by cases h)
  clear r1 r2 r3 r4 ra rb
  go_enter Try.func13, Try.ntmps13
  go_wp2_with (first
    | (go_at_call 21; ((with_reducible refine (mlines_yes _ [] _ HI.out (RA.out _)).mono ?_); rintro e w1 ⟨rfl, rfl⟩))
    | (go_at_call 21; ((with_reducible refine (mlines_yes _ [] _ HI.out (RB.out _)).mono ?_); rintro e w1 ⟨rfl, rfl⟩)))
  go_region
  all_goals
    generalize ((w.alloc (.cells (madeCells #[.int .i64 0] 0) 3)).alloc (.cells (madeCells #[.int .i64 0] 0) 3)).drew = w0 at *
    go_wp2
    go_loopw [11, 38] (fun _ i wr => i = .int .i64 0 ∧ wr = w0) (fun _ i _ => 0)
    case atStart => exact ⟨rfl, rfl⟩
    case round =>
      obtain ⟨rfl, rfl⟩ := hrel
      go_wp2
      go_ret3
      first
        | exact ⟨_, _, rfl, ⟨by omega, by omega, by omega⟩, R1.out, R2.out, hbw⟩
        | exact ⟨_, _, rfl, ⟨by omega, by omega, by omega⟩, R4.out, R3.out, hbw⟩
theorem pair_many (a a' : Option Addr) (n n' cap cap' : Nat) (f g : Value) (w : World) (m0 : n ≤ 1000) (m1 : n' ≤ 1000) (h : n ≠ n' ∨ 256 < n) :
    Calls Try.prog 13 #[.slice a n cap, .slice a' n' cap', f, g] w fun e w' => e = .returned (.tuple #[.slice none 0 0, .slice none 0 0, .int .i64 4]) ∧ w = w' := by
  by_cases h1 : n = n'
  · subst h1
    have h2 : 256 < n := by omega
    clear h
    go_enter Try.func13, Try.ntmps13
    go_wp2
    go_ret3
    exact ⟨rfl, rfl⟩
  · have e1 : ((n : Int) != (n' : Int)) = true := by simp; omega
    clear h h1
    go_enter Try.func13, Try.ntmps13
    go_wp2
    go_ret3
    exact ⟨rfl, rfl⟩
theorem pair_arg (a a' : Option Addr) (n cap cap' : Nat) (za zb : List Int) (f g : Value) (w : World) (m0 : n ≤ 256) (ra : Rd w (.slice a n cap) za) (rb : Rd w (.slice a' n cap') zb) (h : Bad za 0 ∨ (InLine za ∧ Bad zb 0)) :
    Calls Try.prog 13 #[.slice a n cap, .slice a' n cap', f, g] w fun e w' => e = .returned (.tuple #[.slice none 0 0, .slice none 0 0, .int .i64 2]) ∧ w = w' := by
  have RA := Lib.hid ra
  have RB := Lib.hid rb
  clear ra rb
  rcases h with h | ⟨h, h'⟩
  · have H1 := Lib.hid h
    clear h
    go_enter Try.func13, Try.ntmps13
    go_wp2_with (go_at_call 21; ((with_reducible refine (mlines_no _ za _ H1.out RA.out).mono ?_); rintro e w1 ⟨rfl, rfl⟩))
    go_ret3
    exact ⟨rfl, rfl⟩
  · have H1 := Lib.hid h
    have H2 := Lib.hid h'
    clear h h'
    go_enter Try.func13, Try.ntmps13
    go_wp2_with (first
      | (go_at_call 21; ((with_reducible refine (mlines_yes _ za _ H1.out RA.out).mono ?_); rintro e w1 ⟨rfl, rfl⟩))
      | (go_at_call 21; ((with_reducible refine (mlines_no _ zb _ H2.out RB.out).mono ?_); rintro e w1 ⟨rfl, rfl⟩)))
    go_ret3
    exact ⟨rfl, rfl⟩
end Go.Proofs.Ytbblbahllaindaa.Md

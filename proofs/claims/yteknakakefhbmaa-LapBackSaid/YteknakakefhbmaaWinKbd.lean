import Derived.Test.YteknakakefhbmaaWinCon
import Derived.Test.YteknakakefhbmaaRootCon
import Derived.RangeFuncBox
import Derived.WalkKit
import Derived.RegionTactic
import Derived.ChangeAlike
import Derived.Deep.OwnRows
import Derived.ProofKit
import Derived.OpenShut
import Derived.Lib.Hide
namespace Go.Proofs.Yteknakakefhbmaa.Fx
open Go Go.ChangeShapes Go.WideShapes Go.ChangeAt Go.RowKit


theorem other_cell {w : World} {a b i : Nat} (v : Value) (h : a ≠ b) : (w.setCell ⟨a, i, none⟩ v).heap[b]? = w.heap[b]? := by
  simp only [World.setCell]
  show (w.heap.modify a _)[b]? = w.heap[b]?
  rw [Array.getElem?_modify, if_neg h]

theorem sum_bd_kl {k : Nat} (h : k ≤ 256) : sum_kl.getD k 0 ≤ 47853594575 := by
  by_cases e : k = 256
  · subst e; rw [top_kl]; exact Nat.le_refl _
  · exact (vals_at sum_kl win_kl k vals_kl (by rw [len_kl]; omega)).2.1
set_option maxRecDepth 100000 in
set_option maxHeartbeats 4000000 in
theorem kbd_l (w : World) :
    Calls Try.prog 82 #[.bool false] w fun e w' => ∃ g, e = .returned (.slice (some ⟨g, 0, none⟩) 256 256) ∧ w.heap.size ≤ g ∧ w'.rowIs g 3 256 (fun j => .int .i64 (win_kl.getD j 0 : Nat)) ∧ Below w.heap.size w w' := by
  obtain ⟨i0, hi, hz0, hz1, hz2⟩ := info_parts info3
  have hrow := Lib.hid (fill_made w 257 (fun j => (sum_kl.getD j 0 : Nat)))
  have hbm : Below w.heap.size w (w.alloc (.cells (madeCells #[.int .i64 0] 257) 3)) := (Below.refl _ _).alloc (Nat.le_refl _) _
  go_enter Try.func82, Try.ntmps82
  go_wp2_with (refine wpList_make_row _ rfl _ _ 22 rfl 3 i0 (.int .i64 0) Try.underlying22 hi hz0 hz1 rfl .i64 .i64 257 rfl rfl (by rw [hz2]; omega) (by omega) ?_)
  go_loopw [6, 16] (fun s i wr => ∃ k : Nat, k ≤ 257 ∧ s = .int .i64 ((0 :: sum_kl).getD k 0 : Nat) ∧ i = .int .i64 k ∧ Hid (wr.rowIs w.heap.size 3 257 (fillF (fun j => (sum_kl.getD j 0 : Nat)) k)) ∧ Below w.heap.size w wr) (fun _ i _ => 257 - (intOf i).toNat)
  case atStart => exact ⟨0, by omega, rfl, rfl, hrow, hbm⟩
  case round =>
    obtain ⟨k, hk, rfl, rfl, hR, hbel⟩ := hrel
    by_cases hlt : k < 257
    · have hg := hR.out.lt
      obtain ⟨h1, h2⟩ := sums_at sum_kl 0 0 k sums_kl (by rw [len_sum_kl]; exact hlt)
      have hP := Lib.hid (show (0 :: sum_kl).getD (k + 1) 0 = sum_kl.getD k 0 from rfl)
      have hSb := sum_bd_kl (k := k) (by omega)
      have hsd := Lib.hid (show sum_kl.getD k 0 = sum_kl.getD k 0 from rfl)
      rw [Nat.zero_add] at h1 h2
      obtain ⟨U, hU⟩ : ∃ U, uF 256 678231308304 4294967296 k = U := ⟨_, rfl⟩
      have hu : 678231308304 * (k : Int) * (256 - (k : Int)) / 4294967296 = (U : Int) := uF_at (m := 256) (c := 678231308304) (d := 4294967296) hU (show k ≤ 256 by omega)
      have pp : 0 ≤ 678231308304 * (k : Int) * (256 - (k : Int)) ∧ 678231308304 * (k : Int) * (256 - (k : Int)) ≤ 4611686018427387904 := uF_bd (m := 256) (c := 678231308304) (k := k) (M := 4611686018427387904) (show k ≤ 256 by omega) (by decide)
      obtain ⟨p1, p2⟩ := pp
      rw [hU] at h1 h2
      obtain ⟨X, hX⟩ : ∃ X, besS U 63 = X := ⟨_, rfl⟩
      rw [hX] at h1
      generalize (0 :: sum_kl).getD k 0 = P at *
      obtain ⟨Sk, hSk⟩ : ∃ x, sum_kl.getD k 0 = x := ⟨_, rfl⟩
      have hbes := Lib.hid (bessel_ok U X)
      have hbs : Hid (∀ w, Calls Try.prog 92 #[.int .i64 U] w fun e w' => e = .returned (.int .i64 X) ∧ w = w') := Lib.hid (fun w => bessel_ok U X w h2 hX (by omega) (fun j hj => by rw [← hX]; exact besS_le U hj))
      have hP2 := Lib.hid (hP.out.trans hSk)
      have hv : Hid ((P : Int) + X = (sum_kl.getD k 0 : Nat)) := Lib.hid (by rw [← h1]; rw [Int.natCast_add])
      have hsum : (P : Int) + X ≤ 4611686018427387904 := by rw [hv.out]; omega
      have qo := hR.out.cell hlt
      rw [fillF, if_neg (Nat.lt_irrefl k)] at qo
      have qf := hR.out.frozen k
      clear h1 h2 hbes hP hU hX hSb hSk hsd
      go_wp2_with (go_at_call 92; ((with_reducible refine (hbs.out _).mono ?_); rintro e w1 ⟨rfl, rfl⟩))
      go_roundw
      case rel => exact ⟨k + 1, by omega, by rw [show (0 :: sum_kl).getD (k + 1) 0 = sum_kl.getD k 0 from rfl, ← hv.out], by go_num, Lib.hid (fill_step hR.out hv.out), hbel.setCell (p := ⟨w.heap.size, k, none⟩) (Nat.le_refl _) _⟩
      case measure => simp [intOf]; omega
    · have hend : k = 257 := by omega
      subst hend
      have hF := Lib.hid (fill_end hR.out)
      clear hR hrow hbm
      rw [show (0 :: sum_kl).getD 257 0 = 47853594575 from top_kl]
      have hrow2 := Lib.hid (fill_made wr 256 (fun j => (win_kl.getD j 0 : Nat)))
      have hbm2 : Hid (Below w.heap.size w (wr.alloc (.cells (madeCells #[.int .i64 0] 256) 3))) := Lib.hid (hbel.alloc hbel.size _)
      have hF2 := Lib.hid (hF.out.of_block (((Below.refl wr.heap.size wr).alloc (Nat.le_refl _) (.cells (madeCells #[.int .i64 0] 256) 3)).block _ hF.out.lt))
      have hgw : w.heap.size < wr.heap.size := hF.out.lt
      clear hF
      go_wp2_with (refine wpList_make_row _ rfl _ _ 22 rfl 3 i0 (.int .i64 0) Try.underlying22 hi hz0 hz1 rfl .i64 .i64 256 rfl rfl (by rw [hz2]; omega) (by omega) ?_)
      go_loopw [46] (fun i wq => ∃ k : Nat, k ≤ 256 ∧ i = .int .i64 k ∧ Hid (wq.rowIs wr.heap.size 3 256 (fillF (fun j => (win_kl.getD j 0 : Nat)) k)) ∧ Hid (wq.rowIs w.heap.size 3 257 (fun j => .int .i64 (sum_kl.getD j 0 : Nat))) ∧ Hid (Below w.heap.size w wq)) (fun i _ => 256 - (intOf i).toNat)
      case atStart => exact ⟨0, by omega, rfl, hrow2, hF2, hbm2⟩
      case round =>
        obtain ⟨k, hk, rfl, hR, hT, hbel2⟩ := hrel
        by_cases hlt : k < 256
        · have hg := hR.out.lt
          have hg2 := hT.out.lt
          obtain ⟨v1, v2, v3⟩ := vals_at sum_kl win_kl k vals_kl (by rw [len_kl]; exact hlt)
          have hV1 := Lib.hid v1
          clear v1
          have c1 := hT.out.cell (i := k) (by omega)
          generalize sum_kl.getD k 0 = s at v2 v3 hV1 c1
          have hpt : Hid (∀ w, Calls Try.prog 94 #[.int .i64 s, .int .i64 47853594575] w fun e w' => e = .returned (.int .i64 (partGo 47853594575 44 s 0)) ∧ Below w.heap.size w w') := Lib.hid (fun w => part_ok s 47853594575 w v2 (by decide))
          generalize partGo 47853594575 44 s 0 = p at v3 hV1 hpt
          go_wp2_with (first
            | (go_at_call 94; ((with_reducible refine (hpt.out _).mono ?_); rintro e w1 ⟨rfl, hb1⟩; have hR5 := Lib.hid (hR.out.of_block (hb1.block _ hg)); have hT5 := Lib.hid (hT.out.of_block (hb1.block _ hg2)); have qo := hR5.out.cell hlt; rw [fillF, if_neg (Nat.lt_irrefl k)] at qo; have qf := hR5.out.frozen k; have hbw := Lib.hid (belowT hbel2.out hb1)))
            | (go_at_call 93; ((with_reducible refine (sqrt_in p _ (by omega) (by omega)).mono ?_); rintro e w2 ⟨r, hr, rfl, rfl⟩; have hr' := Lib.hid (sqrt_one hr hV1.out); clear hr)))
          go_roundw
          case rel => exact ⟨k + 1, by omega, by go_num, Lib.hid (fill_step hR5.out hr'.out), Lib.hid (hT5.out.of_block (other_cell _ (by omega))), Lib.hid (hbw.out.setCell (p := ⟨_, k, none⟩) (Nat.le_of_lt hgw) _)⟩
          case measure => simp [intOf]; omega
        · have hend : k = 256 := by omega
          subst hend
          have hF := fill_end hR.out
          have hb := hbel2.out
          clear hR hT hbel2
          go_wp2
          go_ret
          exact ⟨_, rfl, by omega, hF, hb⟩

theorem sum_bd_ks {k : Nat} (h : k ≤ 32) : sum_ks.getD k 0 ≤ 2135407864823 := by
  by_cases e : k = 32
  · subst e; rw [top_ks]; exact Nat.le_refl _
  · exact (vals_at sum_ks win_ks k vals_ks (by rw [len_ks]; omega)).2.1
set_option maxRecDepth 100000 in
set_option maxHeartbeats 4000000 in
theorem kbd_s (w : World) :
    Calls Try.prog 82 #[.bool true] w fun e w' => ∃ g, e = .returned (.slice (some ⟨g, 0, none⟩) 32 32) ∧ w.heap.size ≤ g ∧ w'.rowIs g 3 32 (fun j => .int .i64 (win_ks.getD j 0 : Nat)) ∧ Below w.heap.size w w' := by
  obtain ⟨i0, hi, hz0, hz1, hz2⟩ := info_parts info3
  have hrow := Lib.hid (fill_made w 33 (fun j => (sum_ks.getD j 0 : Nat)))
  have hbm : Below w.heap.size w (w.alloc (.cells (madeCells #[.int .i64 0] 33) 3)) := (Below.refl _ _).alloc (Nat.le_refl _) _
  go_enter Try.func82, Try.ntmps82
  go_wp2_with (refine wpList_make_row _ rfl _ _ 22 rfl 3 i0 (.int .i64 0) Try.underlying22 hi hz0 hz1 rfl .i64 .i64 33 rfl rfl (by rw [hz2]; omega) (by omega) ?_)
  go_loopw [6, 16] (fun s i wr => ∃ k : Nat, k ≤ 33 ∧ s = .int .i64 ((0 :: sum_ks).getD k 0 : Nat) ∧ i = .int .i64 k ∧ Hid (wr.rowIs w.heap.size 3 33 (fillF (fun j => (sum_ks.getD j 0 : Nat)) k)) ∧ Below w.heap.size w wr) (fun _ i _ => 33 - (intOf i).toNat)
  case atStart => exact ⟨0, by omega, rfl, rfl, hrow, hbm⟩
  case round =>
    obtain ⟨k, hk, rfl, rfl, hR, hbel⟩ := hrel
    by_cases hlt : k < 33
    · have hg := hR.out.lt
      obtain ⟨h1, h2⟩ := sums_at sum_ks 0 0 k sums_ks (by rw [len_sum_ks]; exact hlt)
      have hP := Lib.hid (show (0 :: sum_ks).getD (k + 1) 0 = sum_ks.getD k 0 from rfl)
      have hSb := sum_bd_ks (k := k) (by omega)
      have hsd := Lib.hid (show sum_ks.getD k 0 = sum_ks.getD k 0 from rfl)
      rw [Nat.zero_add] at h1 h2
      obtain ⟨U, hU⟩ : ∃ U, uF 32 1526020443684 67108864 k = U := ⟨_, rfl⟩
      have hu : 1526020443684 * (k : Int) * (32 - (k : Int)) / 67108864 = (U : Int) := uF_at (m := 32) (c := 1526020443684) (d := 67108864) hU (show k ≤ 32 by omega)
      have pp : 0 ≤ 1526020443684 * (k : Int) * (32 - (k : Int)) ∧ 1526020443684 * (k : Int) * (32 - (k : Int)) ≤ 4611686018427387904 := uF_bd (m := 32) (c := 1526020443684) (k := k) (M := 4611686018427387904) (show k ≤ 32 by omega) (by decide)
      obtain ⟨p1, p2⟩ := pp
      rw [hU] at h1 h2
      obtain ⟨X, hX⟩ : ∃ X, besS U 63 = X := ⟨_, rfl⟩
      rw [hX] at h1
      generalize (0 :: sum_ks).getD k 0 = P at *
      obtain ⟨Sk, hSk⟩ : ∃ x, sum_ks.getD k 0 = x := ⟨_, rfl⟩
      have hbes := Lib.hid (bessel_ok U X)
      have hbs : Hid (∀ w, Calls Try.prog 92 #[.int .i64 U] w fun e w' => e = .returned (.int .i64 X) ∧ w = w') := Lib.hid (fun w => bessel_ok U X w h2 hX (by omega) (fun j hj => by rw [← hX]; exact besS_le U hj))
      have hP2 := Lib.hid (hP.out.trans hSk)
      have hv : Hid ((P : Int) + X = (sum_ks.getD k 0 : Nat)) := Lib.hid (by rw [← h1]; rw [Int.natCast_add])
      have hsum : (P : Int) + X ≤ 4611686018427387904 := by rw [hv.out]; omega
      have qo := hR.out.cell hlt
      rw [fillF, if_neg (Nat.lt_irrefl k)] at qo
      have qf := hR.out.frozen k
      clear h1 h2 hbes hP hU hX hSb hSk hsd
      go_wp2_with (go_at_call 92; ((with_reducible refine (hbs.out _).mono ?_); rintro e w1 ⟨rfl, rfl⟩))
      go_roundw
      case rel => exact ⟨k + 1, by omega, by rw [show (0 :: sum_ks).getD (k + 1) 0 = sum_ks.getD k 0 from rfl, ← hv.out], by go_num, Lib.hid (fill_step hR.out hv.out), hbel.setCell (p := ⟨w.heap.size, k, none⟩) (Nat.le_refl _) _⟩
      case measure => simp [intOf]; omega
    · have hend : k = 33 := by omega
      subst hend
      have hF := Lib.hid (fill_end hR.out)
      clear hR hrow hbm
      rw [show (0 :: sum_ks).getD 33 0 = 2135407864823 from top_ks]
      have hrow2 := Lib.hid (fill_made wr 32 (fun j => (win_ks.getD j 0 : Nat)))
      have hbm2 : Hid (Below w.heap.size w (wr.alloc (.cells (madeCells #[.int .i64 0] 32) 3))) := Lib.hid (hbel.alloc hbel.size _)
      have hF2 := Lib.hid (hF.out.of_block (((Below.refl wr.heap.size wr).alloc (Nat.le_refl _) (.cells (madeCells #[.int .i64 0] 32) 3)).block _ hF.out.lt))
      have hgw : w.heap.size < wr.heap.size := hF.out.lt
      clear hF
      go_wp2_with (refine wpList_make_row _ rfl _ _ 22 rfl 3 i0 (.int .i64 0) Try.underlying22 hi hz0 hz1 rfl .i64 .i64 32 rfl rfl (by rw [hz2]; omega) (by omega) ?_)
      go_loopw [46] (fun i wq => ∃ k : Nat, k ≤ 32 ∧ i = .int .i64 k ∧ Hid (wq.rowIs wr.heap.size 3 32 (fillF (fun j => (win_ks.getD j 0 : Nat)) k)) ∧ Hid (wq.rowIs w.heap.size 3 33 (fun j => .int .i64 (sum_ks.getD j 0 : Nat))) ∧ Hid (Below w.heap.size w wq)) (fun i _ => 32 - (intOf i).toNat)
      case atStart => exact ⟨0, by omega, rfl, hrow2, hF2, hbm2⟩
      case round =>
        obtain ⟨k, hk, rfl, hR, hT, hbel2⟩ := hrel
        by_cases hlt : k < 32
        · have hg := hR.out.lt
          have hg2 := hT.out.lt
          obtain ⟨v1, v2, v3⟩ := vals_at sum_ks win_ks k vals_ks (by rw [len_ks]; exact hlt)
          have hV1 := Lib.hid v1
          clear v1
          have c1 := hT.out.cell (i := k) (by omega)
          generalize sum_ks.getD k 0 = s at v2 v3 hV1 c1
          have hpt : Hid (∀ w, Calls Try.prog 94 #[.int .i64 s, .int .i64 2135407864823] w fun e w' => e = .returned (.int .i64 (partGo 2135407864823 44 s 0)) ∧ Below w.heap.size w w') := Lib.hid (fun w => part_ok s 2135407864823 w v2 (by decide))
          generalize partGo 2135407864823 44 s 0 = p at v3 hV1 hpt
          go_wp2_with (first
            | (go_at_call 94; ((with_reducible refine (hpt.out _).mono ?_); rintro e w1 ⟨rfl, hb1⟩; have hR5 := Lib.hid (hR.out.of_block (hb1.block _ hg)); have hT5 := Lib.hid (hT.out.of_block (hb1.block _ hg2)); have qo := hR5.out.cell hlt; rw [fillF, if_neg (Nat.lt_irrefl k)] at qo; have qf := hR5.out.frozen k; have hbw := Lib.hid (belowT hbel2.out hb1)))
            | (go_at_call 93; ((with_reducible refine (sqrt_in p _ (by omega) (by omega)).mono ?_); rintro e w2 ⟨r, hr, rfl, rfl⟩; have hr' := Lib.hid (sqrt_one hr hV1.out); clear hr)))
          go_roundw
          case rel => exact ⟨k + 1, by omega, by go_num, Lib.hid (fill_step hR5.out hr'.out), Lib.hid (hT5.out.of_block (other_cell _ (by omega))), Lib.hid (hbw.out.setCell (p := ⟨_, k, none⟩) (Nat.le_of_lt hgw) _)⟩
          case measure => simp [intOf]; omega
        · have hend : k = 32 := by omega
          subst hend
          have hF := fill_end hR.out
          have hb := hbel2.out
          clear hR hT hbel2
          go_wp2
          go_ret
          exact ⟨_, rfl, by omega, hF, hb⟩
end Go.Proofs.Yteknakakefhbmaa.Fx

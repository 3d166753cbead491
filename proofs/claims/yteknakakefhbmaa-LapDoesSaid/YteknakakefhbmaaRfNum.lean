/- The answer's numbers. -/
import Derived.Test.YteknakakefhbmaaRfLin
import Derived.WalkKit
import Derived.Below
import Derived.RegionTactic
import Derived.Deep.QuietTactic
import Derived.BigQuiet
import Derived.ChangeAlike
import Derived.Deep.OwnRows
import Derived.Deep.RegionLaw
import Derived.ProofKit
import Derived.OpenShut
import Derived.ChangeSlices
import Derived.Lib.Hide
import Derived.Great.Walk
import Derived.ChangeKeysEq
import Derived.ChangeOld
import Derived.ShutString
namespace Go.Proofs.Yteknakakefhbmaa.Rf
open Go Go.ChangeShapes Go.WideShapes Go.ChangeAt Go.RowKit Go.Proofs.Yteknakakefhbmaa.Fx Go.Proofs.Yteknakakefhbmaa.Rk Go.Proofs.Yteknakakefhbmaa.Mm Go.Proofs.Yteknakakefhbmaa.Md Go.Proofs.Yteknakakefhbmaa.Bl Go.Proofs.Yteknakakefhbmaa.Cpy

set_option maxRecDepth 100000 in
set_option maxHeartbeats 4000000 in
theorem numbers_L (seq was shape : Int) (A : Option Addr) (cap : Nat) (lines : List Int) (w : World) (hs : seq = 0 ∨ seq = 1 ∨ seq = 3) (h1 : was = 0 ∨ was = 1) (h2 : shape = 0 ∨ shape = 1) (hl : lines.length = 256) (rd : RdA w A lines) (hI : InR (-268435455) 268435455 lines) :
    Calls Try.prog 41 #[.int .u8 seq, .int .u8 was, .int .u8 shape, .slice A 256 cap] w fun e w' => ∃ v, e = .returned v ∧ Fx.Own w.heap.size w' v (mk 512 (lyT seq was shape lines 1)) ∧ Below w.heap.size w w' := by
  obtain ⟨i0, hi, hz0, hz1, hz2⟩ := info_parts Fx.info3
  have HV := Lib.hid (fun w => vals_ok seq was shape w hs h1 h2)
  have HR := Lib.hid rd
  have hq : (seq == 2) = false := by simp; omega
  have HK := Lib.hid (fun w (r : RdA w A lines) => back256 A cap lines w hl r (fun j hj => hI j hj))
  have BD := Lib.hid (fun (j : Nat) (hj : j < 512) => lyU_bd (seq := seq) (was := was) (shape := shape) hl hI j hj)
  have YB := Lib.hid (fun j => mk_bd (n := 512) (F := bk lines 256 1 26) (M := 68719476736) (by decide) (fun i => bk_in (N := 256) (fun k hk => hI k hk) rfl hl (.inl ⟨rfl, rfl⟩) i) j)
  have M0 := Lib.hid (World.rowIs_made w (.int .i64 0) 512 3)
  have B0 := Lib.hid ((Below.refl w.heap.size w).alloc (Nat.le_refl _) (.cells (madeCells #[.int .i64 0] 512) 3))
  have hz : (w.alloc (.cells (madeCells #[.int .i64 0] 512) 3)).heap.size = w.heap.size + 1 := by simp
  have HZ := Lib.hid hz
  have HPT := Lib.hid (fun (g1 g2 c1 c2 : Nat) (W : World) (r : W.rowIs w.heap.size 3 512 (fun _ => .int .i64 0)) (ry : RdA W (some ⟨g1, 0, none⟩) (mk 512 (bk lines 256 1 26))) (rv : RdA W (some ⟨g2, 0, none⟩) (wv seq was shape)) (n1 : w.heap.size ≠ g1) (n2 : w.heap.size ≠ g2) =>
    (show Calls Try.prog 59 #[.slice (some ⟨w.heap.size, 0, none⟩) 512 512, .int .i64 0, .slice (some ⟨g1, 0, none⟩) 512 c1, .slice (some ⟨g2, 0, none⟩) 512 c2] W (fun e w' => e = .returned (.tuple #[]) ∧ w'.rowIs w.heap.size 3 512 (fun j => .int .i64 (lyT seq was shape lines 1 j)) ∧ Below w.heap.size W w') from
      put_ok w.heap.size 512 0 512 c1 c2 (some ⟨g1, 0, none⟩) (some ⟨g2, 0, none⟩) (fun _ => 0) (mk 512 (bk lines 256 1 26)) (wv seq was shape) W (by omega) (by omega) (mk_len _ _) (wv_len _ _ _) r ry rv (fun b off e => by cases e; exact n1) (fun b off e => by cases e; exact n2) (fun j => by decide) (fun j _ => YB.out j) (wv_in _ _ _) (fun j hj => by have := BD.out j hj; unfold lyU at this; omega)))
  clear hs h1 h2 rd hI hl hz
  go_enter Try.func41, Try.ntmps41
  go_wp2_with first
    | (refine wpList_make_row _ rfl _ _ 22 rfl 3 i0 (.int .i64 0) Try.underlying22 hi hz0 hz1 rfl .i64 .i64 512 rfl rfl (by rw [hz2]; omega) (by omega) ?_)
    | (go_at_call 60; ((with_reducible refine (HK.out _ (HR.out.below B0.out)).mono ?_); rintro e w1 ⟨v1, rfl, ho1, hb1⟩; obtain ⟨g1, c1, rfl, hg1, hl1, _⟩ := own_open ho1 (mk_len _ _) (by decide); have R1 := Lib.hid (rd_rdA ho1.rd); have B1 := Lib.hid (B0.out.trans (hb1.mono (by rw [HZ.out]; omega))); have M1 := Lib.hid (M0.out.of_block (hb1.block _ (by rw [HZ.out]; omega))); have ne1 : w.heap.size ≠ g1 := (by have := HZ.out; omega); clear ho1 hb1))
    | (go_at_call 38; ((with_reducible refine (HV.out _).mono ?_); rintro e w2 ⟨v2, rfl, ho2, hb2⟩; obtain ⟨g2, c2, rfl, hg2, hl2, _⟩ := own_open ho2 (wv_len _ _ _) (by decide); have R2 := Lib.hid (rd_rdA ho2.rd); have B2 := Lib.hid (bt B1.out hb2); have M2 := Lib.hid (M1.out.of_block (hb2.block _ M1.out.lt)); have ne2 : w.heap.size ≠ g2 := (by have := M1.out.lt; omega); have Y2 := Lib.hid (R1.out.below hb2); clear ho2 hb2))
    | (go_at_call 59; ((with_reducible refine (HPT.out _ _ _ _ _ M2.out Y2.out R2.out ne1 ne2).mono ?_); rintro e w3 ⟨rfl, r3, hb3⟩; have R3 := Lib.hid r3; have B3 := Lib.hid (B2.out.trans hb3); clear r3 hb3))
  go_ret
  exact ⟨_, rfl, own_row R3.out (Nat.le_refl _) (by unfold maxLen; omega), B3.out⟩
set_option maxRecDepth 100000 in
set_option maxHeartbeats 4000000 in
theorem numbers_T (was shape : Int) (A : Option Addr) (cap : Nat) (lines : List Int) (w : World) (h1 : was = 0 ∨ was = 1) (h2 : shape = 0 ∨ shape = 1) (hl : lines.length = 256) (hc : 256 ≤ cap) (hcm : cap ≤ maxLen) (rd : RdA w A lines) (hI : InR (-268435455) 268435455 lines) :
    Calls Try.prog 41 #[.int .u8 2, .int .u8 was, .int .u8 shape, .slice A 256 cap] w fun e w' => ∃ v, e = .returned v ∧ Fx.Own w.heap.size w' v (mk 512 (syT was shape lines 8)) ∧ Below w.heap.size w w' := by
  obtain ⟨i0, hi, hz0, hz1, hz2⟩ := info_parts Fx.info3
  obtain ⟨b, off, rfl, lb, _⟩ := rd 0 (by omega)
  unfold maxLen at hcm
  have HV := Lib.hid (fun k w => little_ok k was shape w h1 h2)
  have HR := Lib.hid rd
  have HK := Lib.hid (fun (k : Nat) (hk : k < 8) (c : Nat) w (r : RdA w (some ⟨b, off + 32 * k, none⟩) (seg lines k)) => back32 (some ⟨b, off + 32 * k, none⟩) c (seg lines k) w (seg_len hl hk) r (seg_in hI))
  have BD := Lib.hid (fun (k j : Nat) (hk : k < 8) (hj : j < 64) => syU_bd (was := was) (shape := shape) hl hI k j hk hj)
  have SB := Lib.hid (fun (k j : Nat) (hk : k ≤ 8) => syT_bd (was := was) (shape := shape) hl hI k j hk)
  have YB := Lib.hid (fun (k : Nat) (hk : k < 8) j => mk_bd (n := 64) (F := bk (seg lines k) 32 8 23) (M := 68719476736) (by decide) (fun i => bk_in (N := 32) (seg_in hI) rfl (seg_len hl hk) (.inr ⟨rfl, rfl⟩) i) j)
  have M0 := Lib.hid (World.rowIs_made w (.int .i64 0) 512 3)
  have B0 := Lib.hid ((Below.refl w.heap.size w).alloc (Nat.le_refl _) (.cells (madeCells #[.int .i64 0] 512) 3))
  have HPT := Lib.hid (fun (k g1 g2 c1 c2 : Nat) (hk : k < 8) (W : World) (r : W.rowIs w.heap.size 3 512 (fun j => .int .i64 (syT was shape lines k j))) (ry : RdA W (some ⟨g1, 0, none⟩) (mk 64 (bk (seg lines k) 32 8 23))) (rv : RdA W (some ⟨g2, 0, none⟩) (wt (if k = 0 then was else shape) shape)) (n1 : w.heap.size ≠ g1) (n2 : w.heap.size ≠ g2) =>
    (show Calls Try.prog 59 #[.slice (some ⟨w.heap.size, 0, none⟩) 512 512, .int .i64 (112 + 32 * (k : Int)), .slice (some ⟨g1, 0, none⟩) 64 c1, .slice (some ⟨g2, 0, none⟩) 64 c2] W (fun e w' => e = .returned (.tuple #[]) ∧ w'.rowIs w.heap.size 3 512 (fun j => .int .i64 (syT was shape lines (k + 1) j)) ∧ Below w.heap.size W w') by
      have h := put_ok w.heap.size 512 (112 + 32 * k) 64 c1 c2 (some ⟨g1, 0, none⟩) (some ⟨g2, 0, none⟩) (syT was shape lines k) (mk 64 (bk (seg lines k) 32 8 23)) (wt (if k = 0 then was else shape) shape) W (by omega) (by omega) (mk_len _ _) (wt_len _ _) r ry rv (fun b off e => by cases e; exact n1) (fun b off e => by cases e; exact n2) (fun j => by have := SB.out k j (by omega); omega) (fun j _ => YB.out k hk j) (wt_in _ _) (fun j hj => by have := BD.out k j hk hj; unfold syU at this; omega)
      rw [show (((112 + 32 * k : Nat)) : Int) = 112 + 32 * (k : Int) by omega] at h
      exact h))
  clear h1 h2 rd hI hl
  go_enter Try.func41, Try.ntmps41
  go_wp2_with first
    | (refine wpList_make_row _ rfl _ _ 22 rfl 3 i0 (.int .i64 0) Try.underlying22 hi hz0 hz1 rfl .i64 .i64 512 rfl rfl (by rw [hz2]; omega) (by omega) ?_)
  go_loopw [10] (fun i wr => ∃ k : Nat, k ≤ 8 ∧ i = .int .i64 k ∧ Hid (wr.rowIs w.heap.size 3 512 (fun j => .int .i64 (syT was shape lines k j))) ∧ Hid (Below w.heap.size w wr)) (fun i _ => 256 - (intOf i).toNat)
  case atStart => exact ⟨0, by omega, rfl, M0, B0⟩
  case round =>
    obtain ⟨k, hk, rfl, hr, hB⟩ := hrel
    by_cases hlt : k < 8
    · have i1 : (k : Int) ≤ 7 := by omega
      have i2 : (256 : Int) ≤ (cap : Int) := by omega
      have i3 : (cap : Int) ≤ 9223372036854775807 := by omega
      have hPT := Lib.hid (fun g1 g2 c1 c2 => HPT.out k g1 g2 c1 c2 hlt)
      have hK := Lib.hid (HK.out k hlt)
      have RS := Lib.hid (seg_rd (k := k) (HR.out.below hB.out))
      go_wp2_with first
        | (go_at_call 60; ((with_reducible refine (hK.out _ _ RS.out).mono ?_); rintro e w1 ⟨v1, rfl, ho1, hb1⟩; obtain ⟨g1, c1, rfl, hg1, hl1, _⟩ := own_open ho1 (mk_len _ _) (by decide); have R1 := Lib.hid (rd_rdA ho1.rd); have B1 := Lib.hid (bt hB.out hb1); have M1 := Lib.hid (hr.out.of_block (hb1.block _ hr.out.lt)); have ne1 : w.heap.size ≠ g1 := (by have := hr.out.lt; omega); clear ho1 hb1))
        | (go_at_call 58; ((with_reducible refine (HV.out k _).mono ?_); rintro e w2 ⟨v2, rfl, ho2, hb2⟩; obtain ⟨g2, c2, rfl, hg2, hl2, _⟩ := own_open ho2 (wt_len _ _) (by decide); have R2 := Lib.hid (rd_rdA ho2.rd); have B2 := Lib.hid (bt B1.out hb2); have M2 := Lib.hid (M1.out.of_block (hb2.block _ M1.out.lt)); have ne2 : w.heap.size ≠ g2 := (by have := M1.out.lt; omega); have Y2 := Lib.hid (R1.out.below hb2); clear ho2 hb2))
        | (go_at_call 59; ((with_reducible refine (hPT.out _ _ _ _ _ M2.out Y2.out R2.out ne1 ne2).mono ?_); rintro e w3 ⟨rfl, r3, hb3⟩; have R3 := Lib.hid r3; have B3 := Lib.hid (B2.out.trans hb3); clear r3 hb3))
      go_roundw
      case rel => exact ⟨k + 1, by omega, by go_num, R3, B3⟩
      case measure => simp [intOf]; omega
    · have hkn : k = 8 := by omega
      have h2 : ¬ (k : Int) < 8 := by omega
      have R2 := Lib.hid (hkn ▸ hr.out)
      have B2 := hB
      clear hr hB hkn
      go_wp2
      go_ret
      exact ⟨_, rfl, own_row R2.out (Nat.le_refl _) (by unfold maxLen; omega), B2.out⟩
end Go.Proofs.Yteknakakefhbmaa.Rf

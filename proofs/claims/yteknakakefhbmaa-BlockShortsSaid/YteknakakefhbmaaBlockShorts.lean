/- Windows of Shorts stand alone. BlockShorts returns true, whatever the arguments, the memory and the schedule. No condition. -/
import Derived.Test.YteknakakefhbmaaBlSh
import Derived.WalkKit
import Derived.Below
import Derived.RegionTactic
import Derived.Deep.QuietTactic
import Derived.BigQuiet
import Derived.ChangeAlike
import Derived.Deep.OwnRows
import Derived.Deep.RegionLaw
import Derived.ProofKit
import Derived.OpenShut
import Derived.ChangeSlices
import Derived.Lib.Hide
import Derived.Great.Walk
import Derived.ChangeKeysEq
import Derived.ChangeOld
import Derived.ShutString
namespace Go.Proofs.Yteknakakefhbmaa.blockShorts
open Go Go.ChangeShapes Go.WideShapes Go.ChangeAt Go.RowKit Go.Proofs.Yteknakakefhbmaa.Fx Go.Proofs.Yteknakakefhbmaa.Rk Go.Proofs.Yteknakakefhbmaa.Mm Go.Proofs.Yteknakakefhbmaa.Md Go.Proofs.Yteknakakefhbmaa.Bl Go.Proofs.Yteknakakefhbmaa.Cpy

theorem cell_oth {w : World} {a b i j : Nat} (v : Value) (h : a ≠ b) : (w.setCell ⟨a, i, none⟩ v).cell? ⟨b, j, none⟩ = w.cell? ⟨b, j, none⟩ := World.cell?_of_block (w := w) (heap_other v h)
set_option maxRecDepth 100000 in
set_option maxHeartbeats 8000000 in
theorem far0 (was shape : Int) (A O : Option Addr) (ca co : Nat) (pcm ls : List Int) (wd : Int) (w : World) (w0 : 0 ≤ was) (h0 : 0 ≤ shape) (RA : RdA w A pcm) (RO : RdA w O ls) (ka : pcm.length ≤ ca ∧ ca ≤ maxLen) (ko : ls.length ≤ co ∧ co ≤ maxLen) (n0 : 1000 < (pcm.length : Int)) :
    Calls Try.prog 7 #[.int .u8 was, .int .u8 shape, .slice A pcm.length ca, .slice O ls.length co, .int .i64 wd] w fun e w' => e = .returned (.bool true) ∧ Below w.heap.size w w' := by
  have d0 : decide (1000 < (pcm.length : Int)) = true := decide_eq_true n0
  have RA := Lib.hid RA
  have RO := Lib.hid RO
  clear ka ko
  go_enter Try.func7, Try.ntmps7
  go_wp2_with first
    | (go_at_call 16; ((with_reducible refine (alive_ok w).mono ?_); rintro e w0 ⟨rfl, hb0⟩; have B0 := Lib.hid hb0; have R0 := Lib.hid (RA.out.below hb0); have O0 := Lib.hid (RO.out.below hb0); clear hb0))
  go_ret
  exact ⟨rfl, B0.out⟩
set_option maxRecDepth 100000 in
set_option maxHeartbeats 8000000 in
theorem far1 (was shape : Int) (A O : Option Addr) (ca co : Nat) (pcm ls : List Int) (wd : Int) (w : World) (w0 : 0 ≤ was) (h0 : 0 ≤ shape) (RA : RdA w A pcm) (RO : RdA w O ls) (ka : pcm.length ≤ ca ∧ ca ≤ maxLen) (ko : ls.length ≤ co ∧ co ≤ maxLen) (n0 : ¬ 1000 < (pcm.length : Int)) (n1 : 1000 < (ls.length : Int)) :
    Calls Try.prog 7 #[.int .u8 was, .int .u8 shape, .slice A pcm.length ca, .slice O ls.length co, .int .i64 wd] w fun e w' => e = .returned (.bool true) ∧ Below w.heap.size w w' := by
  have d0 : decide (1000 < (pcm.length : Int)) = false := decide_eq_false n0
  have d1 : decide (1000 < (ls.length : Int)) = true := decide_eq_true n1
  have RA := Lib.hid RA
  have RO := Lib.hid RO
  clear ka ko
  go_enter Try.func7, Try.ntmps7
  go_wp2_with first
    | (go_at_call 16; ((with_reducible refine (alive_ok w).mono ?_); rintro e w0 ⟨rfl, hb0⟩; have B0 := Lib.hid hb0; have R0 := Lib.hid (RA.out.below hb0); have O0 := Lib.hid (RO.out.below hb0); clear hb0))
  go_ret
  exact ⟨rfl, B0.out⟩
set_option maxRecDepth 100000 in
set_option maxHeartbeats 8000000 in
theorem far2 (was shape : Int) (A O : Option Addr) (ca co : Nat) (pcm ls : List Int) (wd : Int) (w : World) (w0 : 0 ≤ was) (h0 : 0 ≤ shape) (RA : RdA w A pcm) (RO : RdA w O ls) (ka : pcm.length ≤ ca ∧ ca ≤ maxLen) (ko : ls.length ≤ co ∧ co ≤ maxLen) (n0 : ¬ 1000 < (pcm.length : Int)) (n1 : ¬ 1000 < (ls.length : Int)) (n2 : wd < 0) :
    Calls Try.prog 7 #[.int .u8 was, .int .u8 shape, .slice A pcm.length ca, .slice O ls.length co, .int .i64 wd] w fun e w' => e = .returned (.bool true) ∧ Below w.heap.size w w' := by
  have d0 : decide (1000 < (pcm.length : Int)) = false := decide_eq_false n0
  have d1 : decide (1000 < (ls.length : Int)) = false := decide_eq_false n1
  have d2 : decide (wd < 0) = true := decide_eq_true n2
  have RA := Lib.hid RA
  have RO := Lib.hid RO
  clear ka ko
  go_enter Try.func7, Try.ntmps7
  go_wp2_with first
    | (go_at_call 16; ((with_reducible refine (alive_ok w).mono ?_); rintro e w0 ⟨rfl, hb0⟩; have B0 := Lib.hid hb0; have R0 := Lib.hid (RA.out.below hb0); have O0 := Lib.hid (RO.out.below hb0); clear hb0))
  go_ret
  exact ⟨rfl, B0.out⟩
set_option maxRecDepth 100000 in
set_option maxHeartbeats 8000000 in
theorem far3 (was shape : Int) (A O : Option Addr) (ca co : Nat) (pcm ls : List Int) (wd : Int) (w : World) (w0 : 0 ≤ was) (h0 : 0 ≤ shape) (RA : RdA w A pcm) (RO : RdA w O ls) (ka : pcm.length ≤ ca ∧ ca ≤ maxLen) (ko : ls.length ≤ co ∧ co ≤ maxLen) (n0 : ¬ 1000 < (pcm.length : Int)) (n1 : ¬ 1000 < (ls.length : Int)) (n2 : ¬ wd < 0) (n3 : 7 < wd) :
    Calls Try.prog 7 #[.int .u8 was, .int .u8 shape, .slice A pcm.length ca, .slice O ls.length co, .int .i64 wd] w fun e w' => e = .returned (.bool true) ∧ Below w.heap.size w w' := by
  have d0 : decide (1000 < (pcm.length : Int)) = false := decide_eq_false n0
  have d1 : decide (1000 < (ls.length : Int)) = false := decide_eq_false n1
  have d2 : decide (wd < 0) = false := decide_eq_false n2
  have d3 : decide (7 < wd) = true := decide_eq_true n3
  have RA := Lib.hid RA
  have RO := Lib.hid RO
  clear ka ko
  go_enter Try.func7, Try.ntmps7
  go_wp2_with first
    | (go_at_call 16; ((with_reducible refine (alive_ok w).mono ?_); rintro e w0 ⟨rfl, hb0⟩; have B0 := Lib.hid hb0; have R0 := Lib.hid (RA.out.below hb0); have O0 := Lib.hid (RO.out.below hb0); clear hb0))
  go_ret
  exact ⟨rfl, B0.out⟩
set_option maxRecDepth 100000 in
set_option maxHeartbeats 8000000 in
theorem badbad (was shape : Int) (A O : Option Addr) (ca co : Nat) (pcm ls : List Int) (wd : Nat) (w : World) (w0 : 0 ≤ was) (h0 : 0 ≤ shape) (RA : RdA w A pcm) (RO : RdA w O ls) (ka : pcm.length ≤ ca ∧ ca ≤ maxLen) (ko : ls.length ≤ co ∧ co ≤ maxLen) (hw : wd ≤ 7) (n1 : ¬ 1000 < (ls.length : Int)) (n0 : ¬ 1000 < (pcm.length : Int)) (hM : ¬ (May 2 was shape ∧ pcm.length = 512 ∧ InR (-32768) 32767 pcm)) (hS : ¬ (sO 2 was shape ls).2 = 0) :
    Calls Try.prog 7 #[.int .u8 was, .int .u8 shape, .slice A pcm.length ca, .slice O ls.length co, .int .i64 wd] w fun e w' => e = .returned (.bool true) ∧ Below w.heap.size w w' := by
  have d0 : decide (1000 < (pcm.length : Int)) = false := decide_eq_false n0
  have d1 : decide (1000 < (ls.length : Int)) = false := decide_eq_false n1
  have RA := Lib.hid RA
  have RO := Lib.hid RO
  obtain ⟨c, hc, hc2⟩ := aO_bad hM
  have N1 := fun (W : World) (r : RdA W A pcm) => analyse_O 2 was shape A pcm.length ca pcm W (by decide) w0 h0 rfl ka.1 ka.2 r
  rw [hc] at N1
  have hc3 : (c == 0) = false := by simpa using hc2
  clear hc hc2
  have M1 := Lib.hid N1
  clear N1 hM
  obtain ⟨E, hE⟩ : ∃ E, E = sO 2 was shape ls := ⟨_, rfl⟩
  have N3 := fun (W : World) (r : RdA W O ls) => synth_O 2 was shape O ls.length co ls W (by decide) w0 h0 rfl ko.1 ko.2 r
  rw [← hE] at N3 hS
  obtain ⟨EL, EE⟩ := E
  dsimp only at hS
  have hS : (EE != 0) = true := by simpa using hS
  clear hE
  have M3 := Lib.hid N3
  clear N3
  go_enter Try.func7, Try.ntmps7
  go_wp2_with first
    | (go_at_call 16; ((with_reducible refine (alive_ok w).mono ?_); rintro e w0 ⟨rfl, hb0⟩; have B0 := Lib.hid hb0; have R0 := Lib.hid (RA.out.below hb0); have O0 := Lib.hid (RO.out.below hb0); clear hb0))
    | (go_at_call 15; ((with_reducible refine (M1.out _ R0.out).mono ?_); rintro e w3 ⟨v1, rfl, ho1, hb1⟩; have B3 := Lib.hid (bt B0.out hb1); have O3 := Lib.hid (O0.out.below hb1); clear ho1 hb1))
    | (go_at_call 14; ((with_reducible refine (M3.out _ O3.out).mono ?_); rintro e w4 ⟨v4, rfl, ho4, hb4⟩; have B4 := Lib.hid (bt B3.out hb4); clear ho4 hb4))
  go_ret
  exact ⟨rfl, B4.out⟩
set_option maxRecDepth 100000 in
set_option maxHeartbeats 8000000 in
theorem goodbad (was shape : Int) (A O : Option Addr) (ca co : Nat) (pcm ls : List Int) (wd : Nat) (w : World) (w0 : 0 ≤ was) (h0 : 0 ≤ shape) (RA : RdA w A pcm) (RO : RdA w O ls) (ka : pcm.length ≤ ca ∧ ca ≤ maxLen) (ko : ls.length ≤ co ∧ co ≤ maxLen) (hw : wd ≤ 7) (n1 : ¬ 1000 < (ls.length : Int)) (hM : May 2 was shape ∧ pcm.length = 512 ∧ InR (-32768) 32767 pcm) (hS : ¬ (sO 2 was shape ls).2 = 0) :
    Calls Try.prog 7 #[.int .u8 was, .int .u8 shape, .slice A 512 ca, .slice O ls.length co, .int .i64 wd] w fun e w' => e = .returned (.bool true) ∧ Below w.heap.size w w' := by
  have d1 : decide (1000 < (ls.length : Int)) = false := decide_eq_false n1
  have RA := Lib.hid RA
  have RO := Lib.hid RO
  have HL := Lib.hid hM.2.1
  have N1 := fun (W : World) (r : RdA W A pcm) => analyse_O 2 was shape A 512 ca pcm W (by decide) w0 h0 HL.out (by have := HL.out; omega) ka.2 r
  rw [aO_good hM.1 hM.2.1 hM.2.2] at N1
  have N2 := fun (g : Nat) (W : World) (r : RdA W (some ⟨g, 0, none⟩) (mk 512 (cut (112 + 32 * wd) 64 pcm))) => analyse_O 2 was shape (some ⟨g, 0, none⟩) 512 512 (mk 512 (cut (112 + 32 * wd) 64 pcm)) W (by decide) w0 h0 (mk_len _ _) (Nat.le_refl _) (by unfold maxLen; omega) r
  rw [aO_good hM.1 (mk_len _ _) (cut_in (by decide) (by decide) hM.2.2)] at N2
  have N2 := Lib.hid N2
  obtain ⟨i0, hi, hz0, hz1, hz2⟩ := info_parts Fx.info3
  have M1 := Lib.hid N1
  clear N1 hM
  obtain ⟨E, hE⟩ : ∃ E, E = sO 2 was shape ls := ⟨_, rfl⟩
  have N3 := fun (W : World) (r : RdA W O ls) => synth_O 2 was shape O ls.length co ls W (by decide) w0 h0 rfl ko.1 ko.2 r
  rw [← hE] at N3 hS
  obtain ⟨EL, EE⟩ := E
  dsimp only at hS
  have hS : (EE != 0) = true := by simpa using hS
  clear hE
  have M3 := Lib.hid N3
  clear N3
  go_enter Try.func7, Try.ntmps7
  go_wp2_with first
    | (go_at_call 16; ((with_reducible refine (alive_ok w).mono ?_); rintro e w0 ⟨rfl, hb0⟩; have B0 := Lib.hid hb0; have R0 := Lib.hid (RA.out.below hb0); have O0 := Lib.hid (RO.out.below hb0); clear hb0))
    | (go_at_call 15; ((with_reducible refine (M1.out _ R0.out).mono ?_); rintro e w1 ⟨v1, rfl, ho1, hb1⟩; obtain ⟨g1, c1, rfl, hg1, hg2, hc1, hc2, hc3, hf3⟩ := own_open ho1 (AL_len 2 was shape pcm) (by decide); have K1 := Lib.hid hc3; have B1 := Lib.hid (bt B0.out hb1); have R1 := Lib.hid (R0.out.below hb1); have O1 := Lib.hid (O0.out.below hb1); clear ho1 hb1 hc3 hf3))
    | (refine wpList_make_row _ rfl _ _ 22 rfl 3 i0 (.int .i64 0) Try.underlying22 hi hz0 hz1 rfl .i64 .i64 512 rfl rfl (by rw [hz2]; omega) (by omega) ?_)
  go_loopw [15] (fun i wq => ∃ m : Nat, m ≤ 64 ∧ i = .int .i64 m ∧ Hid (wq.rowIs w1.heap.size 3 512 (fun j => .int .i64 (cut (112 + 32 * wd) m pcm j))) ∧ Hid (Below w1.heap.size w1 wq)) (fun i _ => 256 - (intOf i).toNat)
  case atStart => exact ⟨0, by omega, rfl, Lib.hid (cut_start (World.rowIs_made w1 (.int .i64 0) 512 3)), Lib.hid ((Below.refl _ _).alloc (Nat.le_refl _) _)⟩
  case round =>
    obtain ⟨m, hm, rfl, hr, hB⟩ := hrel
    by_cases hlt : m < 64
    · obtain ⟨b, off, rfl, lb, q0⟩ := R1.out (112 + 32 * wd + m) (by rw [HL.out]; omega)
      have q1 := (hB.out.cell (p := ⟨b, off + (112 + 32 * wd + m), none⟩) lb).trans q0
      have q2 := hr.out.cell (i := 112 + 32 * wd + m) (by omega)
      have q3 := hr.out.frozen (112 + 32 * wd + m)
      have hv : Hid (pcm.getD (112 + 32 * wd + m) 0 = pcm.getD (112 + 32 * wd + m) 0) := Lib.hid rfl
      generalize hX : pcm.getD (112 + 32 * wd + m) 0 = X at *
      have hX := Lib.hid hX
      go_wp2
      go_roundw
      case rel => exact ⟨m + 1, by omega, by go_num, Lib.hid (cut_step hr.out hX.out.symm), Lib.hid (hB.out.setCell (Nat.le_refl _) _)⟩
      case measure => simp [intOf]; omega
    · have hm64 : m = 64 := by omega
      have hr2 := Lib.hid (hm64 ▸ hr.out)
      have hlt2 : ¬ (m : Int) < 64 := by omega
      have lS := hr.out.lt
      have G1 := Lib.hid (Nat.lt_of_lt_of_le hg2 hB.out.size)
      have K1 := Lib.hid (fun j hj => (hB.out.cell (p := ⟨g1, j, none⟩) hg2).trans (K1.out j hj))
      have B1 := Lib.hid (bt B1.out hB.out)
      have O1 := Lib.hid (O1.out.below hB.out)
      clear hr hB hm64
      go_wp2_with first
        | (go_at_call 15; ((with_reducible refine (N2.out _ _ (row_rda hr2.out lS)).mono ?_); rintro e w2 ⟨v2, rfl, ho2, hb2⟩; obtain ⟨g2, c2, rfl, hg3, hg4, hc4, hc5, hc6, hf6⟩ := own_open ho2 (AL_len 2 was shape (mk 512 (cut (112 + 32 * wd) 64 pcm))) (by decide); have K2 := Lib.hid hc6; have K12 := Lib.hid (fun j hj => (hb2.cell (p := ⟨g1, j, none⟩) G1.out).trans (K1.out j hj)); have G2 := Lib.hid (Nat.lt_of_lt_of_le G1.out hb2.size); have B2 := Lib.hid (bt B1.out hb2); have O2 := Lib.hid (O1.out.below hb2); clear ho2 hb2 hc6 hf6))
      go_loopw [18] (fun i wq => ∃ m : Nat, m ≤ 32 ∧ i = .int .i64 (32 * (wd : Int) + (m : Int)) ∧ Hid (Below w2.heap.size w2 wq)) (fun i _ => 512 - (intOf i).toNat)
      case atStart => exact ⟨0, by omega, by simp, Lib.hid (Below.refl _ _)⟩
      case round =>
        obtain ⟨j, hj, rfl, hB⟩ := hrel
        by_cases hlt3 : j < 32
        · have e1 := (hB.out.cell (p := ⟨g1, 32 * wd + j, none⟩) G2.out).trans (K12.out (32 * wd + j) (by omega))
          have e2 := (hB.out.cell (p := ⟨g2, 32 * wd + j, none⟩) hg4).trans (K2.out (32 * wd + j) (by omega))
          rw [an_cut (by omega) hlt3] at e2
          generalize (AL 2 was shape pcm).getD (32 * wd + j) 0 = X at *
          go_wp2
          go_quiet (fail)
          go_wp2
          go_roundw
          case rel => exact ⟨j + 1, by omega, congrArg (Value.int .i64) (by omega), Lib.hid (hB.out.trans ((drewN_below _ _).mono hB.out.size))⟩
          case measure => simp [intOf]; omega
        · have hj32 : ¬ 32 * (wd : Int) + (j : Int) < 32 * (wd : Int) + 32 := by omega
          have B3 := Lib.hid (bt B2.out hB.out)
          have O3 := Lib.hid (O2.out.below hB.out)
          clear hB K1 K12 K2 R1 R0 O0 O1 O2 B0 B1 B2
          go_wp2_with first
            | (go_at_call 14; ((with_reducible refine (M3.out _ O3.out).mono ?_); rintro e w4 ⟨v4, rfl, ho4, hb4⟩; have B4 := Lib.hid (bt B3.out hb4); clear ho4 hb4))
          go_ret
          exact ⟨rfl, B4.out⟩
set_option maxRecDepth 100000 in
set_option maxHeartbeats 8000000 in
theorem badgood (was shape : Int) (A O : Option Addr) (ca co : Nat) (pcm ls : List Int) (wd : Nat) (w : World) (w0 : 0 ≤ was) (h0 : 0 ≤ shape) (RA : RdA w A pcm) (RO : RdA w O ls) (ka : pcm.length ≤ ca ∧ ca ≤ maxLen) (ko : ls.length ≤ co ∧ co ≤ maxLen) (hw : wd ≤ 7) (n0 : ¬ 1000 < (pcm.length : Int)) (hM : ¬ (May 2 was shape ∧ pcm.length = 512 ∧ InR (-32768) 32767 pcm)) (hS : May 2 was shape ∧ ls.length = 256 ∧ InR (-268435455) 268435455 ls) :
    Calls Try.prog 7 #[.int .u8 was, .int .u8 shape, .slice A pcm.length ca, .slice O 256 co, .int .i64 wd] w fun e w' => e = .returned (.bool true) ∧ Below w.heap.size w w' := by
  have d0 : decide (1000 < (pcm.length : Int)) = false := decide_eq_false n0
  have RA := Lib.hid RA
  have RO := Lib.hid RO
  obtain ⟨c, hc, hc2⟩ := aO_bad hM
  have N1 := fun (W : World) (r : RdA W A pcm) => analyse_O 2 was shape A pcm.length ca pcm W (by decide) w0 h0 rfl ka.1 ka.2 r
  rw [hc] at N1
  have hc3 : (c == 0) = false := by simpa using hc2
  clear hc hc2
  have M1 := Lib.hid N1
  clear N1 hM
  have HO := Lib.hid hS.2.1
  have N3 := fun (W : World) (r : RdA W O ls) => synth_O 2 was shape O 256 co ls W (by decide) w0 h0 HO.out (by have := HO.out; omega) ko.2 r
  rw [sO_good hS.1 hS.2.1 hS.2.2] at N3
  have N4 := fun (k g : Nat) (W : World) (r : RdA W (some ⟨g, 0, none⟩) (mk 256 (cut (32 * k) 32 ls))) => synth_O 2 was shape (some ⟨g, 0, none⟩) 256 256 (mk 256 (cut (32 * k) 32 ls)) W (by decide) w0 h0 (mk_len _ _) (Nat.le_refl _) (by unfold maxLen; omega) r
  have N4 := fun (k g : Nat) (W : World) (r : RdA W (some ⟨g, 0, none⟩) (mk 256 (cut (32 * k) 32 ls))) => (sO_good hS.1 (mk_len _ _) (cut_in (by decide) (by decide) hS.2.2)) ▸ N4 k g W r
  have BD := Lib.hid (fun (k j : Nat) (hk : k ≤ 8) => syT_bd hS.2.1 hS.2.2 (was := was) (shape := shape) k j hk)
  have M4 := Lib.hid N4
  clear N4
  obtain ⟨i0, hi, hz0, hz1, hz2⟩ := info_parts Fx.info3
  have M3 := Lib.hid N3
  clear N3 hS
  go_enter Try.func7, Try.ntmps7
  go_wp2_with first
    | (go_at_call 16; ((with_reducible refine (alive_ok w).mono ?_); rintro e w0 ⟨rfl, hb0⟩; have B0 := Lib.hid hb0; have R0 := Lib.hid (RA.out.below hb0); have O0 := Lib.hid (RO.out.below hb0); clear hb0))
    | (go_at_call 15; ((with_reducible refine (M1.out _ R0.out).mono ?_); rintro e w3 ⟨v1, rfl, ho1, hb1⟩; have B3 := Lib.hid (bt B0.out hb1); have O3 := Lib.hid (O0.out.below hb1); clear ho1 hb1))
  go_wp2_with first
    | (go_at_call 14; ((with_reducible refine (M3.out _ O3.out).mono ?_); rintro e w4 ⟨v4, rfl, ho4, hb4⟩; obtain ⟨gx, cx, rfl, hx1, hx2, hx3, hx4, hx5, hx6⟩ := own_open ho4 (mk_len 512 (SL 2 was shape ls)) (by decide); have KX := Lib.hid hx5; have B4 := Lib.hid (bt B3.out hb4); have O4 := Lib.hid (O3.out.below hb4); clear ho4 hb4 hx5 hx6))
    | (refine wpList_make_row _ rfl _ _ 22 rfl 3 i0 (.int .i64 0) Try.underlying22 hi hz0 hz1 rfl .i64 .i64 512 rfl rfl (by rw [hz2]; omega) (by omega) ?_)
  go_loopw [22] (fun i wq => ∃ k : Nat, k ≤ 8 ∧ i = .int .i64 k ∧ Hid (wq.rowIs w4.heap.size 3 512 (fun j => .int .i64 (syT was shape ls k j))) ∧ Hid (Below w4.heap.size w4 wq)) (fun i _ => 256 - (intOf i).toNat)
  case atStart => exact ⟨0, by omega, rfl, Lib.hid (World.rowIs_made w4 (.int .i64 0) 512 3), Lib.hid ((Below.refl _ _).alloc (Nat.le_refl _) _)⟩
  case round =>
    obtain ⟨k, hk, rfl, hR, hB⟩ := hrel
    generalize wr = wo at *
    by_cases hlt : k < 8
    · have k1 : (k : Int) ≤ 7 := by omega
      go_wp2_with first
        | (refine wpList_make_row _ rfl _ _ 22 rfl 3 i0 (.int .i64 0) Try.underlying22 hi hz0 hz1 rfl .i64 .i64 256 rfl rfl (by rw [hz2]; omega) (by omega) ?_)
      go_loopw [24] (fun i wq => ∃ m : Nat, m ≤ 32 ∧ i = .int .i64 (32 * (k : Int) + (m : Int)) ∧ Hid (wq.rowIs wo.heap.size 3 256 (fun j => .int .i64 (cut (32 * k) m ls j))) ∧ Hid (Below wo.heap.size wo wq)) (fun i _ => 512 - (intOf i).toNat)
      case atStart => exact ⟨0, by omega, by simp, Lib.hid (cut_start (World.rowIs_made wo (.int .i64 0) 256 3)), Lib.hid ((Below.refl _ _).alloc (Nat.le_refl _) _)⟩
      case round =>
        obtain ⟨m, hm, rfl, hr, hB2⟩ := hrel
        by_cases hlt4 : m < 32
        · obtain ⟨b, off, rfl, lb, q0⟩ := O4.out (32 * k + m) (by rw [HO.out]; omega)
          have q1 := (hB2.out.cell (p := ⟨b, off + (32 * k + m), none⟩) (Nat.lt_of_lt_of_le lb hB.out.size)).trans ((hB.out.cell (p := ⟨b, off + (32 * k + m), none⟩) lb).trans q0)
          have q2 := hr.out.cell (i := 32 * k + m) (by omega)
          have q3 := hr.out.frozen (32 * k + m)
          generalize hX : ls.getD (32 * k + m) 0 = X at *
          have hX := Lib.hid hX
          go_wp2
          go_roundw
          case rel => exact ⟨m + 1, by omega, congrArg (Value.int .i64) (by omega), Lib.hid (cut_step hr.out hX.out.symm), Lib.hid (hB2.out.setCell (Nat.le_refl _) _)⟩
          case measure => simp [intOf]; omega
        · have hm32 : m = 32 := by omega
          have hr2 := Lib.hid (hm32 ▸ hr.out)
          have hlt5 : ¬ 32 * (k : Int) + (m : Int) < 32 * (k : Int) + 32 := by omega
          have lS := hr.out.lt
          have lR := hR.out.lt
          have R2 := Lib.hid (hR.out.of_block (hB2.out.block _ lR))
          have B5 := Lib.hid (hB.out.trans (hB2.out.mono hB.out.size))
          have lR2 := Nat.lt_of_lt_of_le lR hB2.out.size
          clear hr hB hR hB2 hm32
          go_wp2_with first
            | (go_at_call 14; ((with_reducible refine (M4.out k _ _ (row_rda hr2.out lS)).mono ?_); rintro e w5 ⟨v5, rfl, ho5, hb5⟩; obtain ⟨gy, cy, rfl, hy1, hy2, hy3, hy4, hy5, hy6⟩ := own_open ho5 (mk_len 512 (SL 2 was shape (mk 256 (cut (32 * k) 32 ls)))) (by decide); have KY := Lib.hid hy5; have R5 := Lib.hid (R2.out.of_block (hb5.block _ lR2)); have B6 := Lib.hid (B5.out.trans (hb5.mono B5.out.size)); have ne : w4.heap.size ≠ gy := (by omega); clear ho5 hb5 hy5 hy6))
          go_loopw [27] (fun i wq => ∃ n : Nat, n ≤ 512 ∧ i = .int .i64 n ∧ Hid (wq.rowIs w4.heap.size 3 512 (fun j => .int .i64 (mixF (syT was shape ls k) (syT was shape ls (k + 1)) n j))) ∧ Hid (∀ j, j < 512 → wq.cell? ⟨gy, j, none⟩ = some (.int .i64 ((mk 512 (SL 2 was shape (mk 256 (cut (32 * k) 32 ls)))).getD j 0))) ∧ Hid (Below w4.heap.size w4 wq)) (fun i _ => 1024 - (intOf i).toNat)
          case atStart => exact ⟨0, by omega, rfl, Lib.hid (R5.out.congr fun j _ => by unfold mixF; rw [if_neg (by omega)]), KY, B6⟩
          case round =>
            obtain ⟨n, hn, rfl, hR, hY, hB⟩ := hrel
            by_cases hlt6 : n < 512
            · have q1 := hY.out n hlt6
              have q20 := hR.out.cell (i := n) hlt6
              have q3 := hR.out.frozen n
              rw [mk_at hlt6] at q1
              have q2 : wr.cell? ⟨w4.heap.size, n, none⟩ = some (.int .i64 (syT was shape ls k n)) := q20.trans (by unfold mixF; rw [if_neg (by omega)])
              clear q20
              have sc := sum_cut (was := was) (shape := shape) (L := ls) hlt n
              have so := SL_cut_out (was := was) (shape := shape) (L := ls) hlt n
              have y0 := BD.out k n (by omega)
              have y1 := BD.out (k + 1) n (by omega)
              generalize SL 2 was shape (mk 256 (cut (32 * k) 32 ls)) n = Y at *
              have sc2 := Lib.hid sc
              rw [← sc] at y1
              generalize syT was shape ls k n = F at *
              clear sc
              obtain ⟨f0, f1⟩ : -68719476736 ≤ F ∧ F ≤ 68719476736 := by omega
              obtain ⟨f2, f3⟩ : -68719476736 ≤ Y ∧ Y ≤ 68719476736 := by omega
              have hw : IntKind.i64.wrap (F + Y) = F + Y := by simp [IntKind.wrap, IntKind.bits, IntKind.signed]; omega
              clear y0 y1
              by_cases hin : 112 + 32 * k ≤ n ∧ n < 112 + 32 * k + 64
              · have i1 : ¬ (n : Int) < 112 + 32 * (k : Int) := by omega
                have i2 : ¬ 176 + 32 * (k : Int) ≤ (n : Int) := by omega
                clear so
                go_wp2
                go_region
                go_wp2
                go_roundw
                case rel => exact ⟨n + 1, by omega, by go_num, Lib.hid ((mix_step hR.out sc2.out).drew), Lib.hid (fun j hj => (cell_oth _ ne).trans (hY.out j hj)), Lib.hid ((hB.out.setCell (Nat.le_refl _) _).drew)⟩
                case measure => simp [intOf]; omega
              · obtain rfl : Y = 0 := so hin
                clear so
                by_cases i1 : (n : Int) < 112 + 32 * (k : Int)
                · go_wp2
                  go_region
                  go_wp2
                  go_roundw
                  case rel => exact ⟨n + 1, by omega, by go_num, Lib.hid ((mix_step hR.out (by rw [← sc2.out, Int.add_zero])).drew), Lib.hid (fun j hj => (cell_oth _ ne).trans (hY.out j hj)), Lib.hid ((hB.out.setCell (Nat.le_refl _) _).drew)⟩
                  case measure => simp [intOf]; omega
                · have i2 : 176 + 32 * (k : Int) ≤ (n : Int) := by omega
                  go_wp2
                  go_region
                  go_wp2
                  go_roundw
                  case rel => exact ⟨n + 1, by omega, by go_num, Lib.hid ((mix_step hR.out (by rw [← sc2.out, Int.add_zero])).drew), Lib.hid (fun j hj => (cell_oth _ ne).trans (hY.out j hj)), Lib.hid ((hB.out.setCell (Nat.le_refl _) _).drew)⟩
                  case measure => simp [intOf]; omega
            · have hn2 : ¬ (n : Int) < 512 := by omega
              have hR3 := Lib.hid (hR.out.congr (g := fun j => .int .i64 (syT was shape ls (k + 1) j)) fun j hj => by unfold mixF; rw [if_pos (by omega)])
              clear hR hY
              go_wp2
              go_roundw
              case rel => exact ⟨k + 1, by omega, by go_num, hR3, hB⟩
              case measure => simp [intOf]; omega
    · have hk8 : k = 8 := by omega
      have hk2 : ¬ (k : Int) < 8 := by omega
      have R6 := Lib.hid (hk8 ▸ hR.out)
      go_wp2
      go_loopw [28] (fun i wq => ∃ n : Nat, n ≤ 512 ∧ i = .int .i64 n ∧ Hid (Below wo.heap.size wo wq)) (fun i _ => 1024 - (intOf i).toNat)
      case atStart => exact ⟨0, by omega, rfl, Lib.hid (Below.refl _ _)⟩
      case round =>
        obtain ⟨n, hn, rfl, hB2⟩ := hrel
        by_cases hlt6 : n < 512
        · have q1 := (hB2.out.cell (p := ⟨gx, n, none⟩) (Nat.lt_of_lt_of_le hx2 hB.out.size)).trans ((hB.out.cell (p := ⟨gx, n, none⟩) hx2).trans (KX.out n hlt6))
          rw [mk_at hlt6] at q1
          unfold SL at q1
          rw [if_pos rfl] at q1
          have q2 := (hB2.out.cell (p := ⟨w4.heap.size, n, none⟩) R6.out.lt).trans (R6.out.cell hlt6)
          generalize syT was shape ls 8 n = X at *
          go_wp2
          go_quiet (fail)
          go_wp2
          go_roundw
          case rel => exact ⟨n + 1, by omega, by go_num, Lib.hid (hB2.out.trans ((drewN_below _ _).mono hB2.out.size))⟩
          case measure => simp [intOf]; omega
        · have hn2 : ¬ (n : Int) < 512 := by omega
          have B9 := Lib.hid (bt (bt B4.out hB.out) hB2.out)
          go_wp2
          go_ret
          exact ⟨rfl, B9.out⟩
set_option maxRecDepth 100000 in
set_option maxHeartbeats 8000000 in
theorem goodgood (was shape : Int) (A O : Option Addr) (ca co : Nat) (pcm ls : List Int) (wd : Nat) (w : World) (w0 : 0 ≤ was) (h0 : 0 ≤ shape) (RA : RdA w A pcm) (RO : RdA w O ls) (ka : pcm.length ≤ ca ∧ ca ≤ maxLen) (ko : ls.length ≤ co ∧ co ≤ maxLen) (hw : wd ≤ 7) (hM : May 2 was shape ∧ pcm.length = 512 ∧ InR (-32768) 32767 pcm) (hS : May 2 was shape ∧ ls.length = 256 ∧ InR (-268435455) 268435455 ls) :
    Calls Try.prog 7 #[.int .u8 was, .int .u8 shape, .slice A 512 ca, .slice O 256 co, .int .i64 wd] w fun e w' => e = .returned (.bool true) ∧ Below w.heap.size w w' := by
  have RA := Lib.hid RA
  have RO := Lib.hid RO
  have HL := Lib.hid hM.2.1
  have N1 := fun (W : World) (r : RdA W A pcm) => analyse_O 2 was shape A 512 ca pcm W (by decide) w0 h0 HL.out (by have := HL.out; omega) ka.2 r
  rw [aO_good hM.1 hM.2.1 hM.2.2] at N1
  have N2 := fun (g : Nat) (W : World) (r : RdA W (some ⟨g, 0, none⟩) (mk 512 (cut (112 + 32 * wd) 64 pcm))) => analyse_O 2 was shape (some ⟨g, 0, none⟩) 512 512 (mk 512 (cut (112 + 32 * wd) 64 pcm)) W (by decide) w0 h0 (mk_len _ _) (Nat.le_refl _) (by unfold maxLen; omega) r
  rw [aO_good hM.1 (mk_len _ _) (cut_in (by decide) (by decide) hM.2.2)] at N2
  have N2 := Lib.hid N2
  obtain ⟨i0, hi, hz0, hz1, hz2⟩ := info_parts Fx.info3
  have M1 := Lib.hid N1
  clear N1 hM
  have HO := Lib.hid hS.2.1
  have N3 := fun (W : World) (r : RdA W O ls) => synth_O 2 was shape O 256 co ls W (by decide) w0 h0 HO.out (by have := HO.out; omega) ko.2 r
  rw [sO_good hS.1 hS.2.1 hS.2.2] at N3
  have N4 := fun (k g : Nat) (W : World) (r : RdA W (some ⟨g, 0, none⟩) (mk 256 (cut (32 * k) 32 ls))) => synth_O 2 was shape (some ⟨g, 0, none⟩) 256 256 (mk 256 (cut (32 * k) 32 ls)) W (by decide) w0 h0 (mk_len _ _) (Nat.le_refl _) (by unfold maxLen; omega) r
  have N4 := fun (k g : Nat) (W : World) (r : RdA W (some ⟨g, 0, none⟩) (mk 256 (cut (32 * k) 32 ls))) => (sO_good hS.1 (mk_len _ _) (cut_in (by decide) (by decide) hS.2.2)) ▸ N4 k g W r
  have BD := Lib.hid (fun (k j : Nat) (hk : k ≤ 8) => syT_bd hS.2.1 hS.2.2 (was := was) (shape := shape) k j hk)
  have M4 := Lib.hid N4
  clear N4
  have M3 := Lib.hid N3
  clear N3 hS
  go_enter Try.func7, Try.ntmps7
  go_wp2_with first
    | (go_at_call 16; ((with_reducible refine (alive_ok w).mono ?_); rintro e w0 ⟨rfl, hb0⟩; have B0 := Lib.hid hb0; have R0 := Lib.hid (RA.out.below hb0); have O0 := Lib.hid (RO.out.below hb0); clear hb0))
    | (go_at_call 15; ((with_reducible refine (M1.out _ R0.out).mono ?_); rintro e w1 ⟨v1, rfl, ho1, hb1⟩; obtain ⟨g1, c1, rfl, hg1, hg2, hc1, hc2, hc3, hf3⟩ := own_open ho1 (AL_len 2 was shape pcm) (by decide); have K1 := Lib.hid hc3; have B1 := Lib.hid (bt B0.out hb1); have R1 := Lib.hid (R0.out.below hb1); have O1 := Lib.hid (O0.out.below hb1); clear ho1 hb1 hc3 hf3))
    | (refine wpList_make_row _ rfl _ _ 22 rfl 3 i0 (.int .i64 0) Try.underlying22 hi hz0 hz1 rfl .i64 .i64 512 rfl rfl (by rw [hz2]; omega) (by omega) ?_)
  go_loopw [15] (fun i wq => ∃ m : Nat, m ≤ 64 ∧ i = .int .i64 m ∧ Hid (wq.rowIs w1.heap.size 3 512 (fun j => .int .i64 (cut (112 + 32 * wd) m pcm j))) ∧ Hid (Below w1.heap.size w1 wq)) (fun i _ => 256 - (intOf i).toNat)
  case atStart => exact ⟨0, by omega, rfl, Lib.hid (cut_start (World.rowIs_made w1 (.int .i64 0) 512 3)), Lib.hid ((Below.refl _ _).alloc (Nat.le_refl _) _)⟩
  case round =>
    obtain ⟨m, hm, rfl, hr, hB⟩ := hrel
    by_cases hlt : m < 64
    · obtain ⟨b, off, rfl, lb, q0⟩ := R1.out (112 + 32 * wd + m) (by rw [HL.out]; omega)
      have q1 := (hB.out.cell (p := ⟨b, off + (112 + 32 * wd + m), none⟩) lb).trans q0
      have q2 := hr.out.cell (i := 112 + 32 * wd + m) (by omega)
      have q3 := hr.out.frozen (112 + 32 * wd + m)
      have hv : Hid (pcm.getD (112 + 32 * wd + m) 0 = pcm.getD (112 + 32 * wd + m) 0) := Lib.hid rfl
      generalize hX : pcm.getD (112 + 32 * wd + m) 0 = X at *
      have hX := Lib.hid hX
      go_wp2
      go_roundw
      case rel => exact ⟨m + 1, by omega, by go_num, Lib.hid (cut_step hr.out hX.out.symm), Lib.hid (hB.out.setCell (Nat.le_refl _) _)⟩
      case measure => simp [intOf]; omega
    · have hm64 : m = 64 := by omega
      have hr2 := Lib.hid (hm64 ▸ hr.out)
      have hlt2 : ¬ (m : Int) < 64 := by omega
      have lS := hr.out.lt
      have G1 := Lib.hid (Nat.lt_of_lt_of_le hg2 hB.out.size)
      have K1 := Lib.hid (fun j hj => (hB.out.cell (p := ⟨g1, j, none⟩) hg2).trans (K1.out j hj))
      have B1 := Lib.hid (bt B1.out hB.out)
      have O1 := Lib.hid (O1.out.below hB.out)
      clear hr hB hm64
      go_wp2_with first
        | (go_at_call 15; ((with_reducible refine (N2.out _ _ (row_rda hr2.out lS)).mono ?_); rintro e w2 ⟨v2, rfl, ho2, hb2⟩; obtain ⟨g2, c2, rfl, hg3, hg4, hc4, hc5, hc6, hf6⟩ := own_open ho2 (AL_len 2 was shape (mk 512 (cut (112 + 32 * wd) 64 pcm))) (by decide); have K2 := Lib.hid hc6; have K12 := Lib.hid (fun j hj => (hb2.cell (p := ⟨g1, j, none⟩) G1.out).trans (K1.out j hj)); have G2 := Lib.hid (Nat.lt_of_lt_of_le G1.out hb2.size); have B2 := Lib.hid (bt B1.out hb2); have O2 := Lib.hid (O1.out.below hb2); clear ho2 hb2 hc6 hf6))
      go_loopw [18] (fun i wq => ∃ m : Nat, m ≤ 32 ∧ i = .int .i64 (32 * (wd : Int) + (m : Int)) ∧ Hid (Below w2.heap.size w2 wq)) (fun i _ => 512 - (intOf i).toNat)
      case atStart => exact ⟨0, by omega, by simp, Lib.hid (Below.refl _ _)⟩
      case round =>
        obtain ⟨j, hj, rfl, hB⟩ := hrel
        by_cases hlt3 : j < 32
        · have e1 := (hB.out.cell (p := ⟨g1, 32 * wd + j, none⟩) G2.out).trans (K12.out (32 * wd + j) (by omega))
          have e2 := (hB.out.cell (p := ⟨g2, 32 * wd + j, none⟩) hg4).trans (K2.out (32 * wd + j) (by omega))
          rw [an_cut (by omega) hlt3] at e2
          generalize (AL 2 was shape pcm).getD (32 * wd + j) 0 = X at *
          go_wp2
          go_quiet (fail)
          go_wp2
          go_roundw
          case rel => exact ⟨j + 1, by omega, congrArg (Value.int .i64) (by omega), Lib.hid (hB.out.trans ((drewN_below _ _).mono hB.out.size))⟩
          case measure => simp [intOf]; omega
        · have hj32 : ¬ 32 * (wd : Int) + (j : Int) < 32 * (wd : Int) + 32 := by omega
          have B3 := Lib.hid (bt B2.out hB.out)
          have O3 := Lib.hid (O2.out.below hB.out)
          clear hB K1 K12 K2 R1 R0 O0 O1 O2 B0 B1 B2
          go_wp2_with first
            | (go_at_call 14; ((with_reducible refine (M3.out _ O3.out).mono ?_); rintro e w4 ⟨v4, rfl, ho4, hb4⟩; obtain ⟨gx, cx, rfl, hx1, hx2, hx3, hx4, hx5, hx6⟩ := own_open ho4 (mk_len 512 (SL 2 was shape ls)) (by decide); have KX := Lib.hid hx5; have B4 := Lib.hid (bt B3.out hb4); have O4 := Lib.hid (O3.out.below hb4); clear ho4 hb4 hx5 hx6))
            | (refine wpList_make_row _ rfl _ _ 22 rfl 3 i0 (.int .i64 0) Try.underlying22 hi hz0 hz1 rfl .i64 .i64 512 rfl rfl (by rw [hz2]; omega) (by omega) ?_)
          go_loopw [22] (fun i wq => ∃ k : Nat, k ≤ 8 ∧ i = .int .i64 k ∧ Hid (wq.rowIs w4.heap.size 3 512 (fun j => .int .i64 (syT was shape ls k j))) ∧ Hid (Below w4.heap.size w4 wq)) (fun i _ => 256 - (intOf i).toNat)
          case atStart => exact ⟨0, by omega, rfl, Lib.hid (World.rowIs_made w4 (.int .i64 0) 512 3), Lib.hid ((Below.refl _ _).alloc (Nat.le_refl _) _)⟩
          case round =>
            obtain ⟨k, hk, rfl, hR, hB⟩ := hrel
            generalize wr = wo at *
            by_cases hlt : k < 8
            · have k1 : (k : Int) ≤ 7 := by omega
              go_wp2_with first
                | (refine wpList_make_row _ rfl _ _ 22 rfl 3 i0 (.int .i64 0) Try.underlying22 hi hz0 hz1 rfl .i64 .i64 256 rfl rfl (by rw [hz2]; omega) (by omega) ?_)
              go_loopw [24] (fun i wq => ∃ m : Nat, m ≤ 32 ∧ i = .int .i64 (32 * (k : Int) + (m : Int)) ∧ Hid (wq.rowIs wo.heap.size 3 256 (fun j => .int .i64 (cut (32 * k) m ls j))) ∧ Hid (Below wo.heap.size wo wq)) (fun i _ => 512 - (intOf i).toNat)
              case atStart => exact ⟨0, by omega, by simp, Lib.hid (cut_start (World.rowIs_made wo (.int .i64 0) 256 3)), Lib.hid ((Below.refl _ _).alloc (Nat.le_refl _) _)⟩
              case round =>
                obtain ⟨m, hm, rfl, hr, hB2⟩ := hrel
                by_cases hlt4 : m < 32
                · obtain ⟨b, off, rfl, lb, q0⟩ := O4.out (32 * k + m) (by rw [HO.out]; omega)
                  have q1 := (hB2.out.cell (p := ⟨b, off + (32 * k + m), none⟩) (Nat.lt_of_lt_of_le lb hB.out.size)).trans ((hB.out.cell (p := ⟨b, off + (32 * k + m), none⟩) lb).trans q0)
                  have q2 := hr.out.cell (i := 32 * k + m) (by omega)
                  have q3 := hr.out.frozen (32 * k + m)
                  generalize hX : ls.getD (32 * k + m) 0 = X at *
                  have hX := Lib.hid hX
                  go_wp2
                  go_roundw
                  case rel => exact ⟨m + 1, by omega, congrArg (Value.int .i64) (by omega), Lib.hid (cut_step hr.out hX.out.symm), Lib.hid (hB2.out.setCell (Nat.le_refl _) _)⟩
                  case measure => simp [intOf]; omega
                · have hm32 : m = 32 := by omega
                  have hr2 := Lib.hid (hm32 ▸ hr.out)
                  have hlt5 : ¬ 32 * (k : Int) + (m : Int) < 32 * (k : Int) + 32 := by omega
                  have lS := hr.out.lt
                  have lR := hR.out.lt
                  have R2 := Lib.hid (hR.out.of_block (hB2.out.block _ lR))
                  have B5 := Lib.hid (hB.out.trans (hB2.out.mono hB.out.size))
                  have lR2 := Nat.lt_of_lt_of_le lR hB2.out.size
                  clear hr hB hR hB2 hm32
                  go_wp2_with first
                    | (go_at_call 14; ((with_reducible refine (M4.out k _ _ (row_rda hr2.out lS)).mono ?_); rintro e w5 ⟨v5, rfl, ho5, hb5⟩; obtain ⟨gy, cy, rfl, hy1, hy2, hy3, hy4, hy5, hy6⟩ := own_open ho5 (mk_len 512 (SL 2 was shape (mk 256 (cut (32 * k) 32 ls)))) (by decide); have KY := Lib.hid hy5; have R5 := Lib.hid (R2.out.of_block (hb5.block _ lR2)); have B6 := Lib.hid (B5.out.trans (hb5.mono B5.out.size)); have ne : w4.heap.size ≠ gy := (by omega); clear ho5 hb5 hy5 hy6))
                  go_loopw [27] (fun i wq => ∃ n : Nat, n ≤ 512 ∧ i = .int .i64 n ∧ Hid (wq.rowIs w4.heap.size 3 512 (fun j => .int .i64 (mixF (syT was shape ls k) (syT was shape ls (k + 1)) n j))) ∧ Hid (∀ j, j < 512 → wq.cell? ⟨gy, j, none⟩ = some (.int .i64 ((mk 512 (SL 2 was shape (mk 256 (cut (32 * k) 32 ls)))).getD j 0))) ∧ Hid (Below w4.heap.size w4 wq)) (fun i _ => 1024 - (intOf i).toNat)
                  case atStart => exact ⟨0, by omega, rfl, Lib.hid (R5.out.congr fun j _ => by unfold mixF; rw [if_neg (by omega)]), KY, B6⟩
                  case round =>
                    obtain ⟨n, hn, rfl, hR, hY, hB⟩ := hrel
                    by_cases hlt6 : n < 512
                    · have q1 := hY.out n hlt6
                      have q20 := hR.out.cell (i := n) hlt6
                      have q3 := hR.out.frozen n
                      rw [mk_at hlt6] at q1
                      have q2 : wr.cell? ⟨w4.heap.size, n, none⟩ = some (.int .i64 (syT was shape ls k n)) := q20.trans (by unfold mixF; rw [if_neg (by omega)])
                      clear q20
                      have sc := sum_cut (was := was) (shape := shape) (L := ls) hlt n
                      have so := SL_cut_out (was := was) (shape := shape) (L := ls) hlt n
                      have y0 := BD.out k n (by omega)
                      have y1 := BD.out (k + 1) n (by omega)
                      generalize SL 2 was shape (mk 256 (cut (32 * k) 32 ls)) n = Y at *
                      have sc2 := Lib.hid sc
                      rw [← sc] at y1
                      generalize syT was shape ls k n = F at *
                      clear sc
                      obtain ⟨f0, f1⟩ : -68719476736 ≤ F ∧ F ≤ 68719476736 := by omega
                      obtain ⟨f2, f3⟩ : -68719476736 ≤ Y ∧ Y ≤ 68719476736 := by omega
                      have hw : IntKind.i64.wrap (F + Y) = F + Y := by simp [IntKind.wrap, IntKind.bits, IntKind.signed]; omega
                      clear y0 y1
                      by_cases hin : 112 + 32 * k ≤ n ∧ n < 112 + 32 * k + 64
                      · have i1 : ¬ (n : Int) < 112 + 32 * (k : Int) := by omega
                        have i2 : ¬ 176 + 32 * (k : Int) ≤ (n : Int) := by omega
                        clear so
                        go_wp2
                        go_region
                        go_wp2
                        go_roundw
                        case rel => exact ⟨n + 1, by omega, by go_num, Lib.hid ((mix_step hR.out sc2.out).drew), Lib.hid (fun j hj => (cell_oth _ ne).trans (hY.out j hj)), Lib.hid ((hB.out.setCell (Nat.le_refl _) _).drew)⟩
                        case measure => simp [intOf]; omega
                      · obtain rfl : Y = 0 := so hin
                        clear so
                        by_cases i1 : (n : Int) < 112 + 32 * (k : Int)
                        · go_wp2
                          go_region
                          go_wp2
                          go_roundw
                          case rel => exact ⟨n + 1, by omega, by go_num, Lib.hid ((mix_step hR.out (by rw [← sc2.out, Int.add_zero])).drew), Lib.hid (fun j hj => (cell_oth _ ne).trans (hY.out j hj)), Lib.hid ((hB.out.setCell (Nat.le_refl _) _).drew)⟩
                          case measure => simp [intOf]; omega
                        · have i2 : 176 + 32 * (k : Int) ≤ (n : Int) := by omega
                          go_wp2
                          go_region
                          go_wp2
                          go_roundw
                          case rel => exact ⟨n + 1, by omega, by go_num, Lib.hid ((mix_step hR.out (by rw [← sc2.out, Int.add_zero])).drew), Lib.hid (fun j hj => (cell_oth _ ne).trans (hY.out j hj)), Lib.hid ((hB.out.setCell (Nat.le_refl _) _).drew)⟩
                          case measure => simp [intOf]; omega
                    · have hn2 : ¬ (n : Int) < 512 := by omega
                      have hR3 := Lib.hid (hR.out.congr (g := fun j => .int .i64 (syT was shape ls (k + 1) j)) fun j hj => by unfold mixF; rw [if_pos (by omega)])
                      clear hR hY
                      go_wp2
                      go_roundw
                      case rel => exact ⟨k + 1, by omega, by go_num, hR3, hB⟩
                      case measure => simp [intOf]; omega
            · have hk8 : k = 8 := by omega
              have hk2 : ¬ (k : Int) < 8 := by omega
              have R6 := Lib.hid (hk8 ▸ hR.out)
              go_wp2
              go_loopw [28] (fun i wq => ∃ n : Nat, n ≤ 512 ∧ i = .int .i64 n ∧ Hid (Below wo.heap.size wo wq)) (fun i _ => 1024 - (intOf i).toNat)
              case atStart => exact ⟨0, by omega, rfl, Lib.hid (Below.refl _ _)⟩
              case round =>
                obtain ⟨n, hn, rfl, hB2⟩ := hrel
                by_cases hlt6 : n < 512
                · have q1 := (hB2.out.cell (p := ⟨gx, n, none⟩) (Nat.lt_of_lt_of_le hx2 hB.out.size)).trans ((hB.out.cell (p := ⟨gx, n, none⟩) hx2).trans (KX.out n hlt6))
                  rw [mk_at hlt6] at q1
                  unfold SL at q1
                  rw [if_pos rfl] at q1
                  have q2 := (hB2.out.cell (p := ⟨w4.heap.size, n, none⟩) R6.out.lt).trans (R6.out.cell hlt6)
                  generalize syT was shape ls 8 n = X at *
                  go_wp2
                  go_quiet (fail)
                  go_wp2
                  go_roundw
                  case rel => exact ⟨n + 1, by omega, by go_num, Lib.hid (hB2.out.trans ((drewN_below _ _).mono hB2.out.size))⟩
                  case measure => simp [intOf]; omega
                · have hn2 : ¬ (n : Int) < 512 := by omega
                  have B9 := Lib.hid (bt (bt B4.out hB.out) hB2.out)
                  go_wp2
                  go_ret
                  exact ⟨rfl, B9.out⟩
theorem u8_lo {x : Int} (h : (Lit.int .u8 x).wf = true) : 0 ≤ x := by simp [Lit.wf] at h; have e : IntKind.u8.min = 0 := rfl; omega
theorem caps {W : World} {a : Option Addr} {len cap : Nat} {z : List Int} (h : IsRow .i64 W a len cap z) : len ≤ cap ∧ cap ≤ maxLen := by
  rcases h with ⟨_, h1, h2, _⟩ | ⟨_, _, h1, h2, _⟩
  · subst h1 h2; unfold maxLen; omega
  · exact ⟨h1, h2⟩
theorem sO_z {was shape : Int} {ls : List Int} (h : (sO 2 was shape ls).2 = 0) : May 2 was shape ∧ ls.length = 256 ∧ InR (-268435455) 268435455 ls := by
  unfold sO at h
  by_cases h1 : May 2 was shape
  · rw [if_neg (by simpa using h1)] at h
    by_cases h2 : ls.length = 256
    · rw [if_neg (by simpa using h2)] at h
      by_cases h3 : InR (-268435455) 268435455 ls
      · exact ⟨h1, h2, h3⟩
      · rw [if_pos h3] at h; exact absurd h (by decide)
    · rw [if_pos h2] at h; exact absurd h (by decide)
  · rw [if_pos h1] at h; exact absurd h (by decide)
theorem walk (a0 a1 : Int) (A : Option Addr) (len2 ca : Nat) (z2 : List Int) (O : Option Addr) (len3 co : Nat) (z3 : List Int) (a4 : Int) (W : World) (g0 : (Lit.int .u8 a0).wf = true) (g1 : (Lit.int .u8 a1).wf = true) (r2 : IsRow .i64 W A len2 ca z2) (r3 : IsRow .i64 W O len3 co z3) (_ : (Lit.int .i64 a4).wf = true) :
    Calls Try.prog 7 #[.int .u8 a0, .int .u8 a1, .slice A len2 ca, .slice O len3 co, .int .i64 a4] W fun e w' => e = .returned (.bool true) ∧ Below W.heap.size W w' := by
  have ka := caps r2
  have ko := caps r3
  obtain ⟨pcm, hx2, RA, _, _⟩ := row_all r2
  obtain ⟨ls, hx3, RO, _, _⟩ := row_all r3
  subst hx2 hx3
  have w0 := u8_lo g0
  have h0 := u8_lo g1
  by_cases n0 : 1000 < (pcm.length : Int)
  · exact far0 a0 a1 A O ca co pcm ls a4 W w0 h0 RA RO ka ko n0
  by_cases n1 : 1000 < (ls.length : Int)
  · exact far1 a0 a1 A O ca co pcm ls a4 W w0 h0 RA RO ka ko n0 n1
  by_cases n2 : a4 < 0
  · exact far2 a0 a1 A O ca co pcm ls a4 W w0 h0 RA RO ka ko n0 n1 n2
  by_cases n3 : 7 < a4
  · exact far3 a0 a1 A O ca co pcm ls a4 W w0 h0 RA RO ka ko n0 n1 n2 n3
  obtain ⟨wd, rfl⟩ : ∃ n : Nat, a4 = (n : Int) := ⟨a4.toNat, by omega⟩
  have hw : wd ≤ 7 := by omega
  by_cases hM : May 2 a0 a1 ∧ pcm.length = 512 ∧ InR (-32768) 32767 pcm
  · have e1 := hM.2.1
    by_cases hS : (sO 2 a0 a1 ls).2 = 0
    · have hS := sO_z hS
      have e2 := hS.2.1
      rw [e1, e2]
      exact goodgood a0 a1 A O ca co pcm ls wd W w0 h0 RA RO ka ko hw hM hS
    · rw [e1]
      exact goodbad a0 a1 A O ca co pcm ls wd W w0 h0 RA RO ka ko hw n1 hM hS
  · by_cases hS : (sO 2 a0 a1 ls).2 = 0
    · have hS := sO_z hS
      have e2 := hS.2.1
      rw [e2]
      exact badgood a0 a1 A O ca co pcm ls wd W w0 h0 RA RO ka ko hw n0 hM hS
    · exact badbad a0 a1 A O ca co pcm ls wd W w0 h0 RA RO ka ko hw n1 n0 hM hS

theorem own : ownKnob Try.prog.godebug = none := by kernel_rfl
theorem laidOut : laidOutB Try.prog = true := by kernel_rfl
set_option linter.unusedVariables false
set_option maxRecDepth 100000 in
theorem lifted (os : Os) (started : os.Started) (H : Type) (enc : TypeId × Value → H) :
    ReturnsInHanded {} Try.checked os 7 .any (Rows.blockShortsSpec.pre6 enc Try.prog Try.f7 Rows.blockShortsRow.domain false) (Rows.blockShortsSpec.post enc Try.prog Try.f7 false true false false) := by
  refine returnsInHanded_of_change (C := Try.checked) own started (by kernel_rfl) Try.func7
    (ChangeSpec.witness6 (enc := enc) (C := Try.checked) false ⟨#[], #[.int .u8 0, .int .u8 0, .slice none 0 0, .slice none 0 0, .int .i64 0], []⟩ 8 (by kernel_rfl) (by kernel_rfl) (by kernel_rfl) (by kernel_rfl)) ?_
  intro W base args ds gs before hval0 hW hcnd _
  have hval : ∀ (j : Nat) t v, Try.f7.params[j]? = some t → args[j]? = some v → Value.okWide Try.prog W .any base t v := hval0
  have hW' := hW
  obtain ⟨p, q, hA0, hV, rfl, hfz, hnd⟩ := hW
  have hA : DataW.TrodAll enc Try.prog W 0 (fun _ => true) true Try.f7.params.toList args.toList ds p := hA0
  rw [Try.params7] at hA hval
  obtain ⟨v0, vs0, d0, ds0, p0, q0, hargs, rfl, rfl, h0, r0⟩ := trodAll_cons hA
  obtain ⟨v1, vs1, d1, ds1, p1, q1, rfl, rfl, rfl, h1, r1⟩ := trodAll_cons r0
  obtain ⟨v2, vs2, d2, ds2, p2, q2, rfl, rfl, rfl, h2, r2⟩ := trodAll_cons r1
  obtain ⟨v3, vs3, d3, ds3, p3, q3, rfl, rfl, rfl, h3, r3⟩ := trodAll_cons r2
  obtain ⟨v4, vs4, d4, ds4, p4, q4, rfl, rfl, rfl, h4, r4⟩ := trodAll_cons r3
  obtain ⟨rfl, rfl, rfl⟩ := trodAll_nil r4
  obtain rfl : args = #[v0, v1, v2, v3, v4] := by cases args; simp_all
  obtain ⟨rfl, rfl⟩ := trodVars_none hV
  obtain ⟨a0, rfl, rfl, rfl, w0⟩ := open_int Try.underlying5 (hval 0 5 v0 rfl rfl) h0
  obtain ⟨a1, rfl, rfl, rfl, w1⟩ := open_int Try.underlying5 (hval 1 5 v1 rfl rfl) h1
  obtain ⟨a2, len2, cap2, rfl⟩ := okWide_slice Try.underlying22 (hval 2 22 v2 rfl rfl)
  have k2 := h2
  have lt2 : ∀ x ∈ p2, x.block < W.heap.size := by obtain ⟨m, hm⟩ := k2; exact DataW.trod_lt m _ _ _ hm
  obtain ⟨z2, w2⟩ : ∃ zs, IsRow .i64 W a2 len2 cap2 zs := by
    obtain ⟨fuel, hf⟩ := h2
    rcases open_ints Try.underlying22 Try.underlying3 (by kernel_rfl) hf with ⟨hcs, _⟩ | ⟨x, l, c, zs, hcs, _, hl, hm, hz, _, hcell, hwz⟩
    · simp [Value.cells] at hcs
      obtain ⟨rfl, rfl, rfl⟩ := hcs
      exact ⟨[], .inl ⟨rfl, rfl, rfl, rfl⟩⟩
    · simp [Value.cells] at hcs
      obtain ⟨rfl, rfl, rfl⟩ := hcs
      exact ⟨zs, .inr ⟨_, rfl, hl, hm, by simpa using hz, hcell, hwz⟩⟩
  obtain ⟨a3, len3, cap3, rfl⟩ := okWide_slice Try.underlying22 (hval 3 22 v3 rfl rfl)
  have k3 := h3
  have lt3 : ∀ x ∈ p3, x.block < W.heap.size := by obtain ⟨m, hm⟩ := k3; exact DataW.trod_lt m _ _ _ hm
  obtain ⟨z3, w3⟩ : ∃ zs, IsRow .i64 W a3 len3 cap3 zs := by
    obtain ⟨fuel, hf⟩ := h3
    rcases open_ints Try.underlying22 Try.underlying3 (by kernel_rfl) hf with ⟨hcs, _⟩ | ⟨x, l, c, zs, hcs, _, hl, hm, hz, _, hcell, hwz⟩
    · simp [Value.cells] at hcs
      obtain ⟨rfl, rfl, rfl⟩ := hcs
      exact ⟨[], .inl ⟨rfl, rfl, rfl, rfl⟩⟩
    · simp [Value.cells] at hcs
      obtain ⟨rfl, rfl, rfl⟩ := hcs
      exact ⟨zs, .inr ⟨_, rfl, hl, hm, by simpa using hz, hcell, hwz⟩⟩
  obtain ⟨a4, rfl, rfl, rfl, w4⟩ := open_int Try.underlying3 (hval 4 3 v4 rfl rfl) h4
  clear hA0 hval0
  refine (walk a0 a1 a2 len2 cap2 z2 a3 len3 cap3 z3 a4 W w0 w1 w2 w3 w4).mono fun e W' ⟨he, bel⟩ => ?_
  subst he
  exact ⟨_, rfl, _, _, _, [], _, [], hW', trodAll_mk1 (shut_bool Try.underlying4 _), (trodAll_cons_mk (shut_int Try.underlying5 w0) (trodAll_cons_mk (shut_int Try.underlying5 w1) (trodAll_cons_mk (Below.trod laidOut (by kernel_rfl) (of_decide_eq_true (by kernel_rfl)) k2 bel lt2) (trodAll_cons_mk (Below.trod laidOut (by kernel_rfl) (of_decide_eq_true (by kernel_rfl)) k3 bel lt3) (trodAll_cons_mk (shut_int Try.underlying3 w4) trodAll_mk0))))), rfl, bel.frame _, fun h => by cases h⟩

theorem over : Rows.blockShortsRow.holds Try.pinned (OpenSpec.ofChange Rows.blockShortsSpec) :=
  OpenClaim.holds_of_wide 7 Try.f7 rfl rfl rfl rfl rfl rfl rfl ⟨rfl, rfl, rfl, rfl, rfl⟩ rfl rfl rfl rfl rfl (by kernel_rfl) Try.func7 (by kernel_rfl)
    (of_decide_eq_true (by kernel_rfl)) (by unfold Func.isWrapper; first | (rw [if_pos (by decide +kernel)]; kernel_rfl) | (rw [if_neg (by decide +kernel)]; exact ⟨rfl, rfl⟩))
    (fun os started H enc _ => lifted os started H enc)

theorem proved : Rows.BlockShortsSaid := over
end Go.Proofs.Yteknakakefhbmaa.blockShorts

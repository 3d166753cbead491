/- The answer's lines. -/
import Derived.Test.YteknakakefhbmaaRfPut
import Derived.WalkKit
import Derived.Below
import Derived.RegionTactic
import Derived.Deep.QuietTactic
import Derived.BigQuiet
import Derived.ChangeAlike
import Derived.Deep.OwnRows
import Derived.Deep.RegionLaw
import Derived.ProofKit
import Derived.OpenShut
import Derived.ChangeSlices
import Derived.Lib.Hide
import Derived.Great.Walk
import Derived.ChangeKeysEq
import Derived.ChangeOld
import Derived.ShutString
namespace Go.Proofs.Yteknakakefhbmaa.Rf
open Go Go.ChangeShapes Go.WideShapes Go.ChangeAt Go.RowKit Go.Proofs.Yteknakakefhbmaa.Fx Go.Proofs.Yteknakakefhbmaa.Rk Go.Proofs.Yteknakakefhbmaa.Mm Go.Proofs.Yteknakakefhbmaa.Md Go.Proofs.Yteknakakefhbmaa.Bl Go.Proofs.Yteknakakefhbmaa.Cpy

theorem lines_L (seq was shape : Int) (A : Option Addr) (cap : Nat) (pcm : List Int) (w : World) (hs : seq = 0 ∨ seq = 1 ∨ seq = 3) (h1 : was = 0 ∨ was = 1) (h2 : shape = 0 ∨ shape = 1) (hl : pcm.length = 512) (rd : RdA w A pcm) (hI : InR (-32768) 32767 pcm) :
    Calls Try.prog 40 #[.int .u8 seq, .int .u8 was, .int .u8 shape, .slice A 512 cap] w fun e w' => ∃ v, e = .returned v ∧ Fx.Own w.heap.size w' v (anL seq was shape pcm) ∧ Below w.heap.size w w' := by
  have HV := Lib.hid (fun w => vals_ok seq was shape w hs h1 h2)
  have HR := Lib.hid rd
  have hq : (seq == 2) = false := by simp; omega
  have HU := Lib.hid (fun (V : Option Addr) (c : Nat) (w : World) (r : RdA w A pcm) (rv : RdA w V (wv seq was shape)) => (show Calls Try.prog 57 #[.slice A 512 cap, .int .i64 0, .slice V 512 c] w (Got 512 (mk 512 (un (wv seq was shape) (pcm.drop 0) 14)) w) from under_ok A V cap c 512 0 512 pcm (wv seq was shape) w hl (by omega) (by omega) (wv_len _ _ _) r rv hI (wv_in _ _ _)))
  have HL := Lib.hid (fun (Z : Option Addr) (c : Nat) (w : World) (r : RdA w Z (mk 512 (un (wv seq was shape) (pcm.drop 0) 14))) => lines512 Z c (mk 512 (un (wv seq was shape) (pcm.drop 0) 14)) w (mk_len _ _) r (un_in (wv_in _ _ _) (by rw [List.drop_zero]; exact hI) (by rw [wv_len]; omega) (by rw [List.drop_zero, hl]; omega)))
  clear hs h1 h2 rd hI hl
  go_enter Try.func40, Try.ntmps40
  go_wp2_with first
    | (go_at_call 38; ((with_reducible refine (HV.out _).mono ?_); rintro e w1 ⟨v1, rfl, ho1, hb1⟩; obtain ⟨g1, c1, rfl, _⟩ := own_open ho1 (wv_len _ _ _) (by decide); have R1 := Lib.hid (rd_rdA ho1.rd); have P1 := Lib.hid (HR.out.below hb1); have B1 := Lib.hid hb1; clear ho1 hb1))
    | (go_at_call 57; ((with_reducible refine (HU.out _ _ _ P1.out R1.out).mono ?_); rintro e w2 ⟨A2, c2, rfl, r2, hb2⟩; have R2 := Lib.hid r2; have B2 := Lib.hid (bt B1.out hb2); clear r2 hb2))
    | (go_at_call 56; ((with_reducible refine (HL.out _ _ _ R2.out).mono ?_); rintro e w3 ⟨v3, rfl, ho3, hb3⟩; have O3 := Lib.hid ho3; have B3 := Lib.hid (bt B2.out hb3); clear ho3 hb3))
  go_ret
  refine ⟨_, rfl, ?_, B3.out⟩
  have h := O3.out.rebase B2.out.size
  rw [List.drop_zero] at h
  exact h
set_option maxRecDepth 100000 in
set_option maxHeartbeats 4000000 in
theorem lines_T (was shape : Int) (A : Option Addr) (cap : Nat) (pcm : List Int) (w : World) (h1 : was = 0 ∨ was = 1) (h2 : shape = 0 ∨ shape = 1) (hl : pcm.length = 512) (rd : RdA w A pcm) (hI : InR (-32768) 32767 pcm) :
    Calls Try.prog 40 #[.int .u8 2, .int .u8 was, .int .u8 shape, .slice A 512 cap] w fun e w' => ∃ v, e = .returned v ∧ Fx.Own w.heap.size w' v (anT was shape pcm 8) ∧ Below w.heap.size w w' := by
  have HV := Lib.hid (fun k w => little_ok k was shape w h1 h2)
  have HR := Lib.hid rd
  have hnil := Lib.hid (own_nil w w.heap.size)
  have HU := Lib.hid (fun (k : Nat) (hk : k < 8) (V : Option Addr) (c : Nat) (w : World) (r : RdA w A pcm) (rv : RdA w V (wt (if k = 0 then was else shape) shape)) => (show Calls Try.prog 57 #[.slice A 512 cap, .int .i64 (112 + 32 * (k : Int)), .slice V 64 c] w (Got 64 (mk 64 (un (wt (if k = 0 then was else shape) shape) (pcm.drop (112 + 32 * k)) 14)) w) by
    have h := under_ok A V cap c 64 (112 + 32 * k) 512 pcm (wt (if k = 0 then was else shape) shape) w hl (by omega) (by omega) (wt_len _ _) r rv hI (wt_in _ _)
    rw [show (((112 + 32 * k : Nat)) : Int) = 112 + 32 * (k : Int) by omega] at h
    exact h))
  have HL := Lib.hid (fun (k : Nat) (hk : k < 8) (Z : Option Addr) (c : Nat) (w : World) (r : RdA w Z (mk 64 (un (wt (if k = 0 then was else shape) shape) (pcm.drop (112 + 32 * k)) 14))) => lines64 Z c (mk 64 (un (wt (if k = 0 then was else shape) shape) (pcm.drop (112 + 32 * k)) 14)) w (mk_len _ _) r (un_in (wt_in _ _) (inR_drop hI) (by rw [wt_len]; omega) (by simp [hl]; omega)))
  clear h1 h2 rd hI hl
  go_enter Try.func40, Try.ntmps40
  go_wp2
  go_loopw [9, 10] (fun v i wr => ∃ k : Nat, k ≤ 8 ∧ i = .int .i64 k ∧ Hid (Fx.Own w.heap.size wr v (anT was shape pcm k)) ∧ Hid (Below w.heap.size w wr)) (fun _ i _ => 256 - (intOf i).toNat)
  case atStart => exact ⟨0, by omega, rfl, hnil, Lib.hid (Below.refl _ _)⟩
  case round =>
    obtain ⟨k, hk, rfl, ho, hB⟩ := hrel
    by_cases hlt : k < 8
    · have hU := Lib.hid (HU.out k hlt)
      have hL := Lib.hid (HL.out k hlt)
      have hs : Hid (anT was shape pcm (k + 1) = anT was shape pcm k ++ anT1 was shape pcm k) := Lib.hid rfl
      go_wp2_with first
        | (go_at_call 58; ((with_reducible refine (HV.out k _).mono ?_); rintro e w1 ⟨v1, rfl, ho1, hb1⟩; obtain ⟨g1, c1, rfl, _⟩ := own_open ho1 (wt_len _ _) (by decide); have R1 := Lib.hid (rd_rdA ho1.rd); have B1 := Lib.hid (bt hB.out hb1); have P1 := Lib.hid (HR.out.below B1.out); have O1 := Lib.hid (ho.out.below hb1); clear ho1 hb1))
        | (go_at_call 57; ((with_reducible refine (hU.out _ _ _ P1.out R1.out).mono ?_); rintro e w2 ⟨A2, c2, rfl, r2, hb2⟩; have R2 := Lib.hid r2; have B2 := Lib.hid (bt B1.out hb2); have O2 := Lib.hid (O1.out.below hb2); clear r2 hb2))
        | (go_at_call 56; ((with_reducible refine (hL.out _ _ _ R2.out).mono ?_); rintro e w3 ⟨v3, rfl, ho3, hb3⟩; obtain ⟨g3, c3, rfl, _⟩ := own_open ho3 (mk_len _ _) (by decide); have R3 := Lib.hid (rd_rdA ho3.rd); have B3 := Lib.hid (bt B2.out hb3); have O3 := Lib.hid (O2.out.below hb3); clear ho3 hb3))
        | (at_builtin; refine app_row _ rfl (.tmp 24) (.tmp 34) rfl w.heap.size (anT was shape pcm k) (anT1 was shape pcm k) _ _ 32 c3 rfl O3.out rfl (mk_len _ _) (by decide) R3.out B3.out.size (by rw [anT_len]; omega) ?_; intro v4 w4 ho4 hb4; have O4 := Lib.hid ho4; have B4 := Lib.hid (B3.out.trans hb4); clear ho4 hb4)
      go_roundw
      case rel => exact ⟨k + 1, by omega, by go_num, by rw [hs.out]; exact O4, B4⟩
      case measure => simp [intOf]; omega
    · have hkn : k = 8 := by omega
      have h2 : ¬ (k : Int) < 8 := by omega
      have O2 := Lib.hid (hkn ▸ ho.out)
      have B2 := hB
      clear ho hB hkn
      go_wp2
      go_ret
      exact ⟨_, rfl, O2.out, B2.out⟩
end Go.Proofs.Yteknakakefhbmaa.Rf

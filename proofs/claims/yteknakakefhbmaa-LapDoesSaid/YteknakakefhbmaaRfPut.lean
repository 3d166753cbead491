/- Numbers put to their place. -/
import Derived.Test.YteknakakefhbmaaRfUn
import Derived.WalkKit
import Derived.Below
import Derived.RegionTactic
import Derived.Deep.QuietTactic
import Derived.BigQuiet
import Derived.ChangeAlike
import Derived.Deep.OwnRows
import Derived.Deep.RegionLaw
import Derived.ProofKit
import Derived.OpenShut
import Derived.ChangeSlices
import Derived.Lib.Hide
import Derived.Great.Walk
import Derived.ChangeKeysEq
import Derived.ChangeOld
import Derived.ShutString
namespace Go.Proofs.Yteknakakefhbmaa.Rf
open Go Go.ChangeShapes Go.WideShapes Go.ChangeAt Go.RowKit Go.Proofs.Yteknakakefhbmaa.Fx Go.Proofs.Yteknakakefhbmaa.Rk Go.Proofs.Yteknakakefhbmaa.Mm Go.Proofs.Yteknakakefhbmaa.Md Go.Proofs.Yteknakakefhbmaa.Bl Go.Proofs.Yteknakakefhbmaa.Cpy

theorem rd_set {w : World} {A : Option Addr} {L : List Int} {g i : Nat} {v : Value} (h : RdA w A L) (hg : ∀ b off, A = some ⟨b, off, none⟩ → g ≠ b) : RdA (w.setCell ⟨g, i, none⟩ v) A L := fun j hj => by
  obtain ⟨b, off, e, lb, c⟩ := h j hj
  have hs : (w.setCell ⟨g, i, none⟩ v).heap.size = w.heap.size := by simp [World.setCell]
  exact ⟨b, off, e, by rw [hs]; exact lb, (World.cell?_of_block (w := w) (heap_other v (hg b off e))).trans c⟩
set_option maxRecDepth 100000 in
set_option maxHeartbeats 4000000 in
theorem put_ok (g N P n cy cv : Nat) (Y V : Option Addr) (F : Nat → Int) (ys ws : List Int) (w : World) (hP : P + n ≤ N) (hN : N ≤ 1000) (hy : ys.length = n) (hw : ws.length = n) (r : w.rowIs g 3 N (fun j => .int .i64 (F j))) (rY : RdA w Y ys) (rV : RdA w V ws) (nY : ∀ b off, Y = some ⟨b, off, none⟩ → g ≠ b) (nV : ∀ b off, V = some ⟨b, off, none⟩ → g ≠ b)
    (hF : ∀ j, -1099511627776 ≤ F j ∧ F j ≤ 1099511627776) (hY : ∀ j, j < n → -68719476736 ≤ ys.getD j 0 ∧ ys.getD j 0 ≤ 68719476736) (hW : InR 0 4194304 ws) (hU : ∀ j, j < n → -1099511627776 ≤ un ws ys 26 j ∧ un ws ys 26 j ≤ 1099511627776) :
    Calls Try.prog 59 #[.slice (some ⟨g, 0, none⟩) N N, .int .i64 P, .slice Y n cy, .slice V n cv] w fun e w' => e = .returned (.tuple #[]) ∧ w'.rowIs g 3 N (fun j => .int .i64 (addF F P n (un ws ys 26) j)) ∧ Below g w w' := by
  have HP := Lib.hid hP
  have Hy := Lib.hid hy
  have Hw := Lib.hid hw
  have R0 := Lib.hid (r.congr (g := fun j => .int .i64 (addF F P 0 (un ws ys 26) j)) fun j _ => by rw [addF_zero])
  have RY := Lib.hid rY
  have RV := Lib.hid rV
  have HF := Lib.hid hF
  have HY := Lib.hid hY
  have HW := Lib.hid hW
  have HU := Lib.hid hU
  have NY := Lib.hid nY
  have NV := Lib.hid nV
  have hn : n ≤ 1000 := by omega
  clear hP hy hw r rY rV hF hY hW hU nY nV
  go_enter Try.func59, Try.ntmps59
  go_wp2
  go_loopw [8] (fun i wr => ∃ k : Nat, k ≤ n ∧ i = .int .i64 k ∧ Hid (wr.rowIs g 3 N (fun j => .int .i64 (addF F P k (un ws ys 26) j))) ∧ Hid (RdA wr Y ys) ∧ Hid (RdA wr V ws) ∧ Hid (Below g w wr)) (fun i _ => n - (intOf i).toNat)
  case atStart => exact ⟨0, by omega, rfl, R0, RY, RV, Lib.hid (Below.refl _ _)⟩
  case round =>
    obtain ⟨k, hk, rfl, hR, hYr, hVr, hB⟩ := hrel
    by_cases hlt : k < n
    · have hP := HP.out
      obtain ⟨b, off, rfl, lb, q0⟩ := hYr.out k (by rw [Hy.out]; omega)
      obtain ⟨b2, off2, rfl, lb2, r0⟩ := hVr.out k (by rw [Hw.out]; omega)
      have c0 := hR.out.cell (i := P + k) (by omega)
      have c1 := hR.out.frozen (P + k)
      have ne1 := NY.out b off rfl
      have ne2 := NV.out b2 off2 rfl
      obtain ⟨y0, y1⟩ := HY.out k hlt
      obtain ⟨v0, v1⟩ := HW.out k (by rw [Hw.out]; omega)
      obtain ⟨u0, u1⟩ := HU.out k hlt
      obtain ⟨f0, f1⟩ := HF.out (P + k)
      have hu : un ws ys 26 k = rnd (ys.getD k 0 * ws.getD k 0) 26 := rfl
      have cF : addF F P k (un ws ys 26) (P + k) = F (P + k) := by unfold addF; rw [if_neg (by omega)]
      rw [cF] at c0
      have HA := Lib.hid (addF_step (v := F (P + k) + un ws ys 26 k) hR.out rfl)
      clear cF
      generalize F (P + k) = X at *
      generalize un ws ys 26 k = Z at *
      generalize ys.getD k 0 = y at *
      generalize ws.getD k 0 = v at *
      obtain ⟨z0, z1⟩ := prod_in (x := y) (y := v) (by omega) (by omega) (by omega) (by omega)
      have hwr : IntKind.i64.wrap (y * v) = y * v := i64_in z0 z1
      have hws : IntKind.i64.wrap (X + Z) = X + Z := i64_in (by omega) (by omega)
      have HD := Lib.hid (fun w => down_in (y * v) 26 w z0 z1 (by decide) (by decide))
      rw [← hu] at HD
      have i1 : (k : Int) < (n : Int) := by omega
      have i2 : (P : Int) + (k : Int) < (N : Int) := by omega
      have i3 : (N : Int) ≤ 1000 := by omega
      have i4 : IntKind.i64.wrap ((P : Int) + (k : Int)) = (P : Int) + (k : Int) := i64_in (by omega) (by omega)
      have i5 : (0 : Int) ≤ (P : Int) + (k : Int) := by omega
      have i6 : ((P : Int) + (k : Int)).toNat = P + k := by omega
      clear y0 y1 v0 v1 u0 u1 f0 f1 hu hP
      go_wp2
      go_region_with
        (first
          | (go_at_call 63; ((with_reducible refine (HD.out _).mono ?_); rintro e w5 ⟨rfl, rfl⟩)))
      all_goals
        go_wp2
        go_roundw
        case rel => exact ⟨k + 1, by omega, by go_num, Lib.hid HA.out.drew, Lib.hid (rd_set hYr.out NY.out), Lib.hid (rd_set hVr.out NV.out), Lib.hid ((hB.out.setCell (Nat.le_refl _) _).drew)⟩
        case measure => simp [intOf]; omega
    · have hkn : k = n := by omega
      have h2 : ¬ (k : Int) < (n : Int) := by omega
      have R2 := Lib.hid (hkn ▸ hR.out)
      have B2 := hB
      clear hR hB hkn
      go_wp2
      go_end0
      exact ⟨rfl, R2.out, B2.out⟩
end Go.Proofs.Yteknakakefhbmaa.Rf

/- Samples under a window, numbers put to their place. -/
import Derived.Test.YteknakakefhbmaaRfWin
import Derived.Test.YteknakakefhbmaaBlSh
import Derived.WalkKit
import Derived.Below
import Derived.RegionTactic
import Derived.Deep.QuietTactic
import Derived.BigQuiet
import Derived.ChangeAlike
import Derived.Deep.OwnRows
import Derived.Deep.RegionLaw
import Derived.ProofKit
import Derived.OpenShut
import Derived.ChangeSlices
import Derived.Lib.Hide
import Derived.Great.Walk
import Derived.ChangeKeysEq
import Derived.ChangeOld
import Derived.ShutString
namespace Go.Proofs.Yteknakakefhbmaa.Rf
open Go Go.ChangeShapes Go.WideShapes Go.ChangeAt Go.RowKit Go.Proofs.Yteknakakefhbmaa.Fx Go.Proofs.Yteknakakefhbmaa.Rk Go.Proofs.Yteknakakefhbmaa.Mm Go.Proofs.Yteknakakefhbmaa.Md Go.Proofs.Yteknakakefhbmaa.Bl Go.Proofs.Yteknakakefhbmaa.Cpy

theorem own_drew {base : Nat} {w : World} {v : Value} {L : List Int} (h : Fx.Own base w v L) : Fx.Own base w.drew v L := h
theorem rd_drew {w : World} {A : Option Addr} {L : List Int} (h : RdA w A L) : RdA w.drew A L := h
theorem prod_in {x y : Int} (h0 : -68719476736 ≤ x) (h1 : x ≤ 68719476736) (k0 : -67108864 ≤ y) (k1 : y ≤ 67108864) : -4611686018427387904 ≤ x * y ∧ x * y ≤ 4611686018427387904 := by
  have := prod_bd (M := 68719476736) h0 h1 k0 k1
  omega
set_option maxRecDepth 100000 in
set_option maxHeartbeats 4000000 in
theorem under_ok (A V : Option Addr) (cap c n p N : Nat) (pcm ws : List Int) (w : World) (hN : pcm.length = N) (hp : p + n ≤ N) (hN2 : N ≤ 1000) (hw : ws.length = n) (rd : RdA w A pcm) (rv : RdA w V ws) (hI : InR (-32768) 32767 pcm) (hW : InR 0 4194304 ws) :
    Calls Try.prog 57 #[.slice A N cap, .int .i64 p, .slice V n c] w (Got n (mk n (un ws (pcm.drop p) 14)) w) := by
  refine Calls.mono (R := fun e w' => ∃ v, e = .returned v ∧ Fx.Own w.heap.size w' v (mk n (un ws (pcm.drop p) 14)) ∧ Below w.heap.size w w') ?_ fun e w' h => got_of (mk_len _ _) rfl h
  have hnil := Lib.hid (own_nil w w.heap.size)
  have HN := Lib.hid hN
  have HW := Lib.hid hw
  have HR := Lib.hid rd
  have HV := Lib.hid rv
  have HI := Lib.hid hI
  have HU := Lib.hid hW
  have hn : n ≤ 1000 := by omega
  clear hN hw rd rv hI hW
  go_enter Try.func57, Try.ntmps57
  go_wp2
  go_loopw [7, 8] (fun v i wr => ∃ k : Nat, k ≤ n ∧ i = .int .i64 k ∧ Hid (Fx.Own w.heap.size wr v (mk k (un ws (pcm.drop p) 14))) ∧ Hid (Below w.heap.size w wr)) (fun _ i _ => n - (intOf i).toNat)
  case atStart => exact ⟨0, by omega, rfl, hnil, Lib.hid (Below.refl _ _)⟩
  case round =>
    obtain ⟨k, hk, rfl, ho, hB⟩ := hrel
    by_cases hlt : k < n
    · have hs := mk_succ k (un ws (pcm.drop p) 14)
      obtain ⟨b, off, rfl, lb, q0⟩ := HR.out (p + k) (by rw [HN.out]; omega)
      obtain ⟨b2, off2, rfl, lb2, r0⟩ := HV.out k (by rw [HW.out]; omega)
      obtain ⟨x0, x1⟩ := HI.out (p + k) (by rw [HN.out]; omega)
      obtain ⟨y0, y1⟩ := HU.out k (by rw [HW.out]; omega)
      have hu : un ws (pcm.drop p) 14 k = rnd (pcm.getD (p + k) 0 * ws.getD k 0) 14 := by unfold un; rw [drop_getD]
      rw [hu] at hs
      clear hu
      have hs := Lib.hid hs
      generalize pcm.getD (p + k) 0 = X at *
      generalize ws.getD k 0 = Y at *
      obtain ⟨z0, z1⟩ := prod_in (x := X) (y := Y) (by omega) (by omega) (by omega) (by omega)
      have hwr : IntKind.i64.wrap (X * Y) = X * Y := i64_in z0 z1
      have HD := Lib.hid (fun w => down_in (X * Y) 14 w z0 z1 (by decide) (by decide))
      have KEEP := Lib.hid (fun (W : World) (hW : Below w.heap.size w W) => (⟨(hW.cell (p := ⟨b, off + (p + k), none⟩) lb).trans q0, (hW.cell (p := ⟨b2, off2 + k, none⟩) lb2).trans r0, hW⟩ : W.cell? ⟨b, off + (p + k), none⟩ = some (.int .i64 X) ∧ W.cell? ⟨b2, off2 + k, none⟩ = some (.int .i64 Y) ∧ Below w.heap.size w W))
      have i1 : (k : Int) < (n : Int) := by omega
      have i2 : (p : Int) + (k : Int) < (N : Int) := by omega
      have i3 : (N : Int) ≤ 1000 := by omega
      have i4 : IntKind.i64.wrap ((p : Int) + (k : Int)) = (p : Int) + (k : Int) := i64_in (by omega) (by omega)
      have i5 : (0 : Int) ≤ (p : Int) + (k : Int) := by omega
      have i6 : ((p : Int) + (k : Int)).toNat = p + k := by omega
      clear q0 r0 x0 x1 y0 y1
      go_wp2
      go_region_held3 (fun w' => w'.cell? ⟨b, off + (p + k), none⟩ = some (.int .i64 X) ∧ w'.cell? ⟨b2, off2 + k, none⟩ = some (.int .i64 Y) ∧ Below w.heap.size w w')
        (exact KEEP.out _ (by first | exact B2.out | exact (‹_ ∧ _ ∧ Below _ _ _›).2.2 | exact hB.out.drew | exact ((‹_ ∧ _ ∧ Below _ _ _›).2.2).alloc ((‹_ ∧ _ ∧ Below _ _ _›).2.2).size _))
        (first
          | (go_at_call 63; ((with_reducible refine (HD.out _).mono ?_); rintro e w5 ⟨rfl, rfl⟩))
          | (refine step_app _ rfl (.tmp 15) (.tmp 28) rfl w.heap.size (mk k (un ws (pcm.drop p) 14)) [rnd (X * Y) 14] _ (some ⟨wr.heap.size, 0, none⟩) 1 1 rfl (own_drew (own_alloc ho.out _)) rfl rfl (by decide) (rd_drew (one_rd _ _)) (by have := hB.out.size; simp; omega) (by simp [mk_len]; omega) ?_; intro v2 w2 ho2 hb2; have O2 := Lib.hid ho2; have B2 := Lib.hid ((hB.out.alloc hB.out.size _).drew.trans hb2); clear ho2 hb2))
      go_wp2
      go_roundw
      case rel => exact ⟨k + 1, by omega, by go_num, by rw [hs.out]; exact O2, B2⟩
      case measure => simp [intOf]; omega
    · have hkn : k = n := by omega
      have h2 : ¬ (k : Int) < (n : Int) := by omega
      have O2 := Lib.hid (hkn ▸ ho.out)
      have B2 := hB
      clear ho hB hkn
      go_wp2
      go_ret
      exact ⟨_, rfl, O2.out, B2.out⟩
end Go.Proofs.Yteknakakefhbmaa.Rf

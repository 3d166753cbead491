/- What overlaps behind a frame, by the answer. -/
import Derived.Test.YteknakakefhbmaaRlCon
import Derived.Deep.RegionHeld3
import Derived.WalkKit
import Derived.Below
import Derived.RegionTactic
import Derived.Deep.QuietTactic
import Derived.BigQuiet
import Derived.ChangeAlike
import Derived.Deep.OwnRows
import Derived.Deep.RegionLaw
import Derived.ProofKit
import Derived.OpenShut
import Derived.ChangeSlices
import Derived.Lib.Hide
import Derived.Great.Walk
import Derived.ChangeKeysEq
import Derived.ChangeOld
import Derived.ShutString
namespace Go.Proofs.Yteknakakefhbmaa.Rl
open Go Go.ChangeShapes Go.WideShapes Go.ChangeAt Go.RowKit Go.Proofs.Yteknakakefhbmaa.Fx Go.Proofs.Yteknakakefhbmaa.Rk Go.Proofs.Yteknakakefhbmaa.Mm Go.Proofs.Yteknakakefhbmaa.Md Go.Proofs.Yteknakakefhbmaa.Bl Go.Proofs.Yteknakakefhbmaa.Cpy Go.Proofs.Yteknakakefhbmaa.Lp Go.Proofs.Yteknakakefhbmaa.Rf

theorem res2 {P : Program} {fn : Func} {a t b u : Nat} {tmps : Array Value} {w : World} {v : Value} (h : fn.results = #[.cell a t, .tmp u]) (ht : tmps.getD a undef = .pointer (some ⟨b, 0, none⟩)) (hl : (loadVar t ⟨b, 0, none⟩).run P w = .ok v w) : (results fn tmps).run P w = .ok (.tuple #[v, tmps.getD u undef]) w := by
  have ht2 : tmps[a]?.getD undef = .pointer (some ⟨b, 0, none⟩) := by simpa using ht
  simp [results, h, ht2, asAddr, hl]
theorem rkept (x : Int) (w : World) : Calls Try.prog 62 #[.int .i64 x, .int .i64 16] w fun e w' => e = .returned (.int .i64 (clp x 16)) ∧ w = w' := by
  have hc : clp x 16 = min (max x (-32768)) 32767 := by rw [clp16]; omega
  rw [hc]
  go_enter Try.func62, Try.ntmps62
  go_wp2
  go_ret
  exact ⟨rfl, rfl⟩
/-- A frame's samples. -/
def dP (tail : List Int) (Y : Nat → Int) (n : Nat) : Int := clp (rnd (tail.getD n 0 + Y n) 4) 16
set_option maxRecDepth 100000 in
set_option maxHeartbeats 4000000 in
theorem rdone_ok (A O : Option Addr) (cap co : Nat) (tail lines : List Int) (s h q sh : Int) (w : World) (q0 : 0 ≤ q) (h0 : 0 ≤ h) (p0 : 0 ≤ sh) (hL : LapOK tail s h) (hM : May q h sh) (hl : lines.length = 256) (hI : InR (-268435455) 268435455 lines) (hc : 256 ≤ co) (hcm : co ≤ maxLen) (RA : RdA w A tail) (RO : RdA w O lines) :
    Calls Try.prog 46 #[lapV (.slice A tail.length cap) s h, .int .u8 q, .int .u8 sh, .slice O lines.length co] w fun e w' => ∃ v u, e = .returned (.tuple #[lapV v q sh, u]) ∧ Fx.Own w.heap.size w' v (mk 256 (fun j => SL q h sh lines (256 + j))) ∧ Fx.Own w.heap.size w' u (mk 256 (dP tail (SL q h sh lines))) ∧ Below w.heap.size w w' := by
  obtain ⟨z1, z2, z3⟩ := two38 w (.slice A tail.length cap) (.int .u8 s) (.int .u8 h)
  have HN := Lib.hid (fun W r => numbers_ok q h sh O co lines W q0 h0 p0 hM hl hc hcm r hI)
  have YB := Lib.hid (syb (seq := q) (was := h) (shape := sh) hl hI)
  have TL := Lib.hid hL.1
  have TI := Lib.hid hL.2.2.2
  have ht : (tail.length : Int) = 256 := by rw [hL.1]; rfl
  have HT := Lib.hid ht
  obtain ⟨b, off, rfl, lb, _⟩ := RA 0 (by rw [hL.1]; decide)
  obtain ⟨x0, x1, x2, _⟩ := cell_in z1
  have Q2 := Lib.hid z2
  have Q3 := Lib.hid z3
  have HA := Lib.hid RA
  have HO := Lib.hid RO
  generalize SL q h sh lines = Y at *
  clear q0 h0 p0 hL hM hl hI hc hcm RA RO z1 z2 z3 ht
  unfold lapV
  go_enter Try.func46, Try.ntmps46
  go_wp2_with first
    | (go_at_call 41; ((with_reducible refine (HN.out _ (HO.out.below Q3.out)).mono ?_); rintro e w5 ⟨v5, rfl, ho5, hb5⟩; obtain ⟨gy, cy, rfl, hy1, hy2, hy3, hy4, hy5, _⟩ := own_open ho5 (mk_len 512 Y) (by decide); have KY := Lib.hid hy5; have B5 := Lib.hid (Q3.out.trans (hb5.mono (by simp; omega))); have X0 := (hb5.cell (p := ⟨w.heap.size, 0, none⟩) (by simp; omega)).trans x0; have Q5 := Lib.hid ((hb5.block _ (by simp)).trans Q2.out); have L5 : w.heap.size + 1 < w5.heap.size := Nat.lt_of_lt_of_le (by simp) hb5.size; clear ho5 hb5 hy5))
  have hnil := Lib.hid (own_nil w5 w5.heap.size)
  go_loopw [11, 12] (fun v i wr => ∃ k : Nat, k ≤ 256 ∧ i = .int .i64 k ∧ Hid (Fx.Own w5.heap.size wr v (mk k (dP tail Y))) ∧ Hid (Below w5.heap.size w5 wr)) (fun _ i _ => 256 - (intOf i).toNat)
  case atStart => exact ⟨0, by omega, rfl, hnil, Lib.hid (Below.refl _ _)⟩
  case round =>
    obtain ⟨k, hk, rfl, ho, hB⟩ := hrel
    by_cases hlt : k < 256
    · have hs := mk_succ k (dP tail Y)
      obtain ⟨b', off', e', lb', r0⟩ := (HA.out.below B5.out) k (by rw [TL.out]; exact hlt)
      simp only [Option.some.injEq, Addr.mk.injEq, and_true] at e'
      obtain ⟨rfl, rfl⟩ := e'
      have r1 := KY.out k (by omega)
      rw [mk_at (by omega)] at r1
      obtain ⟨t0, t1⟩ := TI.out k (by rw [TL.out]; exact hlt)
      obtain ⟨u0, u1⟩ := YB.out k
      have hd : dP tail Y k = clp (rnd (tail.getD k 0 + Y k) 4) 16 := rfl
      rw [hd] at hs
      have hs := Lib.hid hs
      clear hd
      generalize tail.getD k 0 = T at *
      generalize Y k = V at *
      have hwr : IntKind.i64.wrap (T + V) = T + V := i64_in (by omega) (by omega)
      have HD := Lib.hid (fun w => down_in (T + V) 4 w (by omega) (by omega) (by decide) (by decide))
      have HK := Lib.hid (fun w => rkept (rnd (T + V) 4) w)
      have KEEP := Lib.hid (fun (W : World) (hW : Below w5.heap.size w5 W) => (⟨(hW.cell (p := ⟨w.heap.size, 0, none⟩) (show w.heap.size < w5.heap.size by omega)).trans X0, (hW.cell (p := ⟨b, off + k, none⟩) lb').trans r0, (hW.cell (p := ⟨gy, k, none⟩) hy2).trans r1, hW⟩ : W.cell? ⟨w.heap.size, 0, none⟩ = some (.slice (some ⟨b, off, none⟩) tail.length cap) ∧ W.cell? ⟨b, off + k, none⟩ = some (.int .i64 T) ∧ W.cell? ⟨gy, k, none⟩ = some (.int .i64 V) ∧ Below w5.heap.size w5 W))
      have i1 : (k : Int) < 256 := by omega
      have i5 : (k : Int) < 512 := by omega
      have i2 : (k : Int) < (tail.length : Int) := by rw [HT.out]; exact i1
      clear r0 r1 t0 t1 u0 u1 X0
      go_wp2
      go_region_held3 (fun w' => w'.cell? ⟨w.heap.size, 0, none⟩ = some (.slice (some ⟨b, off, none⟩) tail.length cap) ∧ w'.cell? ⟨b, off + k, none⟩ = some (.int .i64 T) ∧ w'.cell? ⟨gy, k, none⟩ = some (.int .i64 V) ∧ Below w5.heap.size w5 w')
        (exact KEEP.out _ (by first | exact B2.out | exact (‹_ ∧ _ ∧ _ ∧ Below _ _ _›).2.2.2 | exact hB.out.drew | exact ((‹_ ∧ _ ∧ _ ∧ Below _ _ _›).2.2.2).alloc ((‹_ ∧ _ ∧ _ ∧ Below _ _ _›).2.2.2).size _))
        (first
          | (go_at_call 63; ((with_reducible refine (HD.out _).mono ?_); rintro e w6 ⟨rfl, rfl⟩))
          | (go_at_call 62; ((with_reducible refine (HK.out _).mono ?_); rintro e w6 ⟨rfl, rfl⟩))
          | (refine step_app _ rfl (.tmp 23) (.tmp 36) rfl w5.heap.size (mk k (dP tail Y)) [clp (rnd (T + V) 4) 16] _ (some ⟨wr.heap.size, 0, none⟩) 1 1 rfl (own_drew (own_alloc ho.out _)) rfl rfl (by decide) (rd_drew (one_rd _ _)) (by have := hB.out.size; simp; omega) (by simp [mk_len]; omega) ?_; intro v2 w2 ho2 hb2; have O2 := Lib.hid ho2; have B2 := Lib.hid ((hB.out.alloc hB.out.size _).drew.trans hb2); clear ho2 hb2))
      go_wp2
      go_roundw
      case rel => exact ⟨k + 1, by omega, by go_num, by rw [hs.out]; exact O2, B2⟩
      case measure => simp [intOf]; omega
    · have hkn : k = 256 := by omega
      have h2 : ¬ (k : Int) < 256 := by omega
      have O2 := Lib.hid (hkn ▸ ho.out)
      have i3 : (512 : Int) ≤ (cy : Int) := by omega
      have RY : Hid (RdA wr (some ⟨gy, 256, none⟩) ((mk 512 Y).drop 256)) := Lib.hid (by
        have h := rd_drop (p := 256) ((cells_rd hy2 (mk_len 512 Y) KY.out).below hB.out)
        rw [Nat.zero_add] at h
        exact h)
      have hnw := Lib.hid (own_nil wr wr.heap.size)
      have Q6 := Lib.hid ((hB.out.block _ L5).trans Q5.out)
      unfold maxLen at hy4
      have lw := hB.out.size
      clear ho hkn X0
      go_wp2_with (at_builtin; refine app_row _ rfl (.const (.slice none 0 0)) (.tmp 39) rfl wr.heap.size [] ((mk 512 Y).drop 256) _ (some ⟨gy, 256, none⟩) 256 _ rfl hnw.out rfl (by simp [mk_len]) (by decide) RY.out (Nat.le_refl _) (by simp) ?_; intro v7 w7 ho7 hb7; have O7 := Lib.hid ho7; have B7 := Lib.hid (bt hB.out hb7); obtain ⟨g7, c7, rfl, _⟩ := own_open ho7 (n := 256) (by simp [mk_len]) (by decide); have O8 := Lib.hid (O2.out.below hb7); obtain ⟨c0, c1, c2, f0, f1, f2⟩ := cell_in ((hb7.block _ (Nat.lt_of_lt_of_le L5 lw)).trans Q6.out); have Q7 := Lib.hid ((hb7.block _ (Nat.lt_of_lt_of_le L5 lw)).trans Q6.out); clear ho7 hb7)
      obtain ⟨d0, d1, d2, _⟩ := cell_in (set3 (.slice (some ⟨g7, 0, none⟩) 256 c7) (.int .u8 q) (.int .u8 sh) Q7.out)
      have e1 : [] ++ (mk 512 Y).drop 256 = mk 256 (fun j => Y (256 + j)) := by
        rw [List.nil_append]
        refine List.ext_getElem (by simp [mk_len]) fun j h1 h2 => ?_
        simp [mk]
      refine bodyPost_ret (res2 rfl rfl (load38 d0 d1 d2)) rfl ?_
      have o7 := O7.out
      rw [e1] at o7
      exact ⟨_, _, rfl, ((((o7.set (by omega)).set (by omega)).set (by omega)).rebase (by omega)), ((((O8.out.set (by omega)).set (by omega)).set (by omega)).rebase (by omega)), bel3 _ _ _ (bt B5.out B7.out) (by omega)⟩
end Go.Proofs.Yteknakakefhbmaa.Rl

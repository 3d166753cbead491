/- Lines and Quantise, as the document says. -/
import Derived.Test.YtanjcbnkkhbkkaaDoorMrg6
import Derived.Deep.RegionHeld3
import Derived.WalkKit
import Derived.Below
import Derived.RegionTactic
import Derived.Deep.QuietTactic
import Derived.BigQuiet
import Derived.ProofKit
import Derived.OpenShut
import Derived.Laws.AppendOwn
import Derived.Laws.AppendOwnNone
import Derived.Deep.OwnRows
import Derived.Lib.Hide
namespace Go.Proofs.YtanjcbnkkhbkkaaDoor.Qd
open Go Go.ChangeShapes Go.WideShapes Go.ChangeAt Go.RowKit Go.Proofs.YtanjcbnkkhbkkaaDoor.If Go.Proofs.YtanjcbnkkhbkkaaDoor.Bd Go.Proofs.YtanjcbnkkhbkkaaDoor.Qn

theorem infoI : (Tryd.prog.info? 3).map (fun i => (i.zero, i.size, i.bytes)) = some (some (.int .i64 0), 1, 8) := by kernel_rfl
theorem NQ_nil {T : Int} (t0 : 0 ≤ T) : Fx.NQ 0 T = 0 := by
  have h1 := (Fx.ln_bd (q := 0) t0 (by decide)).1
  have h2 := (Fx.ln_bd (q := 0 + 1) t0 (by decide)).1
  have h : Fx.Near 0 T 0 := ⟨by decide, by decide, .inr (by omega), .inl rfl⟩
  have h3 := Fx.nq_of t0 h
  unfold Fx.NQ
  rw [if_neg (by decide)]
  exact h3.symm
theorem qv_lines {r s h m : Int} {gz : List Int} {B S : List (List Int)} {lz : List Int} (hf : Fine r s h m gz B S lz 8191) {k : Nat} (hk : k < 256) (c : Cn r s m gz B k) : QV r s m gz B S lz Fx.FL k = Fx.LN (lz.getD k 0) (stp r s gz S k) := by
  obtain ⟨hq, _, hin⟩ := hf
  obtain ⟨t0, t1⟩ := step_in hq hk c
  rw [qv_st]
  exact st_fl c t0 t1 (hin k hk).1 (hin k hk).2
theorem qv_quant {r s h m : Int} {gz : List Int} {B S : List (List Int)} {lz : List Int} (hf : Fine r s h m gz B S lz 268435455) {k : Nat} (hk : k < 256) (c : Cn r s m gz B k) : QV r s m gz B S lz Fx.FQ k = Fx.NQ (lz.getD k 0) (stp r s gz S k) := by
  obtain ⟨hq, _, hin⟩ := hf
  obtain ⟨t0, t1⟩ := step_in hq hk c
  rw [qv_st]
  by_cases hx : lz.getD k 0 = 0
  · rw [hx, st_zero, NQ_nil t0]
  · exact st_fq c t0 t1 (hin k hk).1 (hin k hk).2 hx
theorem qv_none {r s h m : Int} {gz : List Int} {B S : List (List Int)} {lz : List Int} {f : Int → Int → Int} {k : Nat} (c : ¬ Cn r s m gz B k) : QV r s m gz B S lz f k = 0 := by rw [qv_st]; exact st_not c _ _ _
set_option maxRecDepth 100000 in
theorem rlines_err (r s h m : Int) (ga : Option Addr) (gc : Nat) (gz : List Int) (O P A : Option Addr) (oc pc lc : Nat) (B S : List (List Int)) (lz : List Int) (w : World) (I : Inp w ga gz O P B S) (hll : lz.length ≤ 1000) (rl : RdA w A lz) (c : Int) (hc : c ≠ 0) (hae : AE r s h m gz B S lz 8191 c) :
    Calls Tryd.prog 32 #[.int .i64 r, .agg #[.int .u8 s, .int .u8 h, .int .i64 m, .slice ga gz.length gc], .slice O B.length oc, .slice P S.length pc, .slice A lz.length lc] w fun e w' => e = .returned (.tuple #[.slice none 0 0, .int .i64 c]) ∧ Below w.heap.size w w' := by
  have HB := Lib.hid (box_below w (.cells #[.int .u8 s, .int .u8 h, .int .i64 m, .slice ga gz.length gc] 50))
  have HC := Lib.hid (asked_ok r s h m ga gc gz O P A oc pc lc B S lz 8191 _ (I.below HB.out) hll (rl.below HB.out) (by decide) (by decide) c hae)
  have hc2 : (c != 0) = true := by simp [hc]
  clear I rl hae
  go_enter Tryd.func32, Tryd.ntmps32
  go_wp2_with (go_at_call 54; ((with_reducible refine (HC.out).mono ?_); rintro e w1 ⟨rfl, hb1⟩; have B1 := Lib.hid (belowT HB.out hb1)))
  go_ret2
  exact ⟨rfl, B1.out⟩
set_option maxRecDepth 100000 in
set_option maxHeartbeats 4000000 in
theorem rlines_ok (r s h m : Int) (ga : Option Addr) (gc : Nat) (gz : List Int) (O P A : Option Addr) (oc pc lc : Nat) (B S : List (List Int)) (lz : List Int) (w : World) (I : Inp w ga gz O P B S) (rl : RdA w A lz) (hf : Fine r s h m gz B S lz 8191) :
    Calls Tryd.prog 32 #[.int .i64 r, .agg #[.int .u8 s, .int .u8 h, .int .i64 m, .slice ga gz.length gc], .slice O B.length oc, .slice P S.length pc, .slice A lz.length lc] w fun e w' => Ansr w w' e (QV r s m gz B S lz Fx.FL) := by
  obtain ⟨i0, hi, hz0, hz1, hz2⟩ := info_parts infoI
  have HB := Lib.hid (box_below w (.cells #[.int .u8 s, .int .u8 h, .int .i64 m, .slice ga gz.length gc] 50))
  have hae : AE r s h m gz B S lz 8191 0 := ⟨0, hf.1, .inr ⟨rfl, .inr (.inr ⟨hf.2.1, hf.2.2, rfl⟩)⟩⟩
  have hlz := hf.2.1
  have HC := Lib.hid (asked_ok r s h m ga gc gz O P A oc pc lc B S lz 8191 _ (I.below HB.out) (by omega) (rl.below HB.out) (by decide) (by decide) 0 hae)
  have HX := Lib.hid (fun x hx => boxed w s h m (.slice ga gz.length gc) x hx)
  obtain ⟨hck, hBl, hSl, hBm, hSm, hnb⟩ := qe_zero hf.1
  have HPL := Lib.hid (fun (k : Nat) (hk : k < 256) W (hW : Below w.heap.size w W) => place_w r s h m ga gc gz k W hck (by have := I.gl; omega) (I.hg.below hW) hk)
  have HGK := Lib.hid (fun (k : Nat) (hk : k < 256) => gk_lt hck hk)
  have HSE := Lib.hid (fun (k : Nat) (hk : k < 256) W (hW : Below w.heap.size w W) => sent_w s h m ga gc gz O oc B (gk s gz k) (bk r s k) W (I.rB.below hW) (by have := gk_lt hck hk; omega) (hBm _ (by have := gk_lt hck hk; omega)))
  have HRS := Lib.hid (fun W (hW : Below w.heap.size w W) => I.rS.below hW)
  have HRL := Lib.hid (fun W (hW : Below w.heap.size w W) => rl.below hW)
  have HQ := Lib.hid (fun (k : Nat) (hk : k < 256) => qv_lines hf (k := k) hk)
  have HQ0 := Lib.hid (fun (k : Nat) (c : ¬ Cn r s m gz B k) => qv_none (h := h) (S := S) (lz := lz) (f := Fx.FL) c)
  have HST := Lib.hid (fun (k : Nat) (hk : k < 256) => step_in hf.1 (k := k) hk)
  have HIN := Lib.hid hf.2.2
  have HSL := Lib.hid (show S.length = gz.length from hSl)
  have HSM := Lib.hid hSm
  have HLZ := Lib.hid hlz
  clear I rl hf hae hck hBl hSl hBm hSm hnb hlz
  generalize QV r s m gz B S lz Fx.FL = Q at *
  go_enter Tryd.func32, Tryd.ntmps32
  go_wp2_with (first | (go_at_call 54; ((with_reducible refine (HC.out).mono ?_); rintro e w1 ⟨rfl, hb1⟩; have B1 := Lib.hid (belowT HB.out hb1); have Z1 := Lib.hid hb1; clear hb1)) | (refine wpList_make_row _ rfl _ _ 39 rfl 3 i0 (.int .i64 0) Tryd.underlying39 hi hz0 hz1 rfl .i64 .i64 256 rfl rfl (by rw [hz2]; omega) (by omega) ?_))
  have hrow : Hid ((w1.alloc (.cells (madeCells #[.int .i64 0] 256) 3)).rowIs w1.heap.size 3 256 (Lo.fillF Q 0)) := Lib.hid ((World.rowIs_made w1 (.int .i64 0) 256 3).congr fun i _ => by unfold Lo.fillF; rw [if_neg (by omega)])
  have hbel : Below w1.heap.size w1 (w1.alloc (.cells (madeCells #[.int .i64 0] 256) 3)) := (Below.refl _ _).alloc (Nat.le_refl _) _
  go_loopw [14] (fun i wr => ∃ k : Nat, k ≤ 256 ∧ i = .int .i64 k ∧ Hid (wr.rowIs w1.heap.size 3 256 (Lo.fillF Q k)) ∧ Below w1.heap.size w1 wr) (fun i _ => 256 - (intOf i).toNat)
  case atStart => exact ⟨0, by omega, rfl, hrow, hbel⟩
  case round =>
    obtain ⟨k, hk, rfl, hR, hb⟩ := hrel
    clear hrow hbel
    by_cases hlt : k < 256
    · obtain ⟨z0, z1, z2, z3⟩ := HX.out wr (belowT Z1.out hb)
      have hP := Lib.hid (HPL.out k hlt wr (belowT B1.out hb))
      have hSE := Lib.hid (HSE.out k hlt)
      have hQ := Lib.hid (HQ.out k hlt)
      have hQ0 := Lib.hid (HQ0.out k)
      have hST := Lib.hid (HST.out k hlt)
      have hgk := HGK.out k hlt
      have hin := HIN.out k hlt
      have hgS : gk s gz k < S.length := by have := HSL.out; omega
      obtain ⟨bS, oS, aS, cS, rfl, lS, cellS, raS⟩ := HRS.out w1 B1.out (gk s gz k) hgS
      obtain ⟨bL, oL, rfl, lL, cellL⟩ := HRL.out w1 B1.out k (by rw [HLZ.out]; exact hlt)
      have hSmk := HSM.out (gk s gz k) hgS
      have hCn : Cn r s m gz B k ↔ (decide ((bk r s k : Int) < m) && snt ((B.getD (gk s gz k) []).getD (bk r s k) 0)) = true := by unfold Cn; simp
      have hcond : Hid ((decide ((bk r s k : Int) < m) && snt ((B.getD (gk s gz k) []).getD (bk r s k) 0)) = true → (bk r s k : Int) < m) := Lib.hid (fun q => by simp at q; exact q.1)
      have hstp : Hid (stp r s gz S k = (S.getD (gk s gz k) []).getD (bk r s k) 0) := Lib.hid rfl
      generalize hK : (decide ((bk r s k : Int) < m) && snt ((B.getD (gk s gz k) []).getD (bk r s k) 0)) = K at *
      clear hK
      cases K
      · have hq0 := hQ0.out (fun q => absurd (hCn.1 q) (by decide))
        have hR2 : Hid (∀ W, Below wr.heap.size wr W → W.rowIs w1.heap.size 3 256 (Lo.fillF Q (k + 1))) := Lib.hid (fun W hW => (hR.out.of_block (hW.block _ hR.out.lt)).congr fun i _ => by
          unfold Lo.fillF
          by_cases e : i = k
          · subst e; rw [if_neg (by omega), if_pos (by omega), hq0]
          · by_cases e2 : i < k
            · rw [if_pos e2, if_pos (by omega)]
            · rw [if_neg e2, if_neg (by omega)])
        clear hR hQ hQ0 hST hCn hcond hstp hq0 hgk hin hgS cellS raS cellL hSmk
        generalize gk s gz k = G at *
        generalize bk r s k = D at *
        go_wp2_with (first
          | (go_at_call 55; ((with_reducible refine (hP.out).mono ?_); rintro e w3 ⟨rfl, hb3⟩; have B3 := Lib.hid hb3; have B3' := Lib.hid (hb.trans (hb3.mono hb.size)); clear hb3 z0 z1 z2 z3; obtain ⟨z0, z1, z2, z3⟩ := HX.out w3 (belowT Z1.out B3'.out)))
          | (go_at_call 56; ((with_reducible refine (hSE.out w3 (belowT B1.out B3'.out)).mono ?_); rintro e w4 ⟨rfl, hb4⟩; have B4 := Lib.hid (belowT B3.out hb4); have B4' := Lib.hid (B3'.out.trans (hb4.mono B3'.out.size)); clear hb4)))
        go_roundw
        case rel => exact ⟨k + 1, by omega, by go_num, Lib.hid (hR2.out w4 B4.out), B4'.out⟩
        case measure => simp [intOf]; omega
      · have hCk := hCn.2 rfl
        have hq1 := hQ.out hCk
        have hD := hcond.out rfl
        obtain ⟨t0, t1⟩ := hST.out hCk
        have hDl : bk r s k < (S.getD (gk s gz k) []).length := by omega
        obtain ⟨bT, oT, rfl, lT, cellT⟩ := raS (bk r s k) hDl
        rw [← hstp.out] at cellT
        obtain ⟨i0', i1'⟩ := hin
        clear hQ hQ0 hST hCn hcond hstp raS hCk
        generalize stp r s gz S k = TT at *
        generalize (S.getD (gk s gz k) []).length = Ls at *
        generalize lz.getD k 0 = z at *
        generalize gk s gz k = G at *
        generalize bk r s k = D at *
        have HV := Lib.hid (fun W => Fx.value_ok z TT W i0' i1' t0 t1)
        have hqk := Lib.hid hq1
        clear hq1
        generalize Fx.LN z TT = v at *
        have hneS : bS ≠ w1.heap.size := by omega
        have hneL : bL ≠ w1.heap.size := by omega
        have hneT : bT ≠ w1.heap.size := by omega
        have hGi : (G : Int) < (S.length : Int) := by omega
        have hG0 : (0 : Int) ≤ (G : Int) := by omega
        have hDi : (D : Int) < (Ls : Int) := by omega
        have hD0 : (0 : Int) ≤ (D : Int) := by omega
        have hk0 : (0 : Int) ≤ (k : Int) := by omega
        have hk1 : (k : Int) < 256 := by omega
        have hk2 : (k : Int) < (lz.length : Int) := by have := HLZ.out; omega
        have KF : Hid (∀ W, Below w1.heap.size w1 W → W.cell? ⟨bS, oS + G, none⟩ = some (.slice (some ⟨bT, oT, none⟩) Ls cS) ∧ W.cell? ⟨bL, oL + k, none⟩ = some (.int .i64 z) ∧ W.cell? ⟨bT, oT + D, none⟩ = some (.int .i64 TT)) := Lib.hid (fun W hW => ⟨(hW.cell (p := ⟨bS, oS + G, none⟩) lS).trans cellS, (hW.cell (p := ⟨bL, oL + k, none⟩) lL).trans cellL, (hW.cell (p := ⟨bT, oT + D, none⟩) lT).trans cellT⟩)
        clear cellS cellL cellT hSmk hD hDl hgk hgS
        go_wp2_with (first
          | (go_at_call 55; ((with_reducible refine (hP.out).mono ?_); rintro e w3 ⟨rfl, hb3⟩; have B3 := Lib.hid hb3; have B3' := Lib.hid (hb.trans (hb3.mono hb.size)); clear hb3 z0 z1 z2 z3; obtain ⟨z0, z1, z2, z3⟩ := HX.out w3 (belowT Z1.out B3'.out)))
          | (go_at_call 56; ((with_reducible refine (hSE.out w3 (belowT B1.out B3'.out)).mono ?_); rintro e w4 ⟨rfl, hb4⟩; have B4 := Lib.hid (belowT B3.out hb4); have B4' := Lib.hid (B3'.out.trans (hb4.mono B3'.out.size)); clear hb4)))
        have hR4 := Lib.hid (hR.out.of_block (B4.out.block _ hR.out.lt))
        obtain ⟨x1, x2, x3⟩ := KF.out w4 B4'.out
        have y1 := hR4.out.cell (i := k) hlt
        have y2 := hR4.out.frozen k
        have iso : (w4.cell? ⟨w1.heap.size, k, none⟩).isSome = true := by rw [y1]; rfl
        clear z0 z1 z2 z3
        go_region_held3 (fun W => W.cell? ⟨bS, oS + G, none⟩ = some (.slice (some ⟨bT, oT, none⟩) Ls cS) ∧ W.cell? ⟨bL, oL + k, none⟩ = some (.int .i64 z) ∧ W.cell? ⟨bT, oT + D, none⟩ = some (.int .i64 TT) ∧ (W.cell? ⟨w1.heap.size, k, none⟩).isSome = true ∧ W.frozen? ⟨w1.heap.size, k, none⟩ = false) (simp (maxDischargeDepth := 8) [go_sem, x1, x2, x3, y1, y2, iso, hneS, hneL, hneT, Ne.symm hneS, Ne.symm hneL, Ne.symm hneT]) ((go_at_call 44; ((with_reducible refine (HV.out _).mono ?_); rintro e w5 ⟨rfl, rfl⟩)))
        rename_i hS
        clear hS x1 x2 x3 y1 y2 iso
        have N1 : Hid (((w4.setCell ⟨w1.heap.size, k, none⟩ (.int .i64 v)).drew).rowIs w1.heap.size 3 256 (Lo.fillF Q (k + 1))) := Lib.hid ((Lo.fill_step hR4.out hqk.out.symm).of_block rfl)
        have N2 := Lib.hid ((B4'.out.setCell (p := ⟨w1.heap.size, k, none⟩) (Nat.le_refl _) (.int .i64 v)).drew)
        go_wp2
        go_roundw
        case rel => exact ⟨k + 1, by omega, by go_num, N1, N2.out⟩
        case measure => simp [intOf]; omega
    · have hend : k = 256 := by omega
      subst hend
      have hE := Lib.hid (Lo.fill_end hR.out)
      have hBE := Lib.hid (belowT B1.out hb)
      have hsz := B1.out.size
      clear hR hb
      go_wp2
      go_ret2
      exact ⟨w1.heap.size, rfl, hE.out, hsz, hBE.out⟩
set_option maxRecDepth 100000 in
theorem rquant_err (r s h m : Int) (ga : Option Addr) (gc : Nat) (gz : List Int) (O P A : Option Addr) (oc pc lc : Nat) (B S : List (List Int)) (lz : List Int) (w : World) (I : Inp w ga gz O P B S) (hll : lz.length ≤ 1000) (rl : RdA w A lz) (c : Int) (hc : c ≠ 0) (hae : AE r s h m gz B S lz 268435455 c) :
    Calls Tryd.prog 34 #[.int .i64 r, .agg #[.int .u8 s, .int .u8 h, .int .i64 m, .slice ga gz.length gc], .slice O B.length oc, .slice P S.length pc, .slice A lz.length lc] w fun e w' => e = .returned (.tuple #[.slice none 0 0, .int .i64 c]) ∧ Below w.heap.size w w' := by
  have HB := Lib.hid (box_below w (.cells #[.int .u8 s, .int .u8 h, .int .i64 m, .slice ga gz.length gc] 50))
  have HC := Lib.hid (asked_ok r s h m ga gc gz O P A oc pc lc B S lz 268435455 _ (I.below HB.out) hll (rl.below HB.out) (by decide) (by decide) c hae)
  have hc2 : (c != 0) = true := by simp [hc]
  clear I rl hae
  go_enter Tryd.func34, Tryd.ntmps34
  go_wp2_with (go_at_call 54; ((with_reducible refine (HC.out).mono ?_); rintro e w1 ⟨rfl, hb1⟩; have B1 := Lib.hid (belowT HB.out hb1)))
  go_ret2
  exact ⟨rfl, B1.out⟩
set_option maxRecDepth 100000 in
set_option maxHeartbeats 4000000 in
theorem rquant_ok (r s h m : Int) (ga : Option Addr) (gc : Nat) (gz : List Int) (O P A : Option Addr) (oc pc lc : Nat) (B S : List (List Int)) (lz : List Int) (w : World) (I : Inp w ga gz O P B S) (rl : RdA w A lz) (hf : Fine r s h m gz B S lz 268435455) :
    Calls Tryd.prog 34 #[.int .i64 r, .agg #[.int .u8 s, .int .u8 h, .int .i64 m, .slice ga gz.length gc], .slice O B.length oc, .slice P S.length pc, .slice A lz.length lc] w fun e w' => Ansr w w' e (QV r s m gz B S lz Fx.FQ) := by
  obtain ⟨i0, hi, hz0, hz1, hz2⟩ := info_parts infoI
  have HB := Lib.hid (box_below w (.cells #[.int .u8 s, .int .u8 h, .int .i64 m, .slice ga gz.length gc] 50))
  have hae : AE r s h m gz B S lz 268435455 0 := ⟨0, hf.1, .inr ⟨rfl, .inr (.inr ⟨hf.2.1, hf.2.2, rfl⟩)⟩⟩
  have hlz := hf.2.1
  have HC := Lib.hid (asked_ok r s h m ga gc gz O P A oc pc lc B S lz 268435455 _ (I.below HB.out) (by omega) (rl.below HB.out) (by decide) (by decide) 0 hae)
  have HX := Lib.hid (fun x hx => boxed w s h m (.slice ga gz.length gc) x hx)
  obtain ⟨hck, hBl, hSl, hBm, hSm, hnb⟩ := qe_zero hf.1
  have HPL := Lib.hid (fun (k : Nat) (hk : k < 256) W (hW : Below w.heap.size w W) => place_w r s h m ga gc gz k W hck (by have := I.gl; omega) (I.hg.below hW) hk)
  have HGK := Lib.hid (fun (k : Nat) (hk : k < 256) => gk_lt hck hk)
  have HSE := Lib.hid (fun (k : Nat) (hk : k < 256) W (hW : Below w.heap.size w W) => sent_w s h m ga gc gz O oc B (gk s gz k) (bk r s k) W (I.rB.below hW) (by have := gk_lt hck hk; omega) (hBm _ (by have := gk_lt hck hk; omega)))
  have HRS := Lib.hid (fun W (hW : Below w.heap.size w W) => I.rS.below hW)
  have HRL := Lib.hid (fun W (hW : Below w.heap.size w W) => rl.below hW)
  have HQ := Lib.hid (fun (k : Nat) (hk : k < 256) => qv_quant hf (k := k) hk)
  have HQ0 := Lib.hid (fun (k : Nat) (c : ¬ Cn r s m gz B k) => qv_none (h := h) (S := S) (lz := lz) (f := Fx.FQ) c)
  have HST := Lib.hid (fun (k : Nat) (hk : k < 256) => step_in hf.1 (k := k) hk)
  have HIN := Lib.hid hf.2.2
  have HSL := Lib.hid (show S.length = gz.length from hSl)
  have HSM := Lib.hid hSm
  have HLZ := Lib.hid hlz
  clear I rl hf hae hck hBl hSl hBm hSm hnb hlz
  generalize QV r s m gz B S lz Fx.FQ = Q at *
  go_enter Tryd.func34, Tryd.ntmps34
  go_wp2_with (first | (go_at_call 54; ((with_reducible refine (HC.out).mono ?_); rintro e w1 ⟨rfl, hb1⟩; have B1 := Lib.hid (belowT HB.out hb1); have Z1 := Lib.hid hb1; clear hb1)) | (refine wpList_make_row _ rfl _ _ 39 rfl 3 i0 (.int .i64 0) Tryd.underlying39 hi hz0 hz1 rfl .i64 .i64 256 rfl rfl (by rw [hz2]; omega) (by omega) ?_))
  have hrow : Hid ((w1.alloc (.cells (madeCells #[.int .i64 0] 256) 3)).rowIs w1.heap.size 3 256 (Lo.fillF Q 0)) := Lib.hid ((World.rowIs_made w1 (.int .i64 0) 256 3).congr fun i _ => by unfold Lo.fillF; rw [if_neg (by omega)])
  have hbel : Below w1.heap.size w1 (w1.alloc (.cells (madeCells #[.int .i64 0] 256) 3)) := (Below.refl _ _).alloc (Nat.le_refl _) _
  go_loopw [14] (fun i wr => ∃ k : Nat, k ≤ 256 ∧ i = .int .i64 k ∧ Hid (wr.rowIs w1.heap.size 3 256 (Lo.fillF Q k)) ∧ Below w1.heap.size w1 wr) (fun i _ => 256 - (intOf i).toNat)
  case atStart => exact ⟨0, by omega, rfl, hrow, hbel⟩
  case round =>
    obtain ⟨k, hk, rfl, hR, hb⟩ := hrel
    clear hrow hbel
    by_cases hlt : k < 256
    · obtain ⟨z0, z1, z2, z3⟩ := HX.out wr (belowT Z1.out hb)
      have hP := Lib.hid (HPL.out k hlt wr (belowT B1.out hb))
      have hSE := Lib.hid (HSE.out k hlt)
      have hQ := Lib.hid (HQ.out k hlt)
      have hQ0 := Lib.hid (HQ0.out k)
      have hST := Lib.hid (HST.out k hlt)
      have hgk := HGK.out k hlt
      have hin := HIN.out k hlt
      have hgS : gk s gz k < S.length := by have := HSL.out; omega
      obtain ⟨bS, oS, aS, cS, rfl, lS, cellS, raS⟩ := HRS.out w1 B1.out (gk s gz k) hgS
      obtain ⟨bL, oL, rfl, lL, cellL⟩ := HRL.out w1 B1.out k (by rw [HLZ.out]; exact hlt)
      have hSmk := HSM.out (gk s gz k) hgS
      have hCn : Cn r s m gz B k ↔ (decide ((bk r s k : Int) < m) && snt ((B.getD (gk s gz k) []).getD (bk r s k) 0)) = true := by unfold Cn; simp
      have hcond : Hid ((decide ((bk r s k : Int) < m) && snt ((B.getD (gk s gz k) []).getD (bk r s k) 0)) = true → (bk r s k : Int) < m) := Lib.hid (fun q => by simp at q; exact q.1)
      have hstp : Hid (stp r s gz S k = (S.getD (gk s gz k) []).getD (bk r s k) 0) := Lib.hid rfl
      generalize hK : (decide ((bk r s k : Int) < m) && snt ((B.getD (gk s gz k) []).getD (bk r s k) 0)) = K at *
      clear hK
      cases K
      · have hq0 := hQ0.out (fun q => absurd (hCn.1 q) (by decide))
        have hR2 : Hid (∀ W, Below wr.heap.size wr W → W.rowIs w1.heap.size 3 256 (Lo.fillF Q (k + 1))) := Lib.hid (fun W hW => (hR.out.of_block (hW.block _ hR.out.lt)).congr fun i _ => by
          unfold Lo.fillF
          by_cases e : i = k
          · subst e; rw [if_neg (by omega), if_pos (by omega), hq0]
          · by_cases e2 : i < k
            · rw [if_pos e2, if_pos (by omega)]
            · rw [if_neg e2, if_neg (by omega)])
        clear hR hQ hQ0 hST hCn hcond hstp hq0 hgk hin hgS cellS raS cellL hSmk
        generalize gk s gz k = G at *
        generalize bk r s k = D at *
        go_wp2_with (first
          | (go_at_call 55; ((with_reducible refine (hP.out).mono ?_); rintro e w3 ⟨rfl, hb3⟩; have B3 := Lib.hid hb3; have B3' := Lib.hid (hb.trans (hb3.mono hb.size)); clear hb3 z0 z1 z2 z3; obtain ⟨z0, z1, z2, z3⟩ := HX.out w3 (belowT Z1.out B3'.out)))
          | (go_at_call 56; ((with_reducible refine (hSE.out w3 (belowT B1.out B3'.out)).mono ?_); rintro e w4 ⟨rfl, hb4⟩; have B4 := Lib.hid (belowT B3.out hb4); have B4' := Lib.hid (B3'.out.trans (hb4.mono B3'.out.size)); clear hb4)))
        go_roundw
        case rel => exact ⟨k + 1, by omega, by go_num, Lib.hid (hR2.out w4 B4.out), B4'.out⟩
        case measure => simp [intOf]; omega
      · have hCk := hCn.2 rfl
        have hq1 := hQ.out hCk
        have hD := hcond.out rfl
        obtain ⟨t0, t1⟩ := hST.out hCk
        have hDl : bk r s k < (S.getD (gk s gz k) []).length := by omega
        obtain ⟨bT, oT, rfl, lT, cellT⟩ := raS (bk r s k) hDl
        rw [← hstp.out] at cellT
        obtain ⟨i0', i1'⟩ := hin
        clear hQ hQ0 hST hCn hcond hstp raS hCk
        generalize stp r s gz S k = TT at *
        generalize (S.getD (gk s gz k) []).length = Ls at *
        generalize lz.getD k 0 = z at *
        generalize gk s gz k = G at *
        generalize bk r s k = D at *
        have HV := Lib.hid (fun W => Fx.rNear_ok z TT W t0 t1 i0' i1')
        have hqk := Lib.hid hq1
        clear hq1
        generalize Fx.NQ z TT = v at *
        have hneS : bS ≠ w1.heap.size := by omega
        have hneL : bL ≠ w1.heap.size := by omega
        have hneT : bT ≠ w1.heap.size := by omega
        have hGi : (G : Int) < (S.length : Int) := by omega
        have hG0 : (0 : Int) ≤ (G : Int) := by omega
        have hDi : (D : Int) < (Ls : Int) := by omega
        have hD0 : (0 : Int) ≤ (D : Int) := by omega
        have hk0 : (0 : Int) ≤ (k : Int) := by omega
        have hk1 : (k : Int) < 256 := by omega
        have hk2 : (k : Int) < (lz.length : Int) := by have := HLZ.out; omega
        have KF : Hid (∀ W, Below w1.heap.size w1 W → W.cell? ⟨bS, oS + G, none⟩ = some (.slice (some ⟨bT, oT, none⟩) Ls cS) ∧ W.cell? ⟨bL, oL + k, none⟩ = some (.int .i64 z) ∧ W.cell? ⟨bT, oT + D, none⟩ = some (.int .i64 TT)) := Lib.hid (fun W hW => ⟨(hW.cell (p := ⟨bS, oS + G, none⟩) lS).trans cellS, (hW.cell (p := ⟨bL, oL + k, none⟩) lL).trans cellL, (hW.cell (p := ⟨bT, oT + D, none⟩) lT).trans cellT⟩)
        clear cellS cellL cellT hSmk hD hDl hgk hgS
        go_wp2_with (first
          | (go_at_call 55; ((with_reducible refine (hP.out).mono ?_); rintro e w3 ⟨rfl, hb3⟩; have B3 := Lib.hid hb3; have B3' := Lib.hid (hb.trans (hb3.mono hb.size)); clear hb3 z0 z1 z2 z3; obtain ⟨z0, z1, z2, z3⟩ := HX.out w3 (belowT Z1.out B3'.out)))
          | (go_at_call 56; ((with_reducible refine (hSE.out w3 (belowT B1.out B3'.out)).mono ?_); rintro e w4 ⟨rfl, hb4⟩; have B4 := Lib.hid (belowT B3.out hb4); have B4' := Lib.hid (B3'.out.trans (hb4.mono B3'.out.size)); clear hb4)))
        have hR4 := Lib.hid (hR.out.of_block (B4.out.block _ hR.out.lt))
        obtain ⟨x1, x2, x3⟩ := KF.out w4 B4'.out
        have y1 := hR4.out.cell (i := k) hlt
        have y2 := hR4.out.frozen k
        have iso : (w4.cell? ⟨w1.heap.size, k, none⟩).isSome = true := by rw [y1]; rfl
        clear z0 z1 z2 z3
        go_region_held3 (fun W => W.cell? ⟨bS, oS + G, none⟩ = some (.slice (some ⟨bT, oT, none⟩) Ls cS) ∧ W.cell? ⟨bL, oL + k, none⟩ = some (.int .i64 z) ∧ W.cell? ⟨bT, oT + D, none⟩ = some (.int .i64 TT) ∧ (W.cell? ⟨w1.heap.size, k, none⟩).isSome = true ∧ W.frozen? ⟨w1.heap.size, k, none⟩ = false) (simp (maxDischargeDepth := 8) [go_sem, x1, x2, x3, y1, y2, iso, hneS, hneL, hneT, Ne.symm hneS, Ne.symm hneL, Ne.symm hneT]) ((go_at_call 46; ((with_reducible refine (HV.out _).mono ?_); rintro e w5 ⟨rfl, rfl⟩)))
        rename_i hS
        clear hS x1 x2 x3 y1 y2 iso
        have N1 : Hid (((w4.setCell ⟨w1.heap.size, k, none⟩ (.int .i64 v)).drew).rowIs w1.heap.size 3 256 (Lo.fillF Q (k + 1))) := Lib.hid ((Lo.fill_step hR4.out hqk.out.symm).of_block rfl)
        have N2 := Lib.hid ((B4'.out.setCell (p := ⟨w1.heap.size, k, none⟩) (Nat.le_refl _) (.int .i64 v)).drew)
        go_wp2
        go_roundw
        case rel => exact ⟨k + 1, by omega, by go_num, N1, N2.out⟩
        case measure => simp [intOf]; omega
    · have hend : k = 256 := by omega
      subst hend
      have hE := Lib.hid (Lo.fill_end hR.out)
      have hBE := Lib.hid (belowT B1.out hb)
      have hsz := B1.out.size
      clear hR hb
      go_wp2
      go_ret2
      exact ⟨w1.heap.size, rfl, hE.out, hsz, hBE.out⟩
end Go.Proofs.YtanjcbnkkhbkkaaDoor.Qd

/- A sample under no window turns no line, lines of samples that may be may be synthesised, and where a window has noughts what comes out has. BlockUnder returns true, whatever the arguments, the memory and the schedule. No condition. -/
import Derived.Test.YteknakakefhbmaaBlUn
import Derived.WalkKit
import Derived.Below
import Derived.RegionTactic
import Derived.Deep.QuietTactic
import Derived.BigQuiet
import Derived.ChangeAlike
import Derived.Deep.OwnRows
import Derived.Deep.RegionLaw
import Derived.ProofKit
import Derived.OpenShut
import Derived.ChangeSlices
import Derived.Lib.Hide
import Derived.Great.Walk
import Derived.ChangeKeysEq
import Derived.ChangeOld
import Derived.ShutString
namespace Go.Proofs.Yteknakakefhbmaa.blockUnder
open Go Go.ChangeShapes Go.WideShapes Go.ChangeAt Go.RowKit Go.Proofs.Yteknakakefhbmaa.Fx Go.Proofs.Yteknakakefhbmaa.Rk Go.Proofs.Yteknakakefhbmaa.Mm Go.Proofs.Yteknakakefhbmaa.Md Go.Proofs.Yteknakakefhbmaa.Bl

open Go.Proofs.Yteknakakefhbmaa.Cpy
theorem u8_lo {x : Int} (h : (Lit.int .u8 x).wf = true) : 0 ≤ x := by simp [Lit.wf] at h; have e : IntKind.u8.min = 0 := rfl; omega
theorem i16_in {x : Int} (h : (Lit.int .i16 x).wf = true) : -32768 ≤ x ∧ x ≤ 32767 := by
  simp [Lit.wf] at h; have e1 : IntKind.i16.min = -32768 := rfl; have e2 : IntKind.i16.max = 32767 := rfl; omega
theorem long (seq was shape x at_ : Int) (A : Option Addr) (len cap : Nat) (w : World) (h : 1000 < (len : Int)) : Calls Try.prog 6 #[.int .u8 seq, .int .u8 was, .int .u8 shape, .slice A len cap, .int .i64 at_, .int .i16 x] w fun e w' => e = .returned (.bool true) ∧ Below w.heap.size w w' := by
  have HL := Lib.hid (alive_ok w)
  go_enter Try.func6, Try.ntmps6
  go_wp2_with (go_at_call 16; ((with_reducible refine (HL.out).mono ?_); rintro e w0 ⟨rfl, hb0⟩; have B0 := Lib.hid hb0; clear hb0))
  go_ret
  exact ⟨rfl, B0.out⟩
theorem bad (seq was shape x at_ : Int) (A : Option Addr) (len cap : Nat) (pcm : List Int) (w : World) (s0 : 0 ≤ seq) (w0 : 0 ≤ was) (h0 : 0 ≤ shape) (hl : pcm.length = len) (hc : len ≤ cap) (hcm : cap ≤ maxLen) (rd : RdA w A pcm) (h : ¬ 1000 < (len : Int)) (hb : ¬ (May seq was shape ∧ pcm.length = 512 ∧ InR (-32768) 32767 pcm)) :
    Calls Try.prog 6 #[.int .u8 seq, .int .u8 was, .int .u8 shape, .slice A len cap, .int .i64 at_, .int .i16 x] w fun e w' => e = .returned (.bool true) ∧ Below w.heap.size w w' := by
  obtain ⟨c, h1, h2⟩ := aO_bad hb
  have h3 : (c == 0) = false := by simpa [bne] using h2
  have HL := Lib.hid (alive_ok w)
  have HA := Lib.hid (fun W r => analyse_O seq was shape A len cap pcm W s0 w0 h0 hl hc hcm r)
  rw [h1] at HA
  have RD := Lib.hid rd
  clear rd hb hl h1
  go_enter Try.func6, Try.ntmps6
  go_wp2_with first
    | (go_at_call 16; ((with_reducible refine (HL.out).mono ?_); rintro e w0 ⟨rfl, hb0⟩; have B0 := Lib.hid hb0; have R0 := Lib.hid (RD.out.below hb0); clear hb0))
    | (go_at_call 15; ((with_reducible refine (HA.out _ R0.out).mono ?_); rintro e w1 ⟨v1, rfl, ho1, hb1⟩; obtain ⟨a1, c1, hv, _⟩ := ho1.rd.open; obtain rfl : v1 = .slice a1 0 c1 := hv; have B1 := Lib.hid (bt B0.out hb1); clear ho1 hb1))
  go_ret
  exact ⟨rfl, B1.out⟩
theorem out (seq was shape x at_ : Int) (A : Option Addr) (len cap : Nat) (pcm : List Int) (w : World) (s0 : 0 ≤ seq) (w0 : 0 ≤ was) (h0 : 0 ≤ shape) (hl : pcm.length = len) (hc : len ≤ cap) (hcm : cap ≤ maxLen) (rd : RdA w A pcm) (h : ¬ 1000 < (len : Int)) (hM : May seq was shape) (hl2 : pcm.length = 512) (hI : InR (-32768) 32767 pcm) (ho : at_ < 0 ∨ 511 < at_) :
    Calls Try.prog 6 #[.int .u8 seq, .int .u8 was, .int .u8 shape, .slice A len cap, .int .i64 at_, .int .i16 x] w fun e w' => e = .returned (.bool true) ∧ Below w.heap.size w w' := by
  have HL := Lib.hid (alive_ok w)
  have HA := Lib.hid (fun W r => analyse_O seq was shape A len cap pcm W s0 w0 h0 hl hc hcm r)
  rw [aO_good hM hl2 hI] at HA
  have RD := Lib.hid rd
  have HAL := Lib.hid (AL_len seq was shape pcm)
  clear rd hM hl hI hl2
  by_cases h1 : at_ < 0
  · clear ho
    go_enter Try.func6, Try.ntmps6
    go_wp2_with first
      | (go_at_call 16; ((with_reducible refine (HL.out).mono ?_); rintro e w0 ⟨rfl, hb0⟩; have B0 := Lib.hid hb0; have R0 := Lib.hid (RD.out.below hb0); clear hb0))
      | (go_at_call 15; ((with_reducible refine (HA.out _ R0.out).mono ?_); rintro e w1 ⟨v1, rfl, ho1, hb1⟩; obtain ⟨a1, c1, rfl, _⟩ := own_open ho1 HAL.out (by decide); have B1 := Lib.hid (bt B0.out hb1); clear ho1 hb1))
    go_ret
    exact ⟨rfl, B1.out⟩
  · have h2 : 511 < at_ := by omega
    clear ho
    go_enter Try.func6, Try.ntmps6
    go_wp2_with first
      | (go_at_call 16; ((with_reducible refine (HL.out).mono ?_); rintro e w0 ⟨rfl, hb0⟩; have B0 := Lib.hid hb0; have R0 := Lib.hid (RD.out.below hb0); clear hb0))
      | (go_at_call 15; ((with_reducible refine (HA.out _ R0.out).mono ?_); rintro e w1 ⟨v1, rfl, ho1, hb1⟩; obtain ⟨a1, c1, rfl, _⟩ := own_open ho1 HAL.out (by decide); have B1 := Lib.hid (bt B0.out hb1); clear ho1 hb1))
    go_ret
    exact ⟨rfl, B1.out⟩
theorem setsz (w : World) (a : Addr) (v : Value) : (w.setCell a v).heap.size = w.heap.size := by simp [World.setCell]
theorem cell_oth {w : World} {a b i j : Nat} (v : Value) (h : a ≠ b) : (w.setCell ⟨a, i, none⟩ v).cell? ⟨b, j, none⟩ = w.cell? ⟨b, j, none⟩ := World.cell?_of_block (w := w) (heap_other v h)
set_option maxRecDepth 100000 in
set_option maxHeartbeats 8000000 in
theorem main0 (was shape x : Int) (n : Nat) (A : Option Addr) (cap : Nat) (pcm : List Int) (w : World) (w0 : 0 ≤ was) (h0 : 0 ≤ shape) (hl : pcm.length = 512) (hc : 512 ≤ cap) (hcm : cap ≤ maxLen) (rd : RdA w A pcm) (hcp : Cp w A 512 cap pcm) (hM : May 0 was shape) (hI : InR (-32768) 32767 pcm) (x0 : -32768 ≤ x) (x1 : x ≤ 32767) (hn : n < 512) (_ : True) :
    Calls Try.prog 6 #[.int .u8 0, .int .u8 was, .int .u8 shape, .slice A 512 cap, .int .i64 n, .int .i16 x] w fun e w' => e = .returned (.bool true) ∧ Below w.heap.size w w' := by
  have hIx := set_in (i := n) hI x0 x1
  have hlx : (pcm.set n x).length = 512 := by simpa using hl
  have hAi := AL_in (seq := 0) (was := was) (shape := shape) hl hI
  have HL := Lib.hid (alive_ok w)
  have HA := Lib.hid (fun W r => analyse_O 0 was shape A 512 cap pcm W (by decide) w0 h0 hl hc hcm r)
  rw [aO_good hM hl hI] at HA
  have HX := Lib.hid (fun g c W hc hcm r => analyse_O 0 was shape (some ⟨g, 0, none⟩) 512 c (pcm.set n x) W (by decide) w0 h0 hlx hc hcm r)
  rw [aO_good hM hlx hIx] at HX
  have HS := Lib.hid (fun g c W hc hcm r => synth_O 0 was shape (some ⟨g, 0, none⟩) 256 c (AL 0 was shape pcm) W (by decide) w0 h0 (AL_len _ _ _ _) hc hcm r)
  rw [sO_good hM (AL_len _ _ _ _) hAi] at HS
  have RD := Lib.hid rd
  have CP := Lib.hid hcp
  have HN := Lib.hid hl
  have hxw : IntKind.i64.wrap x = x := by simp [IntKind.wrap, IntKind.bits, IntKind.signed]; omega
  have n1 : ¬ (n : Int) < 0 := by omega
  have n2 : ¬ 511 < (n : Int) := by omega
  clear rd hcp hM hI hIx hAi hl hlx w0 h0
  go_enter Try.func6, Try.ntmps6
  go_wp2_with first
    | (go_at_call 16; ((with_reducible refine (HL.out).mono ?_); rintro e w0 ⟨rfl, hb0⟩; have B0 := Lib.hid hb0; have R0 := Lib.hid (RD.out.below hb0); have C0 := Lib.hid (CP.out.below hb0); clear hb0))
    | (go_at_call 15; ((with_reducible refine (HA.out _ R0.out).mono ?_); rintro e w1 ⟨v1, rfl, ho1, hb1⟩; obtain ⟨g1, c1, rfl, hg1, hg2, hc1, hc2, hc3, hf3⟩ := own_open ho1 (AL_len 0 was shape pcm) (by decide); have K1 := Lib.hid hc3; have B1 := Lib.hid (bt B0.out hb1); have C1 := Lib.hid (C0.out.below hb1); clear ho1 hb1 hc3 hf3))
    | (at_builtin; refine wpList_copy _ rfl _ (.tmp 60) rfl rfl A 512 cap pcm rfl HN.out (by decide) C1.out ?_; intro v2 w2 ho2 hb2; obtain ⟨g2, c2, F, rfl, hg3, hc4, hc5, hr2, hF⟩ := own_rowV ho2 HN.out (by decide); have f2 := hr2.frozen n; have d2 := hr2.cell (i := n) (by omega); rw [hF n hn] at d2; have R2 := Lib.hid (set_rd (x := x) (i := n) hr2 HN.out hc4 hF); have B2 := Lib.hid (bt B1.out hb2); have K2 := Lib.hid (fun j hj => (hb2.cell (p := ⟨g1, j, none⟩) hg2).trans (K1.out j hj)); have hg5 := Nat.lt_of_lt_of_le hg2 hb2.size; have hne : g1 ≠ g2 := (by omega); clear ho2 hb2 hr2 hF)
    | (go_at_call 15; ((with_reducible refine (HX.out _ _ _ hc4 hc5 R2.out).mono ?_); rintro e w3 ⟨v3, rfl, ho3, hb3⟩; obtain ⟨g3, c3, rfl, hg6, hg7, hc6, hc7, hc8, hf8⟩ := own_open ho3 (AL_len 0 was shape (pcm.set n x)) (by decide); have K3 := Lib.hid hc8; have B3 := Lib.hid ((B2.out.setCell (p := ⟨g2, n, none⟩) (Nat.le_trans B1.out.size hg3) (.int .i64 x)).trans (hb3.mono (by rw [setsz]; exact B2.out.size))); have sz2 : (w2.setCell ⟨g2, n, none⟩ (.int .i64 x)).heap.size = w2.heap.size := setsz _ _ _; have K13 := Lib.hid (fun j hj => (hb3.cell (p := ⟨g1, j, none⟩) (by rw [sz2]; exact hg5)).trans ((cell_oth _ hne.symm).trans (K2.out j hj))); have hg8 := Nat.lt_of_lt_of_le hg5 (by rw [← sz2]; exact hb3.size); clear ho3 hb3 hc8 hf8))
    | (go_at_call 14; ((with_reducible refine (HS.out _ _ _ hc1 hc2 (cells_rd hg8 (AL_len _ _ _ _) K13.out)).mono ?_); rintro e w4 ⟨v4, rfl, ho4, hb4⟩; obtain ⟨g4, c4, rfl, hg9, hg10, hc9, hc10, hc11, hf11⟩ := own_open ho4 (mk_len 512 (SL 0 was shape (AL 0 was shape pcm))) (by decide); have K4 := Lib.hid hc11; have B4 := Lib.hid (bt B3.out hb4); have K14 := Lib.hid (fun j hj => (hb4.cell (p := ⟨g1, j, none⟩) hg8).trans (K13.out j hj)); have K34 := Lib.hid (fun j hj => (hb4.cell (p := ⟨g3, j, none⟩) hg7).trans (K3.out j hj)); have hg11 := Nat.lt_of_lt_of_le hg8 hb4.size; have hg12 := Nat.lt_of_lt_of_le hg7 hb4.size; clear ho4 hb4 hc11 hf11))
  go_ret
  exact ⟨rfl, B4.out⟩
set_option maxRecDepth 100000 in
set_option maxHeartbeats 8000000 in
theorem main1 (was shape x : Int) (n : Nat) (A : Option Addr) (cap : Nat) (pcm : List Int) (w : World) (w0 : 0 ≤ was) (h0 : 0 ≤ shape) (hl : pcm.length = 512) (hc : 512 ≤ cap) (hcm : cap ≤ maxLen) (rd : RdA w A pcm) (hcp : Cp w A 512 cap pcm) (hM : May 1 was shape) (hI : InR (-32768) 32767 pcm) (x0 : -32768 ≤ x) (x1 : x ≤ 32767) (hn : n < 512) (hq : n < 400) :
    Calls Try.prog 6 #[.int .u8 1, .int .u8 was, .int .u8 shape, .slice A 512 cap, .int .i64 n, .int .i16 x] w fun e w' => e = .returned (.bool true) ∧ Below w.heap.size w w' := by
  have hIx := set_in (i := n) hI x0 x1
  have hlx : (pcm.set n x).length = 512 := by simpa using hl
  have hAi := AL_in (seq := 1) (was := was) (shape := shape) hl hI
  have HL := Lib.hid (alive_ok w)
  have HA := Lib.hid (fun W r => analyse_O 1 was shape A 512 cap pcm W (by decide) w0 h0 hl hc hcm r)
  rw [aO_good hM hl hI] at HA
  have HX := Lib.hid (fun g c W hc hcm r => analyse_O 1 was shape (some ⟨g, 0, none⟩) 512 c (pcm.set n x) W (by decide) w0 h0 hlx hc hcm r)
  rw [aO_good hM hlx hIx] at HX
  have HS := Lib.hid (fun g c W hc hcm r => synth_O 1 was shape (some ⟨g, 0, none⟩) 256 c (AL 1 was shape pcm) W (by decide) w0 h0 (AL_len _ _ _ _) hc hcm r)
  rw [sO_good hM (AL_len _ _ _ _) hAi] at HS
  have RD := Lib.hid rd
  have CP := Lib.hid hcp
  have HN := Lib.hid hl
  have hxw : IntKind.i64.wrap x = x := by simp [IntKind.wrap, IntKind.bits, IntKind.signed]; omega
  have n1 : ¬ (n : Int) < 0 := by omega
  have n2 : ¬ 511 < (n : Int) := by omega
  have t2 : decide (400 ≤ (n : Int)) = false := decide_eq_false (by omega)
  clear rd hcp hM hI hIx hAi hl hlx w0 h0 hq
  go_enter Try.func6, Try.ntmps6
  go_wp2_with first
    | (go_at_call 16; ((with_reducible refine (HL.out).mono ?_); rintro e w0 ⟨rfl, hb0⟩; have B0 := Lib.hid hb0; have R0 := Lib.hid (RD.out.below hb0); have C0 := Lib.hid (CP.out.below hb0); clear hb0))
    | (go_at_call 15; ((with_reducible refine (HA.out _ R0.out).mono ?_); rintro e w1 ⟨v1, rfl, ho1, hb1⟩; obtain ⟨g1, c1, rfl, hg1, hg2, hc1, hc2, hc3, hf3⟩ := own_open ho1 (AL_len 1 was shape pcm) (by decide); have K1 := Lib.hid hc3; have B1 := Lib.hid (bt B0.out hb1); have C1 := Lib.hid (C0.out.below hb1); clear ho1 hb1 hc3 hf3))
    | (at_builtin; refine wpList_copy _ rfl _ (.tmp 60) rfl rfl A 512 cap pcm rfl HN.out (by decide) C1.out ?_; intro v2 w2 ho2 hb2; obtain ⟨g2, c2, F, rfl, hg3, hc4, hc5, hr2, hF⟩ := own_rowV ho2 HN.out (by decide); have f2 := hr2.frozen n; have d2 := hr2.cell (i := n) (by omega); rw [hF n hn] at d2; have R2 := Lib.hid (set_rd (x := x) (i := n) hr2 HN.out hc4 hF); have B2 := Lib.hid (bt B1.out hb2); have K2 := Lib.hid (fun j hj => (hb2.cell (p := ⟨g1, j, none⟩) hg2).trans (K1.out j hj)); have hg5 := Nat.lt_of_lt_of_le hg2 hb2.size; have hne : g1 ≠ g2 := (by omega); clear ho2 hb2 hr2 hF)
    | (go_at_call 15; ((with_reducible refine (HX.out _ _ _ hc4 hc5 R2.out).mono ?_); rintro e w3 ⟨v3, rfl, ho3, hb3⟩; obtain ⟨g3, c3, rfl, hg6, hg7, hc6, hc7, hc8, hf8⟩ := own_open ho3 (AL_len 1 was shape (pcm.set n x)) (by decide); have K3 := Lib.hid hc8; have B3 := Lib.hid ((B2.out.setCell (p := ⟨g2, n, none⟩) (Nat.le_trans B1.out.size hg3) (.int .i64 x)).trans (hb3.mono (by rw [setsz]; exact B2.out.size))); have sz2 : (w2.setCell ⟨g2, n, none⟩ (.int .i64 x)).heap.size = w2.heap.size := setsz _ _ _; have K13 := Lib.hid (fun j hj => (hb3.cell (p := ⟨g1, j, none⟩) (by rw [sz2]; exact hg5)).trans ((cell_oth _ hne.symm).trans (K2.out j hj))); have hg8 := Nat.lt_of_lt_of_le hg5 (by rw [← sz2]; exact hb3.size); clear ho3 hb3 hc8 hf8))
    | (go_at_call 14; ((with_reducible refine (HS.out _ _ _ hc1 hc2 (cells_rd hg8 (AL_len _ _ _ _) K13.out)).mono ?_); rintro e w4 ⟨v4, rfl, ho4, hb4⟩; obtain ⟨g4, c4, rfl, hg9, hg10, hc9, hc10, hc11, hf11⟩ := own_open ho4 (mk_len 512 (SL 1 was shape (AL 1 was shape pcm))) (by decide); have K4 := Lib.hid hc11; have B4 := Lib.hid (bt B3.out hb4); have K14 := Lib.hid (fun j hj => (hb4.cell (p := ⟨g1, j, none⟩) hg8).trans (K13.out j hj)); have K34 := Lib.hid (fun j hj => (hb4.cell (p := ⟨g3, j, none⟩) hg7).trans (K3.out j hj)); have hg11 := Nat.lt_of_lt_of_le hg8 hb4.size; have hg12 := Nat.lt_of_lt_of_le hg7 hb4.size; clear ho4 hb4 hc11 hf11))
  go_ret
  exact ⟨rfl, B4.out⟩
set_option maxRecDepth 100000 in
set_option maxHeartbeats 8000000 in
theorem main2 (was shape x : Int) (n : Nat) (A : Option Addr) (cap : Nat) (pcm : List Int) (w : World) (w0 : 0 ≤ was) (h0 : 0 ≤ shape) (hl : pcm.length = 512) (hc : 512 ≤ cap) (hcm : cap ≤ maxLen) (rd : RdA w A pcm) (hcp : Cp w A 512 cap pcm) (hM : May 1 was shape) (hI : InR (-32768) 32767 pcm) (x0 : -32768 ≤ x) (x1 : x ≤ 32767) (hn : n < 512) (hq : 400 ≤ n) :
    Calls Try.prog 6 #[.int .u8 1, .int .u8 was, .int .u8 shape, .slice A 512 cap, .int .i64 n, .int .i16 x] w fun e w' => e = .returned (.bool true) ∧ Below w.heap.size w w' := by
  have hIx := set_in (i := n) hI x0 x1
  have hlx : (pcm.set n x).length = 512 := by simpa using hl
  have hAi := AL_in (seq := 1) (was := was) (shape := shape) hl hI
  have HL := Lib.hid (alive_ok w)
  have HA := Lib.hid (fun W r => analyse_O 1 was shape A 512 cap pcm W (by decide) w0 h0 hl hc hcm r)
  rw [aO_good hM hl hI] at HA
  have HX := Lib.hid (fun g c W hc hcm r => analyse_O 1 was shape (some ⟨g, 0, none⟩) 512 c (pcm.set n x) W (by decide) w0 h0 hlx hc hcm r)
  rw [aO_good hM hlx hIx] at HX
  have hbr : Bare 1 n := .inr (.inl ⟨rfl, hq⟩)
  rw [AL_same hbr hn] at HX
  have SO := Lib.hid (SL_out (was := was) (shape := shape) (L := AL 1 was shape pcm) hbr hn)
  have HS := Lib.hid (fun g c W hc hcm r => synth_O 1 was shape (some ⟨g, 0, none⟩) 256 c (AL 1 was shape pcm) W (by decide) w0 h0 (AL_len _ _ _ _) hc hcm r)
  rw [sO_good hM (AL_len _ _ _ _) hAi] at HS
  clear hbr
  have RD := Lib.hid rd
  have CP := Lib.hid hcp
  have HN := Lib.hid hl
  have hxw : IntKind.i64.wrap x = x := by simp [IntKind.wrap, IntKind.bits, IntKind.signed]; omega
  have n1 : ¬ (n : Int) < 0 := by omega
  have n2 : ¬ 511 < (n : Int) := by omega
  have t1 : decide ((n : Int) < 112) = false := decide_eq_false (by omega)
  have t2 : 400 ≤ (n : Int) := by omega
  clear rd hcp hM hI hIx hAi hl hlx w0 h0 hq
  go_enter Try.func6, Try.ntmps6
  go_wp2_with first
    | (go_at_call 16; ((with_reducible refine (HL.out).mono ?_); rintro e w0 ⟨rfl, hb0⟩; have B0 := Lib.hid hb0; have R0 := Lib.hid (RD.out.below hb0); have C0 := Lib.hid (CP.out.below hb0); clear hb0))
    | (go_at_call 15; ((with_reducible refine (HA.out _ R0.out).mono ?_); rintro e w1 ⟨v1, rfl, ho1, hb1⟩; obtain ⟨g1, c1, rfl, hg1, hg2, hc1, hc2, hc3, hf3⟩ := own_open ho1 (AL_len 1 was shape pcm) (by decide); have K1 := Lib.hid hc3; have B1 := Lib.hid (bt B0.out hb1); have C1 := Lib.hid (C0.out.below hb1); clear ho1 hb1 hc3 hf3))
    | (at_builtin; refine wpList_copy _ rfl _ (.tmp 60) rfl rfl A 512 cap pcm rfl HN.out (by decide) C1.out ?_; intro v2 w2 ho2 hb2; obtain ⟨g2, c2, F, rfl, hg3, hc4, hc5, hr2, hF⟩ := own_rowV ho2 HN.out (by decide); have f2 := hr2.frozen n; have d2 := hr2.cell (i := n) (by omega); rw [hF n hn] at d2; have R2 := Lib.hid (set_rd (x := x) (i := n) hr2 HN.out hc4 hF); have B2 := Lib.hid (bt B1.out hb2); have K2 := Lib.hid (fun j hj => (hb2.cell (p := ⟨g1, j, none⟩) hg2).trans (K1.out j hj)); have hg5 := Nat.lt_of_lt_of_le hg2 hb2.size; have hne : g1 ≠ g2 := (by omega); clear ho2 hb2 hr2 hF)
    | (go_at_call 15; ((with_reducible refine (HX.out _ _ _ hc4 hc5 R2.out).mono ?_); rintro e w3 ⟨v3, rfl, ho3, hb3⟩; obtain ⟨g3, c3, rfl, hg6, hg7, hc6, hc7, hc8, hf8⟩ := own_open ho3 (AL_len 1 was shape pcm) (by decide); have K3 := Lib.hid hc8; have B3 := Lib.hid ((B2.out.setCell (p := ⟨g2, n, none⟩) (Nat.le_trans B1.out.size hg3) (.int .i64 x)).trans (hb3.mono (by rw [setsz]; exact B2.out.size))); have sz2 : (w2.setCell ⟨g2, n, none⟩ (.int .i64 x)).heap.size = w2.heap.size := setsz _ _ _; have K13 := Lib.hid (fun j hj => (hb3.cell (p := ⟨g1, j, none⟩) (by rw [sz2]; exact hg5)).trans ((cell_oth _ hne.symm).trans (K2.out j hj))); have hg8 := Nat.lt_of_lt_of_le hg5 (by rw [← sz2]; exact hb3.size); clear ho3 hb3 hc8 hf8))
    | (go_at_call 14; ((with_reducible refine (HS.out _ _ _ hc1 hc2 (cells_rd hg8 (AL_len _ _ _ _) K13.out)).mono ?_); rintro e w4 ⟨v4, rfl, ho4, hb4⟩; obtain ⟨g4, c4, rfl, hg9, hg10, hc9, hc10, hc11, hf11⟩ := own_open ho4 (mk_len 512 (SL 1 was shape (AL 1 was shape pcm))) (by decide); have K4 := Lib.hid hc11; have B4 := Lib.hid (bt B3.out hb4); have K14 := Lib.hid (fun j hj => (hb4.cell (p := ⟨g1, j, none⟩) hg8).trans (K13.out j hj)); have K34 := Lib.hid (fun j hj => (hb4.cell (p := ⟨g3, j, none⟩) hg7).trans (K3.out j hj)); have hg11 := Nat.lt_of_lt_of_le hg8 hb4.size; have hg12 := Nat.lt_of_lt_of_le hg7 hb4.size; clear ho4 hb4 hc11 hf11))
  clear HL HA HX HS R0 C0 K1 C1 R2 B2 K2 K3 B3 K13 B0 B1
  go_loopw [22] (fun i wq => ∃ k : Nat, k ≤ 256 ∧ i = .int .i64 k ∧ Hid (Below w4.heap.size w4 wq)) (fun i _ => 256 - (intOf i).toNat)
  case atStart => exact ⟨0, by omega, rfl, Lib.hid (Below.refl _ _)⟩
  case round =>
    obtain ⟨k, hk, rfl, hB⟩ := hrel
    by_cases hlt : k < 256
    · have e1 := (hB.out.cell (p := ⟨g1, k, none⟩) hg11).trans (K14.out k hlt)
      have e2 := (hB.out.cell (p := ⟨g3, k, none⟩) hg12).trans (K34.out k hlt)
      generalize (AL 1 was shape pcm).getD k 0 = X at *
      go_wp2
      go_quiet (fail)
      go_wp2
      go_roundw
      case rel => exact ⟨k + 1, by omega, by go_num, Lib.hid (hB.out.trans ((drewN_below _ _).mono hB.out.size))⟩
      case measure => simp [intOf]; omega
    · obtain rfl : k = 256 := by omega
      have e3 := (hB.out.cell (p := ⟨g4, n, none⟩) hg10).trans (K4.out n hn)
      rw [mk_at hn, SO.out] at e3
      have B5 := Lib.hid (bt B4.out hB.out)
      clear hB K4 K14 K34 B4
      go_wp2
      go_ret
      exact ⟨rfl, B5.out⟩
set_option maxRecDepth 100000 in
set_option maxHeartbeats 8000000 in
theorem main3 (was shape x : Int) (n : Nat) (A : Option Addr) (cap : Nat) (pcm : List Int) (w : World) (w0 : 0 ≤ was) (h0 : 0 ≤ shape) (hl : pcm.length = 512) (hc : 512 ≤ cap) (hcm : cap ≤ maxLen) (rd : RdA w A pcm) (hcp : Cp w A 512 cap pcm) (hM : May 2 was shape) (hI : InR (-32768) 32767 pcm) (x0 : -32768 ≤ x) (x1 : x ≤ 32767) (hn : n < 512) (hq : n < 112) :
    Calls Try.prog 6 #[.int .u8 2, .int .u8 was, .int .u8 shape, .slice A 512 cap, .int .i64 n, .int .i16 x] w fun e w' => e = .returned (.bool true) ∧ Below w.heap.size w w' := by
  have hIx := set_in (i := n) hI x0 x1
  have hlx : (pcm.set n x).length = 512 := by simpa using hl
  have hAi := AL_in (seq := 2) (was := was) (shape := shape) hl hI
  have HL := Lib.hid (alive_ok w)
  have HA := Lib.hid (fun W r => analyse_O 2 was shape A 512 cap pcm W (by decide) w0 h0 hl hc hcm r)
  rw [aO_good hM hl hI] at HA
  have HX := Lib.hid (fun g c W hc hcm r => analyse_O 2 was shape (some ⟨g, 0, none⟩) 512 c (pcm.set n x) W (by decide) w0 h0 hlx hc hcm r)
  rw [aO_good hM hlx hIx] at HX
  have hbr : Bare 2 n := .inl ⟨rfl, .inl hq⟩
  rw [AL_same hbr hn] at HX
  have SO := Lib.hid (SL_out (was := was) (shape := shape) (L := AL 2 was shape pcm) hbr hn)
  have HS := Lib.hid (fun g c W hc hcm r => synth_O 2 was shape (some ⟨g, 0, none⟩) 256 c (AL 2 was shape pcm) W (by decide) w0 h0 (AL_len _ _ _ _) hc hcm r)
  rw [sO_good hM (AL_len _ _ _ _) hAi] at HS
  clear hbr
  have RD := Lib.hid rd
  have CP := Lib.hid hcp
  have HN := Lib.hid hl
  have hxw : IntKind.i64.wrap x = x := by simp [IntKind.wrap, IntKind.bits, IntKind.signed]; omega
  have n1 : ¬ (n : Int) < 0 := by omega
  have n2 : ¬ 511 < (n : Int) := by omega
  have t1 : (n : Int) < 112 := by omega
  clear rd hcp hM hI hIx hAi hl hlx w0 h0 hq
  go_enter Try.func6, Try.ntmps6
  go_wp2_with first
    | (go_at_call 16; ((with_reducible refine (HL.out).mono ?_); rintro e w0 ⟨rfl, hb0⟩; have B0 := Lib.hid hb0; have R0 := Lib.hid (RD.out.below hb0); have C0 := Lib.hid (CP.out.below hb0); clear hb0))
    | (go_at_call 15; ((with_reducible refine (HA.out _ R0.out).mono ?_); rintro e w1 ⟨v1, rfl, ho1, hb1⟩; obtain ⟨g1, c1, rfl, hg1, hg2, hc1, hc2, hc3, hf3⟩ := own_open ho1 (AL_len 2 was shape pcm) (by decide); have K1 := Lib.hid hc3; have B1 := Lib.hid (bt B0.out hb1); have C1 := Lib.hid (C0.out.below hb1); clear ho1 hb1 hc3 hf3))
    | (at_builtin; refine wpList_copy _ rfl _ (.tmp 60) rfl rfl A 512 cap pcm rfl HN.out (by decide) C1.out ?_; intro v2 w2 ho2 hb2; obtain ⟨g2, c2, F, rfl, hg3, hc4, hc5, hr2, hF⟩ := own_rowV ho2 HN.out (by decide); have f2 := hr2.frozen n; have d2 := hr2.cell (i := n) (by omega); rw [hF n hn] at d2; have R2 := Lib.hid (set_rd (x := x) (i := n) hr2 HN.out hc4 hF); have B2 := Lib.hid (bt B1.out hb2); have K2 := Lib.hid (fun j hj => (hb2.cell (p := ⟨g1, j, none⟩) hg2).trans (K1.out j hj)); have hg5 := Nat.lt_of_lt_of_le hg2 hb2.size; have hne : g1 ≠ g2 := (by omega); clear ho2 hb2 hr2 hF)
    | (go_at_call 15; ((with_reducible refine (HX.out _ _ _ hc4 hc5 R2.out).mono ?_); rintro e w3 ⟨v3, rfl, ho3, hb3⟩; obtain ⟨g3, c3, rfl, hg6, hg7, hc6, hc7, hc8, hf8⟩ := own_open ho3 (AL_len 2 was shape pcm) (by decide); have K3 := Lib.hid hc8; have B3 := Lib.hid ((B2.out.setCell (p := ⟨g2, n, none⟩) (Nat.le_trans B1.out.size hg3) (.int .i64 x)).trans (hb3.mono (by rw [setsz]; exact B2.out.size))); have sz2 : (w2.setCell ⟨g2, n, none⟩ (.int .i64 x)).heap.size = w2.heap.size := setsz _ _ _; have K13 := Lib.hid (fun j hj => (hb3.cell (p := ⟨g1, j, none⟩) (by rw [sz2]; exact hg5)).trans ((cell_oth _ hne.symm).trans (K2.out j hj))); have hg8 := Nat.lt_of_lt_of_le hg5 (by rw [← sz2]; exact hb3.size); clear ho3 hb3 hc8 hf8))
    | (go_at_call 14; ((with_reducible refine (HS.out _ _ _ hc1 hc2 (cells_rd hg8 (AL_len _ _ _ _) K13.out)).mono ?_); rintro e w4 ⟨v4, rfl, ho4, hb4⟩; obtain ⟨g4, c4, rfl, hg9, hg10, hc9, hc10, hc11, hf11⟩ := own_open ho4 (mk_len 512 (SL 2 was shape (AL 2 was shape pcm))) (by decide); have K4 := Lib.hid hc11; have B4 := Lib.hid (bt B3.out hb4); have K14 := Lib.hid (fun j hj => (hb4.cell (p := ⟨g1, j, none⟩) hg8).trans (K13.out j hj)); have K34 := Lib.hid (fun j hj => (hb4.cell (p := ⟨g3, j, none⟩) hg7).trans (K3.out j hj)); have hg11 := Nat.lt_of_lt_of_le hg8 hb4.size; have hg12 := Nat.lt_of_lt_of_le hg7 hb4.size; clear ho4 hb4 hc11 hf11))
  clear HL HA HX HS R0 C0 K1 C1 R2 B2 K2 K3 B3 K13 B0 B1
  go_loopw [22] (fun i wq => ∃ k : Nat, k ≤ 256 ∧ i = .int .i64 k ∧ Hid (Below w4.heap.size w4 wq)) (fun i _ => 256 - (intOf i).toNat)
  case atStart => exact ⟨0, by omega, rfl, Lib.hid (Below.refl _ _)⟩
  case round =>
    obtain ⟨k, hk, rfl, hB⟩ := hrel
    by_cases hlt : k < 256
    · have e1 := (hB.out.cell (p := ⟨g1, k, none⟩) hg11).trans (K14.out k hlt)
      have e2 := (hB.out.cell (p := ⟨g3, k, none⟩) hg12).trans (K34.out k hlt)
      generalize (AL 2 was shape pcm).getD k 0 = X at *
      go_wp2
      go_quiet (fail)
      go_wp2
      go_roundw
      case rel => exact ⟨k + 1, by omega, by go_num, Lib.hid (hB.out.trans ((drewN_below _ _).mono hB.out.size))⟩
      case measure => simp [intOf]; omega
    · obtain rfl : k = 256 := by omega
      have e3 := (hB.out.cell (p := ⟨g4, n, none⟩) hg10).trans (K4.out n hn)
      rw [mk_at hn, SO.out] at e3
      have B5 := Lib.hid (bt B4.out hB.out)
      clear hB K4 K14 K34 B4
      go_wp2
      go_ret
      exact ⟨rfl, B5.out⟩
set_option maxRecDepth 100000 in
set_option maxHeartbeats 8000000 in
theorem main4 (was shape x : Int) (n : Nat) (A : Option Addr) (cap : Nat) (pcm : List Int) (w : World) (w0 : 0 ≤ was) (h0 : 0 ≤ shape) (hl : pcm.length = 512) (hc : 512 ≤ cap) (hcm : cap ≤ maxLen) (rd : RdA w A pcm) (hcp : Cp w A 512 cap pcm) (hM : May 2 was shape) (hI : InR (-32768) 32767 pcm) (x0 : -32768 ≤ x) (x1 : x ≤ 32767) (hn : n < 512) (hq : 400 ≤ n) :
    Calls Try.prog 6 #[.int .u8 2, .int .u8 was, .int .u8 shape, .slice A 512 cap, .int .i64 n, .int .i16 x] w fun e w' => e = .returned (.bool true) ∧ Below w.heap.size w w' := by
  have hIx := set_in (i := n) hI x0 x1
  have hlx : (pcm.set n x).length = 512 := by simpa using hl
  have hAi := AL_in (seq := 2) (was := was) (shape := shape) hl hI
  have HL := Lib.hid (alive_ok w)
  have HA := Lib.hid (fun W r => analyse_O 2 was shape A 512 cap pcm W (by decide) w0 h0 hl hc hcm r)
  rw [aO_good hM hl hI] at HA
  have HX := Lib.hid (fun g c W hc hcm r => analyse_O 2 was shape (some ⟨g, 0, none⟩) 512 c (pcm.set n x) W (by decide) w0 h0 hlx hc hcm r)
  rw [aO_good hM hlx hIx] at HX
  have hbr : Bare 2 n := .inl ⟨rfl, .inr hq⟩
  rw [AL_same hbr hn] at HX
  have SO := Lib.hid (SL_out (was := was) (shape := shape) (L := AL 2 was shape pcm) hbr hn)
  have HS := Lib.hid (fun g c W hc hcm r => synth_O 2 was shape (some ⟨g, 0, none⟩) 256 c (AL 2 was shape pcm) W (by decide) w0 h0 (AL_len _ _ _ _) hc hcm r)
  rw [sO_good hM (AL_len _ _ _ _) hAi] at HS
  clear hbr
  have RD := Lib.hid rd
  have CP := Lib.hid hcp
  have HN := Lib.hid hl
  have hxw : IntKind.i64.wrap x = x := by simp [IntKind.wrap, IntKind.bits, IntKind.signed]; omega
  have n1 : ¬ (n : Int) < 0 := by omega
  have n2 : ¬ 511 < (n : Int) := by omega
  have t1 : decide ((n : Int) < 112) = false := decide_eq_false (by omega)
  have t2 : 400 ≤ (n : Int) := by omega
  clear rd hcp hM hI hIx hAi hl hlx w0 h0 hq
  go_enter Try.func6, Try.ntmps6
  go_wp2_with first
    | (go_at_call 16; ((with_reducible refine (HL.out).mono ?_); rintro e w0 ⟨rfl, hb0⟩; have B0 := Lib.hid hb0; have R0 := Lib.hid (RD.out.below hb0); have C0 := Lib.hid (CP.out.below hb0); clear hb0))
    | (go_at_call 15; ((with_reducible refine (HA.out _ R0.out).mono ?_); rintro e w1 ⟨v1, rfl, ho1, hb1⟩; obtain ⟨g1, c1, rfl, hg1, hg2, hc1, hc2, hc3, hf3⟩ := own_open ho1 (AL_len 2 was shape pcm) (by decide); have K1 := Lib.hid hc3; have B1 := Lib.hid (bt B0.out hb1); have C1 := Lib.hid (C0.out.below hb1); clear ho1 hb1 hc3 hf3))
    | (at_builtin; refine wpList_copy _ rfl _ (.tmp 60) rfl rfl A 512 cap pcm rfl HN.out (by decide) C1.out ?_; intro v2 w2 ho2 hb2; obtain ⟨g2, c2, F, rfl, hg3, hc4, hc5, hr2, hF⟩ := own_rowV ho2 HN.out (by decide); have f2 := hr2.frozen n; have d2 := hr2.cell (i := n) (by omega); rw [hF n hn] at d2; have R2 := Lib.hid (set_rd (x := x) (i := n) hr2 HN.out hc4 hF); have B2 := Lib.hid (bt B1.out hb2); have K2 := Lib.hid (fun j hj => (hb2.cell (p := ⟨g1, j, none⟩) hg2).trans (K1.out j hj)); have hg5 := Nat.lt_of_lt_of_le hg2 hb2.size; have hne : g1 ≠ g2 := (by omega); clear ho2 hb2 hr2 hF)
    | (go_at_call 15; ((with_reducible refine (HX.out _ _ _ hc4 hc5 R2.out).mono ?_); rintro e w3 ⟨v3, rfl, ho3, hb3⟩; obtain ⟨g3, c3, rfl, hg6, hg7, hc6, hc7, hc8, hf8⟩ := own_open ho3 (AL_len 2 was shape pcm) (by decide); have K3 := Lib.hid hc8; have B3 := Lib.hid ((B2.out.setCell (p := ⟨g2, n, none⟩) (Nat.le_trans B1.out.size hg3) (.int .i64 x)).trans (hb3.mono (by rw [setsz]; exact B2.out.size))); have sz2 : (w2.setCell ⟨g2, n, none⟩ (.int .i64 x)).heap.size = w2.heap.size := setsz _ _ _; have K13 := Lib.hid (fun j hj => (hb3.cell (p := ⟨g1, j, none⟩) (by rw [sz2]; exact hg5)).trans ((cell_oth _ hne.symm).trans (K2.out j hj))); have hg8 := Nat.lt_of_lt_of_le hg5 (by rw [← sz2]; exact hb3.size); clear ho3 hb3 hc8 hf8))
    | (go_at_call 14; ((with_reducible refine (HS.out _ _ _ hc1 hc2 (cells_rd hg8 (AL_len _ _ _ _) K13.out)).mono ?_); rintro e w4 ⟨v4, rfl, ho4, hb4⟩; obtain ⟨g4, c4, rfl, hg9, hg10, hc9, hc10, hc11, hf11⟩ := own_open ho4 (mk_len 512 (SL 2 was shape (AL 2 was shape pcm))) (by decide); have K4 := Lib.hid hc11; have B4 := Lib.hid (bt B3.out hb4); have K14 := Lib.hid (fun j hj => (hb4.cell (p := ⟨g1, j, none⟩) hg8).trans (K13.out j hj)); have K34 := Lib.hid (fun j hj => (hb4.cell (p := ⟨g3, j, none⟩) hg7).trans (K3.out j hj)); have hg11 := Nat.lt_of_lt_of_le hg8 hb4.size; have hg12 := Nat.lt_of_lt_of_le hg7 hb4.size; clear ho4 hb4 hc11 hf11))
  clear HL HA HX HS R0 C0 K1 C1 R2 B2 K2 K3 B3 K13 B0 B1
  go_loopw [22] (fun i wq => ∃ k : Nat, k ≤ 256 ∧ i = .int .i64 k ∧ Hid (Below w4.heap.size w4 wq)) (fun i _ => 256 - (intOf i).toNat)
  case atStart => exact ⟨0, by omega, rfl, Lib.hid (Below.refl _ _)⟩
  case round =>
    obtain ⟨k, hk, rfl, hB⟩ := hrel
    by_cases hlt : k < 256
    · have e1 := (hB.out.cell (p := ⟨g1, k, none⟩) hg11).trans (K14.out k hlt)
      have e2 := (hB.out.cell (p := ⟨g3, k, none⟩) hg12).trans (K34.out k hlt)
      generalize (AL 2 was shape pcm).getD k 0 = X at *
      go_wp2
      go_quiet (fail)
      go_wp2
      go_roundw
      case rel => exact ⟨k + 1, by omega, by go_num, Lib.hid (hB.out.trans ((drewN_below _ _).mono hB.out.size))⟩
      case measure => simp [intOf]; omega
    · obtain rfl : k = 256 := by omega
      have e3 := (hB.out.cell (p := ⟨g4, n, none⟩) hg10).trans (K4.out n hn)
      rw [mk_at hn, SO.out] at e3
      have B5 := Lib.hid (bt B4.out hB.out)
      clear hB K4 K14 K34 B4
      go_wp2
      go_ret
      exact ⟨rfl, B5.out⟩
set_option maxRecDepth 100000 in
set_option maxHeartbeats 8000000 in
theorem main5 (was shape x : Int) (n : Nat) (A : Option Addr) (cap : Nat) (pcm : List Int) (w : World) (w0 : 0 ≤ was) (h0 : 0 ≤ shape) (hl : pcm.length = 512) (hc : 512 ≤ cap) (hcm : cap ≤ maxLen) (rd : RdA w A pcm) (hcp : Cp w A 512 cap pcm) (hM : May 2 was shape) (hI : InR (-32768) 32767 pcm) (x0 : -32768 ≤ x) (x1 : x ≤ 32767) (hn : n < 512) (hq : 112 ≤ n ∧ n < 400) :
    Calls Try.prog 6 #[.int .u8 2, .int .u8 was, .int .u8 shape, .slice A 512 cap, .int .i64 n, .int .i16 x] w fun e w' => e = .returned (.bool true) ∧ Below w.heap.size w w' := by
  have hIx := set_in (i := n) hI x0 x1
  have hlx : (pcm.set n x).length = 512 := by simpa using hl
  have hAi := AL_in (seq := 2) (was := was) (shape := shape) hl hI
  have HL := Lib.hid (alive_ok w)
  have HA := Lib.hid (fun W r => analyse_O 2 was shape A 512 cap pcm W (by decide) w0 h0 hl hc hcm r)
  rw [aO_good hM hl hI] at HA
  have HX := Lib.hid (fun g c W hc hcm r => analyse_O 2 was shape (some ⟨g, 0, none⟩) 512 c (pcm.set n x) W (by decide) w0 h0 hlx hc hcm r)
  rw [aO_good hM hlx hIx] at HX
  have HS := Lib.hid (fun g c W hc hcm r => synth_O 2 was shape (some ⟨g, 0, none⟩) 256 c (AL 2 was shape pcm) W (by decide) w0 h0 (AL_len _ _ _ _) hc hcm r)
  rw [sO_good hM (AL_len _ _ _ _) hAi] at HS
  have RD := Lib.hid rd
  have CP := Lib.hid hcp
  have HN := Lib.hid hl
  have hxw : IntKind.i64.wrap x = x := by simp [IntKind.wrap, IntKind.bits, IntKind.signed]; omega
  have n1 : ¬ (n : Int) < 0 := by omega
  have n2 : ¬ 511 < (n : Int) := by omega
  have t1 : decide ((n : Int) < 112) = false := decide_eq_false (by omega)
  have t2 : decide (400 ≤ (n : Int)) = false := decide_eq_false (by omega)
  clear rd hcp hM hI hIx hAi hl hlx w0 h0 hq
  go_enter Try.func6, Try.ntmps6
  go_wp2_with first
    | (go_at_call 16; ((with_reducible refine (HL.out).mono ?_); rintro e w0 ⟨rfl, hb0⟩; have B0 := Lib.hid hb0; have R0 := Lib.hid (RD.out.below hb0); have C0 := Lib.hid (CP.out.below hb0); clear hb0))
    | (go_at_call 15; ((with_reducible refine (HA.out _ R0.out).mono ?_); rintro e w1 ⟨v1, rfl, ho1, hb1⟩; obtain ⟨g1, c1, rfl, hg1, hg2, hc1, hc2, hc3, hf3⟩ := own_open ho1 (AL_len 2 was shape pcm) (by decide); have K1 := Lib.hid hc3; have B1 := Lib.hid (bt B0.out hb1); have C1 := Lib.hid (C0.out.below hb1); clear ho1 hb1 hc3 hf3))
    | (at_builtin; refine wpList_copy _ rfl _ (.tmp 60) rfl rfl A 512 cap pcm rfl HN.out (by decide) C1.out ?_; intro v2 w2 ho2 hb2; obtain ⟨g2, c2, F, rfl, hg3, hc4, hc5, hr2, hF⟩ := own_rowV ho2 HN.out (by decide); have f2 := hr2.frozen n; have d2 := hr2.cell (i := n) (by omega); rw [hF n hn] at d2; have R2 := Lib.hid (set_rd (x := x) (i := n) hr2 HN.out hc4 hF); have B2 := Lib.hid (bt B1.out hb2); have K2 := Lib.hid (fun j hj => (hb2.cell (p := ⟨g1, j, none⟩) hg2).trans (K1.out j hj)); have hg5 := Nat.lt_of_lt_of_le hg2 hb2.size; have hne : g1 ≠ g2 := (by omega); clear ho2 hb2 hr2 hF)
    | (go_at_call 15; ((with_reducible refine (HX.out _ _ _ hc4 hc5 R2.out).mono ?_); rintro e w3 ⟨v3, rfl, ho3, hb3⟩; obtain ⟨g3, c3, rfl, hg6, hg7, hc6, hc7, hc8, hf8⟩ := own_open ho3 (AL_len 2 was shape (pcm.set n x)) (by decide); have K3 := Lib.hid hc8; have B3 := Lib.hid ((B2.out.setCell (p := ⟨g2, n, none⟩) (Nat.le_trans B1.out.size hg3) (.int .i64 x)).trans (hb3.mono (by rw [setsz]; exact B2.out.size))); have sz2 : (w2.setCell ⟨g2, n, none⟩ (.int .i64 x)).heap.size = w2.heap.size := setsz _ _ _; have K13 := Lib.hid (fun j hj => (hb3.cell (p := ⟨g1, j, none⟩) (by rw [sz2]; exact hg5)).trans ((cell_oth _ hne.symm).trans (K2.out j hj))); have hg8 := Nat.lt_of_lt_of_le hg5 (by rw [← sz2]; exact hb3.size); clear ho3 hb3 hc8 hf8))
    | (go_at_call 14; ((with_reducible refine (HS.out _ _ _ hc1 hc2 (cells_rd hg8 (AL_len _ _ _ _) K13.out)).mono ?_); rintro e w4 ⟨v4, rfl, ho4, hb4⟩; obtain ⟨g4, c4, rfl, hg9, hg10, hc9, hc10, hc11, hf11⟩ := own_open ho4 (mk_len 512 (SL 2 was shape (AL 2 was shape pcm))) (by decide); have K4 := Lib.hid hc11; have B4 := Lib.hid (bt B3.out hb4); have K14 := Lib.hid (fun j hj => (hb4.cell (p := ⟨g1, j, none⟩) hg8).trans (K13.out j hj)); have K34 := Lib.hid (fun j hj => (hb4.cell (p := ⟨g3, j, none⟩) hg7).trans (K3.out j hj)); have hg11 := Nat.lt_of_lt_of_le hg8 hb4.size; have hg12 := Nat.lt_of_lt_of_le hg7 hb4.size; clear ho4 hb4 hc11 hf11))
  go_ret
  exact ⟨rfl, B4.out⟩
set_option maxRecDepth 100000 in
set_option maxHeartbeats 8000000 in
theorem main6 (was shape x : Int) (n : Nat) (A : Option Addr) (cap : Nat) (pcm : List Int) (w : World) (w0 : 0 ≤ was) (h0 : 0 ≤ shape) (hl : pcm.length = 512) (hc : 512 ≤ cap) (hcm : cap ≤ maxLen) (rd : RdA w A pcm) (hcp : Cp w A 512 cap pcm) (hM : May 3 was shape) (hI : InR (-32768) 32767 pcm) (x0 : -32768 ≤ x) (x1 : x ≤ 32767) (hn : n < 512) (hq : n < 112) :
    Calls Try.prog 6 #[.int .u8 3, .int .u8 was, .int .u8 shape, .slice A 512 cap, .int .i64 n, .int .i16 x] w fun e w' => e = .returned (.bool true) ∧ Below w.heap.size w w' := by
  have hIx := set_in (i := n) hI x0 x1
  have hlx : (pcm.set n x).length = 512 := by simpa using hl
  have hAi := AL_in (seq := 3) (was := was) (shape := shape) hl hI
  have HL := Lib.hid (alive_ok w)
  have HA := Lib.hid (fun W r => analyse_O 3 was shape A 512 cap pcm W (by decide) w0 h0 hl hc hcm r)
  rw [aO_good hM hl hI] at HA
  have HX := Lib.hid (fun g c W hc hcm r => analyse_O 3 was shape (some ⟨g, 0, none⟩) 512 c (pcm.set n x) W (by decide) w0 h0 hlx hc hcm r)
  rw [aO_good hM hlx hIx] at HX
  have hbr : Bare 3 n := .inr (.inr ⟨rfl, hq⟩)
  rw [AL_same hbr hn] at HX
  have SO := Lib.hid (SL_out (was := was) (shape := shape) (L := AL 3 was shape pcm) hbr hn)
  have HS := Lib.hid (fun g c W hc hcm r => synth_O 3 was shape (some ⟨g, 0, none⟩) 256 c (AL 3 was shape pcm) W (by decide) w0 h0 (AL_len _ _ _ _) hc hcm r)
  rw [sO_good hM (AL_len _ _ _ _) hAi] at HS
  clear hbr
  have RD := Lib.hid rd
  have CP := Lib.hid hcp
  have HN := Lib.hid hl
  have hxw : IntKind.i64.wrap x = x := by simp [IntKind.wrap, IntKind.bits, IntKind.signed]; omega
  have n1 : ¬ (n : Int) < 0 := by omega
  have n2 : ¬ 511 < (n : Int) := by omega
  have t1 : (n : Int) < 112 := by omega
  clear rd hcp hM hI hIx hAi hl hlx w0 h0 hq
  go_enter Try.func6, Try.ntmps6
  go_wp2_with first
    | (go_at_call 16; ((with_reducible refine (HL.out).mono ?_); rintro e w0 ⟨rfl, hb0⟩; have B0 := Lib.hid hb0; have R0 := Lib.hid (RD.out.below hb0); have C0 := Lib.hid (CP.out.below hb0); clear hb0))
    | (go_at_call 15; ((with_reducible refine (HA.out _ R0.out).mono ?_); rintro e w1 ⟨v1, rfl, ho1, hb1⟩; obtain ⟨g1, c1, rfl, hg1, hg2, hc1, hc2, hc3, hf3⟩ := own_open ho1 (AL_len 3 was shape pcm) (by decide); have K1 := Lib.hid hc3; have B1 := Lib.hid (bt B0.out hb1); have C1 := Lib.hid (C0.out.below hb1); clear ho1 hb1 hc3 hf3))
    | (at_builtin; refine wpList_copy _ rfl _ (.tmp 60) rfl rfl A 512 cap pcm rfl HN.out (by decide) C1.out ?_; intro v2 w2 ho2 hb2; obtain ⟨g2, c2, F, rfl, hg3, hc4, hc5, hr2, hF⟩ := own_rowV ho2 HN.out (by decide); have f2 := hr2.frozen n; have d2 := hr2.cell (i := n) (by omega); rw [hF n hn] at d2; have R2 := Lib.hid (set_rd (x := x) (i := n) hr2 HN.out hc4 hF); have B2 := Lib.hid (bt B1.out hb2); have K2 := Lib.hid (fun j hj => (hb2.cell (p := ⟨g1, j, none⟩) hg2).trans (K1.out j hj)); have hg5 := Nat.lt_of_lt_of_le hg2 hb2.size; have hne : g1 ≠ g2 := (by omega); clear ho2 hb2 hr2 hF)
    | (go_at_call 15; ((with_reducible refine (HX.out _ _ _ hc4 hc5 R2.out).mono ?_); rintro e w3 ⟨v3, rfl, ho3, hb3⟩; obtain ⟨g3, c3, rfl, hg6, hg7, hc6, hc7, hc8, hf8⟩ := own_open ho3 (AL_len 3 was shape pcm) (by decide); have K3 := Lib.hid hc8; have B3 := Lib.hid ((B2.out.setCell (p := ⟨g2, n, none⟩) (Nat.le_trans B1.out.size hg3) (.int .i64 x)).trans (hb3.mono (by rw [setsz]; exact B2.out.size))); have sz2 : (w2.setCell ⟨g2, n, none⟩ (.int .i64 x)).heap.size = w2.heap.size := setsz _ _ _; have K13 := Lib.hid (fun j hj => (hb3.cell (p := ⟨g1, j, none⟩) (by rw [sz2]; exact hg5)).trans ((cell_oth _ hne.symm).trans (K2.out j hj))); have hg8 := Nat.lt_of_lt_of_le hg5 (by rw [← sz2]; exact hb3.size); clear ho3 hb3 hc8 hf8))
    | (go_at_call 14; ((with_reducible refine (HS.out _ _ _ hc1 hc2 (cells_rd hg8 (AL_len _ _ _ _) K13.out)).mono ?_); rintro e w4 ⟨v4, rfl, ho4, hb4⟩; obtain ⟨g4, c4, rfl, hg9, hg10, hc9, hc10, hc11, hf11⟩ := own_open ho4 (mk_len 512 (SL 3 was shape (AL 3 was shape pcm))) (by decide); have K4 := Lib.hid hc11; have B4 := Lib.hid (bt B3.out hb4); have K14 := Lib.hid (fun j hj => (hb4.cell (p := ⟨g1, j, none⟩) hg8).trans (K13.out j hj)); have K34 := Lib.hid (fun j hj => (hb4.cell (p := ⟨g3, j, none⟩) hg7).trans (K3.out j hj)); have hg11 := Nat.lt_of_lt_of_le hg8 hb4.size; have hg12 := Nat.lt_of_lt_of_le hg7 hb4.size; clear ho4 hb4 hc11 hf11))
  clear HL HA HX HS R0 C0 K1 C1 R2 B2 K2 K3 B3 K13 B0 B1
  go_loopw [22] (fun i wq => ∃ k : Nat, k ≤ 256 ∧ i = .int .i64 k ∧ Hid (Below w4.heap.size w4 wq)) (fun i _ => 256 - (intOf i).toNat)
  case atStart => exact ⟨0, by omega, rfl, Lib.hid (Below.refl _ _)⟩
  case round =>
    obtain ⟨k, hk, rfl, hB⟩ := hrel
    by_cases hlt : k < 256
    · have e1 := (hB.out.cell (p := ⟨g1, k, none⟩) hg11).trans (K14.out k hlt)
      have e2 := (hB.out.cell (p := ⟨g3, k, none⟩) hg12).trans (K34.out k hlt)
      generalize (AL 3 was shape pcm).getD k 0 = X at *
      go_wp2
      go_quiet (fail)
      go_wp2
      go_roundw
      case rel => exact ⟨k + 1, by omega, by go_num, Lib.hid (hB.out.trans ((drewN_below _ _).mono hB.out.size))⟩
      case measure => simp [intOf]; omega
    · obtain rfl : k = 256 := by omega
      have e3 := (hB.out.cell (p := ⟨g4, n, none⟩) hg10).trans (K4.out n hn)
      rw [mk_at hn, SO.out] at e3
      have B5 := Lib.hid (bt B4.out hB.out)
      clear hB K4 K14 K34 B4
      go_wp2
      go_ret
      exact ⟨rfl, B5.out⟩
set_option maxRecDepth 100000 in
set_option maxHeartbeats 8000000 in
theorem main7 (was shape x : Int) (n : Nat) (A : Option Addr) (cap : Nat) (pcm : List Int) (w : World) (w0 : 0 ≤ was) (h0 : 0 ≤ shape) (hl : pcm.length = 512) (hc : 512 ≤ cap) (hcm : cap ≤ maxLen) (rd : RdA w A pcm) (hcp : Cp w A 512 cap pcm) (hM : May 3 was shape) (hI : InR (-32768) 32767 pcm) (x0 : -32768 ≤ x) (x1 : x ≤ 32767) (hn : n < 512) (hq : 112 ≤ n) :
    Calls Try.prog 6 #[.int .u8 3, .int .u8 was, .int .u8 shape, .slice A 512 cap, .int .i64 n, .int .i16 x] w fun e w' => e = .returned (.bool true) ∧ Below w.heap.size w w' := by
  have hIx := set_in (i := n) hI x0 x1
  have hlx : (pcm.set n x).length = 512 := by simpa using hl
  have hAi := AL_in (seq := 3) (was := was) (shape := shape) hl hI
  have HL := Lib.hid (alive_ok w)
  have HA := Lib.hid (fun W r => analyse_O 3 was shape A 512 cap pcm W (by decide) w0 h0 hl hc hcm r)
  rw [aO_good hM hl hI] at HA
  have HX := Lib.hid (fun g c W hc hcm r => analyse_O 3 was shape (some ⟨g, 0, none⟩) 512 c (pcm.set n x) W (by decide) w0 h0 hlx hc hcm r)
  rw [aO_good hM hlx hIx] at HX
  have HS := Lib.hid (fun g c W hc hcm r => synth_O 3 was shape (some ⟨g, 0, none⟩) 256 c (AL 3 was shape pcm) W (by decide) w0 h0 (AL_len _ _ _ _) hc hcm r)
  rw [sO_good hM (AL_len _ _ _ _) hAi] at HS
  have RD := Lib.hid rd
  have CP := Lib.hid hcp
  have HN := Lib.hid hl
  have hxw : IntKind.i64.wrap x = x := by simp [IntKind.wrap, IntKind.bits, IntKind.signed]; omega
  have n1 : ¬ (n : Int) < 0 := by omega
  have n2 : ¬ 511 < (n : Int) := by omega
  have t1 : decide ((n : Int) < 112) = false := decide_eq_false (by omega)
  clear rd hcp hM hI hIx hAi hl hlx w0 h0 hq
  go_enter Try.func6, Try.ntmps6
  go_wp2_with first
    | (go_at_call 16; ((with_reducible refine (HL.out).mono ?_); rintro e w0 ⟨rfl, hb0⟩; have B0 := Lib.hid hb0; have R0 := Lib.hid (RD.out.below hb0); have C0 := Lib.hid (CP.out.below hb0); clear hb0))
    | (go_at_call 15; ((with_reducible refine (HA.out _ R0.out).mono ?_); rintro e w1 ⟨v1, rfl, ho1, hb1⟩; obtain ⟨g1, c1, rfl, hg1, hg2, hc1, hc2, hc3, hf3⟩ := own_open ho1 (AL_len 3 was shape pcm) (by decide); have K1 := Lib.hid hc3; have B1 := Lib.hid (bt B0.out hb1); have C1 := Lib.hid (C0.out.below hb1); clear ho1 hb1 hc3 hf3))
    | (at_builtin; refine wpList_copy _ rfl _ (.tmp 60) rfl rfl A 512 cap pcm rfl HN.out (by decide) C1.out ?_; intro v2 w2 ho2 hb2; obtain ⟨g2, c2, F, rfl, hg3, hc4, hc5, hr2, hF⟩ := own_rowV ho2 HN.out (by decide); have f2 := hr2.frozen n; have d2 := hr2.cell (i := n) (by omega); rw [hF n hn] at d2; have R2 := Lib.hid (set_rd (x := x) (i := n) hr2 HN.out hc4 hF); have B2 := Lib.hid (bt B1.out hb2); have K2 := Lib.hid (fun j hj => (hb2.cell (p := ⟨g1, j, none⟩) hg2).trans (K1.out j hj)); have hg5 := Nat.lt_of_lt_of_le hg2 hb2.size; have hne : g1 ≠ g2 := (by omega); clear ho2 hb2 hr2 hF)
    | (go_at_call 15; ((with_reducible refine (HX.out _ _ _ hc4 hc5 R2.out).mono ?_); rintro e w3 ⟨v3, rfl, ho3, hb3⟩; obtain ⟨g3, c3, rfl, hg6, hg7, hc6, hc7, hc8, hf8⟩ := own_open ho3 (AL_len 3 was shape (pcm.set n x)) (by decide); have K3 := Lib.hid hc8; have B3 := Lib.hid ((B2.out.setCell (p := ⟨g2, n, none⟩) (Nat.le_trans B1.out.size hg3) (.int .i64 x)).trans (hb3.mono (by rw [setsz]; exact B2.out.size))); have sz2 : (w2.setCell ⟨g2, n, none⟩ (.int .i64 x)).heap.size = w2.heap.size := setsz _ _ _; have K13 := Lib.hid (fun j hj => (hb3.cell (p := ⟨g1, j, none⟩) (by rw [sz2]; exact hg5)).trans ((cell_oth _ hne.symm).trans (K2.out j hj))); have hg8 := Nat.lt_of_lt_of_le hg5 (by rw [← sz2]; exact hb3.size); clear ho3 hb3 hc8 hf8))
    | (go_at_call 14; ((with_reducible refine (HS.out _ _ _ hc1 hc2 (cells_rd hg8 (AL_len _ _ _ _) K13.out)).mono ?_); rintro e w4 ⟨v4, rfl, ho4, hb4⟩; obtain ⟨g4, c4, rfl, hg9, hg10, hc9, hc10, hc11, hf11⟩ := own_open ho4 (mk_len 512 (SL 3 was shape (AL 3 was shape pcm))) (by decide); have K4 := Lib.hid hc11; have B4 := Lib.hid (bt B3.out hb4); have K14 := Lib.hid (fun j hj => (hb4.cell (p := ⟨g1, j, none⟩) hg8).trans (K13.out j hj)); have K34 := Lib.hid (fun j hj => (hb4.cell (p := ⟨g3, j, none⟩) hg7).trans (K3.out j hj)); have hg11 := Nat.lt_of_lt_of_le hg8 hb4.size; have hg12 := Nat.lt_of_lt_of_le hg7 hb4.size; clear ho4 hb4 hc11 hf11))
  go_ret
  exact ⟨rfl, B4.out⟩
theorem walk (a0 a1 a2 : Int) (a3 : Option Addr) (len3 cap3 : Nat) (z3 : List Int) (a4 a5 : Int) (W : World) (w0 : (Lit.int .u8 a0).wf = true) (w1 : (Lit.int .u8 a1).wf = true) (w2 : (Lit.int .u8 a2).wf = true) (w3 : IsRow .i64 W a3 len3 cap3 z3) (_ : (Lit.int .i64 a4).wf = true) (w5 : (Lit.int .i16 a5).wf = true) :
    Calls Try.prog 6 #[.int .u8 a0, .int .u8 a1, .int .u8 a2, .slice a3 len3 cap3, .int .i64 a4, .int .i16 a5] W fun e w' => e = .returned (.bool true) ∧ Below W.heap.size W w' := by
  obtain ⟨xs, hl, hr, hR, hC⟩ := row_all w3
  have hcc : len3 ≤ cap3 ∧ cap3 ≤ maxLen := by
    rcases w3 with ⟨_, h1, h2, _⟩ | ⟨_, _, h1, h2, _⟩
    · subst h1 h2; unfold maxLen; omega
    · exact ⟨h1, h2⟩
  by_cases h : 1000 < (len3 : Int)
  · exact long a0 a1 a2 a5 a4 a3 len3 cap3 W h
  by_cases hb : May a0 a1 a2 ∧ xs.length = 512 ∧ InR (-32768) 32767 xs
  · obtain ⟨hM, h5, hI⟩ := hb
    by_cases ho : a4 < 0 ∨ 511 < a4
    · exact out a0 a1 a2 a5 a4 a3 len3 cap3 xs W (u8_lo w0) (u8_lo w1) (u8_lo w2) hl hcc.1 hcc.2 hr h hM h5 hI ho
    · obtain ⟨n, rfl⟩ : ∃ n : Nat, a4 = (n : Int) := ⟨a4.toNat, by omega⟩
      obtain rfl : len3 = 512 := by omega
      obtain ⟨x0, x1⟩ := i16_in w5
      have hs := u8_lo w0
      have hn : n < 512 := by omega
      have hs3 := hM.1
      obtain rfl | rfl | rfl | rfl : a0 = 0 ∨ a0 = 1 ∨ a0 = 2 ∨ a0 = 3 := by omega
      · exact main0 a1 a2 a5 n a3 cap3 xs W (u8_lo w1) (u8_lo w2) h5 hcc.1 hcc.2 hr hC hM hI x0 x1 hn trivial
      · by_cases q : n < 400
        · exact main1 a1 a2 a5 n a3 cap3 xs W (u8_lo w1) (u8_lo w2) h5 hcc.1 hcc.2 hr hC hM hI x0 x1 hn q
        · exact main2 a1 a2 a5 n a3 cap3 xs W (u8_lo w1) (u8_lo w2) h5 hcc.1 hcc.2 hr hC hM hI x0 x1 hn (by omega)
      · by_cases q : n < 112
        · exact main3 a1 a2 a5 n a3 cap3 xs W (u8_lo w1) (u8_lo w2) h5 hcc.1 hcc.2 hr hC hM hI x0 x1 hn q
        · by_cases q2 : 400 ≤ n
          · exact main4 a1 a2 a5 n a3 cap3 xs W (u8_lo w1) (u8_lo w2) h5 hcc.1 hcc.2 hr hC hM hI x0 x1 hn q2
          · exact main5 a1 a2 a5 n a3 cap3 xs W (u8_lo w1) (u8_lo w2) h5 hcc.1 hcc.2 hr hC hM hI x0 x1 hn (by omega)
      · by_cases q : n < 112
        · exact main6 a1 a2 a5 n a3 cap3 xs W (u8_lo w1) (u8_lo w2) h5 hcc.1 hcc.2 hr hC hM hI x0 x1 hn q
        · exact main7 a1 a2 a5 n a3 cap3 xs W (u8_lo w1) (u8_lo w2) h5 hcc.1 hcc.2 hr hC hM hI x0 x1 hn (by omega)
  · exact bad a0 a1 a2 a5 a4 a3 len3 cap3 xs W (u8_lo w0) (u8_lo w1) (u8_lo w2) hl hcc.1 hcc.2 hr h hb

theorem own : ownKnob Try.prog.godebug = none := by kernel_rfl
theorem laidOut : laidOutB Try.prog = true := by kernel_rfl
set_option linter.unusedVariables false
set_option maxRecDepth 100000 in
theorem lifted (os : Os) (started : os.Started) (H : Type) (enc : TypeId × Value → H) :
    ReturnsInHanded {} Try.checked os 6 .any (Rows.blockUnderSpec.pre6 enc Try.prog Try.f6 Rows.blockUnderRow.domain false) (Rows.blockUnderSpec.post enc Try.prog Try.f6 false true false false) := by
  refine returnsInHanded_of_change (C := Try.checked) own started (by kernel_rfl) Try.func6
    (ChangeSpec.witness6 (enc := enc) (C := Try.checked) false ⟨#[], #[.int .u8 0, .int .u8 0, .int .u8 0, .slice none 0 0, .int .i64 0, .int .i16 0], []⟩ 8 (by kernel_rfl) (by kernel_rfl) (by kernel_rfl) (by kernel_rfl)) ?_
  intro W base args ds gs before hval0 hW hcnd _
  have hval : ∀ (j : Nat) t v, Try.f6.params[j]? = some t → args[j]? = some v → Value.okWide Try.prog W .any base t v := hval0
  have hW' := hW
  obtain ⟨p, q, hA0, hV, rfl, hfz, hnd⟩ := hW
  have hA : DataW.TrodAll enc Try.prog W 0 (fun _ => true) true Try.f6.params.toList args.toList ds p := hA0
  rw [Try.params6] at hA hval
  obtain ⟨v0, vs0, d0, ds0, p0, q0, hargs, rfl, rfl, h0, r0⟩ := trodAll_cons hA
  obtain ⟨v1, vs1, d1, ds1, p1, q1, rfl, rfl, rfl, h1, r1⟩ := trodAll_cons r0
  obtain ⟨v2, vs2, d2, ds2, p2, q2, rfl, rfl, rfl, h2, r2⟩ := trodAll_cons r1
  obtain ⟨v3, vs3, d3, ds3, p3, q3, rfl, rfl, rfl, h3, r3⟩ := trodAll_cons r2
  obtain ⟨v4, vs4, d4, ds4, p4, q4, rfl, rfl, rfl, h4, r4⟩ := trodAll_cons r3
  obtain ⟨v5, vs5, d5, ds5, p5, q5, rfl, rfl, rfl, h5, r5⟩ := trodAll_cons r4
  obtain ⟨rfl, rfl, rfl⟩ := trodAll_nil r5
  obtain rfl : args = #[v0, v1, v2, v3, v4, v5] := by cases args; simp_all
  obtain ⟨rfl, rfl⟩ := trodVars_none hV
  obtain ⟨a0, rfl, rfl, rfl, w0⟩ := open_int Try.underlying5 (hval 0 5 v0 rfl rfl) h0
  obtain ⟨a1, rfl, rfl, rfl, w1⟩ := open_int Try.underlying5 (hval 1 5 v1 rfl rfl) h1
  obtain ⟨a2, rfl, rfl, rfl, w2⟩ := open_int Try.underlying5 (hval 2 5 v2 rfl rfl) h2
  obtain ⟨a3, len3, cap3, rfl⟩ := okWide_slice Try.underlying22 (hval 3 22 v3 rfl rfl)
  have k3 := h3
  have lt3 : ∀ x ∈ p3, x.block < W.heap.size := by obtain ⟨m, hm⟩ := k3; exact DataW.trod_lt m _ _ _ hm
  obtain ⟨z3, w3⟩ : ∃ zs, IsRow .i64 W a3 len3 cap3 zs := by
    obtain ⟨fuel, hf⟩ := h3
    rcases open_ints Try.underlying22 Try.underlying3 (by kernel_rfl) hf with ⟨hcs, _⟩ | ⟨x, l, c, zs, hcs, _, hl, hm, hz, _, hcell, hwz⟩
    · simp [Value.cells] at hcs
      obtain ⟨rfl, rfl, rfl⟩ := hcs
      exact ⟨[], .inl ⟨rfl, rfl, rfl, rfl⟩⟩
    · simp [Value.cells] at hcs
      obtain ⟨rfl, rfl, rfl⟩ := hcs
      exact ⟨zs, .inr ⟨_, rfl, hl, hm, by simpa using hz, hcell, hwz⟩⟩
  obtain ⟨a4, rfl, rfl, rfl, w4⟩ := open_int Try.underlying3 (hval 4 3 v4 rfl rfl) h4
  obtain ⟨a5, rfl, rfl, rfl, w5⟩ := open_int Try.underlying34 (hval 5 34 v5 rfl rfl) h5
  clear hA0 hval0
  refine (walk a0 a1 a2 a3 len3 cap3 z3 a4 a5 W w0 w1 w2 w3 w4 w5).mono fun e W' ⟨he, bel⟩ => ?_
  subst he
  exact ⟨_, rfl, _, _, _, [], _, [], hW', trodAll_mk1 (shut_bool Try.underlying4 _), (trodAll_cons_mk (shut_int Try.underlying5 w0) (trodAll_cons_mk (shut_int Try.underlying5 w1) (trodAll_cons_mk (shut_int Try.underlying5 w2) (trodAll_cons_mk (Below.trod laidOut (by kernel_rfl) (of_decide_eq_true (by kernel_rfl)) k3 bel lt3) (trodAll_cons_mk (shut_int Try.underlying3 w4) (trodAll_cons_mk (shut_int Try.underlying34 w5) trodAll_mk0)))))), rfl, bel.frame _, fun h => by cases h⟩

theorem over : Rows.blockUnderRow.holds Try.pinned (OpenSpec.ofChange Rows.blockUnderSpec) :=
  OpenClaim.holds_of_wide 6 Try.f6 rfl rfl rfl rfl rfl rfl rfl ⟨rfl, rfl, rfl, rfl, rfl⟩ rfl rfl rfl rfl rfl (by kernel_rfl) Try.func6 (by kernel_rfl)
    (of_decide_eq_true (by kernel_rfl)) (by unfold Func.isWrapper; first | (rw [if_pos (by decide +kernel)]; kernel_rfl) | (rw [if_neg (by decide +kernel)]; exact ⟨rfl, rfl⟩))
    (fun os started H enc _ => lifted os started H enc)

theorem proved : Rows.BlockUnderSaid := over
end Go.Proofs.Yteknakakefhbmaa.blockUnder

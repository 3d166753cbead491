/- What lap answers to whatever it is asked, and that it is alive. -/
import Derived.Test.YteknakakefhbmaaLpNx
import Derived.Great.Walk
import Derived.ChangeKeysEq
import Derived.ChangeOld
import Derived.ShutString
import Derived.WalkKit
import Derived.Below
import Derived.RegionTactic
import Derived.Deep.QuietTactic
import Derived.BigQuiet
import Derived.ChangeAlike
import Derived.Deep.OwnRows
import Derived.Deep.RegionLaw
import Derived.ProofKit
import Derived.OpenShut
import Derived.ChangeSlices
import Derived.Lib.Hide
namespace Go.Proofs.Yteknakakefhbmaa.Lp
open Go Go.ChangeShapes Go.WideShapes Go.ChangeAt Go.RowKit Go.Proofs.Yteknakakefhbmaa.Fx Go.Proofs.Yteknakakefhbmaa.Rk Go.Proofs.Yteknakakefhbmaa.Mm Go.Proofs.Yteknakakefhbmaa.Md Go.Proofs.Yteknakakefhbmaa.Bl Go.Proofs.Yteknakakefhbmaa.Cpy

theorem sO_zero {seq was shape : Int} {lines : List Int} (h : (sO seq was shape lines).2 = 0) : May seq was shape ∧ lines.length = 256 ∧ InR (-268435455) 268435455 lines := by
  unfold sO at h
  by_cases h1 : May seq was shape
  · rw [if_neg (by simpa using h1)] at h
    by_cases h2 : lines.length = 256
    · rw [if_neg (by simpa using h2)] at h
      by_cases h3 : InR (-268435455) 268435455 lines
      · exact ⟨h1, h2, h3⟩
      · rw [if_pos h3] at h; exact absurd h (by decide)
    · rw [if_pos h2] at h; exact absurd h (by decide)
  · rw [if_pos h1] at h; exact absurd h (by decide)
theorem next_O (A L : Option Addr) (n cap len cl : Nat) (tail lines : List Int) (seq0 sh0 seq shape : Int) (w : World) (s0 : 0 ≤ seq) (w0 : 0 ≤ sh0) (h0 : 0 ≤ shape) (hn : tail.length = n) (rd : RdA w A tail) (hl : lines.length = len) (hc : len ≤ cl) (hcm : cl ≤ maxLen) (rl : RdA w L lines) :
    Calls Try.prog 22 #[lapV (.slice A n cap) seq0 sh0, .int .u8 seq, .int .u8 shape, .slice L len cl] w (AnsN (nO tail seq0 sh0 seq shape lines) w) := by
  subst hn
  by_cases h : LapOK tail seq0 sh0
  · by_cases he : (sO seq sh0 shape lines).2 = 0
    · obtain ⟨a, b, c⟩ := sO_zero he
      exact next_good A L cap len cl tail lines seq0 sh0 seq shape w s0 w0 h0 rd hl hc hcm rl h _ (sO_good a b c) (syb b c)
    · exact next_bad2 A L cap len cl tail lines seq0 sh0 seq shape w s0 w0 h0 rd hl hc hcm rl h he
  · exact next_bad1 A L cap len cl tail lines seq0 sh0 seq shape w rd h
/-- A good frame's answer. -/
theorem nO_good {tail : List Int} {seq0 sh0 seq shape : Int} {lines : List Int} (h : LapOK tail seq0 sh0) (hM : May seq sh0 shape) (hl : lines.length = 256) (hI : InR (-268435455) 268435455 lines) :
    nO tail seq0 sh0 seq shape lines = ⟨mk 256 (fun j => SL seq sh0 shape lines (256 + j)), seq, shape, mk 256 (fun n => clp (rnd (tail.getD n 0 + SL seq sh0 shape lines n) 4) 16), 0⟩ := by
  unfold nO
  rw [if_neg (by simpa using h), sO_good hM hl hI, if_neg (by simp)]
  have e1 : mk 256 (fun j => (mk 512 (SL seq sh0 shape lines)).getD (256 + j) 0) = mk 256 (fun j => SL seq sh0 shape lines (256 + j)) := mk_congr fun j hj => mk_at (by omega)
  have e2 : mk 256 (nxP tail (mk 512 (SL seq sh0 shape lines))) = mk 256 (fun n => clp (rnd (tail.getD n 0 + SL seq sh0 shape lines n) 4) 16) := mk_congr fun j hj => by unfold nxP; rw [mk_at (by omega)]
  dsimp only
  rw [e1, e2]
theorem nO_err {tail : List Int} {seq0 sh0 seq shape : Int} {lines : List Int} (h : (nO tail seq0 sh0 seq shape lines).err = 0) : LapOK tail seq0 sh0 ∧ May seq sh0 shape ∧ lines.length = 256 ∧ InR (-268435455) 268435455 lines := by
  unfold nO at h
  by_cases h1 : LapOK tail seq0 sh0
  · rw [if_neg (by simpa using h1)] at h
    by_cases h2 : (sO seq sh0 shape lines).2 = 0
    · exact ⟨h1, sO_zero h2⟩
    · rw [if_pos h2] at h; exact absurd h h2
  · rw [if_pos h1] at h; exact absurd h (by decide)
theorem nO_bad {tail : List Int} {seq0 sh0 seq shape : Int} {lines : List Int} (h : ¬ (nO tail seq0 sh0 seq shape lines).err = 0) : (nO tail seq0 sh0 seq shape lines).tail = [] ∧ (nO tail seq0 sh0 seq shape lines).pcm = [] ∧ (nO tail seq0 sh0 seq shape lines).seq = 0 ∧ (nO tail seq0 sh0 seq shape lines).shape = 0 := by
  unfold nO at h ⊢
  split at h
  · rename_i q; rw [if_pos q]; exact ⟨rfl, rfl, rfl, rfl⟩
  · rename_i q
    rw [if_neg q]
    split at h
    · rename_i q2; rw [if_pos q2]; exact ⟨rfl, rfl, rfl, rfl⟩
    · exact absurd rfl h
theorem lap_zero : LapOK (zeros 256) 0 0 := ⟨zeros_len _, by decide, by decide, zeros_in 256 (by decide) (by decide)⟩
theorem clp_zero : clp (rnd 0 4) 16 = 0 := by decide
set_option maxRecDepth 100000 in
theorem nO_z : nO (zeros 256) 0 0 0 0 (zeros 256) = ⟨mk 256 (fun _ => 0), 0, 0, mk 256 (fun _ => 0), 0⟩ := by
  rw [nO_good lap_zero (by decide) (zeros_len _) (zeros_in 256 (by decide) (by decide))]
  have e : ∀ j, SL 0 0 0 (zeros 256) j = 0 := fun j => by unfold SL; rw [if_neg (by decide)]; exact lyT_zero (zeros_at 256) 1 j
  have e1 : mk 256 (fun j => SL 0 0 0 (zeros 256) (256 + j)) = mk 256 (fun _ => 0) := mk_congr fun j _ => e _
  have e2 : mk 256 (fun n => clp (rnd ((zeros 256).getD n 0 + SL 0 0 0 (zeros 256) n) 4) 16) = mk 256 (fun _ => 0) := mk_congr fun j _ => by rw [e, zeros_at]; exact clp_zero
  rw [e1, e2]
def z3 : List Int := (zeros 256).set 3 16777216
theorem z3_len : z3.length = 256 := by simp [z3, zeros_len]
theorem z3_in : InR (-268435455) 268435455 z3 := set_in (zeros_in 256 (by decide) (by decide)) (by decide) (by decide)
def loud (n : Nat) : Int := clp (rnd ((mk 256 (fun _ => (0 : Int))).getD n 0 + SL 0 0 0 z3 n) 4) 16
theorem mkz_at (n j : Nat) : (mk n (fun _ => (0 : Int))).getD j 0 = 0 := mk_zero (fun _ => rfl) j
theorem nO_l : nO (mk 256 (fun _ => 0)) 0 0 0 0 z3 = ⟨mk 256 (fun j => SL 0 0 0 z3 (256 + j)), 0, 0, mk 256 loud, 0⟩ := nO_good ⟨mk_len _ _, by decide, by decide, fun j _ => by rw [mkz_at]; decide⟩ (by decide) z3_len z3_in
theorem loud_100 : loud 100 ≠ 0 := by decide +kernel
def some_ (k : Nat) : Bool := (List.range k).any fun j => loud j != 0
theorem some_zero : some_ 0 = false := rfl
theorem some_step (k : Nat) : some_ (k + 1) = (some_ k || (loud k != 0)) := by simp [some_, List.range_succ]
theorem some_all : some_ 256 = true := by
  unfold some_
  rw [List.any_eq_true]
  exact ⟨100, by simp, by simpa using loud_100⟩
theorem cell_oth {w : World} {a b i j : Nat} (v : Value) (h : a ≠ b) : (w.setCell ⟨a, i, none⟩ v).cell? ⟨b, j, none⟩ = w.cell? ⟨b, j, none⟩ := World.cell?_of_block (w := w) (heap_other v h)
theorem setsz (w : World) (a : Addr) (v : Value) : (w.setCell a v).heap.size = w.heap.size := by simp [World.setCell]
theorem own_shape {base : Nat} {w : World} {v : Value} {L : List Int} (h : Fx.Own base w v L) : ∃ a c, v = .slice a L.length c := by
  obtain ⟨a, c, e, _⟩ := h.rd.open; exact ⟨a, c, e⟩
theorem z3_rd {w : World} {g : Nat} (r : w.rowIs g 3 256 (fun _ => .int .i64 0)) : RdA (w.setCell ⟨g, 3, none⟩ (.int .i64 16777216)) (some ⟨g, 0, none⟩) z3 := set_rd (n := 256) (L := zeros 256) r (zeros_len _) (Nat.le_refl _) (fun j _ => by rw [zeros_at])
set_option maxRecDepth 100000 in
set_option maxHeartbeats 8000000 in
theorem alive_ok (w : World) : Calls Try.prog 24 #[] w fun e w' => e = .returned (.bool true) ∧ Below w.heap.size w w' := by
  obtain ⟨i0, hi, hz0, hz1, hz2⟩ := info_parts Fx.info3
  have HN := Lib.hid (fun (g g2 : Nat) (W : World) (r : W.rowIs g 3 256 (fun _ => .int .i64 0)) r2 => next_O (some ⟨g, 0, none⟩) (some ⟨g2, 0, none⟩) 256 256 256 256 (zeros 256) (zeros 256) 0 0 0 0 W (by decide) (by decide) (by decide) (zeros_len _) (rep_rd r) (zeros_len _) (Nat.le_refl _) (by unfold maxLen; omega) r2)
  rw [nO_z] at HN
  have HL := Lib.hid (fun (a : Option Addr) (c g2 : Nat) (W : World) r r2 => next_O a (some ⟨g2, 0, none⟩) 256 c 256 256 (mk 256 (fun _ => 0)) z3 0 0 0 0 W (by decide) (by decide) (by decide) (mk_len _ _) r z3_len (Nat.le_refl _) (by unfold maxLen; omega) r2)
  rw [nO_l] at HL
  unfold lapV at HN HL
  have hm := Lib.hid (World.rowIs_made w (.int .i64 0) 256 3)
  have B0 := Lib.hid ((Below.refl w.heap.size w).alloc (Nat.le_refl _) (.cells (madeCells #[.int .i64 0] 256) 3))
  go_enter Try.func24, Try.ntmps24
  go_wp2_with first
    | (refine wpList_make_row _ rfl _ _ 22 rfl 3 i0 (.int .i64 0) Try.underlying22 hi hz0 hz1 rfl .i64 .i64 256 rfl rfl (by rw [hz2]; omega) (by omega) ?_)
    | (go_at_call 23; ((with_reducible refine (new_ok _).mono ?_); rintro e w1 ⟨g1, rfl, hg1, hr1, hb1⟩; have R1 := Lib.hid hr1; have B1 := Lib.hid (B0.out.trans (hb1.mono (by simp))); have M1 := Lib.hid (hm.out.of_block (hb1.block _ (by simp))); unfold lapV; clear hr1 hb1))
    | (go_at_call 22; ((with_reducible refine (HN.out _ _ _ R1.out (rep_rd M1.out)).mono ?_); rintro e w2 ⟨v2, u2, rfl, ho2, hp2, hb2⟩; obtain ⟨a2, c2, rfl, ha2, hb2', hc2, hd2, he2, _⟩ := own_open ho2 (mk_len 256 (fun _ => 0)) (by decide); obtain ⟨a3, c3, rfl, ha3, hb3', hc3, hd3, he3, _⟩ := own_open hp2 (mk_len 256 (fun _ => 0)) (by decide); dsimp only [lapV]; have B2 := Lib.hid (bt B1.out hb2); have M2 := M1.out.of_block (hb2.block _ M1.out.lt); have d2 := M2.cell (i := 3) (by decide); have f2 := M2.frozen 3; have y2 : w.heap.size < w2.heap.size := Nat.lt_of_lt_of_le M1.out.lt hb2.size; have Z2 := Lib.hid ((z3_rd M2).below ((Below.refl _ _).alloc (Nat.le_refl _) (.cells #[.slice (some ⟨a2, 0, none⟩) 256 c2, .int .u8 0, .int .u8 0] 38))); have y1 := M1.out.lt; have E2 := Lib.hid ((cells_rd (w := w2.setCell ⟨w.heap.size, 3, none⟩ (.int .i64 16777216)) (L := mk 256 (fun _ => 0)) (by rw [setsz]; exact hb2') (mk_len _ _) (fun j hj => (cell_oth _ (show w.heap.size ≠ a2 by omega)).trans (he2 j hj))).below ((Below.refl _ _).alloc (Nat.le_refl _) (.cells #[.slice (some ⟨a2, 0, none⟩) 256 c2, .int .u8 0, .int .u8 0] 38))); have E3 := Lib.hid he3; have sW := Lib.hid (show ((w2.setCell ⟨w.heap.size, 3, none⟩ (.int .i64 16777216)).alloc (.cells #[.slice (some ⟨a2, 0, none⟩) 256 c2, .int .u8 0, .int .u8 0] 38)).heap.size = w2.heap.size + 1 by simp); have XB : Hid (((w2.setCell ⟨w.heap.size, 3, none⟩ (.int .i64 16777216)).alloc (.cells #[.slice (some ⟨a2, 0, none⟩) 256 c2, .int .u8 0, .int .u8 0] 38)).cell? ⟨w2.heap.size, 0, none⟩ = some (.slice (some ⟨a2, 0, none⟩) 256 c2)) := Lib.hid (by have hx := (box38 (w2.setCell ⟨w.heap.size, 3, none⟩ (.int .i64 16777216)) (.slice (some ⟨a2, 0, none⟩) 256 c2) (.int .u8 0) (.int .u8 0)).1; rw [setsz] at hx; exact hx); clear ho2 hp2 hb2 he2 he3 M2))
    | (go_at_call 22; ((with_reducible refine (HL.out _ _ _ _ E2.out Z2.out).mono ?_); rintro e w3 ⟨v3, u3, rfl, ho3, hp3, hb3⟩; obtain ⟨a4, c4, rfl, ha4, hb4, hc4, hd4, he4, _⟩ := own_open ho3 (mk_len 256 (fun j => SL 0 0 0 z3 (256 + j))) (by decide); obtain ⟨a5, c5, rfl, ha5, hb5, hc5, hd5, he5, _⟩ := own_open hp3 (mk_len 256 loud) (by decide); dsimp only [lapV]; have E5 := Lib.hid he5; have H3 := Lib.hid hb3; have y3 := hb3.size; have X0 := (hb3.cell (p := ⟨w2.heap.size, 0, none⟩) (by rw [sW.out]; exact Nat.lt_succ_self _)).trans XB.out; have l0 : w2.heap.size < w3.heap.size := (by have h := sW.out; omega); clear ho3 hp3 hb3 he4 he5))
  have sW := sW.out
  have X2 := Lib.hid (fun j (hj : j < 256) => (by
    obtain ⟨b', o', e, h1, h2⟩ := E2.out j (by rw [mk_len]; exact hj)
    simp only [Option.some.injEq, Addr.mk.injEq, and_true] at e
    obtain ⟨rfl, rfl⟩ := e
    rw [mkz_at, Nat.zero_add] at h2
    exact (H3.out.cell (p := ⟨a2, j, none⟩) (by rw [sW]; exact Nat.lt_succ_of_lt hb2')).trans h2 : w3.cell? ⟨a2, j, none⟩ = some (.int .i64 0)))
  have X3 := Lib.hid (fun j (hj : j < 256) => ((H3.out.cell (p := ⟨a3, j, none⟩) (by rw [sW]; exact Nat.lt_succ_of_lt hb3')).trans ((((Below.refl _ _).alloc (Nat.le_refl _) _).cell (p := ⟨a3, j, none⟩) (by rw [setsz]; exact hb3')).trans ((cell_oth _ (show w.heap.size ≠ a3 by omega)).trans ((E3.out j hj).trans (by rw [mkz_at])))) : w3.cell? ⟨a3, j, none⟩ = some (.int .i64 0)))
  have X5 := Lib.hid (fun j (hj : j < 256) => ((E5.out j hj).trans (by rw [mk_at hj]) : w3.cell? ⟨a5, j, none⟩ = some (.int .i64 (loud j))))
  have l2 : a2 < w3.heap.size := by rw [sW] at y3; omega
  have l3 : a3 < w3.heap.size := by rw [sW] at y3; omega
  have BB : Hid (Below w.heap.size w w3) := Lib.hid (((B2.out.setCell (p := ⟨w.heap.size, 3, none⟩) (Nat.le_refl _) (.int .i64 16777216)).alloc (by rw [setsz]; exact Nat.le_of_lt y2) (.cells #[.slice (some ⟨a2, 0, none⟩) 256 c2, .int .u8 0, .int .u8 0] 38)).trans (H3.out.mono (by rw [sW]; omega)))
  have hs0 := Lib.hid some_zero
  clear E2 E3 E5 H3 Z2 B0 B1 B2 M1 R1 hm HN HL d2 f2 y1 y3 sW
  go_loop [8, 9] (fun s i => ∃ k : Nat, k ≤ 256 ∧ i = .int .i64 k ∧ s = .bool (some_ k)) (fun _ i => 256 - (intOf i).toNat)
  case atStart => exact ⟨0, by omega, rfl, rfl⟩
  case round =>
    obtain ⟨k, hk, rfl, rfl⟩ := hrel
    by_cases hlt : k < 256
    · have q2 := X2.out k hlt
      have q3 := X3.out k hlt
      have q5 := X5.out k hlt
      have hst := Lib.hid (some_step k)
      generalize loud k = Lk at *
      by_cases hL : Lk = 0
      · subst hL
        have hst2 : Hid (some_ (k + 1) = some_ k) := Lib.hid (by rw [hst.out]; simp)
        cases hsk : some_ k
        · have hh := Lib.hid hsk
          clear hsk
          go_wp2
          go_round
          case rel => exact ⟨k + 1, by omega, by go_num, by rw [hst2.out, hh.out]⟩
          case measure => simp [intOf]; omega
        · have hh := Lib.hid hsk
          clear hsk
          go_wp2
          go_round
          case rel => exact ⟨k + 1, by omega, by go_num, by rw [hst2.out, hh.out]⟩
          case measure => simp [intOf]; omega
      · have hne : (Lk != 0) = true := by simpa using hL
        have hst2 : Hid (some_ (k + 1) = true) := Lib.hid (by rw [hst.out, hne]; simp)
        cases hsk : some_ k
        · have hh := Lib.hid hsk
          clear hsk hL
          go_wp2
          go_round
          case rel => exact ⟨k + 1, by omega, by go_num, by rw [hst2.out]⟩
          case measure => simp [intOf]; omega
        · have hh := Lib.hid hsk
          clear hsk hL
          go_wp2
          go_round
          case rel => exact ⟨k + 1, by omega, by go_num, by rw [hst2.out]⟩
          case measure => simp [intOf]; omega
    · obtain rfl : k = 256 := by omega
      rw [some_all]
      have hbb := BB.out
      go_wp2
      go_ret
      exact ⟨rfl, hbb.alloc hbb.size _⟩
end Go.Proofs.Yteknakakefhbmaa.Lp

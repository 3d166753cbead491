/- The answer of lap: may it be, is it new, are two the same. -/
import Derived.Test.YteknakakefhbmaaLpPub
import Derived.Test.YteknakakefhbmaaRfPub
import Derived.WalkKit
import Derived.Below
import Derived.RegionTactic
import Derived.Deep.QuietTactic
import Derived.BigQuiet
import Derived.ChangeAlike
import Derived.Deep.OwnRows
import Derived.Deep.RegionLaw
import Derived.ProofKit
import Derived.OpenShut
import Derived.ChangeSlices
import Derived.Lib.Hide
import Derived.Great.Walk
import Derived.ChangeKeysEq
import Derived.ChangeOld
import Derived.ShutString
namespace Go.Proofs.Yteknakakefhbmaa.Rl
open Go Go.ChangeShapes Go.WideShapes Go.ChangeAt Go.RowKit Go.Proofs.Yteknakakefhbmaa.Fx Go.Proofs.Yteknakakefhbmaa.Rk Go.Proofs.Yteknakakefhbmaa.Mm Go.Proofs.Yteknakakefhbmaa.Md Go.Proofs.Yteknakakefhbmaa.Bl Go.Proofs.Yteknakakefhbmaa.Cpy Go.Proofs.Yteknakakefhbmaa.Lp Go.Proofs.Yteknakakefhbmaa.Rf

set_option maxRecDepth 100000 in
set_option maxHeartbeats 2000000 in
theorem rmay_yes (A : Option Addr) (cap : Nat) (tail : List Int) (seq shape : Int) (w : World) (rd : RdA w A tail) (h : LapOK tail seq shape) : Calls Try.prog 45 #[lapV (.slice A tail.length cap) seq shape] w fun e w' => e = .returned (.bool true) ∧ Below w.heap.size w w' := by
  obtain ⟨h1, h2, h3, h4⟩ := h
  obtain ⟨x0, x1, x2⟩ := box38 w (.slice A 256 cap) (.int .u8 seq) (.int .u8 shape)
  have p0 : Below w.heap.size w (w.alloc (.cells #[.slice A 256 cap, .int .u8 seq, .int .u8 shape] 38)) := (Below.refl _ w).alloc (Nat.le_refl _) _
  have HR := Lib.hid (rd.below p0)
  have HM := Lib.hid h4
  have HL := Lib.hid h1
  have P0 := Lib.hid p0
  rw [h1]
  clear rd h4 h1 p0
  unfold lapV
  go_enter Try.func45, Try.ntmps45
  go_wp2
  go_loop [3] (fun i => ∃ k : Nat, k ≤ 256 ∧ i = .int .i64 k) (fun i => 256 - (intOf i).toNat)
  case atStart => exact ⟨0, by omega, rfl⟩
  case round =>
    obtain ⟨k, hk, rfl⟩ := hrel
    by_cases hlt : k < 256
    · obtain ⟨b, off, rfl, hlb, c⟩ := HR.out k (by rw [HL.out]; exact hlt)
      obtain ⟨y0, y1⟩ := HM.out k (by rw [HL.out]; exact hlt)
      generalize tail.getD k 0 = X at *
      go_wp2
      go_round
      case rel => exact ⟨k + 1, by omega, by go_num⟩
      case measure => simp [intOf]; omega
    · have hlt2 : ¬ (k : Int) < 256 := by omega
      go_wp2
      go_ret
      exact ⟨rfl, P0.out⟩
set_option maxRecDepth 100000 in
set_option maxHeartbeats 2000000 in
theorem rmay_no (A : Option Addr) (cap : Nat) (tail : List Int) (seq shape : Int) (w : World) (rd : RdA w A tail) (h : ¬ LapOK tail seq shape) : Calls Try.prog 45 #[lapV (.slice A tail.length cap) seq shape] w fun e w' => e = .returned (.bool false) ∧ Below w.heap.size w w' := by
  obtain ⟨x0, x1, x2⟩ := box38 w (.slice A tail.length cap) (.int .u8 seq) (.int .u8 shape)
  have p0 : Below w.heap.size w (w.alloc (.cells #[.slice A tail.length cap, .int .u8 seq, .int .u8 shape] 38)) := (Below.refl _ w).alloc (Nat.le_refl _) _
  have P0 := Lib.hid p0
  unfold lapV
  by_cases h1 : tail.length = 256
  · by_cases h2 : seq ≤ 3
    · by_cases h3 : shape ≤ 1
      · have h4 : ¬ InR (-1099511627776) 1099511627776 tail := fun q => h ⟨h1, h2, h3, q⟩
        obtain ⟨j, hj, hbad, hok⟩ := not_inR h4
        have HR := Lib.hid (rd.below p0)
        have HM := Lib.hid hok
        have HB := Lib.hid hbad
        have HL := Lib.hid h1
        rw [h1] at x0 x1 x2 P0 ⊢
        rw [h1] at hj
        rw [h1] at HR
        clear rd h4 p0 h hok hbad h1
        go_enter Try.func45, Try.ntmps45
        go_wp2
        go_loop [3] (fun i => ∃ k : Nat, k ≤ j ∧ i = .int .i64 k) (fun i => 256 - (intOf i).toNat)
        case atStart => exact ⟨0, by omega, rfl⟩
        case round =>
          obtain ⟨k, hk, rfl⟩ := hrel
          obtain ⟨b, off, rfl, hlb, c⟩ := HR.out k (by rw [HL.out]; omega)
          have hlt : k < 256 := by omega
          by_cases hkj : k < j
          · obtain ⟨y0, y1⟩ := HM.out k hkj
            generalize tail.getD k 0 = X at *
            go_wp2
            go_round
            case rel => exact ⟨k + 1, by omega, by go_num⟩
            case measure => simp [intOf]; omega
          · have hkj2 : k = j := by omega
            subst hkj2
            have hb := HB.out
            clear HB
            generalize tail.getD k 0 = X at *
            by_cases d1 : X < -1099511627776
            · clear hb
              go_wp2
              go_ret
              exact ⟨rfl, P0.out⟩
            · have d2 : 1099511627776 < X := by omega
              clear hb
              go_wp2
              go_ret
              exact ⟨rfl, P0.out⟩
      · rw [h1] at x0 x1 x2 P0 ⊢
        clear rd p0 h h1
        go_enter Try.func45, Try.ntmps45
        go_wp2
        go_ret
        exact ⟨rfl, P0.out⟩
    · rw [h1] at x0 x1 x2 P0 ⊢
      clear rd p0 h h1
      go_enter Try.func45, Try.ntmps45
      go_wp2
      go_ret
      exact ⟨rfl, P0.out⟩
  · have h1i : ((tail.length : Int) != 256) = true := by simp; omega
    clear rd p0 h
    go_enter Try.func45, Try.ntmps45
    go_wp2
    go_ret
    exact ⟨rfl, P0.out⟩
theorem rnew_ok (w : World) : Calls Try.prog 29 #[] w fun e w' => ∃ g, e = .returned (lapV (.slice (some ⟨g, 0, none⟩) 256 256) 0 0) ∧ w.heap.size ≤ g ∧ w'.rowIs g 3 256 (fun _ => .int .i64 0) ∧ Below w.heap.size w w' := by
  obtain ⟨i0, hi, hz0, hz1, hz2⟩ := info_parts Fx.info3
  go_enter Try.func29, Try.ntmps29
  go_wp2_with (refine wpList_make_row _ rfl _ _ 22 rfl 3 i0 (.int .i64 0) Try.underlying22 hi hz0 hz1 rfl .i64 .i64 256 rfl rfl (by rw [hz2]; omega) (by omega) ?_)
  have H0 := World.rowIs_alloc w #[.slice (some ⟨w.heap.size + 1, 0, none⟩) 256 256, .int .u8 0, .int .u8 0] 38 (fun i => #[.slice (some ⟨w.heap.size + 1, 0, none⟩) 256 256, .int .u8 0, .int .u8 0].getD i undef) (fun i hi => by simp at hi; simp [hi])
  have H1 := H0.alloc (.cells (madeCells #[.int .i64 0] 256) 3)
  refine bodyPost_ret (res1 rfl rfl (load38 (H1.cell (i := 0) (by simp)) (H1.cell (i := 1) (by simp)) (H1.cell (i := 2) (by simp)))) rfl ?_
  have hm := World.rowIs_made (w.alloc (.cells #[.slice (some ⟨w.heap.size + 1, 0, none⟩) 256 256, .int .u8 0, .int .u8 0] 38)) (.int .i64 0) 256 3
  rw [World.size_alloc] at hm
  exact ⟨w.heap.size + 1, rfl, by omega, hm, ((Below.refl _ _).alloc (Nat.le_refl _) _).alloc (by simp) _⟩

theorem rmay_ok (A : Option Addr) (cap : Nat) (tail : List Int) (seq shape : Int) (w : World) (rd : RdA w A tail) : Calls Try.prog 45 #[lapV (.slice A tail.length cap) seq shape] w fun e w' => e = .returned (.bool (decide (LapOK tail seq shape))) ∧ Below w.heap.size w w' := by
  by_cases h : LapOK tail seq shape
  · rw [decide_eq_true h]; exact rmay_yes A cap tail seq shape w rd h
  · rw [decide_eq_false h]; exact rmay_no A cap tail seq shape w rd h
set_option maxRecDepth 100000 in
set_option maxHeartbeats 2000000 in
theorem rcheck_ok (A : Option Addr) (cap : Nat) (tail : List Int) (seq shape : Int) (w : World) (rd : RdA w A tail) : Calls Try.prog 28 #[lapV (.slice A tail.length cap) seq shape] w fun e w' => e = .returned (.int .i64 (if LapOK tail seq shape then 0 else 8)) ∧ Below w.heap.size w w' := by
  obtain ⟨x0, x1, x2⟩ := box38 w (.slice A tail.length cap) (.int .u8 seq) (.int .u8 shape)
  have p0 : Below w.heap.size w (w.alloc (.cells #[.slice A tail.length cap, .int .u8 seq, .int .u8 shape] 38)) := (Below.refl _ w).alloc (Nat.le_refl _) _
  have P0 := Lib.hid p0
  by_cases h : LapOK tail seq shape
  · have HM := rmay_yes A cap tail seq shape _ (rd.below p0) h
    rw [if_pos h]
    unfold lapV at HM ⊢
    have HM := Lib.hid HM
    clear p0 rd h
    go_enter Try.func28, Try.ntmps28
    go_wp2_with (go_at_call 45; ((with_reducible refine (HM.out).mono ?_); rintro e w1 ⟨rfl, hb1⟩; have B1 := Lib.hid (bt P0.out hb1); clear hb1))
    go_ret
    exact ⟨rfl, B1.out⟩
  · have HM := rmay_no A cap tail seq shape _ (rd.below p0) h
    rw [if_neg h]
    unfold lapV at HM ⊢
    have HM := Lib.hid HM
    clear p0 rd h
    go_enter Try.func28, Try.ntmps28
    go_wp2_with (go_at_call 45; ((with_reducible refine (HM.out).mono ?_); rintro e w1 ⟨rfl, hb1⟩; have B1 := Lib.hid (bt P0.out hb1); clear hb1))
    go_ret
    exact ⟨rfl, B1.out⟩
set_option maxRecDepth 100000 in
set_option maxHeartbeats 2000000 in
theorem rsame_ok (v v' : Value) (L : List Int) (seq shape : Int) (w : World) (hl : L.length ≤ 5000) (h : Rd w v L) (h' : Rd w v' L) : Calls Try.prog 27 #[lapV v seq shape, lapV v' seq shape] w fun e w' => e = .returned (.bool true) ∧ Below w.heap.size w w' := by
  obtain ⟨A, c, rfl⟩ := h.shape
  obtain ⟨A', c', rfl⟩ := h'.shape
  obtain ⟨x0, x1, x2⟩ := box38 w (.slice A L.length c) (.int .u8 seq) (.int .u8 shape)
  have p0 : Below w.heap.size w (w.alloc (.cells #[.slice A L.length c, .int .u8 seq, .int .u8 shape] 38)) := (Below.refl _ w).alloc (Nat.le_refl _) _
  obtain ⟨y0, y1, y2⟩ := box38 (w.alloc (.cells #[.slice A L.length c, .int .u8 seq, .int .u8 shape] 38)) (.slice A' L.length c') (.int .u8 seq) (.int .u8 shape)
  have sz : (w.alloc (.cells #[.slice A L.length c, .int .u8 seq, .int .u8 shape] 38)).heap.size = w.heap.size + 1 := by simp
  rw [sz] at y0 y1 y2
  have p1 : Below (w.heap.size + 1) (w.alloc (.cells #[.slice A L.length c, .int .u8 seq, .int .u8 shape] 38)) ((w.alloc (.cells #[.slice A L.length c, .int .u8 seq, .int .u8 shape] 38)).alloc (.cells #[.slice A' L.length c', .int .u8 seq, .int .u8 shape] 38)) := (Below.refl _ _).alloc (by rw [sz]; exact Nat.le_refl _) _
  have x0 := (p1.cell (p := ⟨w.heap.size, 0, none⟩) (Nat.lt_succ_self _)).trans x0
  have x1 := (p1.cell (p := ⟨w.heap.size, 1, none⟩) (Nat.lt_succ_self _)).trans x1
  have x2 := (p1.cell (p := ⟨w.heap.size, 2, none⟩) (Nat.lt_succ_self _)).trans x2
  have P1 := Lib.hid (p0.trans (p1.mono (Nat.le_succ _)))
  have HS := Lib.hid (same_yes _ _ L _ hl (h.below P1.out) (h'.below P1.out))
  clear p0 p1 sz h h'
  unfold lapV
  go_enter Try.func27, Try.ntmps27
  go_wp2_with (go_at_call 21; ((with_reducible refine (HS.out).mono ?_); rintro e w1 ⟨rfl, hb1⟩; have B1 := Lib.hid (bt P1.out hb1); have z0 := (hb1.cell (p := ⟨w.heap.size, 1, none⟩) (by simp; omega)).trans x1; have z1 := (hb1.cell (p := ⟨w.heap.size, 2, none⟩) (by simp; omega)).trans x2; have z2 := (hb1.cell (p := ⟨w.heap.size + 1, 1, none⟩) (by simp)).trans y1; have z3 := (hb1.cell (p := ⟨w.heap.size + 1, 2, none⟩) (by simp)).trans y2; clear hb1))
  go_ret
  exact ⟨rfl, B1.out⟩
end Go.Proofs.Yteknakakefhbmaa.Rl

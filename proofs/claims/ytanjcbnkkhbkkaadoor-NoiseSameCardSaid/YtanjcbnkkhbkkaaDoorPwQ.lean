/- What power's quant does, and the document's own. -/
import Derived.Test.YtanjcbnkkhbkkaaDoorPwCon
import Derived.WalkKit
import Derived.Below
import Derived.Deep.QuietTactic
import Derived.BigQuiet
import Derived.ProofKit
import Derived.OpenShut
import Derived.Lib.Hide
namespace Go.Proofs.YtanjcbnkkhbkkaaDoor.Fx
open Go Go.ChangeShapes Go.WideShapes Go.ChangeAt Go.RowKit

theorem retB {a b : Bool} (h : a = b) : Ending.returned (.bool a) = .returned (.bool b) := by rw [h]
theorem i64_in {x : Int} (a : -9223372036854775808 ≤ x) (b : x ≤ 9223372036854775807) : IntKind.i64.wrap x = x := by
  simp [IntKind.wrap, IntKind.bits, IntKind.signed]
  omega
theorem pred_ok (q x s : Int) (bs bx : Nat) (w : World) (h0 : 0 ≤ q) (h1 : q ≤ 8190) (s0 : 0 ≤ s) (s1 : s ≤ 255) (x0 : 0 ≤ x) (x1 : x ≤ 268435455) (hq : Qs w) (cs : w.cell? ⟨bs, 0, none⟩ = some (.int .i64 s)) (cx : w.cell? ⟨bx, 0, none⟩ = some (.int .i64 x)) :
    Calls Tryd.prog 67 #[.int .i64 q, .pointer (some ⟨bs, 0, none⟩), .pointer (some ⟨bx, 0, none⟩)] w fun e w' => e = .returned (.bool (decide (2 * x ≤ ln q s + ln (q + 1) s))) ∧ ∃ m, w' = w.drewN m := by
  have hm := ln_mono (p := q) (q := q + 1) s0 h0 (by omega)
  obtain ⟨l0, l1⟩ := ln_bd (q := q) s0 h0
  obtain ⟨l2, l3⟩ := ln_bd (q := q + 1) s0 (by omega)
  have HA := Lib.hid (fun w hw => line_ok q s w h0 (by omega) s0 s1 hw)
  have HB := Lib.hid (fun w hw => line_ok (q + 1) s w (by omega) (by omega) s0 s1 hw)
  have HQ := Lib.hid hq
  clear hq
  generalize ln q s = A at *
  generalize ln (q + 1) s = C at *
  have x2 : IntKind.i64.wrap (q + 1) = q + 1 := i64_in (by omega) (by omega)
  have x3 : IntKind.i64.wrap (2 * x) = 2 * x := i64_in (by omega) (by omega)
  have x4 : IntKind.i64.wrap (A + C) = A + C := i64_in (by omega) (by omega)
  by_cases c : x ≤ A
  · rw [decide_eq_true (show 2 * x ≤ A + C by omega)]
    go_enter Tryd.func67, Tryd.ntmps67
    go_wp2_with (go_at_call 43; ((with_reducible refine (HA.out _ HQ.out).mono ?_); rintro e w1 ⟨rfl, m, hw⟩; have Q1 : Hid (Qs w1) := Lib.hid (by rw [hw]; exact HQ.out.drewN m); have cs1 : w1.cell? ⟨bs, 0, none⟩ = some (.int .i64 s) := (by rw [hw]; simpa using cs); have cx1 : w1.cell? ⟨bx, 0, none⟩ = some (.int .i64 x) := (by rw [hw]; simpa using cx); have HW := Lib.hid hw; clear hw))
    go_quiet (fail)
    go_wp2
    go_ret
    exact ⟨rfl, _, by rw [HW.out]; exact World.drewN_drewN _ _ _⟩
  · go_enter Tryd.func67, Tryd.ntmps67
    go_wp2_with (go_at_call 43; ((with_reducible refine (HA.out _ HQ.out).mono ?_); rintro e w1 ⟨rfl, m, hw⟩; have Q1 : Hid (Qs w1) := Lib.hid (by rw [hw]; exact HQ.out.drewN m); have cs1 : w1.cell? ⟨bs, 0, none⟩ = some (.int .i64 s) := (by rw [hw]; simpa using cs); have cx1 : w1.cell? ⟨bx, 0, none⟩ = some (.int .i64 x) := (by rw [hw]; simpa using cx); have HW := Lib.hid hw; clear hw))
    go_quiet ((go_at_call 43; exact Calls.quiet_of (HB.out _ (Q1.out.drewN _))))
    go_wp2
    go_ret
    exact ⟨retB (by rw [decide_eq_false (Int.not_le.2 c)]; rfl), _, by rw [HW.out]; exact World.drewN_drewN _ _ _⟩

/-- What the search has found out so far. -/
def Srch (x s : Int) (i j : Int) : Prop := 0 ≤ i ∧ i ≤ j ∧ j ≤ 8191 ∧ (i = 0 ∨ ln (i - 1) s + ln i s < 2 * x) ∧ (j = 8191 ∨ 2 * x ≤ ln j s + ln (j + 1) s)
theorem srch_end {x s i : Int} (h : Srch x s i i) : Near x s i := ⟨h.1, h.2.2.1, h.2.2.2.2, h.2.2.2.1⟩
theorem srch_lo {x s i j h : Int} (a : Srch x s i j) (h0 : i ≤ h) (h1 : h < j) (c : ¬ 2 * x ≤ ln h s + ln (h + 1) s) : Srch x s (h + 1) j := by
  obtain ⟨a0, a1, a2, a3, a4⟩ := a
  exact ⟨by omega, by omega, a2, .inr (by rw [show h + 1 - 1 = h by omega]; omega), a4⟩
theorem srch_hi {x s i j h : Int} (a : Srch x s i j) (h0 : i ≤ h) (h1 : h < j) (c : 2 * x ≤ ln h s + ln (h + 1) s) : Srch x s i h := by
  obtain ⟨a0, a1, a2, a3, a4⟩ := a
  exact ⟨a0, h0, by omega, a3, .inr c⟩
set_option maxHeartbeats 1000000 in
theorem search_ok (x s : Int) (bs bx : Nat) (w : World) (s0 : 0 ≤ s) (s1 : s ≤ 255) (x0 : 0 ≤ x) (x1 : x ≤ 268435455) (hq : Qs w) (cs : w.cell? ⟨bs, 0, none⟩ = some (.int .i64 s)) (cx : w.cell? ⟨bx, 0, none⟩ = some (.int .i64 x)) :
    Calls Tryd.prog 66 #[.int .i64 8191, .func (.func 67) #[] #[.pointer (some ⟨bs, 0, none⟩), .pointer (some ⟨bx, 0, none⟩)]] w fun e w' => e = .returned (.int .i64 (nq x s)) ∧ ∃ m, w' = w.drewN m := by
  have HN : Hid (∀ r, Near x s r → r = nq x s) := Lib.hid fun r hr => nq_of s0 hr
  have HP := Lib.hid (fun q w h0 h1 hq cs cx => pred_ok q x s bs bx w h0 h1 s0 s1 x0 x1 hq cs cx)
  have HQ := Lib.hid hq
  have CS := Lib.hid cs
  have CX := Lib.hid cx
  clear hq cs cx
  generalize nq x s = R at *
  go_enter Tryd.func66, Tryd.ntmps66
  go_wp2
  go_loopw [5, 6] (fun i j wr => ∃ (I J : Int) (m : Nat), Hid (Srch x s I J) ∧ i = .int .i64 I ∧ j = .int .i64 J ∧ wr = w.drewN m) (fun i j _ => (intOf j - intOf i).toNat)
  case atStart => exact ⟨0, 8191, 0, Lib.hid ⟨by omega, by omega, by omega, .inl rfl, .inl rfl⟩, rfl, rfl, rfl⟩
  case round =>
    obtain ⟨I, J, m, hs, rfl, rfl, rfl⟩ := hrel
    have b0 := hs.out.1
    have b1 := hs.out.2.1
    have b2 := hs.out.2.2.1
    by_cases hlt : I < J
    · obtain ⟨h, hh⟩ : ∃ h, (I + J) / 2 = h := ⟨_, rfl⟩
      have h0 : I ≤ h := by omega
      have h1 : h < J := by omega
      have e1 : IntKind.u64.wrap (I + J) = I + J := u64_in (by omega) (by omega)
      by_cases c : 2 * x ≤ ln h s + ln (h + 1) s
      · have hy := Lib.hid (srch_hi hs.out h0 h1 c)
        have hd : decide (2 * x ≤ ln h s + ln (h + 1) s) = true := decide_eq_true c
        have HP' := Lib.hid (HP.out h (w.drewN m) (by omega) (by omega) (HQ.out.drewN m) (by simpa using CS.out) (by simpa using CX.out))
        rw [hd] at HP'
        clear hd c
        go_wp2_with (go_at_call 67; ((with_reducible refine (HP'.out).mono ?_); rintro e w' ⟨rfl, m', rfl⟩))
        go_roundw
        case rel => exact ⟨I, h, m + m', hy, rfl, rfl, rfl⟩
        case measure => simp [intOf]; omega
      · have hy := Lib.hid (srch_lo hs.out h0 h1 c)
        have hd : decide (2 * x ≤ ln h s + ln (h + 1) s) = false := decide_eq_false c
        have HP' := Lib.hid (HP.out h (w.drewN m) (by omega) (by omega) (HQ.out.drewN m) (by simpa using CS.out) (by simpa using CX.out))
        rw [hd] at HP'
        clear hd c
        go_wp2_with (go_at_call 67; ((with_reducible refine (HP'.out).mono ?_); rintro e w' ⟨rfl, m', rfl⟩))
        go_roundw
        case rel => exact ⟨h + 1, J, m + m', hy, rfl, rfl, rfl⟩
        case measure => simp [intOf]; omega
    · obtain rfl : I = J := by omega
      have := HN.out I (srch_end hs.out)
      subst this
      go_wp2
      go_ret
      exact ⟨rfl, m, rfl⟩
set_option maxHeartbeats 1000000 in
theorem near_pos (x s : Int) (w : World) (s0 : 0 ≤ s) (s1 : s ≤ 255) (x0 : 0 ≤ x) (x1 : x ≤ 268435455) :
    Calls Tryd.prog 46 #[.int .i64 x, .int .i64 s] w fun e w' => e = .returned (.int .i64 (nq x s)) ∧ w = w' := by
  have HN : Hid (∀ r, Near x s r → r = nq x s) := Lib.hid fun r hr => nq_of s0 hr
  have HV := Lib.hid (fun q w h0 h1 => value_pos q s w h0 h1 s0 s1)
  generalize nq x s = R at *
  go_enter Tryd.func46, Tryd.ntmps46
  go_wp2
  go_loop [5, 6] (fun i j => ∃ (I J : Int), Hid (Srch x s I J) ∧ i = .int .i64 I ∧ j = .int .i64 J) (fun i j => (intOf j - intOf i).toNat)
  case atStart => exact ⟨0, 8191, Lib.hid ⟨by omega, by omega, by omega, .inl rfl, .inl rfl⟩, rfl, rfl⟩
  case round =>
    obtain ⟨I, J, hs, rfl, rfl⟩ := hrel
    have b0 := hs.out.1
    have b1 := hs.out.2.1
    have b2 := hs.out.2.2.1
    by_cases hlt : I < J
    · obtain ⟨h, hh⟩ : ∃ h, (I + J) / 2 = h := ⟨_, rfl⟩
      have h0 : I ≤ h := by omega
      have h1 : h < J := by omega
      have n0 : 0 ≤ h := by omega
      have n1 : h ≤ 8190 := by omega
      have l1 := ln_bd (q := h) s0 n0
      have l2 := ln_bd (q := h + 1) s0 (by omega)
      have H1 := Lib.hid (fun w => HV.out h w n0 (by omega))
      have H2 := Lib.hid (fun w => HV.out (h + 1) w (by omega) (by omega))
      by_cases c : 2 * x ≤ ln h s + ln (h + 1) s
      · have hy := Lib.hid (srch_hi hs.out h0 h1 c)
        generalize ln h s = A at *
        generalize ln (h + 1) s = C at *
        go_wp2_with (first | (go_at_call 44; ((with_reducible refine (H1.out _).mono ?_); rintro e w' ⟨rfl, rfl⟩)) | (go_at_call 44; ((with_reducible refine (H2.out _).mono ?_); rintro e w' ⟨rfl, rfl⟩)))
        go_round
        case rel => exact ⟨I, h, hy, rfl, rfl⟩
        case measure => simp [intOf]; omega
      · have hy := Lib.hid (srch_lo hs.out h0 h1 c)
        generalize ln h s = A at *
        generalize ln (h + 1) s = C at *
        go_wp2_with (first | (go_at_call 44; ((with_reducible refine (H1.out _).mono ?_); rintro e w' ⟨rfl, rfl⟩)) | (go_at_call 44; ((with_reducible refine (H2.out _).mono ?_); rintro e w' ⟨rfl, rfl⟩)))
        go_round
        case rel => exact ⟨h + 1, J, hy, rfl, rfl⟩
        case measure => simp [intOf]; omega
    · obtain rfl : I = J := by omega
      have := HN.out I (srch_end hs.out)
      subst this
      go_wp2
      go_ret
      exact ⟨rfl, rfl⟩

theorem cell_lt {w : World} {a : Addr} {v : Value} (h : w.cell? a = some v) : a.block < w.heap.size := by
  refine Nat.lt_of_not_le fun hn => ?_
  have : w.heap[a.block]? = none := Array.getElem?_eq_none hn
  simp [World.cell?, this] at h
theorem Qs.below {w w' : World} (h : Qs w) (hb : Below w.heap.size w w') : Qs w' := by
  obtain ⟨a, b, c, d⟩ := h
  have hl := cell_lt a
  exact ⟨(hb.cell (p := ⟨0, 0, none⟩) hl).trans a, (hb.cell (p := ⟨0, 1, none⟩) hl).trans b, (hb.cell (p := ⟨0, 2, none⟩) hl).trans c, (hb.cell (p := ⟨0, 3, none⟩) hl).trans d⟩
theorem drewN_below (w : World) : ∀ n, Below w.heap.size w (w.drewN n)
  | 0 => Below.refl _ _
  | n + 1 => (drewN_below w n).drew
theorem belowT {a b c : World} (h : Below a.heap.size a b) (k : Below b.heap.size b c) : Below a.heap.size a c := h.trans (k.mono h.size)
theorem two_alloc (w : World) (A B : Obj) : Below w.heap.size w ((w.alloc A).alloc B) := ((Below.refl w.heap.size w).alloc (Nat.le_refl _) _).alloc (by simp) _
theorem box_1 (w : World) (x s : Int) : ((w.alloc (.cells #[.int .i64 x] 3)).alloc (.cells #[.int .i64 s] 3)).cell? ⟨w.heap.size, 0, none⟩ = some (.int .i64 x) := by
  rw [World.cell?_alloc_lt _ _ _ (by simp)]
  simp
theorem box_2 (w : World) (x s : Int) : ((w.alloc (.cells #[.int .i64 x] 3)).alloc (.cells #[.int .i64 s] 3)).cell? ⟨w.heap.size + 1, 0, none⟩ = some (.int .i64 s) := by
  simp
set_option maxHeartbeats 1000000 in
theorem quant_pos (x s : Int) (w : World) (s0 : 0 ≤ s) (s1 : s ≤ 255) (x0 : 0 ≤ x) (x1 : x ≤ 268435455) (hq : Qs w) :
    Calls Tryd.prog 45 #[.int .i64 x, .int .i64 s] w fun e w' => e = .returned (.int .i64 (nq x s)) ∧ Below w.heap.size w w' := by
  have HS := Lib.hid (search_ok x s (w.heap.size + 1) w.heap.size _ s0 s1 x0 x1 (hq.below (two_alloc w (.cells #[.int .i64 x] 3) (.cells #[.int .i64 s] 3))) (box_2 w x s) (box_1 w x s))
  have HB := Lib.hid (two_alloc w (.cells #[.int .i64 x] 3) (.cells #[.int .i64 s] 3))
  clear hq
  go_enter Tryd.func45, Tryd.ntmps45
  go_wp2_with (go_at_call 66; ((with_reducible refine (HS.out).mono ?_); rintro e w1 ⟨rfl, m, hw⟩; have hb := Lib.hid (hw ▸ (drewN_below _ m)); clear hw))
  go_ret
  exact ⟨rfl, belowT HB.out hb.out⟩
end Go.Proofs.YtanjcbnkkhbkkaaDoor.Fx

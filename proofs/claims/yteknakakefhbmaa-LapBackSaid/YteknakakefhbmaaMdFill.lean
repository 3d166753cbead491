/- The table of the transform. -/
import Derived.Test.YteknakakefhbmaaMdCon
import Derived.WalkKit
import Derived.Below
import Derived.RegionTactic
import Derived.Deep.QuietTactic
import Derived.BigQuiet
import Derived.ChangeAlike
import Derived.Deep.OwnRows
import Derived.ProofKit
import Derived.OpenShut
import Derived.Lib.Hide
namespace Go.Proofs.Yteknakakefhbmaa.Md
open Go Go.ChangeShapes Go.WideShapes Go.ChangeAt Go.RowKit Go.Proofs.Yteknakakefhbmaa.Fx Go.Proofs.Yteknakakefhbmaa.Mm

/-- The table as far as a number. -/
def tu (s N : Int) (j : Nat) : Int := if (j : Int) % (2 * s) = s ∧ ((j : Int) < N ∨ 2048 - N < j) then cosF (j : Int) else 0
theorem tu_start {s : Int} (hs : s = 1 ∨ s = 8) (j : Nat) (hj : j < 2048) : tu s s j = 0 := by
  unfold tu
  rw [if_neg]
  rcases hs with rfl | rfl <;> omega
theorem tu_end {s N : Int} (hs : s = 1 ∨ s = 8) (hN : 1024 ≤ N) (hm : N % (2 * s) = s) (j : Nat) (hj : j < 2048) : tu s N j = tb s j := by
  unfold tu tb
  by_cases h : (j : Int) % (2 * s) = s
  · rw [if_pos h, if_pos ⟨h, by rcases hs with rfl | rfl <;> omega⟩]
  · rw [if_neg h, if_neg (fun k => h k.1)]
theorem tu_step {s N : Int} (hs : s = 1 ∨ s = 8) (_ : 0 < N) (_ : N < 1024) (hm : N % (2 * s) = s) (j : Nat) (hj : j < 2048) : (if (j : Int) = 2048 - N then cosF N else if (j : Int) = N then cosF N else tu s N j) = tu s (N + 2 * s) j := by
  by_cases h1 : (j : Int) = 2048 - N
  · rw [if_pos h1]
    unfold tu
    rw [if_pos ⟨by rcases hs with rfl | rfl <;> omega, by rcases hs with rfl | rfl <;> omega⟩, h1, show (2048 - N : Int) = -N + 2048 * 1 by omega, cosF_circle, cosF_neg]
  · rw [if_neg h1]
    by_cases h2 : (j : Int) = N
    · rw [if_pos h2]
      unfold tu
      rw [if_pos ⟨by rw [h2]; exact hm, by rcases hs with rfl | rfl <;> omega⟩, h2]
    · rw [if_neg h2]
      unfold tu
      by_cases h : (j : Int) % (2 * s) = s ∧ ((j : Int) < N ∨ 2048 - N < j)
      · rw [if_pos h, if_pos ⟨h.1, by rcases hs with rfl | rfl <;> omega⟩]
      · rw [if_neg h, if_neg (by rcases hs with rfl | rfl <;> omega)]
/-- Two stores at unlike places, in either order. -/
theorem two_set {w : World} {b i j : Nat} {s N v : Int} (hs : s = 1 ∨ s = 8) (h0 : 0 < N) (hN : N < 1024) (hm : N % (2 * s) = s) (hi : (i : Int) = N) (hj : (j : Int) = 2048 - N) (hv : v = cosF N) (r : w.rowIs b 79 2048 (fun j => .int .i64 (tu s N j))) :
    ((w.setCell ⟨b, i, none⟩ (.int .i64 v)).setCell ⟨b, j, none⟩ (.int .i64 v)).rowIs b 79 2048 (fun j => .int .i64 (tu s (N + 2 * s) j)) ∧ ((w.setCell ⟨b, j, none⟩ (.int .i64 v)).setCell ⟨b, i, none⟩ (.int .i64 v)).rowIs b 79 2048 (fun j => .int .i64 (tu s (N + 2 * s) j)) := by
  constructor
  · refine ((r.set i (.int .i64 v)).set j (.int .i64 v)).congr fun k hk => ?_
    rw [← tu_step hs h0 hN hm k hk, hv]
    by_cases h1 : k = j
    · rw [if_pos h1, if_pos (by omega)]
    · rw [if_neg h1]
      by_cases h2 : k = i
      · rw [if_pos h2, if_neg (by omega), if_pos (by omega)]
      · rw [if_neg h2, if_neg (by omega), if_neg (by omega)]
  · refine ((r.set j (.int .i64 v)).set i (.int .i64 v)).congr fun k hk => ?_
    rw [← tu_step hs h0 hN hm k hk, hv]
    by_cases h2 : k = i
    · rw [if_pos h2, if_neg (by omega), if_pos (by omega)]
    · rw [if_neg h2]
      by_cases h1 : k = j
      · rw [if_pos h1, if_pos (by omega)]
      · rw [if_neg h1, if_neg (by omega), if_neg (by omega)]
set_option maxRecDepth 100000 in
set_option maxHeartbeats 8000000 in
theorem fill_ok (base b : Nat) (s : Int) (w : World) (hs : s = 1 ∨ s = 8) (hb : base ≤ b) (r : w.rowIs b 79 2048 (fun _ => .int .i64 0)) :
    Calls Try.prog 51 #[.pointer (some ⟨b, 0, none⟩), .int .i64 s] w fun e w' => e = .returned (.tuple #[]) ∧ w'.rowIs b 79 2048 (fun j => .int .i64 (tb s j)) ∧ Below base w w' := by
  have hs8 : 1 ≤ s ∧ s ≤ 8 := by omega
  obtain ⟨s0, s1⟩ := hs8
  have HC := Lib.hid (fun n w => tcos n w)
  have R0 : Hid (w.rowIs b 79 2048 (fun j => .int .i64 (tu s s j))) := Lib.hid (r.congr fun j hj => by rw [tu_start hs j hj])
  have HS := Lib.hid hs
  have HBS := Lib.hid hb
  clear r hs
  go_enter Try.func51, Try.ntmps51
  go_wp2
  go_loopw [4] (fun n wr => ∃ N : Int, s ≤ N ∧ N ≤ 1040 ∧ N % (2 * s) = s ∧ n = .int .i64 N ∧ Hid (wr.rowIs b 79 2048 (fun j => .int .i64 (tu s N j))) ∧ Hid (Below base w wr)) (fun n _ => 1041 - (intOf n).toNat)
  case atStart => exact ⟨s, by omega, by omega, by rcases HS.out with rfl | rfl <;> decide, rfl, R0, Lib.hid (Below.refl _ _)⟩
  case round =>
    obtain ⟨N, n0, n1, hm, rfl, hR, hB⟩ := hrel
    by_cases hlt : N < 1024
    · obtain ⟨i, rfl⟩ : ∃ i : Nat, N = (i : Int) := ⟨N.toNat, by omega⟩
      obtain ⟨j, hj⟩ : ∃ j : Nat, 2048 - (i : Int) = (j : Int) := ⟨(2048 - (i : Int)).toNat, by omega⟩
      have hcb := cos_bd (i : Int)
      go_wp2_with (go_at_call 67; ((with_reducible refine (HC.out _ _).mono ?_); rintro e w1 ⟨rfl, hb1⟩))
      have R1 := Lib.hid (hR.out.of_block (hb1.block _ hR.out.lt))
      have B1 := Lib.hid (hB.out.trans (hb1.mono (Nat.le_trans HBS.out (Nat.le_of_lt hR.out.lt))))
      have ci := R1.out.cell (i := i) (by omega)
      have cj := R1.out.cell (i := j) (by omega)
      have fi := R1.out.frozen i
      have fj := R1.out.frozen j
      have hij : i ≠ j := by omega
      have HT := Lib.hid (two_set (w := w1) (b := b) (i := i) (j := j) HS.out (by omega) hlt hm rfl (by omega) rfl R1.out)
      clear hR hB
      generalize cosF (i : Int) = V at *
      go_region
      go_wp2
      go_roundw
      case rel => exact ⟨(i : Int) + 2 * s, by omega, by omega, by rcases HS.out with rfl | rfl <;> omega, by go_num, Lib.hid HT.out.1.drew, Lib.hid (((B1.out.setCell (p := ⟨b, i, none⟩) HBS.out _).setCell (p := ⟨b, j, none⟩) HBS.out _).drew)⟩
      case measure => simp [intOf]; omega
    · have R2 := hR.out.congr fun j hj => by rw [tu_end HS.out (by omega) hm j hj]
      have B2 := hB.out
      go_wp2
      go_end0
      exact ⟨rfl, R2, B2⟩
end Go.Proofs.Yteknakakefhbmaa.Md

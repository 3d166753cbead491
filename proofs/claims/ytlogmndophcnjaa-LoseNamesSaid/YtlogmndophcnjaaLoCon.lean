/- What lose's calls do. -/
import Derived.Test.YtlogmndophcnjaaRows
import Derived.WalkKit
import Derived.RegionTactic
import Derived.ChangeAlike
import Derived.Deep.OwnRows
import Derived.ProofKit
import Derived.OpenShut
import Derived.Lib.Hide
namespace Go.Proofs.Ytlogmndophcnjaa.Lo
open Go Go.ChangeShapes Go.WideShapes Go.ChangeAt Go.RowKit

theorem belowT {w w1 w2 : World} (a : Below w.heap.size w w1) (b : Below w1.heap.size w1 w2) : Below w.heap.size w w2 := a.trans (b.mono a.size)

/-- Lines, as they lie in memory. -/
def Rd (w : World) (v : Value) (zs : List Int) : Prop :=
  (∃ a cap, v = .slice a 0 cap ∧ zs = []) ∨
  ∃ b off cap, v = .slice (some ⟨b, off, none⟩) zs.length cap ∧ b < w.heap.size ∧ zs.length ≤ cap ∧ cap ≤ maxLen ∧ ∀ i, i < zs.length → w.cell? ⟨b, off + i, none⟩ = some (.int .i64 (zs.getD i 0))
theorem Rd.below {w w' : World} {v : Value} {zs : List Int} (h : Rd w v zs) (hb : Below w.heap.size w w') : Rd w' v zs := by
  rcases h with h | ⟨b, off, cap, h1, h2, h3, h4, h5⟩
  · exact .inl h
  · exact .inr ⟨b, off, cap, h1, Nat.lt_of_lt_of_le h2 hb.size, h3, h4, fun i hi => (hb.cell (p := ⟨b, off + i, none⟩) h2).trans (h5 i hi)⟩
theorem rd_row {w : World} {g n : Nat} {f : Nat → Int} {zs : List Int} (h : w.rowIs g 3 n (fun j => .int .i64 (f j))) (hn : zs.length = n) (hm : n ≤ maxLen) (hf : ∀ j, j < n → f j = zs.getD j 0) : Rd w (.slice (some ⟨g, 0, none⟩) n n) zs :=
  .inr ⟨g, 0, n, by rw [hn], h.lt, by omega, hm, fun i hi => by rw [Nat.zero_add, h.cell (by omega), hf i (by omega)]⟩

theorem info3 : (Try.prog.info? 3).map (fun i => (i.zero, i.size, i.bytes)) = some (some (.int .i64 0), 1, 8) := by kernel_rfl

/-- A list as far as k, and noughts behind. -/
def fillF (F : Nat → Int) (k : Nat) : Nat → Value := fun j => .int .i64 (if j < k then F j else 0)
theorem fill_step {w : World} {g n k : Nat} {F : Nat → Int} {v : Int} (h : w.rowIs g 3 n (fillF F k)) (hv : v = F k) : (w.setCell ⟨g, k, none⟩ (.int .i64 v)).rowIs g 3 n (fillF F (k + 1)) := by
  refine (h.set k (.int .i64 v)).congr fun i _ => ?_
  unfold fillF
  by_cases e : i = k
  · subst e; simp [hv]
  · by_cases c : i < k
    · simp [e, c, show i < k + 1 by omega]
    · simp [e, c, show ¬ i < k + 1 by omega]
theorem fill_end {w : World} {g n : Nat} {F : Nat → Int} (h : w.rowIs g 3 n (fillF F n)) : w.rowIs g 3 n (fun j => .int .i64 (F j)) :=
  h.congr fun i hi => by unfold fillF; rw [if_pos hi]

set_option maxRecDepth 100000 in
theorem filled_ok (x : Int) (w : World) :
    Calls Try.prog 5 #[.int .i64 x] w fun e w' => e = .returned (.slice (some ⟨w.heap.size, 0, none⟩) 256 256) ∧ w'.rowIs w.heap.size 3 256 (fun _ => .int .i64 x) ∧ Below w.heap.size w w' := by
  obtain ⟨i0, hi, hz0, hz1, hz2⟩ := info_parts info3
  have hrow : (w.alloc (.cells (madeCells #[.int .i64 0] 256) 3)).rowIs w.heap.size 3 256 (fillF (fun _ => x) 0) := (World.rowIs_made w (.int .i64 0) 256 3).congr fun i _ => by unfold fillF; simp
  have hbm : Below w.heap.size w (w.alloc (.cells (madeCells #[.int .i64 0] 256) 3)) := (Below.refl _ _).alloc (Nat.le_refl _) _
  go_enter Try.func5, Try.ntmps5
  go_wp2_with (refine wpList_make_row _ rfl _ _ 22 rfl 3 i0 (.int .i64 0) Try.underlying22 hi hz0 hz1 rfl .i64 .i64 256 rfl rfl (by rw [hz2]; omega) (by omega) ?_)
  go_loopw [4] (fun i wr => ∃ k : Nat, k ≤ 256 ∧ i = .int .i64 k ∧ Hid (wr.rowIs w.heap.size 3 256 (fillF (fun _ => x) k)) ∧ Below w.heap.size w wr) (fun i _ => 256 - (intOf i).toNat)
  case atStart => exact ⟨0, by omega, rfl, Lib.hid hrow, hbm⟩
  case round =>
    obtain ⟨k, hk, rfl, hR, hbel⟩ := hrel
    by_cases hlt : k < 256
    · have qo : wr.cell? ⟨w.heap.size, k, none⟩ = some (.int .i64 0) := by
        have := hR.out.cell hlt
        rw [this]; unfold fillF; rw [if_neg (by omega)]
      have qf := hR.out.frozen k
      have hst := Lib.hid (fill_step (v := x) hR.out rfl)
      go_wp2
      go_roundw
      case rel => exact ⟨k + 1, by omega, by go_num, hst, hbel.setCell (p := ⟨w.heap.size, k, none⟩) (Nat.le_refl _) _⟩
      case measure => simp [intOf]; omega
    · have hend : k = 256 := by omega
      subst hend
      have hF := fill_end hR.out
      clear hR
      go_wp2
      go_ret
      exact ⟨rfl, hF, hbel⟩

set_option maxRecDepth 100000 in
/-- All of a list are one number. -/
theorem all_yes (v : Value) (zs : List Int) (x : Int) (w : World) (hl : zs.length = 256) (hall : ∀ z ∈ zs, z = x) (h : Rd w v zs) :
    Calls Try.prog 8 #[v, .int .i64 x] w fun e w' => e = .returned (.bool true) ∧ w = w' := by
  rcases h with ⟨a, cap, rfl, rfl⟩ | ⟨b, off, cap, rfl, hb, hcap, hm, hc⟩
  · simp at hl
  · rw [hl] at hcap hc ⊢
    unfold maxLen at hm
    have HC := Lib.hid hc
    have HA := Lib.hid hall
    clear hc hall
    go_enter Try.func8, Try.ntmps8
    go_wp2
    go_loop [5] (fun i => ∃ k : Nat, k ≤ 256 ∧ i = .int .i64 k) (fun i => 256 - (intOf i).toNat)
    case atStart => exact ⟨0, by omega, rfl⟩
    case round =>
      obtain ⟨k, hk, rfl⟩ := hrel
      by_cases hlt : k < 256
      · have hz := HC.out k hlt
        rw [HA.out (zs.getD k 0) (by simp [hl, hlt])] at hz
        go_wp2
        go_round
        case rel => exact ⟨k + 1, by omega, by go_num⟩
        case measure => simp [intOf]; omega
      · go_wp2
        go_ret
        exact ⟨rfl, rfl⟩

def InLine (zs : List Int) : Prop := ∀ z ∈ zs, -268435455 ≤ z ∧ z ≤ 268435455
theorem lines_yes (v : Value) (zs : List Int) (w : World) (hall : InLine zs) (h : Rd w v zs) :
    Calls Try.prog 9 #[v] w fun e w' => e = .returned (.bool true) ∧ w = w' := by
  rcases h with ⟨a, cap, rfl, rfl⟩ | ⟨b, off, cap, rfl, hb, hcap, hm, hc⟩
  · go_enter Try.func9, Try.ntmps9
    go_wp2
    go_loop [7] (fun i => i = .int .i64 0) (fun _ => 0)
    case atStart => exact rfl
    case round =>
      subst hrel
      go_wp2
      go_ret
      exact ⟨rfl, rfl⟩
  · unfold maxLen at hm
    have HC := Lib.hid hc
    have HA := Lib.hid hall
    clear hc hall
    go_enter Try.func9, Try.ntmps9
    go_wp2
    go_loop [7] (fun i => ∃ k : Nat, k ≤ zs.length ∧ i = .int .i64 k) (fun i => zs.length - (intOf i).toNat)
    case atStart => exact ⟨0, by omega, rfl⟩
    case round =>
      obtain ⟨k, hk, rfl⟩ := hrel
      by_cases hlt : k < zs.length
      · have hz := HC.out k hlt
        have hd := HA.out (zs.getD k 0) (by simp [hlt])
        generalize zs.getD k 0 = d at *
        obtain ⟨d0, d1⟩ := hd
        go_wp2
        go_round
        case rel => exact ⟨k + 1, by omega, by go_num⟩
        case measure => simp [intOf]; omega
      · go_wp2
        go_ret
        exact ⟨rfl, rfl⟩

/-! ### The two ways of a lost line -/
theorem zero_line (n : Int) (w : World) : Calls Try.prog 12 #[.int .i64 n] w fun e w' => e = .returned (.int .i64 0) ∧ Below w.heap.size w w' := by
  go_enter Try.func12, Try.ntmps12
  go_wp2
  go_ret
  exact ⟨rfl, Below.refl _ _⟩
theorem fade_line (k : Nat) (p1 p2 b off cap : Nat) (x t : Int) (w : World) (hk : k < 256) (t0 : 1 ≤ t) (t1 : t ≤ 8)
    (h1 : w.cell? ⟨p1, 0, none⟩ = some (.slice (some ⟨b, off, none⟩) 256 cap)) (h2 : w.cell? ⟨p2, 0, none⟩ = some (.int .i64 t)) (h3 : w.cell? ⟨b, off + k, none⟩ = some (.int .i64 x)) :
    Calls Try.prog 13 #[.int .i64 k, .pointer (some ⟨p1, 0, none⟩), .pointer (some ⟨p2, 0, none⟩)] w fun e w' => e = .returned (.int .i64 (x / 2 ^ t.toNat)) ∧ Below w.heap.size w w' := by
  go_enter Try.func13, Try.ntmps13
  go_wp2
  go_region
  all_goals
    go_wp2
    go_ret
    exact ⟨rfl, (Below.refl _ _).drew⟩

/-- Between what was ahead and what comes behind. -/
def btw (x y W T : Int) : Int := (x * (W - T) + y * T) / W
theorem tdiv_floor {s W : Int} (hW : 0 < W) : (if s < Int.tdiv s W * W then Int.tdiv s W - 1 else Int.tdiv s W) = s / W := by
  have h1 := Int.ediv_mul_le s (show W ≠ 0 by omega)
  have h2 := Int.lt_ediv_add_one_mul_self s hW
  rw [Int.add_mul] at h2
  by_cases h : 0 ≤ s ∨ W ∣ s
  · have e : Int.tdiv s W = s / W := by rw [Int.tdiv_eq_ediv, if_pos h]; omega
    rw [e, if_neg (by omega)]
  · have hs : Int.sign W = 1 := Int.sign_eq_one_of_pos hW
    have e : Int.tdiv s W = s / W + 1 := by rw [Int.tdiv_eq_ediv, if_neg h, hs]
    have h3 : s / W * W ≠ s := fun k => h (.inr ⟨s / W, by rw [Int.mul_comm]; exact k.symm⟩)
    rw [e, Int.add_mul, if_pos (by omega)]
    omega

theorem retI {a b : Int} (h : a = b) : Ending.returned (.int .i64 a) = .returned (.int .i64 b) := by rw [h]
set_option maxHeartbeats 2000000 in
theorem btw_line (k p1 p2 p3 p4 b off cap b' off' cap' : Nat) (x y : Int) (W T : Int) (w : World) (hk : k < 256) (hWT : (W = 2 ∧ T = 1) ∨ (W = 3 ∧ T = 1) ∨ (W = 3 ∧ T = 2)) (x0 : -268435455 ≤ x) (x1 : x ≤ 268435455) (y0 : -268435455 ≤ y) (y1 : y ≤ 268435455)
    (h1 : w.cell? ⟨p1, 0, none⟩ = some (.slice (some ⟨b, off, none⟩) 256 cap)) (h2 : w.cell? ⟨p2, 0, none⟩ = some (.int .i64 W)) (h3 : w.cell? ⟨p3, 0, none⟩ = some (.int .i64 T)) (h4 : w.cell? ⟨p4, 0, none⟩ = some (.slice (some ⟨b', off', none⟩) 256 cap'))
    (h5 : w.cell? ⟨b, off + k, none⟩ = some (.int .i64 x)) (h6 : w.cell? ⟨b', off' + k, none⟩ = some (.int .i64 y)) :
    Calls Try.prog 14 #[.int .i64 k, .pointer (some ⟨p1, 0, none⟩), .pointer (some ⟨p2, 0, none⟩), .pointer (some ⟨p3, 0, none⟩), .pointer (some ⟨p4, 0, none⟩)] w fun e w' => e = .returned (.int .i64 (btw x y W T)) ∧ Below w.heap.size w w' := by
  have hw : 0 < W := by omega
  obtain ⟨s, hs⟩ : ∃ s, x * (W - T) + y * T = s := ⟨_, rfl⟩
  have hsb : -1073741824 ≤ s ∧ s ≤ 1073741824 ∧ -1073741824 ≤ x * (W - T) ∧ x * (W - T) ≤ 1073741824 ∧ -1073741824 ≤ y * T ∧ y * T ≤ 1073741824 := by
    rcases hWT with ⟨rfl, rfl⟩ | ⟨rfl, rfl⟩ | ⟨rfl, rfl⟩ <;> omega
  have hF := Lib.hid (tdiv_floor (s := s) hw)
  have hE : Hid (s / W = btw x y W T) := Lib.hid (by unfold btw; rw [hs])
  obtain ⟨q, hq⟩ : ∃ q, Int.tdiv s W = q := ⟨_, rfl⟩
  have hqb : -1073741824 ≤ q ∧ q ≤ 1073741824 ∧ -4294967296 ≤ q * W ∧ q * W ≤ 4294967296 := by
    have := hF.out
    rw [hq] at this
    rcases hWT with ⟨rfl, rfl⟩ | ⟨rfl, rfl⟩ | ⟨rfl, rfl⟩ <;> split at this <;> omega
  obtain ⟨s0, s1, s2, s3, s4, s5⟩ := hsb
  obtain ⟨q0, q1, q2, q3⟩ := hqb
  have hF' := hF.out
  rw [hq] at hF'
  have HF := Lib.hid hF'
  have wb : 2 ≤ W ∧ W ≤ 3 ∧ 1 ≤ T ∧ T ≤ 2 := by omega
  obtain ⟨w0, w1, t0, t1⟩ := wb
  clear hF hF' hWT
  by_cases hc : s < q * W
  · go_enter Try.func14, Try.ntmps14
    go_wp2
    go_region
    all_goals
      go_wp2
      go_ret
      exact ⟨retI (by rw [← hE.out, ← HF.out, if_pos hc]), (Below.refl _ _).drew⟩
  · go_enter Try.func14, Try.ntmps14
    go_wp2
    go_region
    all_goals
      go_wp2
      go_ret
      exact ⟨retI (by rw [← hE.out, ← HF.out, if_neg (Int.not_lt.2 hc)]), (Below.refl _ _).drew⟩
end Go.Proofs.Ytlogmndophcnjaa.Lo

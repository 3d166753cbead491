/- A greater rate has at least as many bands, each of which begins no later. BandRates returns true, whatever the two rates and the kind of window, the memory and the schedule. No condition. -/
import Derived.Test.YtnbbjobmaakogaaBdAl
import Derived.WalkKit
import Derived.Deep.QuietTactic
import Derived.BigQuiet
import Derived.ProofKit
import Derived.OpenShut
import Derived.ShutString
import Derived.ChangeOld
import Derived.Below
import Derived.Lib.Hide
namespace Go.Proofs.Ytnbbjobmaakogaa.bandRates
open Go Go.ChangeShapes Go.WideShapes Go.ChangeAt Go.RowKit Go.Proofs.Ytnbbjobmaakogaa.Lo Go.Proofs.Ytnbbjobmaakogaa.Bd

def Le (x y : List Int) : Prop := x.length ≤ y.length ∧ ∀ i, i < x.length → y.getD i 0 ≤ x.getD i 0
instance (x y : List Int) : Decidable (Le x y) := by unfold Le; infer_instance
set_option maxRecDepth 100000 in
theorem le_q : ∀ m : Nat, m < 6 → ∀ n : Nat, n ≤ m → ∀ s : Bool, Le (offs (3 + (m : Int)) (uOf s) (nOf s) 66 0) (offs (3 + (n : Int)) (uOf s) (nOf s) 66 0) := by decide +kernel
theorem le_r (a b : Int) (s : Bool) (a0 : 0 ≤ a) (h : a ≤ b) (b1 : b ≤ 11) : Le (L a s) (L b s) := by
  obtain ⟨p, hp⟩ : ∃ p, Int.tdiv (11 - a) 2 = p := ⟨_, rfl⟩
  obtain ⟨q, hq⟩ : ∃ q, Int.tdiv (11 - b) 2 = q := ⟨_, rfl⟩
  have pb : 0 ≤ p ∧ p ≤ 5 ∧ 0 ≤ q ∧ q ≤ p := by rw [← hp, ← hq, Int.tdiv_eq_ediv_of_nonneg (by omega), Int.tdiv_eq_ediv_of_nonneg (by omega)]; omega
  rw [L_eq a p s hp, L_eq b q s hq]
  have := le_q p.toNat (by omega) q.toNat (by omega) s
  rwa [show ((p.toNat : Nat) : Int) = p by omega, show ((q.toNat : Nat) : Int) = q by omega] at this

set_option maxRecDepth 100000 in
theorem lt_lo (a b : Int) (s : Bool) (w : World) (h : a < b) (hb : a < 0 ∨ 11 < a) :
    Calls Try.prog 6 #[.int .i64 a, .int .i64 b, .bool s] w fun e w' => e = .returned (.bool true) ∧ Below w.heap.size w w' := by
  have HB := Lib.hid hb
  clear hb
  by_cases hh : b < 0 ∨ 11 < b
  · have HH := Lib.hid hh
    clear hh
    go_enter Try.func6, Try.ntmps6
    go_wp2_with (first
      | (go_at_call 21; ((with_reducible refine (bd_alive _).mono ?_); rintro e w1 ⟨rfl, hb1⟩))
      | (go_at_call 14; ((with_reducible refine (off_bad a s _ HB.out).mono ?_); rintro e w2 ⟨rfl, rfl⟩))
      | (go_at_call 14; ((with_reducible refine (off_bad b s _ HH.out).mono ?_); rintro e w2 ⟨rfl, rfl⟩)))
    go_ret
    exact ⟨rfl, hb1⟩
  · have h0 : 0 ≤ b := by omega
    have h1 : b ≤ 11 := by omega
    clear hh
    obtain ⟨f0, f1, _⟩ := fact b s h0 h1
    go_enter Try.func6, Try.ntmps6
    go_wp2_with (first
      | (go_at_call 21; ((with_reducible refine (bd_alive _).mono ?_); rintro e w1 ⟨rfl, hb1⟩))
      | (go_at_call 14; ((with_reducible refine (off_bad a s _ HB.out).mono ?_); rintro e w2 ⟨rfl, rfl⟩))
      | (go_at_call 14; ((with_reducible refine (off_row b s _ h0 h1).mono ?_); rintro e w3 ⟨g, cap, rfl, hg, hr, hb3⟩)))
    go_ret
    exact ⟨rfl, belowT hb1 hb3⟩

set_option maxRecDepth 100000 in
theorem lt_hi (a b : Int) (s : Bool) (w : World) (h : a < b) (h0 : 0 ≤ a) (h1 : a ≤ 11) (hb : b < 0 ∨ 11 < b) :
    Calls Try.prog 6 #[.int .i64 a, .int .i64 b, .bool s] w fun e w' => e = .returned (.bool true) ∧ Below w.heap.size w w' := by
  have HB := Lib.hid hb
  clear hb
  obtain ⟨f0, f1, _⟩ := fact a s h0 h1
  go_enter Try.func6, Try.ntmps6
  go_wp2_with (first
    | (go_at_call 21; ((with_reducible refine (bd_alive _).mono ?_); rintro e w1 ⟨rfl, hb1⟩))
    | (go_at_call 14; ((with_reducible refine (off_bad b s _ HB.out).mono ?_); rintro e w2 ⟨rfl, rfl⟩))
    | (go_at_call 14; ((with_reducible refine (off_row a s _ h0 h1).mono ?_); rintro e w3 ⟨g, cap, rfl, hg, hr, hb3⟩)))
  go_ret
  exact ⟨rfl, belowT hb1 hb3⟩

set_option maxRecDepth 100000 in
theorem lt_ok (a b : Int) (s : Bool) (w : World) (h : a < b) (h0 : 0 ≤ a) (h1 : b ≤ 11) :
    Calls Try.prog 6 #[.int .i64 a, .int .i64 b, .bool s] w fun e w' => e = .returned (.bool true) ∧ Below w.heap.size w w' := by
  have g0 : 0 ≤ b := by omega
  have g1 : b ≤ 11 := by omega
  obtain ⟨f0, f1, _⟩ := fact a s h0 (by omega)
  obtain ⟨f2, f3, _⟩ := fact b s g0 g1
  obtain ⟨l0, l1⟩ := le_r a b s h0 (by omega) h1
  obtain ⟨n, hn⟩ : ∃ n, (L a s).length = n := ⟨_, rfl⟩
  obtain ⟨m, hm⟩ : ∃ m, (L b s).length = m := ⟨_, rfl⟩
  rw [hn] at f0 f1 l0 l1
  rw [hm] at f2 f3 l0
  have HL := Lib.hid l1
  have HN := Lib.hid hn
  have HM := Lib.hid hm
  have hC1 : ∀ w, Calls Try.prog 14 #[.int .i64 a, .bool s] w fun e w' => ∃ g cap, e = .returned (.tuple #[.slice (some ⟨g, 0, none⟩) n cap, .int .i64 0]) ∧ Hid (Row w' g cap (L a s)) ∧ Below w.heap.size w w' := fun w => (off_row a s w h0 (by omega)).mono fun e w' h => by
    obtain ⟨g, cap, h1, h2, h3, h4⟩ := h
    exact ⟨g, cap, by rw [h1, HN.out], Lib.hid h3, h4⟩
  have hC2 : ∀ w, Calls Try.prog 14 #[.int .i64 b, .bool s] w fun e w' => ∃ g cap, e = .returned (.tuple #[.slice (some ⟨g, 0, none⟩) m cap, .int .i64 0]) ∧ Hid (Row w' g cap (L b s)) ∧ Below w.heap.size w w' := fun w => (off_row b s w g0 g1).mono fun e w' h => by
    obtain ⟨g, cap, h1, h2, h3, h4⟩ := h
    exact ⟨g, cap, by rw [h1, HM.out], Lib.hid h3, h4⟩
  have HC1 := Lib.hid hC1
  have HC2 := Lib.hid hC2
  clear hC1 hC2 l1 hn hm
  go_enter Try.func6, Try.ntmps6
  go_wp2_with (first
    | (go_at_call 21; ((with_reducible refine (bd_alive _).mono ?_); rintro e w1 ⟨rfl, hb1⟩))
    | (go_at_call 14; have hq := hb2; clear hq; ((with_reducible refine (HC2.out _).mono ?_); rintro e w3 ⟨g3, cap3, rfl, hr3, hb3⟩; have hr4 := Lib.hid (hr2.out.below hb3)))
    | (go_at_call 14; ((with_reducible refine (HC1.out _).mono ?_); rintro e w2 ⟨g2, cap2, rfl, hr2, hb2⟩)))
  go_loopw [12] (fun i wr => ∃ k : Nat, k ≤ n ∧ i = .int .i64 k ∧ Below w3.heap.size w3 wr) (fun i _ => n - (intO i).toNat)
  case atStart => exact ⟨0, by omega, rfl, Below.refl _ _⟩
  case round =>
    obtain ⟨k, hk, rfl, hbel⟩ := hrel
    by_cases hlt : k < n
    · have q1 := (hr4.out.below hbel).cell (i := k) (by rw [HN.out]; omega)
      have q2 := (hr3.out.below hbel).cell (i := k) (by rw [HM.out]; omega)
      have q3 := HL.out k hlt
      generalize (L a s).getD k 0 = c at *
      generalize (L b s).getD k 0 = d at *
      have d1 : decide (c < d) = false := by simp; omega
      go_wp2
      go_quiet (fail)
      go_wp2
      go_roundw
      case rel => exact ⟨k + 1, by omega, by go_num, hbel.trans ((drewN_below wr nq).mono hbel.size)⟩
      case measure => simp [intO]; omega
    · go_wp2
      go_ret
      exact ⟨rfl, belowT hb1 (belowT hb2 (belowT hb3 hbel))⟩

set_option maxRecDepth 100000 in
theorem gt_lo (a b : Int) (s : Bool) (w : World) (h : b < a) (hb : b < 0 ∨ 11 < b) :
    Calls Try.prog 6 #[.int .i64 a, .int .i64 b, .bool s] w fun e w' => e = .returned (.bool true) ∧ Below w.heap.size w w' := by
  have HB := Lib.hid hb
  clear hb
  by_cases hh : a < 0 ∨ 11 < a
  · have HH := Lib.hid hh
    clear hh
    go_enter Try.func6, Try.ntmps6
    go_wp2_with (first
      | (go_at_call 21; ((with_reducible refine (bd_alive _).mono ?_); rintro e w1 ⟨rfl, hb1⟩))
      | (go_at_call 14; ((with_reducible refine (off_bad b s _ HB.out).mono ?_); rintro e w2 ⟨rfl, rfl⟩))
      | (go_at_call 14; ((with_reducible refine (off_bad a s _ HH.out).mono ?_); rintro e w2 ⟨rfl, rfl⟩)))
    go_ret
    exact ⟨rfl, hb1⟩
  · have h0 : 0 ≤ a := by omega
    have h1 : a ≤ 11 := by omega
    clear hh
    obtain ⟨f0, f1, _⟩ := fact a s h0 h1
    go_enter Try.func6, Try.ntmps6
    go_wp2_with (first
      | (go_at_call 21; ((with_reducible refine (bd_alive _).mono ?_); rintro e w1 ⟨rfl, hb1⟩))
      | (go_at_call 14; ((with_reducible refine (off_bad b s _ HB.out).mono ?_); rintro e w2 ⟨rfl, rfl⟩))
      | (go_at_call 14; ((with_reducible refine (off_row a s _ h0 h1).mono ?_); rintro e w3 ⟨g, cap, rfl, hg, hr, hb3⟩)))
    go_ret
    exact ⟨rfl, belowT hb1 hb3⟩

set_option maxRecDepth 100000 in
theorem gt_hi (a b : Int) (s : Bool) (w : World) (h : b < a) (h0 : 0 ≤ b) (h1 : b ≤ 11) (hb : a < 0 ∨ 11 < a) :
    Calls Try.prog 6 #[.int .i64 a, .int .i64 b, .bool s] w fun e w' => e = .returned (.bool true) ∧ Below w.heap.size w w' := by
  have HB := Lib.hid hb
  clear hb
  obtain ⟨f0, f1, _⟩ := fact b s h0 h1
  go_enter Try.func6, Try.ntmps6
  go_wp2_with (first
    | (go_at_call 21; ((with_reducible refine (bd_alive _).mono ?_); rintro e w1 ⟨rfl, hb1⟩))
    | (go_at_call 14; ((with_reducible refine (off_bad a s _ HB.out).mono ?_); rintro e w2 ⟨rfl, rfl⟩))
    | (go_at_call 14; ((with_reducible refine (off_row b s _ h0 h1).mono ?_); rintro e w3 ⟨g, cap, rfl, hg, hr, hb3⟩)))
  go_ret
  exact ⟨rfl, belowT hb1 hb3⟩

set_option maxRecDepth 100000 in
theorem gt_ok (a b : Int) (s : Bool) (w : World) (h : b < a) (h0 : 0 ≤ b) (h1 : a ≤ 11) :
    Calls Try.prog 6 #[.int .i64 a, .int .i64 b, .bool s] w fun e w' => e = .returned (.bool true) ∧ Below w.heap.size w w' := by
  have g0 : 0 ≤ a := by omega
  have g1 : a ≤ 11 := by omega
  obtain ⟨f0, f1, _⟩ := fact b s h0 (by omega)
  obtain ⟨f2, f3, _⟩ := fact a s g0 g1
  obtain ⟨l0, l1⟩ := le_r b a s h0 (by omega) h1
  obtain ⟨n, hn⟩ : ∃ n, (L b s).length = n := ⟨_, rfl⟩
  obtain ⟨m, hm⟩ : ∃ m, (L a s).length = m := ⟨_, rfl⟩
  rw [hn] at f0 f1 l0 l1
  rw [hm] at f2 f3 l0
  have HL := Lib.hid l1
  have HN := Lib.hid hn
  have HM := Lib.hid hm
  have hC1 : ∀ w, Calls Try.prog 14 #[.int .i64 b, .bool s] w fun e w' => ∃ g cap, e = .returned (.tuple #[.slice (some ⟨g, 0, none⟩) n cap, .int .i64 0]) ∧ Hid (Row w' g cap (L b s)) ∧ Below w.heap.size w w' := fun w => (off_row b s w h0 (by omega)).mono fun e w' h => by
    obtain ⟨g, cap, h1, h2, h3, h4⟩ := h
    exact ⟨g, cap, by rw [h1, HN.out], Lib.hid h3, h4⟩
  have hC2 : ∀ w, Calls Try.prog 14 #[.int .i64 a, .bool s] w fun e w' => ∃ g cap, e = .returned (.tuple #[.slice (some ⟨g, 0, none⟩) m cap, .int .i64 0]) ∧ Hid (Row w' g cap (L a s)) ∧ Below w.heap.size w w' := fun w => (off_row a s w g0 g1).mono fun e w' h => by
    obtain ⟨g, cap, h1, h2, h3, h4⟩ := h
    exact ⟨g, cap, by rw [h1, HM.out], Lib.hid h3, h4⟩
  have HC1 := Lib.hid hC1
  have HC2 := Lib.hid hC2
  clear hC1 hC2 l1 hn hm
  go_enter Try.func6, Try.ntmps6
  go_wp2_with (first
    | (go_at_call 21; ((with_reducible refine (bd_alive _).mono ?_); rintro e w1 ⟨rfl, hb1⟩))
    | (go_at_call 14; have hq := hb2; clear hq; ((with_reducible refine (HC2.out _).mono ?_); rintro e w3 ⟨g3, cap3, rfl, hr3, hb3⟩; have hr4 := Lib.hid (hr2.out.below hb3)))
    | (go_at_call 14; ((with_reducible refine (HC1.out _).mono ?_); rintro e w2 ⟨g2, cap2, rfl, hr2, hb2⟩)))
  go_loopw [12] (fun i wr => ∃ k : Nat, k ≤ n ∧ i = .int .i64 k ∧ Below w3.heap.size w3 wr) (fun i _ => n - (intO i).toNat)
  case atStart => exact ⟨0, by omega, rfl, Below.refl _ _⟩
  case round =>
    obtain ⟨k, hk, rfl, hbel⟩ := hrel
    by_cases hlt : k < n
    · have q1 := (hr4.out.below hbel).cell (i := k) (by rw [HN.out]; omega)
      have q2 := (hr3.out.below hbel).cell (i := k) (by rw [HM.out]; omega)
      have q3 := HL.out k hlt
      generalize (L b s).getD k 0 = c at *
      generalize (L a s).getD k 0 = d at *
      have d1 : decide (c < d) = false := by simp; omega
      go_wp2
      go_quiet (fail)
      go_wp2
      go_roundw
      case rel => exact ⟨k + 1, by omega, by go_num, hbel.trans ((drewN_below wr nq).mono hbel.size)⟩
      case measure => simp [intO]; omega
    · go_wp2
      go_ret
      exact ⟨rfl, belowT hb1 (belowT hb2 (belowT hb3 hbel))⟩

set_option maxRecDepth 100000 in
theorem eq_lo (a : Int) (s : Bool) (w : World) (hb : a < 0 ∨ 11 < a) :
    Calls Try.prog 6 #[.int .i64 a, .int .i64 a, .bool s] w fun e w' => e = .returned (.bool true) ∧ Below w.heap.size w w' := by
  have HB := Lib.hid hb
  clear hb
  go_enter Try.func6, Try.ntmps6
  go_wp2_with (first
    | (go_at_call 21; ((with_reducible refine (bd_alive _).mono ?_); rintro e w1 ⟨rfl, hb1⟩))
    | (go_at_call 14; ((with_reducible refine (off_bad a s _ HB.out).mono ?_); rintro e w2 ⟨rfl, rfl⟩)))
  go_ret
  exact ⟨rfl, hb1⟩

set_option maxRecDepth 100000 in
theorem eq_ok (a : Int) (s : Bool) (w : World) (h0 : 0 ≤ a) (h1 : a ≤ 11) :
    Calls Try.prog 6 #[.int .i64 a, .int .i64 a, .bool s] w fun e w' => e = .returned (.bool true) ∧ Below w.heap.size w w' := by
  have g0 : 0 ≤ a := by omega
  have g1 : a ≤ 11 := by omega
  obtain ⟨f0, f1, _⟩ := fact a s h0 (by omega)
  obtain ⟨f2, f3, _⟩ := fact a s g0 g1
  obtain ⟨l0, l1⟩ := le_r a a s h0 (by omega) h1
  obtain ⟨n, hn⟩ : ∃ n, (L a s).length = n := ⟨_, rfl⟩
  clear f2 f3
  have hm := hn
  rw [hn] at f0 f1 l0 l1
  have HL := Lib.hid l1
  have HN := Lib.hid hn
  have HM := Lib.hid hm
  have hC1 : ∀ w, Calls Try.prog 14 #[.int .i64 a, .bool s] w fun e w' => ∃ g cap, e = .returned (.tuple #[.slice (some ⟨g, 0, none⟩) n cap, .int .i64 0]) ∧ Hid (Row w' g cap (L a s)) ∧ Below w.heap.size w w' := fun w => (off_row a s w h0 (by omega)).mono fun e w' h => by
    obtain ⟨g, cap, h1, h2, h3, h4⟩ := h
    exact ⟨g, cap, by rw [h1, HN.out], Lib.hid h3, h4⟩
  have hC2 : ∀ w, Calls Try.prog 14 #[.int .i64 a, .bool s] w fun e w' => ∃ g cap, e = .returned (.tuple #[.slice (some ⟨g, 0, none⟩) n cap, .int .i64 0]) ∧ Hid (Row w' g cap (L a s)) ∧ Below w.heap.size w w' := fun w => (off_row a s w g0 g1).mono fun e w' h => by
    obtain ⟨g, cap, h1, h2, h3, h4⟩ := h
    exact ⟨g, cap, by rw [h1, HM.out], Lib.hid h3, h4⟩
  have HC1 := Lib.hid hC1
  have HC2 := Lib.hid hC2
  clear hC1 hC2 l1 hn hm
  go_enter Try.func6, Try.ntmps6
  go_wp2_with (first
    | (go_at_call 21; ((with_reducible refine (bd_alive _).mono ?_); rintro e w1 ⟨rfl, hb1⟩))
    | (go_at_call 14; have hq := hb2; clear hq; ((with_reducible refine (HC2.out _).mono ?_); rintro e w3 ⟨g3, cap3, rfl, hr3, hb3⟩; have hr4 := Lib.hid (hr2.out.below hb3)))
    | (go_at_call 14; ((with_reducible refine (HC1.out _).mono ?_); rintro e w2 ⟨g2, cap2, rfl, hr2, hb2⟩)))
  go_loopw [12] (fun i wr => ∃ k : Nat, k ≤ n ∧ i = .int .i64 k ∧ Below w3.heap.size w3 wr) (fun i _ => n - (intO i).toNat)
  case atStart => exact ⟨0, by omega, rfl, Below.refl _ _⟩
  case round =>
    obtain ⟨k, hk, rfl, hbel⟩ := hrel
    by_cases hlt : k < n
    · have q1 := (hr4.out.below hbel).cell (i := k) (by rw [HN.out]; omega)
      have q2 := (hr3.out.below hbel).cell (i := k) (by rw [HM.out]; omega)
      have q3 := HL.out k hlt
      generalize (L a s).getD k 0 = c at *
      go_wp2
      go_quiet (fail)
      go_wp2
      go_roundw
      case rel => exact ⟨k + 1, by omega, by go_num, hbel.trans ((drewN_below wr nq).mono hbel.size)⟩
      case measure => simp [intO]; omega
    · go_wp2
      go_ret
      exact ⟨rfl, belowT hb1 (belowT hb2 (belowT hb3 hbel))⟩

theorem walk (a b : Int) (s : Bool) (w : World) (_ : (Lit.int .i64 a).wf = true) (_ : (Lit.int .i64 b).wf = true) :
    Calls Try.prog 6 #[.int .i64 a, .int .i64 b, .bool s] w fun e w' => e = .returned (.bool true) ∧ Below w.heap.size w w' := by
  by_cases h1 : a < b
  · by_cases h2 : a < 0 ∨ 11 < a
    · exact lt_lo a b s w h1 h2
    by_cases h3 : b < 0 ∨ 11 < b
    · exact lt_hi a b s w h1 (by omega) (by omega) h3
    · exact lt_ok a b s w h1 (by omega) (by omega)
  by_cases h4 : b < a
  · by_cases h2 : b < 0 ∨ 11 < b
    · exact gt_lo a b s w h4 h2
    by_cases h3 : a < 0 ∨ 11 < a
    · exact gt_hi a b s w h4 (by omega) (by omega) h3
    · exact gt_ok a b s w h4 (by omega) (by omega)
  obtain rfl : a = b := by omega
  by_cases h2 : a < 0 ∨ 11 < a
  · exact eq_lo a s w h2
  · exact eq_ok a s w (by omega) (by omega)

theorem own : ownKnob Try.prog.godebug = none := by kernel_rfl
set_option linter.unusedVariables false
set_option maxRecDepth 100000 in
theorem lifted (os : Os) (started : os.Started) (H : Type) (enc : TypeId × Value → H) :
    ReturnsInHanded {} Try.checked os 6 .any (Rows.bandRatesSpec.pre6 enc Try.prog Try.f6 Rows.bandRatesRow.domain false) (Rows.bandRatesSpec.post enc Try.prog Try.f6 false true false false) := by
  refine returnsInHanded_of_change (C := Try.checked) own started (by kernel_rfl) Try.func6
    (ChangeSpec.witness6 (enc := enc) (C := Try.checked) false ⟨#[], #[.int .i64 0, .int .i64 0, .bool false], []⟩ 8 (by kernel_rfl) (by kernel_rfl) (by kernel_rfl) (by kernel_rfl)) ?_
  intro W base args ds gs before hval0 hW hcnd _
  have hval : ∀ (j : Nat) t v, Try.f6.params[j]? = some t → args[j]? = some v → Value.okWide Try.prog W .any base t v := hval0
  have hW' := hW
  obtain ⟨p, q, hA0, hV, rfl, hfz, hnd⟩ := hW
  have hA : DataW.TrodAll enc Try.prog W 0 (fun _ => true) true Try.f6.params.toList args.toList ds p := hA0
  rw [Try.params6] at hA hval
  obtain ⟨v0, vs0, d0, ds0, p0, q0, hargs, rfl, rfl, h0, r0⟩ := trodAll_cons hA
  obtain ⟨v1, vs1, d1, ds1, p1, q1, rfl, rfl, rfl, h1, r1⟩ := trodAll_cons r0
  obtain ⟨v2, vs2, d2, ds2, p2, q2, rfl, rfl, rfl, h2, r2⟩ := trodAll_cons r1
  obtain ⟨rfl, rfl, rfl⟩ := trodAll_nil r2
  obtain rfl : args = #[v0, v1, v2] := by cases args; simp_all
  obtain ⟨rfl, rfl⟩ := trodVars_none hV
  obtain ⟨a0, rfl, rfl, rfl, w0⟩ := open_int Try.underlying3 (hval 0 3 v0 rfl rfl) h0
  obtain ⟨a1, rfl, rfl, rfl, w1⟩ := open_int Try.underlying3 (hval 1 3 v1 rfl rfl) h1
  obtain ⟨a2, rfl, rfl, rfl⟩ := open_bool Try.underlying4 (hval 2 4 v2 rfl rfl) h2
  clear hA0 hval0
  simp only [List.append_nil] at hW'
  refine (walk a0 a1 a2 W w0 w1).mono fun e W' ⟨he, bel⟩ => ?_
  subst he
  exact ⟨_, rfl, _, _, _, [], _, [], hW', trodAll_mk1 (shut_bool Try.underlying4 _), (trodAll_cons_mk (shut_int Try.underlying3 w0) (trodAll_cons_mk (shut_int Try.underlying3 w1) (trodAll_cons_mk (shut_bool Try.underlying4 a2) trodAll_mk0))), rfl, bel.frame _, fun h => by cases h⟩

theorem over : Rows.bandRatesRow.holds Try.pinned (OpenSpec.ofChange Rows.bandRatesSpec) :=
  OpenClaim.holds_of_wide 6 Try.f6 rfl rfl rfl rfl rfl rfl rfl ⟨rfl, rfl, rfl, rfl, rfl⟩ rfl rfl rfl rfl rfl (by kernel_rfl) Try.func6 (by kernel_rfl)
    (of_decide_eq_true (by kernel_rfl)) (by unfold Func.isWrapper; first | (rw [if_pos (by decide +kernel)]; kernel_rfl) | (rw [if_neg (by decide +kernel)]; exact ⟨rfl, rfl⟩))
    (fun os started H enc _ => lifted os started H enc)

theorem proved : Rows.BandRatesSaid := over
end Go.Proofs.Ytnbbjobmaakogaa.bandRates

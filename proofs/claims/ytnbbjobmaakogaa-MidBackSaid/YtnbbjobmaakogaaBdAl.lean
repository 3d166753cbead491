/- The document's own word on a line's band, and the chapter's first examples. -/
import Derived.Test.YtnbbjobmaakogaaBdOf
import Derived.WalkKit
import Derived.Deep.QuietTactic
import Derived.BigQuiet
import Derived.Deep.OwnRows
import Derived.ProofKit
import Derived.OpenShut
import Derived.Lib.Hide
namespace Go.Proofs.Ytnbbjobmaakogaa.Bd
open Go Go.ChangeShapes Go.WideShapes Go.ChangeAt Go.RowKit Go.Proofs.Ytnbbjobmaakogaa.Lo

set_option maxRecDepth 100000 in
theorem rof_any (r x : Int) (s : Bool) (w : World) (r0 : 0 ≤ r) (r1 : r ≤ 11) :
    Calls Try.prog 19 #[.int .i64 r, .bool s, .int .i64 x] w fun e w' => ((∃ b : Nat, e = .returned (.tuple #[.int .i64 b, .int .i64 0]) ∧ In (L r s) x b) ∨ (e = .returned (.tuple #[.int .i64 0, .int .i64 2]) ∧ (x < 0 ∨ nOf s ≤ x))) ∧ Below w.heap.size w w' := by
  obtain ⟨f0, f1, f2, f3, _, f5⟩ := fact r s r0 r1
  have hN256 : nOf s ≤ 256 := by cases s <;> decide
  obtain ⟨l, hl⟩ : ∃ l, L r s = l := ⟨_, rfl⟩
  rw [hl] at f0 f1 f2 f3 f5 ⊢
  have hb5 : ∀ i, i < l.length → l.getD i 0 ≤ 256 ∧ 0 ≤ l.getD i 0 := fun i hi => ⟨by have := (f5 i hi).2; omega, (f5 i hi).1⟩
  have H5 := Lib.hid hb5
  have F2 := Lib.hid f2
  have F3 := Lib.hid f3
  clear f2 f3 f5 hb5
  obtain ⟨n, hn⟩ : ∃ n, l.length = n + 1 := ⟨l.length - 1, by omega⟩
  have HN := Lib.hid hn
  rw [hn] at f0 f1
  clear hn
  obtain ⟨N, hN⟩ : ∃ N, nOf s = N := ⟨_, rfl⟩
  rw [hN] at F3 hN256 ⊢
  clear hN
  have hC : ∀ w, Calls Try.prog 15 #[.int .i64 r, .bool s] w fun e w' => ∃ g cap, e = .returned (.tuple #[.slice (some ⟨g, 0, none⟩) (n + 1) cap, .int .i64 0]) ∧ Hid (Row w' g cap l) ∧ Below w.heap.size w w' := fun w => (told_row r s w r0 r1).mono fun e w' h => by
    obtain ⟨g, cap, h1, h2, h3, h4⟩ := h
    rw [hl] at h1 h3
    exact ⟨g, cap, by rw [h1, HN.out], Lib.hid h3, h4⟩
  have HC := Lib.hid hC
  clear hC hl
  go_enter Try.func19, Try.ntmps19
  go_wp2_with (go_at_call 15; ((with_reducible refine (HC.out _).mono ?_); rintro e w1 ⟨g, cap, rfl, hR, hb⟩))
  go_loop [10] (fun i => ∃ b : Nat, i = .int .i64 b ∧ b ≤ n ∧ Hid (x < 0 ∨ l.getD b 0 ≤ x)) (fun i => n - (intOf i).toNat)
  case atStart => exact ⟨0, rfl, by omega, Lib.hid (by rw [F2.out]; omega)⟩
  case round =>
    obtain ⟨b, rfl, hbn, hB⟩ := hrel
    by_cases hlt : b < n
    · have q1 := hR.out.cell (i := b) (by rw [HN.out]; omega)
      have q5 := H5.out b (by rw [HN.out]; omega)
      have q2 := hR.out.cell (i := b + 1) (by rw [HN.out]; omega)
      have q6 := H5.out (b + 1) (by rw [HN.out]; omega)
      obtain ⟨c, hc⟩ : ∃ c, l.getD b 0 = c := ⟨_, rfl⟩
      obtain ⟨d, hd⟩ : ∃ d, l.getD (b + 1) 0 = d := ⟨_, rfl⟩
      rw [hc] at q1 q5 hB
      rw [hd] at q2 q6
      have Hc := Lib.hid hc
      have Hd := Lib.hid hd
      clear hc hd
      by_cases hx : x < c
      · have hx0 : x < 0 := by have := hB.out; omega
        go_wp2
        go_round
        case rel => exact ⟨b + 1, by go_num, by omega, Lib.hid (.inl hx0)⟩
        case measure => simp [intOf]; omega
      · have hx1 : c ≤ x := by omega
        clear hx
        by_cases hy : x < d
        · go_wp2
          go_ret2
          exact ⟨.inl ⟨b, rfl, ⟨by rw [HN.out]; omega, by rw [Hc.out]; exact hx1, by rw [Hd.out]; exact hy⟩⟩, hb⟩
        · have hy1 : d ≤ x := by omega
          clear hy
          go_wp2
          go_round
          case rel => exact ⟨b + 1, by go_num, by omega, Lib.hid (.inr (by rw [Hd.out]; exact hy1))⟩
          case measure => simp [intOf]; omega
    · obtain rfl : b = n := by omega
      have hfin : x < 0 ∨ N ≤ x := by
        have h1 := hB.out
        have h2 := F3.out
        rw [HN.out] at h2
        rw [show b + 1 - 1 = b by omega] at h2
        rw [h2] at h1
        exact h1
      have HF := Lib.hid hfin
      clear hfin
      go_wp2
      go_ret2
      exact ⟨.inr ⟨rfl, HF.out⟩, hb⟩

theorem L11 : L 11 true = [0, 4, 8, 12, 16, 20, 24, 32] := by decide +kernel
theorem L00 : L 0 true = [0, 4, 8, 16, 28, 32] := by decide +kernel
theorem off11 (w : World) : Calls Try.prog 14 #[.int .i64 11, .bool true] w fun e w' => ∃ g cap, e = .returned (.tuple #[.slice (some ⟨g, 0, none⟩) 8 cap, .int .i64 0]) ∧ Row w' g cap [0, 4, 8, 12, 16, 20, 24, 32] ∧ Below w.heap.size w w' :=
  (off_row 11 true w (by decide) (by decide)).mono fun e w' ⟨g, cap, h1, _, h3, h4⟩ => ⟨g, cap, by rw [h1, L11]; rfl, L11 ▸ h3, h4⟩
theorem off00 (w : World) : Calls Try.prog 14 #[.int .i64 0, .bool true] w fun e w' => ∃ g cap, e = .returned (.tuple #[.slice (some ⟨g, 0, none⟩) 6 cap, .int .i64 0]) ∧ Row w' g cap [0, 4, 8, 16, 28, 32] ∧ Below w.heap.size w w' :=
  (off_row 0 true w (by decide) (by decide)).mono fun e w' ⟨g, cap, h1, _, h3, h4⟩ => ⟨g, cap, by rw [h1, L00]; rfl, L00 ▸ h3, h4⟩
theorem built (w : World) (zs : List Int) (n : Nat) (hn : zs.length = n) (hm : n ≤ 1000) : Rd (w.alloc (.cells (zs.map (Value.int .i64)).toArray 3)) (.slice (some ⟨w.heap.size, 0, none⟩) n n) zs := by
  have h := World.rowIs_alloc w (zs.map (Value.int .i64)).toArray 3 (fun j => .int .i64 (zs.getD j 0)) (fun i hi => by
    have : i < zs.length := by simpa using hi
    simp [this])
  rw [show (zs.map (Value.int .i64)).toArray.size = n by simp [hn]] at h
  exact rd_row h hn (by unfold maxLen; omega) fun _ _ => rfl

theorem ints8 (w : World) (g cap : Nat) (hr : Row w g cap [0, 4, 8, 12, 16, 20, 24, 32]) : Calls Try.prog 20 #[.slice (some ⟨g, 0, none⟩) 8 cap, .slice (some ⟨w.heap.size, 0, none⟩) 8 8] (w.alloc (.cells #[.int .i64 0, .int .i64 4, .int .i64 8, .int .i64 12, .int .i64 16, .int .i64 20, .int .i64 24, .int .i64 32] 3)) fun e w' => e = .returned (.bool true) ∧ Below w.heap.size w w' :=
  (ints_yes _ _ [0, 4, 8, 12, 16, 20, 24, 32] _ (by decide) (hr.below ((Below.refl _ _).alloc (Nat.le_refl _) (.cells #[.int .i64 0, .int .i64 4, .int .i64 8, .int .i64 12, .int .i64 16, .int .i64 20, .int .i64 24, .int .i64 32] 3))).rd (built w [0, 4, 8, 12, 16, 20, 24, 32] 8 rfl (by decide))).mono fun e w' h => ⟨h.1, ((Below.refl _ _).alloc (Nat.le_refl _) _).trans (h.2.mono (by simp))⟩
theorem ints6 (w : World) (g cap : Nat) (hr : Row w g cap [0, 4, 8, 16, 28, 32]) : Calls Try.prog 20 #[.slice (some ⟨g, 0, none⟩) 6 cap, .slice (some ⟨w.heap.size, 0, none⟩) 6 6] (w.alloc (.cells #[.int .i64 0, .int .i64 4, .int .i64 8, .int .i64 16, .int .i64 28, .int .i64 32] 3)) fun e w' => e = .returned (.bool true) ∧ Below w.heap.size w w' :=
  (ints_yes _ _ [0, 4, 8, 16, 28, 32] _ (by decide) (hr.below ((Below.refl _ _).alloc (Nat.le_refl _) (.cells #[.int .i64 0, .int .i64 4, .int .i64 8, .int .i64 16, .int .i64 28, .int .i64 32] 3))).rd (built w [0, 4, 8, 16, 28, 32] 6 rfl (by decide))).mono fun e w' h => ⟨h.1, ((Below.refl _ _).alloc (Nat.le_refl _) _).trans (h.2.mono (by simp))⟩
set_option maxRecDepth 100000 in
theorem bd_alive (w : World) : Calls Try.prog 21 #[] w fun e w' => e = .returned (.bool true) ∧ Below w.heap.size w w' := by
  go_enter Try.func21, Try.ntmps21
  go_wp2_with (first
    | (go_at_call 14; ((with_reducible refine (off11 _).mono ?_); rintro e w1 ⟨g, cap, rfl, hr1', hb1⟩; have hr1 := Lib.hid hr1'; clear hr1'))
    | (go_at_call 14; ((with_reducible refine (off00 _).mono ?_); rintro e w2 ⟨g2, cap2, rfl, hr2', hb2⟩; have hr2 := Lib.hid hr2'; clear hr2'; have hr3 := Lib.hid (hr1.out.below hb2)))
    | (go_at_call 20; ((with_reducible refine (ints8 w2 g cap hr3.out).mono ?_); rintro e w4 ⟨rfl, hb4⟩; have hr4 := Lib.hid (hr2.out.below hb4)))
    | (go_at_call 20; ((with_reducible refine (ints6 w4 g2 cap2 hr4.out).mono ?_); rintro e w5 ⟨rfl, hb5⟩)))
  go_ret
  exact ⟨rfl, belowT hb1 (belowT hb2 (belowT hb4 hb5))⟩
end Go.Proofs.Ytnbbjobmaakogaa.Bd

/- Which band a line is in, and the chapter's first examples. -/
import Derived.Test.YtnbbjobmaakogaaBdRo
import Derived.WalkKit
import Derived.Deep.QuietTactic
import Derived.BigQuiet
import Derived.ProofKit
import Derived.OpenShut
import Derived.Lib.Hide
namespace Go.Proofs.Ytnbbjobmaakogaa.Bd
open Go Go.ChangeShapes Go.WideShapes Go.ChangeAt Go.RowKit Go.Proofs.Ytnbbjobmaakogaa.Lo

/-- The last offset, as the walk reads it. -/
theorem last_cell {r : Int} {s : Bool} {w : World} {g cap : Nat} (r0 : 0 ≤ r) (r1 : r ≤ 11) (h : Row w g cap (L r s)) : w.cell? ⟨g, (L r s).length - 1, none⟩ = some (.int .i64 (nOf s)) := by
  obtain ⟨f0, _, _, f3, _⟩ := fact r s r0 r1
  rw [h.cell (by omega), f3]

set_option maxRecDepth 100000 in
theorem of_out (r x : Int) (s : Bool) (w : World) (r0 : 0 ≤ r) (r1 : r ≤ 11) (h : x < 0 ∨ nOf s ≤ x) :
    Calls Try.prog 18 #[.int .i64 r, .bool s, .int .i64 x] w fun e w' => e = .returned (.tuple #[.int .i64 0, .int .i64 2]) ∧ Below w.heap.size w w' := by
  obtain ⟨f0, f1, _⟩ := fact r s r0 r1
  have hM := Lib.hid h
  clear h
  have HLc := Lib.hid (fun (w : World) (g cap : Nat) (h : Row w g cap (L r s)) => last_cell r0 r1 h)
  obtain ⟨n, hn⟩ : ∃ n, (L r s).length = n + 1 := ⟨(L r s).length - 1, by omega⟩
  have HN := Lib.hid hn
  rw [hn] at f0 f1
  clear hn
  obtain ⟨N, hN⟩ : ∃ N, nOf s = N := ⟨_, rfl⟩
  rw [hN] at hM HLc
  clear hN
  have hC : ∀ w, Calls Try.prog 14 #[.int .i64 r, .bool s] w fun e w' => ∃ g cap, e = .returned (.tuple #[.slice (some ⟨g, 0, none⟩) (n + 1) cap, .int .i64 0]) ∧ w'.cell? ⟨g, n, none⟩ = some (.int .i64 N) ∧ Below w.heap.size w w' := fun w => (off_row r s w r0 r1).mono fun e w' h => by
    obtain ⟨g, cap, h1, h2, h3, h4⟩ := h
    refine ⟨g, cap, by rw [h1, HN.out], ?_, h4⟩
    have := HLc.out _ _ _ h3
    rw [HN.out] at this
    exact this
  have HC := Lib.hid hC
  clear hC
  by_cases hx : x < 0
  · go_enter Try.func18, Try.ntmps18
    go_wp2_with (go_at_call 14; ((with_reducible refine (HC.out _).mono ?_); rintro e w1 ⟨g, cap, rfl, q1, hb⟩))
    go_ret2
    exact ⟨rfl, hb⟩
  · have hx2 : N ≤ x := by have := hM.out; omega
    go_enter Try.func18, Try.ntmps18
    go_wp2_with (go_at_call 14; ((with_reducible refine (HC.out _).mono ?_); rintro e w1 ⟨g, cap, rfl, q1, hb⟩))
    go_ret2
    exact ⟨rfl, hb⟩

set_option maxRecDepth 100000 in
theorem of_in (r x : Int) (s : Bool) (w : World) (r0 : 0 ≤ r) (r1 : r ≤ 11) (x0 : 0 ≤ x) (h : x < nOf s) :
    Calls Try.prog 18 #[.int .i64 r, .bool s, .int .i64 x] w fun e w' => ∃ b : Nat, e = .returned (.tuple #[.int .i64 b, .int .i64 0]) ∧ In (L r s) x b ∧ Below w.heap.size w w' := by
  obtain ⟨f0, f1, f2, f3, _, f5⟩ := fact r s r0 r1
  have HLc := Lib.hid (fun (w : World) (g cap : Nat) (h : Row w g cap (L r s)) => last_cell r0 r1 h)
  obtain ⟨l, hl⟩ : ∃ l, L r s = l := ⟨_, rfl⟩
  rw [hl] at f0 f1 f2 f3 f5 HLc ⊢
  have hb5 : ∀ i, i < l.length → l.getD i 0 ≤ 256 ∧ 0 ≤ l.getD i 0 := fun i hi => ⟨by have := (f5 i hi).2; have : nOf s ≤ 256 := by cases s <;> decide
                                                                                      omega, (f5 i hi).1⟩
  have H5 := Lib.hid hb5
  have F2 := Lib.hid f2
  have F3 := Lib.hid f3
  clear f2 f3 f5 hb5
  obtain ⟨n, hn⟩ : ∃ n, l.length = n + 1 := ⟨l.length - 1, by omega⟩
  have HN := Lib.hid hn
  rw [hn] at f0 f1
  clear hn
  have hN256 : nOf s ≤ 256 := by cases s <;> decide
  obtain ⟨N, hN⟩ : ∃ N, nOf s = N := ⟨_, rfl⟩
  rw [hN] at h HLc F3 hN256
  clear hN
  have hC : ∀ w, Calls Try.prog 14 #[.int .i64 r, .bool s] w fun e w' => ∃ g cap, e = .returned (.tuple #[.slice (some ⟨g, 0, none⟩) (n + 1) cap, .int .i64 0]) ∧ w'.cell? ⟨g, n, none⟩ = some (.int .i64 N) ∧ Hid (Row w' g cap l) ∧ Below w.heap.size w w' := fun w => (off_row r s w r0 r1).mono fun e w' h => by
    obtain ⟨g, cap, h1, h2, h3, h4⟩ := h
    rw [hl] at h1 h3
    refine ⟨g, cap, by rw [h1, HN.out], ?_, Lib.hid h3, h4⟩
    have := HLc.out _ _ _ h3
    rw [HN.out] at this
    exact this
  have HC := Lib.hid hC
  clear hC hl
  go_enter Try.func18, Try.ntmps18
  go_wp2_with (go_at_call 14; ((with_reducible refine (HC.out _).mono ?_); rintro e w1 ⟨g, cap, rfl, q1, hR, hb⟩))
  clear q1
  go_loop [10] (fun i => ∃ b : Nat, i = .int .i64 b ∧ b < n ∧ Hid (l.getD b 0 ≤ x)) (fun i => n - (intOf i).toNat)
  case atStart => exact ⟨0, rfl, by omega, Lib.hid (by rw [F2.out]; exact x0)⟩
  case round =>
    obtain ⟨b, rfl, hbn, hB⟩ := hrel
    have q2 := hR.out.cell (i := b + 1) (by rw [HN.out]; omega)
    have q5 := H5.out (b + 1) (by rw [HN.out]; omega)
    have HS := Lib.hid (show l.getD (b + 1) 0 = l.getD (b + 1) 0 from rfl)
    have hlast : Hid (b + 1 = n → l.getD (b + 1) 0 = N) := Lib.hid fun e => by
      have := F3.out
      rw [HN.out] at this
      rw [e]; exact this
    obtain ⟨d, hd⟩ : ∃ d, l.getD (b + 1) 0 = d := ⟨_, rfl⟩
    rw [hd] at q2 q5 hlast
    have HD := Lib.hid hd
    clear hd HS
    by_cases hlt : d ≤ x
    · have hbn2 : b + 1 < n := by
        refine Classical.byContradiction fun hc => ?_
        have := hlast.out (by omega)
        omega
      go_wp2
      go_round
      case rel => exact ⟨b + 1, by go_num, hbn2, Lib.hid (by rw [HD.out]; exact hlt)⟩
      case measure => simp [intOf]; omega
    · have hxd : x < d := by omega
      clear hlt
      go_wp2
      go_ret2
      exact ⟨b, rfl, ⟨by rw [HN.out]; omega, hB.out, by rw [HD.out]; exact hxd⟩, hb⟩
end Go.Proofs.Ytnbbjobmaakogaa.Bd

/- What the document's own Offsets does, and what is told of bands and lines. -/
import Derived.Test.YtdkbdigkimomcaaBdRef
import Derived.WalkKit
import Derived.Laws.AppendOwn
import Derived.RegionTactic
import Derived.Deep.QuietTactic
import Derived.BigQuiet
import Derived.ProofKit
import Derived.OpenShut
import Derived.Lib.Hide
namespace Go.Proofs.Ytdkbdigkimomcaa.Bd
open Go Go.ChangeShapes Go.WideShapes Go.ChangeAt Go.RowKit Go.Proofs.Ytdkbdigkimomcaa.Lo

theorem own_made (w : World) (x : Int) : Own w.heap.size (w.alloc (.cells #[.int .i64 x] 3)) (.slice (some ⟨w.heap.size, 0, none⟩) 1 1) [x] :=
  ⟨rfl, .inr ⟨w.heap.size, 1, #[.int .i64 x], rfl, Nat.le_refl _, Go.Deep.blk_alloc_new _ _, Nat.le_refl _, by unfold maxLen; omega, rfl, rfl⟩⟩

set_option maxRecDepth 100000 in
set_option maxHeartbeats 2000000 in
theorem many_bad (r : Int) (s : Bool) (w : World) (h : r < 0 ∨ 11 < r) :
    Calls Try.prog 13 #[.int .i64 r, .bool s] w fun e w' => e = .returned (.tuple #[.int .i64 0, .int .i64 2]) ∧ w = w' := by
  have h := Lib.hid h
  go_enter Try.func13, Try.ntmps13
  go_wp2_with (go_at_call 23; ((with_reducible refine (off_bad r s _ h.out).mono ?_); rintro e w1 ⟨rfl, rfl⟩))
  go_ret2
  exact ⟨rfl, rfl⟩
theorem many_ok (r : Int) (s : Bool) (w : World) (r0 : 0 ≤ r) (r1 : r ≤ 11) :
    Calls Try.prog 13 #[.int .i64 r, .bool s] w fun e w' => e = .returned (.tuple #[.int .i64 ((L r s).length - 1), .int .i64 0]) ∧ Below w.heap.size w w' := by
  obtain ⟨f0, f1, _⟩ := fact r s r0 r1
  go_enter Try.func13, Try.ntmps13
  go_wp2_with (go_at_call 23; ((with_reducible refine (off_row r s _ r0 r1).mono ?_); rintro e w1 ⟨g, cap, rfl, hg, hr, hb⟩))
  go_ret2
  exact ⟨rfl, hb⟩
/-- The band in which a line is. -/
def In (l : List Int) (x : Int) (b : Nat) : Prop := b + 1 < l.length ∧ l.getD b 0 ≤ x ∧ x < l.getD (b + 1) 0
theorem mono_l {l : List Int} (h : ∀ i, i < l.length - 1 → l.getD i 0 < l.getD (i + 1) 0) : ∀ j, j < l.length → ∀ i, i ≤ j → l.getD i 0 ≤ l.getD j 0
  | 0, _, i, hi => by rw [show i = 0 by omega]; exact Int.le_refl _
  | j + 1, hj, i, hi => by
    by_cases e : i = j + 1
    · rw [e]; exact Int.le_refl _
    · have h1 := mono_l h j (by omega) i (by omega)
      have h2 := h j (by omega)
      omega
theorem In.one {l : List Int} {x : Int} {a b : Nat} (h : ∀ i, i < l.length - 1 → l.getD i 0 < l.getD (i + 1) 0) (ha : In l x a) (hb : In l x b) : a = b := by
  obtain ⟨a1, a2, a3⟩ := ha
  obtain ⟨b1, b2, b3⟩ := hb
  by_cases c : a < b
  · have := mono_l h b (by omega) (a + 1) (by omega); omega
  · by_cases d : b < a
    · have := mono_l h a (by omega) (b + 1) (by omega); omega
    · omega

end Go.Proofs.Ytdkbdigkimomcaa.Bd

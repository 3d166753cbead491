/- Plain numbers: how cosines turn. -/
import Derived.Test.YtiaacdkfknailaaTrigCon
import Derived.WalkKit
import Derived.ProofKit
import Derived.OpenShut
import Derived.Lib.Hide
namespace Go.Proofs.Ytiaacdkfknailaa.Fx
open Go Go.ChangeShapes Go.WideShapes Go.ChangeAt Go.RowKit

theorem cosF_same {n m : Int} (h : fold n = fold m) : cosF n = cosF m := by unfold cosF; rw [h]
theorem cosF_neg (n : Int) : cosF (-n) = cosF n := cosF_same (by unfold fold; split <;> split <;> omega)
theorem cosF_circle (n c : Int) : cosF (n + 2048 * c) = cosF n := cosF_same (by unfold fold; split <;> split <;> omega)
theorem cosF_mod (n : Int) : cosF (n % 2048) = cosF n := cosF_same (by unfold fold; split <;> split <;> omega)
theorem first_512 : firstF 512 = 0 := by decide
theorem cosF_half (n : Int) : cosF (n + 1024) = -cosF n := by
  have e : fold (n + 1024) = 1024 - fold n := by unfold fold; split <;> split <;> omega
  have b := fold_bd n
  unfold cosF
  rw [e]
  generalize fold n = f at *
  by_cases h : f = 512
  · subst h; rw [if_neg (by decide), if_neg (by decide), show (1024 : Int) - 512 = 512 by rfl, first_512]; rfl
  · split
    · rw [if_neg (by omega)]; congr 2; omega
    · rw [if_pos (by omega)]; omega
theorem sinF_on (n : Int) : sinF (n + 512) = cosF n := by
  unfold sinF
  exact cosF_same (by unfold fold; split <;> split <;> omega)
theorem sinF_at (n : Int) : sinF n = cosF (n - 512) := by
  unfold sinF
  exact cosF_same (by unfold fold; split <;> split <;> omega)
theorem sinF_neg (n : Int) : sinF (-n) = -sinF n := by
  rw [sinF_at, sinF_at, ← cosF_half, ← cosF_neg]
  congr 1; omega
theorem sinF_bd (n : Int) : -1073741824 ≤ sinF n ∧ sinF n ≤ 1073741824 := cosF_bd _

theorem belowT {w w1 w2 : World} (a : Below w.heap.size w w1) (b : Below w1.heap.size w1 w2) : Below w.heap.size w w2 := a.trans (b.mono a.size)
theorem tcosB {W : World} (n : Int) (w : World) (h : Below W.heap.size W w) :
    Calls Try.prog 25 #[.int .i64 n] w fun e w' => e = .returned (.int .i64 (cosF n)) ∧ Below W.heap.size W w' :=
  (tcos n w).mono fun _ _ ⟨h1, h2⟩ => ⟨h1, belowT h h2⟩
theorem tsinB {W : World} (n : Int) (w : World) (h : Below W.heap.size W w) :
    Calls Try.prog 26 #[.int .i64 n] w fun e w' => e = .returned (.int .i64 (sinF n)) ∧ Below W.heap.size W w' :=
  (tsin n w).mono fun _ _ ⟨h1, h2⟩ => ⟨h1, belowT h h2⟩

theorem talive (w : World) : Calls Try.prog 24 #[] w fun e w' => e = .returned (.bool true) ∧ Below w.heap.size w w' := by
  have e1 : (cosF 0 == 67108864) = true := by decide
  have e2 : (cosF 512 == 0) = true := by decide
  have e3 : (sinF 512 == 67108864) = true := by decide
  go_enter Try.func24, Try.ntmps24
  go_wp2_with (first | (go_at_call 25; refine (tcosB (W := w) _ _ (by first | assumption | exact Below.refl _ _)).mono ?_; rintro e w' ⟨rfl, hb⟩) | (go_at_call 26; refine (tsinB (W := w) _ _ (by first | assumption | exact Below.refl _ _)).mono ?_; rintro e w' ⟨rfl, hb⟩))
  go_ret
  exact ⟨rfl, ‹_›⟩
end Go.Proofs.Ytiaacdkfknailaa.Fx

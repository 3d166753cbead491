/- What lose's calls do. -/
import Derived.Test.YtbblbahllaindaaRows
import Derived.WalkKit
import Derived.RegionTactic
import Derived.ChangeAlike
import Derived.Deep.OwnRows
import Derived.ProofKit
import Derived.OpenShut
import Derived.Lib.Hide
namespace Go.Proofs.Ytbblbahllaindaa.Lo
open Go Go.ChangeShapes Go.WideShapes Go.ChangeAt Go.RowKit

theorem belowT {w w1 w2 : World} (a : Below w.heap.size w w1) (b : Below w1.heap.size w1 w2) : Below w.heap.size w w2 := a.trans (b.mono a.size)

/-- Lines, as they lie in memory. -/
def Rd (w : World) (v : Value) (zs : List Int) : Prop :=
  (∃ a cap, v = .slice a 0 cap ∧ zs = []) ∨
  ∃ b off cap, v = .slice (some ⟨b, off, none⟩) zs.length cap ∧ b < w.heap.size ∧ zs.length ≤ cap ∧ cap ≤ maxLen ∧ ∀ i, i < zs.length → w.cell? ⟨b, off + i, none⟩ = some (.int .i64 (zs.getD i 0))
theorem Rd.below {w w' : World} {v : Value} {zs : List Int} (h : Rd w v zs) (hb : Below w.heap.size w w') : Rd w' v zs := by
  rcases h with h | ⟨b, off, cap, h1, h2, h3, h4, h5⟩
  · exact .inl h
  · exact .inr ⟨b, off, cap, h1, Nat.lt_of_lt_of_le h2 hb.size, h3, h4, fun i hi => (hb.cell (p := ⟨b, off + i, none⟩) h2).trans (h5 i hi)⟩
theorem rd_row {w : World} {g n : Nat} {f : Nat → Int} {zs : List Int} (h : w.rowIs g 3 n (fun j => .int .i64 (f j))) (hn : zs.length = n) (hm : n ≤ maxLen) (hf : ∀ j, j < n → f j = zs.getD j 0) : Rd w (.slice (some ⟨g, 0, none⟩) n n) zs :=
  .inr ⟨g, 0, n, by rw [hn], h.lt, by omega, hm, fun i hi => by rw [Nat.zero_add, h.cell (by omega), hf i (by omega)]⟩

theorem info3 : (Try.prog.info? 3).map (fun i => (i.zero, i.size, i.bytes)) = some (some (.int .i64 0), 1, 8) := by kernel_rfl

/-- A list as far as k, and noughts behind. -/
def fillF (F : Nat → Int) (k : Nat) : Nat → Value := fun j => .int .i64 (if j < k then F j else 0)
theorem fill_step {w : World} {g n k : Nat} {F : Nat → Int} {v : Int} (h : w.rowIs g 3 n (fillF F k)) (hv : v = F k) : (w.setCell ⟨g, k, none⟩ (.int .i64 v)).rowIs g 3 n (fillF F (k + 1)) := by
  refine (h.set k (.int .i64 v)).congr fun i _ => ?_
  unfold fillF
  by_cases e : i = k
  · subst e; simp [hv]
  · by_cases c : i < k
    · simp [e, c, show i < k + 1 by omega]
    · simp [e, c, show ¬ i < k + 1 by omega]
theorem fill_end {w : World} {g n : Nat} {F : Nat → Int} (h : w.rowIs g 3 n (fillF F n)) : w.rowIs g 3 n (fun j => .int .i64 (F j)) :=
  h.congr fun i hi => by unfold fillF; rw [if_pos hi]

/-- All of a list are one number. -/
def InLine (zs : List Int) : Prop := ∀ z ∈ zs, -268435455 ≤ z ∧ z ≤ 268435455
/-- Between what was ahead and what comes behind. -/
def btw (x y W T : Int) : Int := (x * (W - T) + y * T) / W
theorem tdiv_floor {s W : Int} (hW : 0 < W) : (if s < Int.tdiv s W * W then Int.tdiv s W - 1 else Int.tdiv s W) = s / W := by
  have h1 := Int.ediv_mul_le s (show W ≠ 0 by omega)
  have h2 := Int.lt_ediv_add_one_mul_self s hW
  rw [Int.add_mul] at h2
  by_cases h : 0 ≤ s ∨ W ∣ s
  · have e : Int.tdiv s W = s / W := by rw [Int.tdiv_eq_ediv, if_pos h]; omega
    rw [e, if_neg (by omega)]
  · have hs : Int.sign W = 1 := Int.sign_eq_one_of_pos hW
    have e : Int.tdiv s W = s / W + 1 := by rw [Int.tdiv_eq_ediv, if_neg h, hs]
    have h3 : s / W * W ≠ s := fun k => h (.inr ⟨s / W, by rw [Int.mul_comm]; exact k.symm⟩)
    rw [e, Int.add_mul, if_pos (by omega)]
    omega

theorem retI {a b : Int} (h : a = b) : Ending.returned (.int .i64 a) = .returned (.int .i64 b) := by rw [h]
end Go.Proofs.Ytbblbahllaindaa.Lo

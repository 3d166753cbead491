/- The chapter's first example of lost lines holds, wherever it is called. -/
import Derived.Test.YtlogmndophcnjaaLoLines
import Derived.WalkKit
import Derived.ProofKit
import Derived.OpenShut
import Derived.Lib.Hide
namespace Go.Proofs.Ytlogmndophcnjaa.Lo
open Go Go.ChangeShapes Go.WideShapes Go.ChangeAt Go.RowKit

def rep (x : Int) : List Int := List.replicate 256 x
theorem rep_len (x : Int) : (rep x).length = 256 := List.length_replicate
theorem rep_at (x : Int) {j : Nat} (h : j < 256) : (rep x).getD j 0 = x := by
  unfold rep
  rw [List.getD_eq_getElem?_getD, List.getElem?_replicate, if_pos h]
  rfl
theorem rep_mem (x : Int) : ∀ z ∈ rep x, z = x := fun _ h => List.eq_of_mem_replicate h
theorem rep_in {x : Int} (h0 : -268435455 ≤ x) (h1 : x ≤ 268435455) : InLine (rep x) := fun z h => by rw [rep_mem x z h]; exact ⟨h0, h1⟩
theorem rep_rd {w : World} {g : Nat} {x : Int} (h : w.rowIs g 3 256 (fun _ => .int .i64 x)) : Rd w (.slice (some ⟨g, 0, none⟩) 256 256) (rep x) :=
  rd_row (f := fun _ => x) h (rep_len x) (by unfold maxLen; omega) fun j hj => (rep_at x hj).symm
theorem rep_cells {w : World} {g : Nat} {x : Int} (h : w.rowIs g 3 256 (fun _ => .int .i64 x)) : ∀ i, i < 256 → w.cell? ⟨g, 0 + i, none⟩ = some (.int .i64 ((rep x).getD i 0)) := fun i hi => by rw [Nat.zero_add, h.cell hi, rep_at x hi]
theorem six {w : World} {g : Nat} (h : w.rowIs g 3 256 (fun j => .int .i64 (btw ((rep 9).getD j 0) ((rep 3).getD j 0) (1 + 1) 1))) : Rd w (.slice (some ⟨g, 0, none⟩) 256 256) (rep 6) :=
  rep_rd (h.congr fun i hi => by rw [rep_at 9 hi, rep_at 3 hi]; rfl)

theorem lo_alive (w : World) : Calls Try.prog 7 #[] w fun e w' => e = .returned (.bool true) ∧ Below w.heap.size w w' := by
  go_enter Try.func7, Try.ntmps7
  go_wp2_with (first
    | (go_at_call 5; ((with_reducible refine (filled_ok 9 _).mono ?_); rintro e w1 ⟨rfl, hr1, hb1⟩))
    | (go_at_call 5; ((with_reducible refine (filled_ok 3 _).mono ?_); rintro e w2 ⟨rfl, hr2, hb2⟩; have hr3 := hr1.of_block (hb2.block _ hr1.lt)))
    | (go_at_call 4; refine (lines_btw w.heap.size 0 256 w1.heap.size 0 256 (rep 9) (rep 3) 1 1 w2 (by omega) (rep_len 9) (rep_len 3) (rep_in (by omega) (by omega)) (rep_in (by omega) (by omega)) (rep_rd hr3) (rep_rd hr2) hr3.lt hr2.lt (rep_cells hr3) (rep_cells hr2)).mono ?_; rintro e w3 ⟨g, rfl, hr4, hb3⟩)
    | (go_at_call 8; refine (all_yes _ (rep 6) 6 _ (rep_len 6) (rep_mem 6) (six hr4)).mono ?_; rintro e w4 ⟨rfl, rfl⟩))
  go_ret
  exact ⟨rfl, belowT hb1 (belowT hb2 hb3)⟩
end Go.Proofs.Ytlogmndophcnjaa.Lo

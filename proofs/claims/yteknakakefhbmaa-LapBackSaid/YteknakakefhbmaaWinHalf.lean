/- What window's Half does, for its four halves and others, and that it is alive. -/
import Derived.Test.YteknakakefhbmaaWinKbd
import Derived.WalkKit
import Derived.RegionTactic
import Derived.Deep.QuietTactic
import Derived.BigQuiet
import Derived.ChangeAlike
import Derived.Deep.OwnRows
import Derived.ProofKit
import Derived.OpenShut
import Derived.Lib.Hide
namespace Go.Proofs.Yteknakakefhbmaa.Fx
open Go Go.ChangeShapes Go.WideShapes Go.ChangeAt Go.RowKit

theorem half_sl (w : World) : Calls Try.prog 73 #[.int .u8 0, .bool false] w fun e w' => ∃ g, e = .returned (.tuple #[.slice (some ⟨g, 0, none⟩) 256 256, .int .i64 0]) ∧ w.heap.size ≤ g ∧ w'.rowIs g 3 256 (fun j => .int .i64 (win_sl.getD j 0 : Nat)) ∧ Below w.heap.size w w' := by
  go_enter Try.func73, Try.ntmps73
  go_wp2_with (go_at_call 81; ((with_reducible refine (sine_l _).mono ?_); rintro e w1 ⟨rfl, hr, hb⟩; have HR := Lib.hid hr; clear hr))
  go_ret2
  exact ⟨_, rfl, Nat.le_refl _, HR.out, hb⟩

theorem half_ss (w : World) : Calls Try.prog 73 #[.int .u8 0, .bool true] w fun e w' => ∃ g, e = .returned (.tuple #[.slice (some ⟨g, 0, none⟩) 32 32, .int .i64 0]) ∧ w.heap.size ≤ g ∧ w'.rowIs g 3 32 (fun j => .int .i64 (win_ss.getD j 0 : Nat)) ∧ Below w.heap.size w w' := by
  go_enter Try.func73, Try.ntmps73
  go_wp2_with (go_at_call 81; ((with_reducible refine (sine_s _).mono ?_); rintro e w1 ⟨rfl, hr, hb⟩; have HR := Lib.hid hr; clear hr))
  go_ret2
  exact ⟨_, rfl, Nat.le_refl _, HR.out, hb⟩

theorem half_kl (w : World) : Calls Try.prog 73 #[.int .u8 1, .bool false] w fun e w' => ∃ g, e = .returned (.tuple #[.slice (some ⟨g, 0, none⟩) 256 256, .int .i64 0]) ∧ w.heap.size ≤ g ∧ w'.rowIs g 3 256 (fun j => .int .i64 (win_kl.getD j 0 : Nat)) ∧ Below w.heap.size w w' := by
  go_enter Try.func73, Try.ntmps73
  go_wp2_with (go_at_call 82; ((with_reducible refine (kbd_l _).mono ?_); rintro e w1 ⟨g, rfl, hg, hr, hb⟩; have HR := Lib.hid hr; clear hr))
  go_ret2
  exact ⟨_, rfl, hg, HR.out, hb⟩

theorem half_ks (w : World) : Calls Try.prog 73 #[.int .u8 1, .bool true] w fun e w' => ∃ g, e = .returned (.tuple #[.slice (some ⟨g, 0, none⟩) 32 32, .int .i64 0]) ∧ w.heap.size ≤ g ∧ w'.rowIs g 3 32 (fun j => .int .i64 (win_ks.getD j 0 : Nat)) ∧ Below w.heap.size w w' := by
  go_enter Try.func73, Try.ntmps73
  go_wp2_with (go_at_call 82; ((with_reducible refine (kbd_s _).mono ?_); rintro e w1 ⟨g, rfl, hg, hr, hb⟩; have HR := Lib.hid hr; clear hr))
  go_ret2
  exact ⟨_, rfl, hg, HR.out, hb⟩

theorem half_bad (s : Int) (b : Bool) (w : World) (h : 1 < s) : Calls Try.prog 73 #[.int .u8 s, .bool b] w fun e w' => e = .returned (.tuple #[.slice none 0 0, .int .i64 2]) ∧ w = w' := by
  go_enter Try.func73, Try.ntmps73
  go_wp2
  go_ret2
  exact ⟨rfl, rfl⟩
theorem drewN_below (w : World) : ∀ n, Below w.heap.size w (w.drewN n)
  | 0 => Below.refl _ _
  | n + 1 => (drewN_below w n).drew
theorem sl_first : win_sl.getD 0 0 = 12868 := by kernel_rfl
theorem sl_last : win_sl.getD 255 0 = 4194284 := by kernel_rfl
end Go.Proofs.Yteknakakefhbmaa.Fx

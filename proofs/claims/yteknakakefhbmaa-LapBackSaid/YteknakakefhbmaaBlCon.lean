/- What block's own small functions do: halves, lists turned over, repeated. -/
import Derived.Test.YteknakakefhbmaaRk
import Derived.Test.YteknakakefhbmaaWinHalf
import Derived.WalkKit
import Derived.Below
import Derived.RegionTactic
import Derived.Deep.QuietTactic
import Derived.BigQuiet
import Derived.ChangeAlike
import Derived.Deep.OwnRows
import Derived.Deep.RegionLaw
import Derived.ProofKit
import Derived.OpenShut
import Derived.ChangeSlices
import Derived.Lib.Hide
namespace Go.Proofs.Yteknakakefhbmaa.Bl
open Go Go.ChangeShapes Go.WideShapes Go.ChangeAt Go.RowKit Go.Proofs.Yteknakakefhbmaa.Fx Go.Proofs.Yteknakakefhbmaa.Rk

theorem bt {a b c : World} (h : Below a.heap.size a b) (k : Below b.heap.size b c) : Below a.heap.size a c := h.trans (k.mono h.size)
/-- The halves of windows. -/
def hv (sh : Int) (b : Bool) : List Nat := if sh = 0 then (if b then win_ss else win_sl) else (if b then win_ks else win_kl)
def hn (b : Bool) : Nat := if b then 32 else 256
def hf (sh : Int) (b : Bool) (j : Nat) : Int := ((hv sh b).getD j 0 : Nat)
theorem whalf (sh : Int) (b : Bool) (w : World) (h : sh = 0 ∨ sh = 1) : Calls Try.prog 73 #[.int .u8 sh, .bool b] w fun e w' => ∃ g, e = .returned (.tuple #[.slice (some ⟨g, 0, none⟩) (hn b) (hn b), .int .i64 0]) ∧ w.heap.size ≤ g ∧ w'.rowIs g 3 (hn b) (fun j => .int .i64 (hf sh b j)) ∧ Below w.heap.size w w' := by
  rcases h with rfl | rfl <;> cases b
  · exact half_sl w
  · exact half_ss w
  · exact half_kl w
  · exact half_ks w
theorem hn_bd (b : Bool) : 32 ≤ hn b ∧ hn b ≤ 256 := by cases b <;> decide
theorem bhalf (sh : Int) (b : Bool) (w : World) (h : sh = 0 ∨ sh = 1) : Calls Try.prog 64 #[.int .u8 sh, .bool b] w fun e w' => ∃ g, e = .returned (.slice (some ⟨g, 0, none⟩) (hn b) (hn b)) ∧ w.heap.size ≤ g ∧ w'.rowIs g 3 (hn b) (fun j => .int .i64 (hf sh b j)) ∧ Below w.heap.size w w' := by
  have HW := Lib.hid (whalf sh b w h)
  clear h
  obtain ⟨n0, n1⟩ := hn_bd b
  go_enter Try.func64, Try.ntmps64
  go_wp2_with (go_at_call 73; ((with_reducible refine (HW.out).mono ?_); rintro e w1 ⟨g, rfl, hg, hr, hb⟩; have hr1 := Lib.hid hr; clear hr))
  go_ret
  exact ⟨g, rfl, hg, hr1.out, hb⟩

/-- A piece of a row turned over. -/
def rev (off n : Nat) (F : Nat → Int) (j : Nat) : Int := if off ≤ j ∧ j < off + n then F (2 * off + n - 1 - j) else F j
/-- .. as far as k from both its ends. -/
def revk (off n k : Nat) (F : Nat → Int) (j : Nat) : Int := if (off ≤ j ∧ j < off + k) ∨ (off + n ≤ j + k ∧ j < off + n) then F (2 * off + n - 1 - j) else F j
theorem revk_zero (off n : Nat) (F : Nat → Int) (j : Nat) : revk off n 0 F j = F j := by
  unfold revk; rw [if_neg (by omega)]
theorem revk_end {off n k : Nat} (F : Nat → Int) (j : Nat) (h1 : 2 * k ≤ n) (h2 : n ≤ 2 * k + 1) : revk off n k F j = rev off n F j := by
  unfold revk rev
  by_cases h : (off ≤ j ∧ j < off + k) ∨ (off + n ≤ j + k ∧ j < off + n)
  · rw [if_pos h, if_pos (by omega)]
  · rw [if_neg h]
    by_cases h3 : off ≤ j ∧ j < off + n
    · rw [if_pos h3]; congr 1; omega
    · rw [if_neg h3]
theorem revk_step {w : World} {b N off n k m : Nat} {F : Nat → Int} (r : w.rowIs b 3 N (fun j => .int .i64 (revk off n k F j))) (hm : m + k + 1 = n) (hk : k < m) :
    ((w.setCell ⟨b, off + k, none⟩ (.int .i64 (F (off + m)))).setCell ⟨b, off + m, none⟩ (.int .i64 (F (off + k)))).rowIs b 3 N (fun j => .int .i64 (revk off n (k + 1) F j)) := by
  refine ((r.set (off + k) (.int .i64 (F (off + m)))).set (off + m) (.int .i64 (F (off + k)))).congr fun j hj => ?_
  unfold revk
  by_cases h1 : j = off + m
  · rw [if_pos h1, if_pos (by omega)]; congr 2; omega
  · rw [if_neg h1]
    by_cases h2 : j = off + k
    · rw [if_pos h2, if_pos (by omega)]; congr 2; omega
    · rw [if_neg h2]
      by_cases h3 : (off ≤ j ∧ j < off + k) ∨ (off + n ≤ j + k ∧ j < off + n)
      · rw [if_pos h3, if_pos (by omega)]
      · rw [if_neg h3, if_neg (by omega)]
theorem revk_lo {off n k m : Nat} (F : Nat → Int) (hm : m + k + 1 = n) (hk : k < m) : revk off n k F (off + k) = F (off + k) ∧ revk off n k F (off + m) = F (off + m) := by
  unfold revk
  rw [if_neg (by omega), if_neg (by omega)]
  exact ⟨rfl, rfl⟩
set_option maxRecDepth 100000 in
set_option maxHeartbeats 2000000 in
theorem reverse_ok (b off n cap N : Nat) (F : Nat → Int) (w : World) (hn : 1 ≤ n) (hc : n ≤ cap) (hN : off + n ≤ N) (hN2 : N ≤ 1000) (r : w.rowIs b 3 N (fun j => .int .i64 (F j))) :
    Calls Try.prog 65 #[.slice (some ⟨b, off, none⟩) n cap] w fun e w' => e = .returned (.tuple #[]) ∧ w'.rowIs b 3 N (fun j => .int .i64 (rev off n F j)) ∧ Below b w w' := by
  have R0 : Hid (w.rowIs b 3 N (fun j => .int .i64 (revk off n 0 F j))) := Lib.hid (r.congr fun j hj => by rw [revk_zero])
  clear r
  go_enter Try.func65, Try.ntmps65
  go_wp2
  go_loopw [2, 3] (fun i j wr => ∃ k : Nat, 2 * k ≤ n ∧ i = .int .i64 k ∧ j = .int .i64 ((n : Int) - 1 - k) ∧ Hid (wr.rowIs b 3 N (fun j => .int .i64 (revk off n k F j))) ∧ Hid (Below b w wr)) (fun i _ _ => n - (intOf i).toNat)
  case atStart => exact ⟨0, by omega, rfl, by simp, R0, Lib.hid (Below.refl _ _)⟩
  case round =>
    obtain ⟨k, hk, rfl, rfl, hR, hB⟩ := hrel
    by_cases hlt : (k : Int) < (n : Int) - 1 - k
    · obtain ⟨m, hm⟩ : ∃ m : Nat, (n : Int) - 1 - (k : Int) = (m : Int) := ⟨((n : Int) - 1 - (k : Int)).toNat, by omega⟩
      have hm2 : m + k + 1 = n := by omega
      have hkm : k < m := by omega
      obtain ⟨e1, e2⟩ := revk_lo F (off := off) hm2 hkm
      have c1 := hR.out.cell (i := off + k) (by omega)
      have c2 := hR.out.cell (i := off + m) (by omega)
      have f1 := hR.out.frozen (off + k)
      have f2 := hR.out.frozen (off + m)

      rw [e1] at c1
      rw [e2] at c2
      have R1 := Lib.hid (revk_step hR.out hm2 hkm)
      have B1 := Lib.hid ((hB.out.setCell (p := ⟨b, off + k, none⟩) (Nat.le_refl _) (.int .i64 (F (off + m)))).setCell (p := ⟨b, off + m, none⟩) (Nat.le_refl _) (.int .i64 (F (off + k))))
      clear e1 e2 hR hB R0
      rw [hm] at hlt
      rw [hm]
      generalize F (off + k) = X at *
      generalize F (off + m) = Y at *
      have hne : off + k ≠ off + m := by omega
      go_wp2
      go_region
      go_wp2
      go_roundw
      case rel => exact ⟨k + 1, by omega, by go_num, by congr 1; omega, Lib.hid R1.out.drew, Lib.hid B1.out.drew⟩
      case measure => simp [intOf]; omega
    · have R1 := hR.out.congr (g := fun j => .int .i64 (rev off n F j)) fun j hj => by rw [revk_end F j hk (by omega)]
      have B1 := hB.out
      clear hR hB R0
      go_wp2
      go_end0
      exact ⟨rfl, R1, B1⟩
end Go.Proofs.Yteknakakefhbmaa.Bl

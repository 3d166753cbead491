/- Frames of a path: what each hangs on, and that samples come back. -/
import Derived.Test.YteknakakefhbmaaLbMath
import Derived.Test.YteknakakefhbmaaLbOp
import Derived.Test.YteknakakefhbmaaLpPub
import Derived.WalkKit
import Derived.Below
import Derived.RegionTactic
import Derived.Deep.QuietTactic
import Derived.BigQuiet
import Derived.ChangeAlike
import Derived.Deep.OwnRows
import Derived.Deep.RegionLaw
import Derived.ProofKit
import Derived.OpenShut
import Derived.ChangeSlices
import Derived.Lib.Hide
import Derived.Great.Walk
import Derived.ChangeKeysEq
import Derived.ChangeOld
import Derived.ShutString
namespace Go.Proofs.Yteknakakefhbmaa.Lb
open Go Go.ChangeShapes Go.WideShapes Go.ChangeAt Go.RowKit Go.Proofs.Yteknakakefhbmaa.Fx Go.Proofs.Yteknakakefhbmaa.Rk Go.Proofs.Yteknakakefhbmaa.Mm Go.Proofs.Yteknakakefhbmaa.Md Go.Proofs.Yteknakakefhbmaa.Bl Go.Proofs.Yteknakakefhbmaa.Lp Go.Proofs.Yteknakakefhbmaa.Cpy

def fol (a b : Int) : Bool := decide (b ≤ 3) && decide (a ≤ 3) && ((decide (a = 0) || decide (a = 3)) == (decide (b = 0) || decide (b = 1)))
theorem fol_yes {a b : Int} (h : fol a b = true) (a0 : 0 ≤ a) (b0 : 0 ≤ b) : Follows a b ∧ b ≤ 3 := by
  unfold fol at h
  simp only [Bool.and_eq_true, decide_eq_true_eq] at h
  obtain ⟨⟨h1, h2⟩, h3⟩ := h
  refine ⟨?_, h1⟩
  unfold Follows
  have ha : a = 0 ∨ a = 1 ∨ a = 2 ∨ a = 3 := by omega
  have hb : b = 0 ∨ b = 1 ∨ b = 2 ∨ b = 3 := by omega
  rcases ha with rfl | rfl | rfl | rfl <;> rcases hb with rfl | rfl | rfl | rfl <;> first | omega | (exfalso; revert h3; decide)
theorem ret_b {a b : Bool} {w : World} (h : a = b) : Ending.returned (.bool a) = .returned (.bool b) ∧ w = w := ⟨by rw [h], rfl⟩
theorem fol_ok (a b : Int) (w : World) (a0 : 0 ≤ a) (b0 : 0 ≤ b) : Calls Try.prog 30 #[.int .u8 a, .int .u8 b] w fun e w' => e = .returned (.bool (fol a b)) ∧ w = w' := by
  by_cases hb : b ≤ 3
  · by_cases ha : a ≤ 3
    · have ha : a = 0 ∨ a = 1 ∨ a = 2 ∨ a = 3 := by omega
      have hb : b = 0 ∨ b = 1 ∨ b = 2 ∨ b = 3 := by omega
      rcases ha with rfl | rfl | rfl | rfl <;> rcases hb with rfl | rfl | rfl | rfl
      all_goals
        go_enter Try.func30, Try.ntmps30
        go_wp2
        go_ret
        exact ret_b (by decide)
    · have e1 : (a == 0) = false := by simp; omega
      have e2 : (a == 3) = false := by simp; omega
      have hd := Lib.hid (show fol a b = false by unfold fol; simp [ha])
      go_enter Try.func30, Try.ntmps30
      go_wp2
      go_ret
      exact ret_b hd.out.symm
  · have hd := Lib.hid (show fol a b = false by unfold fol; simp [hb])
    by_cases h0 : a = 0
    · subst h0
      go_enter Try.func30, Try.ntmps30
      go_wp2
      go_ret
      exact ret_b hd.out.symm
    · by_cases h3 : a = 3
      · subst h3
        go_enter Try.func30, Try.ntmps30
        go_wp2
        go_ret
        exact ret_b hd.out.symm
      · have e1 : (a == 0) = false := by simpa using h0
        have e2 : (a == 3) = false := by simpa using h3
        go_enter Try.func30, Try.ntmps30
        go_wp2
        go_ret
        exact ret_b hd.out.symm

/-! ### Frames -/
def shp (Z : Nat → Int) (k : Nat) : Int := if k = 0 then 0 else Z (k - 1)
def pcs (L : List Int) (k : Nat) : List Int := (L.drop (256 * k)).take 512
def FA (S Z : Nat → Int) (L : List Int) (k : Nat) : List Int := AL (S k) (shp Z k) (Z k) (pcs L k)
def FT (S Z : Nat → Int) (L : List Int) (k : Nat) : List Int := if k = 0 then zeros 256 else mk 256 (fun j => SL (S (k - 1)) (shp Z (k - 1)) (Z (k - 1)) (FA S Z L (k - 1)) (256 + j))
def OUT (S Z : Nat → Int) (L : List Int) (k : Nat) (n : Nat) : Int := clp (rnd ((FT S Z L k).getD n 0 + SL (S k) (shp Z k) (Z k) (FA S Z L k) n) 4) 16
def was (S : Nat → Int) (k : Nat) : Int := if k = 0 then (if S 0 = 2 ∨ S 0 = 3 then 1 else 0) else S (k - 1)
def sq0 (S : Nat → Int) (k : Nat) : Int := if k = 0 then 0 else S (k - 1)
def GoodP (S Z : Nat → Int) (k : Nat) : Prop := ∀ i, i < k → fol (was S i) (S i) = true ∧ Z i ≤ 1
theorem good_zero (S Z : Nat → Int) : GoodP S Z 0 := fun i h => absurd h (by omega)
theorem good_succ {S Z : Nat → Int} {k : Nat} (h : GoodP S Z k) (hf : fol (was S k) (S k) = true) (hz : Z k ≤ 1) : GoodP S Z (k + 1) := fun i hi => by
  by_cases e : i = k
  · subst e; exact ⟨hf, hz⟩
  · exact h i (by omega)
theorem was_nn {S : Nat → Int} {k : Nat} (h : ∀ i, i < k → 0 ≤ S i) : 0 ≤ was S k := by
  unfold was; split
  · split <;> omega
  · exact h _ (by omega)
theorem shp_bd {S Z : Nat → Int} {k : Nat} (h : GoodP S Z k) (hz : ∀ i, i < k → 0 ≤ Z i) : shp Z k = 0 ∨ shp Z k = 1 := by
  unfold shp; split
  · exact .inl rfl
  · have := h (k - 1) (by omega); have := hz (k - 1) (by omega); omega
theorem pcs_len {L : List Int} {k n : Nat} (h : 256 * (n + 1) ≤ L.length) (hk : k < n) : (pcs L k).length = 512 := by simp [pcs]; omega
theorem pcs_at {L : List Int} {k j : Nat} (hj : j < 512) : (pcs L k).getD j 0 = L.getD (256 * k + j) 0 := by
  simp [pcs, List.getD_eq_getElem?_getD, List.getElem?_take, hj, List.getElem?_drop]
theorem pcs_in {L : List Int} {k n : Nat} (h : 256 * (n + 1) ≤ L.length) (hk : k < n) (hI : InR (-32768) 32767 L) : InR (-32768) 32767 (pcs L k) := fun j hj => by
  rw [pcs_len h hk] at hj
  rw [pcs_at hj]
  exact hI _ (by omega)
theorem pcs_rd {w : World} {g : Nat} {L : List Int} {k n : Nat} (h : 256 * (n + 1) ≤ L.length) (hk : k < n) (r : RdA w (some ⟨g, 0, none⟩) L) : RdA w (some ⟨g, 256 * k, none⟩) (pcs L k) := fun j hj => by
  rw [pcs_len h hk] at hj
  obtain ⟨b, off, e, h1, h2⟩ := r (256 * k + j) (by omega)
  simp only [Option.some.injEq, Addr.mk.injEq, and_true] at e
  obtain ⟨rfl, rfl⟩ := e
  refine ⟨g, 256 * k, rfl, h1, ?_⟩
  rw [pcs_at hj, ← h2, Nat.zero_add]
theorem FT_len (S Z : Nat → Int) (L : List Int) (k : Nat) : (FT S Z L k).length = 256 := by
  unfold FT; split
  · exact zeros_len _
  · exact mk_len _ _
section
variable {S Z : Nat → Int} {L : List Int} {n : Nat} (S0 : ∀ i, i < n → 0 ≤ S i) (Z0 : ∀ i, i < n → 0 ≤ Z i) (hL : 256 * (n + 1) ≤ L.length) (hI : InR (-32768) 32767 L)
include S0 in
theorem s_bd {k : Nat} (h : GoodP S Z (k + 1)) (hk : k < n) : S k ≤ 3 := (fol_yes (h k (by omega)).1 (was_nn fun i hi => S0 i (by omega)) (S0 k hk)).2
include S0 Z0 in
theorem may_k {k : Nat} (h : GoodP S Z (k + 1)) (hk : k < n) : May (S k) (shp Z k) (Z k) := by
  have a := s_bd S0 h hk
  have b := shp_bd (fun i hi => h i (by omega)) (k := k) (fun i hi => Z0 i (by omega))
  have c := (h k (by omega)).2
  exact ⟨a, by omega, c⟩
include hL hI in
theorem FA_in {k : Nat} (hk : k < n) : InR (-268435455) 268435455 (FA S Z L k) := AL_in (pcs_len hL hk) (pcs_in hL hk hI)
include S0 Z0 hL hI in
theorem FT_ok {k : Nat} (h : GoodP S Z k) (hk : k ≤ n) : LapOK (FT S Z L k) (sq0 S k) (shp Z k) := by
  refine ⟨FT_len _ _ _ _, ?_, ?_, ?_⟩
  · unfold sq0; split
    · decide
    · exact s_bd S0 (k := k - 1) (fun i hi => h i (by omega)) (by omega)
  · have := shp_bd h (fun i hi => Z0 i (by omega)); omega
  · unfold FT; split
    · exact zeros_in 256 (by decide) (by decide)
    · refine inR_mk fun j => ?_
      have := syb (show (FA S Z L (k - 1)).length = 256 from AL_len _ _ _ _) (FA_in (S := S) (Z := Z) hL hI (k := k - 1) (by omega)) (seq := S (k - 1)) (was := shp Z (k - 1)) (shape := Z (k - 1)) (256 + j)
      omega
include S0 Z0 hL hI in
theorem next_k {k : Nat} (h : GoodP S Z (k + 1)) (hk : k < n) : nO (FT S Z L k) (sq0 S k) (shp Z k) (S k) (Z k) (FA S Z L k) = ⟨FT S Z L (k + 1), S k, Z k, mk 256 (OUT S Z L k), 0⟩ := by
  rw [nO_good (FT_ok S0 Z0 hL hI (fun i hi => h i (by omega)) (by omega)) (may_k S0 Z0 h hk) (show (FA S Z L k).length = 256 from AL_len _ _ _ _) (FA_in hL hI hk)]
  rfl
include S0 Z0 hL hI in
theorem out_k {k : Nat} (h : GoodP S Z (k + 1)) (hk : k < n) (h1 : 1 ≤ k) {j : Nat} (hj : j < 256) : -2 ≤ OUT S Z L k j - L.getD (256 * k + j) 0 ∧ OUT S Z L k j - L.getD (256 * k + j) 0 ≤ 2 := by
  have f := (fol_yes (h k (by omega)).1 (was_nn fun i hi => S0 i (by omega)) (S0 k hk)).1
  have ew : was S k = S (k - 1) := if_neg (by omega)
  have es : shp Z k = Z (k - 1) := if_neg (by omega)
  rw [ew] at f
  have m0 := shp_bd (fun i hi => h i (by omega)) (k := k) (fun i hi => Z0 i (by omega))
  have m1 : Z k = 0 ∨ Z k = 1 := by have := (h k (by omega)).2; have := Z0 k hk; omega
  have t := two (a := S (k - 1)) (b := S k) (was := shp Z (k - 1)) (mid := shp Z k) (shape := Z k) (P := pcs L (k - 1)) (Q := pcs L k) f m0 m1 (pcs_len hL (by omega)) (pcs_len hL hk) (pcs_in hL (by omega) hI) (pcs_in hL hk hI)
    (fun i hi => by rw [pcs_at (by omega), pcs_at (by omega)]; congr 1; omega) hj
  rw [pcs_at (by omega)] at t
  have x := hI (256 * k + j) (by omega)
  have e : (FT S Z L k).getD j 0 = SL (S (k - 1)) (shp Z (k - 1)) (Z (k - 1)) (FA S Z L (k - 1)) (256 + j) := by
    unfold FT; rw [if_neg (by omega)]; exact mk_at hj
  unfold OUT
  rw [e]
  unfold FA
  rw [es] at t ⊢
  exact near_out t x.1 x.2
end
end Go.Proofs.Yteknakakefhbmaa.Lb

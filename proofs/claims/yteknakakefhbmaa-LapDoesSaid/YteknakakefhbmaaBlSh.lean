/- Of Shorts each window stands alone. -/
import Derived.Test.YteknakakefhbmaaBlUn
import Derived.WalkKit
import Derived.Below
import Derived.RegionTactic
import Derived.Deep.QuietTactic
import Derived.BigQuiet
import Derived.ChangeAlike
import Derived.Deep.OwnRows
import Derived.Deep.RegionLaw
import Derived.ProofKit
import Derived.OpenShut
import Derived.ChangeSlices
import Derived.Lib.Hide
import Derived.Great.Walk
import Derived.ChangeKeysEq
import Derived.ChangeOld
import Derived.ShutString
namespace Go.Proofs.Yteknakakefhbmaa.Bl
open Go Go.ChangeShapes Go.WideShapes Go.ChangeAt Go.RowKit Go.Proofs.Yteknakakefhbmaa.Fx Go.Proofs.Yteknakakefhbmaa.Rk Go.Proofs.Yteknakakefhbmaa.Mm Go.Proofs.Yteknakakefhbmaa.Md Go.Proofs.Yteknakakefhbmaa.Cpy

/-- A piece of a list, and noughts about it. -/
def cut (P m : Nat) (L : List Int) (j : Nat) : Int := if P ≤ j ∧ j < P + m then L.getD j 0 else 0
theorem cut_zero (P : Nat) (L : List Int) (j : Nat) : cut P 0 L j = 0 := by unfold cut; rw [if_neg (by omega)]
theorem cut_step {w : World} {g N P m : Nat} {L : List Int} {v : Int} (r : w.rowIs g 3 N (fun j => .int .i64 (cut P m L j))) (hv : v = L.getD (P + m) 0) : (w.setCell ⟨g, P + m, none⟩ (.int .i64 v)).rowIs g 3 N (fun j => .int .i64 (cut P (m + 1) L j)) := by
  refine (r.set (P + m) (.int .i64 v)).congr fun i _ => ?_
  unfold cut
  by_cases e : i = P + m
  · rw [if_pos e, if_pos (by omega), hv, e]
  · rw [if_neg e]
    by_cases c : P ≤ i ∧ i < P + m
    · rw [if_pos c, if_pos (by omega)]
    · rw [if_neg c, if_neg (by omega)]
theorem cut_start {w : World} {g N P : Nat} {L : List Int} (r : w.rowIs g 3 N (fun _ => .int .i64 0)) : w.rowIs g 3 N (fun j => .int .i64 (cut P 0 L j)) := r.congr fun i _ => by rw [cut_zero]
theorem cut_in {lo hi : Int} {P m n : Nat} {L : List Int} (h0 : lo ≤ 0) (h1 : 0 ≤ hi) (h : InR lo hi L) : InR lo hi (mk n (cut P m L)) := inR_mk fun j => by
  unfold cut
  split
  · by_cases hj : j < L.length
    · exact h j hj
    · rw [List.getD_eq_getElem?_getD, List.getElem?_eq_none (by omega)]; exact ⟨h0, h1⟩
  · exact ⟨h0, h1⟩
theorem row_rda {w : World} {g n : Nat} {F : Nat → Int} (r : w.rowIs g 3 n (fun j => .int .i64 (F j))) (hg : g < w.heap.size) : RdA w (some ⟨g, 0, none⟩) (mk n F) := cells_rd hg (mk_len _ _) fun j hj => by rw [mk_at hj]; exact r.cell hj
theorem anT_at {was shape : Int} {L : List Int} {k i : Nat} (hi : i < 32) : ∀ K, k < K → (anT was shape L K).getD (32 * k + i) 0 = (anT1 was shape L k).getD i 0
  | 0, h => absurd h (by omega)
  | K + 1, h => by
    simp only [anT]
    rw [getD_append, anT_len]
    by_cases e : k = K
    · subst e; rw [if_neg (by omega), show 32 * k + i - 32 * k = i by omega]
    · rw [if_pos (by omega)]; exact anT_at hi K (by omega)
theorem drop_getD (L : List Int) (p j : Nat) : (L.drop p).getD j 0 = L.getD (p + j) 0 := by simp [List.getD_eq_getElem?_getD, List.getElem?_drop]
theorem anT1_cut {was shape : Int} {L : List Int} {k : Nat} (hk : k < 8) : anT1 was shape (mk 512 (cut (112 + 32 * k) 64 L)) k = anT1 was shape L k := by
  unfold anT1
  have e : mk 64 (un (wt (if k = 0 then was else shape) shape) ((mk 512 (cut (112 + 32 * k) 64 L)).drop (112 + 32 * k)) 14) = mk 64 (un (wt (if k = 0 then was else shape) shape) (L.drop (112 + 32 * k)) 14) := mk_congr fun j hj => by
    unfold un
    rw [drop_getD, drop_getD, mk_at (by omega)]
    unfold cut
    rw [if_pos (by omega)]
  rw [e]
theorem an_cut {was shape : Int} {L : List Int} {k i : Nat} (hk : k < 8) (hi : i < 32) : (AL 2 was shape (mk 512 (cut (112 + 32 * k) 64 L))).getD (32 * k + i) 0 = (AL 2 was shape L).getD (32 * k + i) 0 := by
  unfold AL
  rw [if_pos rfl, if_pos rfl, anT_at hi 8 hk, anT_at hi 8 hk, anT1_cut hk]
theorem seg_getD (L : List Int) (k i : Nat) : (seg L k).getD i 0 = if i < 32 then L.getD (32 * k + i) 0 else 0 := by
  unfold seg
  rw [List.getD_eq_getElem?_getD, List.getElem?_take]
  split
  · simp [List.getD_eq_getElem?_getD, List.getElem?_drop]
  · rfl
theorem bk_congr {x y : List Int} {m s b : Int} (h : ∀ i, x.getD i 0 = y.getD i 0) (n : Nat) : bk x m s b n = bk y m s b n := by
  unfold bk
  rw [show (fun k => x.getD k 0) = fun k => y.getD k 0 from funext h]
theorem syU_same {was shape : Int} {L : List Int} {k : Nat} (hk : k < 8) (j : Nat) : syU was shape (mk 256 (cut (32 * k) 32 L)) k j = syU was shape L k j := by
  unfold syU
  have e : mk 64 (bk (seg (mk 256 (cut (32 * k) 32 L)) k) 32 8 23) = mk 64 (bk (seg L k) 32 8 23) := mk_congr fun j _ => bk_congr (fun i => by
    rw [seg_getD, seg_getD]
    split
    · rw [mk_at (by omega)]; unfold cut; rw [if_pos (by omega)]
    · rfl) j
  rw [e]
theorem syU_none {was shape : Int} {L : List Int} {k K : Nat} (hK : K < 8) (h : K ≠ k) (j : Nat) : syU was shape (mk 256 (cut (32 * k) 32 L)) K j = 0 :=
  un_zero _ _ _ (by decide) (fun i => mk_zero (fun i => bk_zero (by decide) (fun i => by
    rw [seg_getD]
    split
    · rw [mk_at (by omega)]; unfold cut; rw [if_neg (by omega)]
    · rfl) i) i) _
theorem syT_cut {was shape : Int} {L : List Int} {k : Nat} (hk : k < 8) (j : Nat) : ∀ K, K ≤ 8 → syT was shape (mk 256 (cut (32 * k) 32 L)) K j = if k < K ∧ 112 + 32 * k ≤ j ∧ j < 112 + 32 * k + 64 then syU was shape L k (j - (112 + 32 * k)) else 0
  | 0, _ => by rw [if_neg (by omega)]; rfl
  | K + 1, hK => by
    simp only [syT, addF]
    rw [syT_cut hk j K (by omega)]
    by_cases e : K = k
    · subst e
      rw [syU_same hk]
      by_cases c : 112 + 32 * K ≤ j ∧ j < 112 + 32 * K + 64
      · rw [if_pos c, if_neg (by omega), if_pos (by omega), Int.zero_add]
      · rw [if_neg c, if_neg (by omega), if_neg (by omega)]
    · rw [syU_none (by omega) e, Int.add_zero, ite_self]
      by_cases c : k < K ∧ 112 + 32 * k ≤ j ∧ j < 112 + 32 * k + 64
      · rw [if_pos c, if_pos (by omega)]
      · rw [if_neg c, if_neg (by omega)]
theorem SL_cut {was shape : Int} {L : List Int} {k : Nat} (hk : k < 8) (j : Nat) : SL 2 was shape (mk 256 (cut (32 * k) 32 L)) j = if 112 + 32 * k ≤ j ∧ j < 112 + 32 * k + 64 then syU was shape L k (j - (112 + 32 * k)) else 0 := by
  unfold SL
  rw [if_pos rfl, syT_cut hk j 8 (by omega)]
  by_cases c : 112 + 32 * k ≤ j ∧ j < 112 + 32 * k + 64
  · rw [if_pos c, if_pos (by omega)]
  · rw [if_neg c, if_neg (by omega)]
theorem SL_cut_out {was shape : Int} {L : List Int} {k : Nat} (hk : k < 8) (j : Nat) (h : ¬ (112 + 32 * k ≤ j ∧ j < 112 + 32 * k + 64)) : SL 2 was shape (mk 256 (cut (32 * k) 32 L)) j = 0 := by rw [SL_cut hk, if_neg h]
theorem sum_cut {was shape : Int} {L : List Int} {k : Nat} (hk : k < 8) (j : Nat) : syT was shape L k j + SL 2 was shape (mk 256 (cut (32 * k) 32 L)) j = syT was shape L (k + 1) j := by
  rw [SL_cut hk]
  simp only [syT, addF]
  split
  · rfl
  · exact Int.add_zero _
/-- The first numbers are the next ones already. -/
def mixF (F G : Nat → Int) (n j : Nat) : Int := if j < n then G j else F j
theorem mix_step {w : World} {g N n : Nat} {F G : Nat → Int} {v : Int} (r : w.rowIs g 3 N (fun j => .int .i64 (mixF F G n j))) (hv : v = G n) : (w.setCell ⟨g, n, none⟩ (.int .i64 v)).rowIs g 3 N (fun j => .int .i64 (mixF F G (n + 1) j)) := by
  refine (r.set n (.int .i64 v)).congr fun i _ => ?_
  unfold mixF
  by_cases e : i = n
  · rw [if_pos e, if_pos (by omega), hv, e]
  · rw [if_neg e]
    by_cases c : i < n
    · rw [if_pos c, if_pos (by omega)]
    · rw [if_neg c, if_neg (by omega)]
end Go.Proofs.Yteknakakefhbmaa.Bl

/- Block is alive. -/
import Derived.Test.YteknakakefhbmaaBlPub
import Derived.Great.Walk
import Derived.ChangeKeysEq
import Derived.ChangeOld
import Derived.WalkKit
import Derived.Below
import Derived.RegionTactic
import Derived.Deep.QuietTactic
import Derived.BigQuiet
import Derived.ChangeAlike
import Derived.Deep.OwnRows
import Derived.Deep.RegionLaw
import Derived.ProofKit
import Derived.OpenShut
import Derived.ChangeSlices
import Derived.Lib.Hide
namespace Go.Proofs.Yteknakakefhbmaa.Bl
open Go Go.ChangeShapes Go.WideShapes Go.ChangeAt Go.RowKit Go.Proofs.Yteknakakefhbmaa.Fx Go.Proofs.Yteknakakefhbmaa.Rk Go.Proofs.Yteknakakefhbmaa.Mm Go.Proofs.Yteknakakefhbmaa.Md

/-- A list of the call's own that holds something, opened. -/
theorem own_open {base : Nat} {w : World} {v : Value} {L : List Int} {n : Nat} (h : Fx.Own base w v L) (hn : L.length = n) (h0 : 0 < n) : ∃ g cap, v = .slice (some ⟨g, 0, none⟩) n cap ∧ base ≤ g ∧ g < w.heap.size ∧ n ≤ cap ∧ cap ≤ maxLen ∧ (∀ j, j < n → w.cell? ⟨g, j, none⟩ = some (.int .i64 (L.getD j 0))) ∧ ∀ j, w.frozen? ⟨g, j, none⟩ = false := by
  subst hn
  obtain ⟨h1, h2⟩ := h
  rcases h2 with ⟨_, h⟩ | ⟨g, cap, cur, h, h3, h4, h5, h6, h7, h8⟩
  · omega
  · refine ⟨g, cap, h, h3, (Array.getElem?_eq_some_iff.1 h4).1, h5, h6, fun j hj => ?_, fun j => by simp [World.frozen?, h4]⟩
    have hj2 : (cur.toList.take (L.length * 1))[j]? = (L.map (Value.int .i64))[j]? := by rw [h8]
    rw [Nat.mul_one, List.getElem?_take, if_pos hj] at hj2
    simp only [World.cell?, h4]
    simp [hj] at hj2 ⊢
    rw [hj2]
theorem un_zero (ws : List Int) (ls : List Int) (b : Int) (hb : 0 ≤ b) (h : ∀ j, ls.getD j 0 = 0) (j : Nat) : un ws ls b j = 0 := by
  unfold un
  rw [h, Int.zero_mul]
  unfold rnd
  split
  · rfl
  · have hp : (0 : Int) < 2 ^ (b.toNat - 1) := Int.pow_pos (by decide)
    have e : (2 : Int) ^ b.toNat = 2 * 2 ^ (b.toNat - 1) := pow_succ' (by omega)
    rw [e]
    exact Int.ediv_eq_zero_of_lt (by omega) (by omega)
theorem rnd_zero {b : Int} (hb : 0 ≤ b) : rnd 0 b = 0 := by
  unfold rnd
  split
  · rfl
  · have hp : (0 : Int) < 2 ^ (b.toNat - 1) := Int.pow_pos (by decide)
    have e : (2 : Int) ^ b.toNat = 2 * 2 ^ (b.toNat - 1) := pow_succ' (by omega)
    rw [e]
    exact Int.ediv_eq_zero_of_lt (by omega) (by omega)
theorem mk_zero {n : Nat} {F : Nat → Int} (h : ∀ j, F j = 0) (j : Nat) : (mk n F).getD j 0 = 0 := by
  by_cases hj : j < n
  · rw [mk_at hj, h]
  · simp [mk, List.getD_eq_getElem?_getD, show n ≤ j by omega]
theorem fw_zero {z : List Int} {m s : Int} (h : ∀ j, z.getD j 0 = 0) (k : Nat) : fw z m s k = 0 := by
  unfold fw
  rw [ds_zero _ (fun j _ => h j)]
  exact rnd_zero (by decide)
theorem bk_zero {x : List Int} {m s b : Int} (hb : 0 ≤ b) (h : ∀ j, x.getD j 0 = 0) (k : Nat) : bk x m s b k = 0 := by
  unfold bk
  rw [ds_zero _ (fun j _ => h j)]
  exact rnd_zero hb
theorem getD_append (a b : List Int) (j : Nat) : (a ++ b).getD j 0 = if j < a.length then a.getD j 0 else b.getD (j - a.length) 0 := by
  by_cases h : j < a.length
  · rw [if_pos h]; simp [List.getD_eq_getElem?_getD, List.getElem?_append_left h]
  · rw [if_neg h]; simp [List.getD_eq_getElem?_getD, List.getElem?_append_right (show a.length ≤ j by omega)]
theorem drop_zero {L : List Int} (h : ∀ j, L.getD j 0 = 0) (p j : Nat) : (L.drop p).getD j 0 = 0 := by
  have := h (p + j)
  simpa [List.getD_eq_getElem?_getD, List.getElem?_drop] using this
theorem seg_zero {L : List Int} (h : ∀ j, L.getD j 0 = 0) (k j : Nat) : (seg L k).getD j 0 = 0 := by
  have := h (32 * k + j)
  unfold seg
  rw [List.getD_eq_getElem?_getD, List.getElem?_take]
  split
  · simpa [List.getD_eq_getElem?_getD, List.getElem?_drop] using this
  · rfl
theorem anT_zero {was shape : Int} {pcm : List Int} (h : ∀ j, pcm.getD j 0 = 0) : ∀ k j, (anT was shape pcm k).getD j 0 = 0
  | 0, j => by simp [anT]
  | k + 1, j => by
    simp only [anT]
    rw [getD_append]
    split
    · exact anT_zero h k j
    · exact mk_zero (fun i => fw_zero (fun i => mk_zero (fun i => un_zero _ _ _ (by decide) (fun i => drop_zero h _ i) i) i) i) _
theorem anL_zero {seq was shape : Int} {pcm : List Int} (h : ∀ j, pcm.getD j 0 = 0) (j : Nat) : (anL seq was shape pcm).getD j 0 = 0 :=
  mk_zero (fun i => fw_zero (fun i => mk_zero (fun i => un_zero _ _ _ (by decide) h i) i) i) _
theorem syT_zero {was shape : Int} {L : List Int} (h : ∀ j, L.getD j 0 = 0) : ∀ k j, syT was shape L k j = 0
  | 0, j => rfl
  | k + 1, j => by
    simp only [syT, addF]
    rw [syT_zero h k j]
    have : ∀ i, syU was shape L k i = 0 := fun i => un_zero _ _ _ (by decide) (fun i => mk_zero (fun i => bk_zero (by decide) (seg_zero h k) i) i) i
    rw [this]; simp
theorem lyT_zero {seq was shape : Int} {L : List Int} (h : ∀ j, L.getD j 0 = 0) : ∀ k j, lyT seq was shape L k j = 0
  | 0, j => rfl
  | k + 1, j => by
    simp only [lyT, addF]
    rw [lyT_zero h k j]
    have : ∀ i, lyU seq was shape L i = 0 := fun i => un_zero _ _ _ (by decide) (fun i => mk_zero (fun i => bk_zero (by decide) h i) i) i
    rw [this]; simp
def zeros (n : Nat) : List Int := List.replicate n 0
theorem zeros_len (n : Nat) : (zeros n).length = n := List.length_replicate ..
theorem zeros_at (n j : Nat) : (zeros n).getD j 0 = 0 := by
  unfold zeros
  rw [List.getD_eq_getElem?_getD, List.getElem?_replicate]
  split <;> rfl
theorem zeros_in {lo hi : Int} (n : Nat) (h0 : lo ≤ 0) (h1 : 0 ≤ hi) : InR lo hi (zeros n) := inR_rep h0 h1
theorem zeros_rd (w : World) (n : Nat) : RdA (w.alloc (.cells (madeCells #[.int .i64 0] n) 3)) (some ⟨w.heap.size, 0, none⟩) (zeros n) := rep_rd (World.rowIs_made w (.int .i64 0) n 3)
theorem own_yes {base : Nat} {w : World} {v : Value} {L : List Int} {n : Nat} {m : Int} (h : Fx.Own base w v L) (hn : L.length = n) (h0 : 0 < n) (hs : n ≤ 1000) (hm : m = n) (hz : ∀ j, L.getD j 0 = 0) : ∃ g cap, v = .slice (some ⟨g, 0, none⟩) n cap ∧ ∀ w', w'.heap[g]? = w.heap[g]? → Calls Try.prog 17 #[.slice (some ⟨g, 0, none⟩) n cap, .int .i64 m] w' fun e w'' => e = .returned (.bool true) ∧ w' = w'' := by
  obtain ⟨g, cap, h1, h2, h3, h4, h5, h6, h7⟩ := own_open h hn h0
  refine ⟨g, cap, h1, fun w' hw => noughts_yes (some ⟨g, 0, none⟩) cap L n m w' hm hn hs (fun i hi => ⟨g, 0, rfl, ?_, ?_⟩) (fun j _ => hz j)⟩
  · have : w'.heap[g]? = some w.heap[g] := by rw [hw]; simp [h3]
    exact (Array.getElem?_eq_some_iff.1 this).1
  · rw [Nat.zero_add, World.cell?_of_block (w := w) hw]
    exact h6 i (by omega)
theorem wv_300 : (wv 1 0 0).getD 300 0 = 4194304 := by decide +kernel
theorem wv_511 : (wv 1 0 0).getD 511 0 = 0 := by decide +kernel
theorem wv_0 : (wv 1 0 0).getD 0 0 = 12868 := by decide +kernel
theorem wO_start : wO 1 0 0 = (wv 1 0 0, 0) := if_neg (by decide)
theorem aO_z : aO 2 0 1 (zeros 512) = (anT 0 1 (zeros 512) 8, 0) := by
  unfold aO
  rw [if_neg (by decide), if_neg (by rw [zeros_len]; decide), if_neg (by simpa using zeros_in 512 (by decide) (by decide))]
  rfl
set_option maxRecDepth 100000 in
set_option maxHeartbeats 4000000 in
theorem alive_ok (w : World) : Calls Try.prog 16 #[] w fun e w' => e = .returned (.bool true) ∧ Below w.heap.size w w' := by
  obtain ⟨i0, hi, hz0, hz1, hz2⟩ := info_parts Fx.info3
  have HW := Lib.hid (window_O 1 0 0 w (by decide) (by decide) (by decide))
  rw [wO_start] at HW
  have HA := Lib.hid (fun (W : World) => analyse_O 2 0 1 (some ⟨W.heap.size, 0, none⟩) 512 512 (zeros 512) (W.alloc (.cells (madeCells #[.int .i64 0] 512) 3)) (by decide) (by decide) (by decide) (zeros_len _) (Nat.le_refl _) (by unfold maxLen; omega) (zeros_rd W 512))
  rw [aO_z] at HA
  go_enter Try.func16, Try.ntmps16
  go_wp2_with first
    | (go_at_call 13; ((with_reducible refine (HW.out).mono ?_); rintro e w1 ⟨v1, rfl, ho1, hb1⟩; obtain ⟨g1, cap1, rfl, hg1, hg2, hc1, hc2, hc3, hf3⟩ := own_open ho1 (wv_len 1 0 0) (by decide); have B1 := Lib.hid hb1; have C300 := hc3 300 (by decide); have C511 := hc3 511 (by decide); have C0 := hc3 0 (by decide); dsimp only at C300 C511 C0; rw [wv_300] at C300; rw [wv_511] at C511; rw [wv_0] at C0; clear ho1 hb1 hc3 hf3))
    | (refine wpList_make_row _ rfl _ _ 22 rfl 3 i0 (.int .i64 0) Try.underlying22 hi hz0 hz1 rfl .i64 .i64 512 rfl rfl (by rw [hz2]; omega) (by omega) ?_)
    | (go_at_call 15; ((with_reducible refine (HA.out _).mono ?_); rintro e w2 ⟨v2, rfl, ho2, hb2⟩; obtain ⟨g2, cap2, rfl, HN⟩ := own_yes ho2 (anT_len 0 1 (zeros 512) 8) (by decide) (by decide) (m := 256) (by decide) (anT_zero (zeros_at 512) 8); have B2 := Lib.hid (((Below.refl w1.heap.size w1).alloc (Nat.le_refl _) (.cells (madeCells #[.int .i64 0] 512) 3)).trans (hb2.mono (by simp))); have D300 := (B2.out.cell (p := ⟨g1, 300, none⟩) hg2).trans C300; have D511 := (B2.out.cell (p := ⟨g1, 511, none⟩) hg2).trans C511; have D0 := (B2.out.cell (p := ⟨g1, 0, none⟩) hg2).trans C0; clear ho2 hb2))
    | (go_at_call 17; ((with_reducible refine (HN _ rfl).mono ?_); rintro e w3 ⟨rfl, rfl⟩))
  go_ret
  exact ⟨rfl, bt B1.out B2.out⟩
end Go.Proofs.Yteknakakefhbmaa.Bl

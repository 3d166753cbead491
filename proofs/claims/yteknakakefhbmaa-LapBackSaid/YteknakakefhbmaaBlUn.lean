/- What a sample under no window turns. -/
import Derived.Test.YteknakakefhbmaaBlPow
import Derived.Test.YteknakakefhbmaaCpy
import Derived.WalkKit
import Derived.Below
import Derived.Deep.OwnRows
namespace Go.Proofs.Yteknakakefhbmaa.Bl
open Go Go.ChangeShapes Go.WideShapes Go.ChangeAt Go.RowKit Go.Proofs.Yteknakakefhbmaa.Fx Go.Proofs.Yteknakakefhbmaa.Rk Go.Proofs.Yteknakakefhbmaa.Mm Go.Proofs.Yteknakakefhbmaa.Md

theorem fw_in {z : List Int} {m s : Int} {N : Nat} (hN : (2 * m).toNat = N) (hN2 : N ≤ 512) (hz : ∀ j, j < N → -8388608 ≤ z.getD j 0 ∧ z.getD j 0 ≤ 8388608) (k : Nat) : -268435455 ≤ fw z m s k ∧ fw z m s k ≤ 268435455 := by
  unfold fw
  have a := ds_bd (f := fun n => z.getD n 0) (c := cw m s (k : Int)) (M := 8388608) (fun j => cos_bd _) N hz
  rw [hN]
  generalize ds (fun n => z.getD n 0) (cw m s (k : Int)) N = S at *
  have q := rnd_near (n := S) (b := 33) (by decide)
  have e1 : (2 : Int) ^ ((33 : Int).toNat - 1) = 4294967296 := by decide
  have e2 : (2 : Int) ^ (33 : Int).toNat = 8589934592 := by decide
  rw [e1, e2] at q
  omega
/-- Lines of samples, and numbers of lines. -/
def AL (seq was shape : Int) (pcm : List Int) : List Int := if seq = 2 then anT was shape pcm 8 else anL seq was shape pcm
def SL (seq was shape : Int) (lines : List Int) (j : Nat) : Int := if seq = 2 then syT was shape lines 8 j else lyT seq was shape lines 1 j
theorem AL_len (seq was shape : Int) (pcm : List Int) : (AL seq was shape pcm).length = 256 := by
  unfold AL; split
  · exact anT_len _ _ _ 8
  · exact mk_len _ _
theorem anT_in {was shape : Int} {pcm : List Int} (hl : pcm.length = 512) (h : InR (-32768) 32767 pcm) : ∀ k, k ≤ 8 → InR (-268435455) 268435455 (anT was shape pcm k)
  | 0, _ => fun j hj => by simp [anT] at hj
  | k + 1, hk => inR_app (anT_in hl h k (by omega)) (inR_mk fun j => fw_in rfl (by decide) (fun i hi => un_in (wt_in _ _) (inR_drop h) (by rw [wt_len]; omega) (by simp [hl]; omega) i (by rw [mk_len]; exact hi)) j)
theorem AL_in {seq was shape : Int} {pcm : List Int} (hl : pcm.length = 512) (h : InR (-32768) 32767 pcm) : InR (-268435455) 268435455 (AL seq was shape pcm) := by
  unfold AL; split
  · exact anT_in hl h 8 (by decide)
  · exact inR_mk fun j => fw_in rfl (by decide) (fun i hi => un_in (wv_in _ _ _) h (by rw [wv_len]; omega) (by omega) i (by rw [mk_len]; exact hi)) j
theorem aO_good {seq was shape : Int} {pcm : List Int} (hM : May seq was shape) (hl : pcm.length = 512) (hI : InR (-32768) 32767 pcm) : aO seq was shape pcm = (AL seq was shape pcm, 0) := by
  unfold aO; rw [if_neg (by simpa using hM), if_neg (by simpa using hl), if_neg (by simpa using hI)]; rfl
theorem sO_good {seq was shape : Int} {lines : List Int} (hM : May seq was shape) (hl : lines.length = 256) (hI : InR (-268435455) 268435455 lines) : sO seq was shape lines = (mk 512 (SL seq was shape lines), 0) := by
  unfold sO SL; rw [if_neg (by simpa using hM), if_neg (by simpa using hl), if_neg (by simpa using hI)]
  split <;> rfl
theorem aO_bad {seq was shape : Int} {pcm : List Int} (h : ¬ (May seq was shape ∧ pcm.length = 512 ∧ InR (-32768) 32767 pcm)) : ∃ c, aO seq was shape pcm = ([], c) ∧ (c != 0) = true := by
  unfold aO
  by_cases h1 : May seq was shape
  · rw [if_neg (by simpa using h1)]
    by_cases h2 : pcm.length = 512
    · rw [if_neg (by simpa using h2), if_pos (fun h3 => h ⟨h1, h2, h3⟩)]
      exact ⟨2, rfl, rfl⟩
    · rw [if_pos h2]
      exact ⟨4, rfl, rfl⟩
  · rw [if_pos h1]
    exact ⟨2, rfl, rfl⟩
theorem getD_set (L : List Int) (i j : Nat) (x : Int) : (L.set i x).getD j 0 = if i = j ∧ i < L.length then x else L.getD j 0 := by
  rw [List.getD_eq_getElem?_getD, List.getElem?_set]
  by_cases h : i = j
  · subst h
    by_cases h2 : i < L.length
    · simp [h2]
    · simp [h2]
  · simp [h]
theorem un_same {ws : List Int} {L : List Int} {at_ p : Nat} {x b : Int} (j : Nat) (h : at_ = p + j → ws.getD j 0 = 0) : un ws ((L.set at_ x).drop p) b j = un ws (L.drop p) b j := by
  unfold un
  have e : ∀ l : List Int, (l.drop p).getD j 0 = l.getD (p + j) 0 := fun l => by simp [List.getD_eq_getElem?_getD, List.getElem?_drop]
  rw [e, e, getD_set]
  split
  · rename_i hq; rw [h hq.1, Int.mul_zero, Int.mul_zero]
  · rfl
theorem anT_same {was shape : Int} {L : List Int} {at_ : Nat} {x : Int} (h : at_ < 112 ∨ 400 ≤ at_) : ∀ k, k ≤ 8 → anT was shape (L.set at_ x) k = anT was shape L k
  | 0, _ => rfl
  | k + 1, hk => by
    have e : mk 64 (un (wt (if k = 0 then was else shape) shape) ((L.set at_ x).drop (112 + 32 * k)) 14) = mk 64 (un (wt (if k = 0 then was else shape) shape) (L.drop (112 + 32 * k)) 14) := mk_congr fun j hj => un_same j (fun e => by omega)
    simp only [anT, anT_same h k (by omega), anT1]
    rw [e]
theorem anL_same {seq was shape : Int} {L : List Int} {at_ : Nat} {x : Int} (h : (wv seq was shape).getD at_ 0 = 0) : anL seq was shape (L.set at_ x) = anL seq was shape L := by
  have e : mk 512 (un (wv seq was shape) (L.set at_ x) 14) = mk 512 (un (wv seq was shape) L 14) := mk_congr fun j hj => by
    have := un_same (ws := wv seq was shape) (L := L) (at_ := at_) (p := 0) (x := x) (b := 14) j (fun e => by rw [e, Nat.zero_add] at h; exact h)
    exact this
  unfold anL
  rw [e]
theorem start_zero {was shape : Int} {n : Nat} (h : 400 ≤ n) (h2 : n < 512) : (wv 1 was shape).getD n 0 = 0 := by
  have := hi_start (was := was) (mid := shape) (n := n - 256) (by omega)
  rw [show 256 + (n - 256) = n by omega, if_neg (by omega), if_neg (by omega)] at this
  exact this
theorem stop_zero {was shape : Int} {n : Nat} (h : n < 112) : (wv 3 was shape).getD n 0 = 0 := by
  rw [lo_stop (by omega), if_pos h]
def Bare (seq : Int) (n : Nat) : Prop := (seq = 2 ∧ (n < 112 ∨ 400 ≤ n)) ∨ (seq = 1 ∧ 400 ≤ n) ∨ (seq = 3 ∧ n < 112)
theorem AL_same {seq was shape : Int} {L : List Int} {n : Nat} {x : Int} (h : Bare seq n) (hn : n < 512) : AL seq was shape (L.set n x) = AL seq was shape L := by
  unfold AL
  rcases h with ⟨rfl, h⟩ | ⟨rfl, h⟩ | ⟨rfl, h⟩
  · rw [if_pos rfl, if_pos rfl]; exact anT_same h 8 (by decide)
  · rw [if_neg (by decide), if_neg (by decide)]; exact anL_same (start_zero h hn)
  · rw [if_neg (by decide), if_neg (by decide)]; exact anL_same (stop_zero h)
theorem syT_out {was shape : Int} {L : List Int} {n : Nat} (h : n < 112 ∨ 400 ≤ n) : ∀ k, k ≤ 8 → syT was shape L k n = 0
  | 0, _ => rfl
  | k + 1, hk => by
    simp only [syT, addF]
    rw [if_neg (by omega)]
    exact syT_out h k (by omega)
theorem lyT_out {seq was shape : Int} {L : List Int} {n : Nat} (h : (wv seq was shape).getD n 0 = 0) : lyT seq was shape L 1 n = 0 := by
  simp only [lyT, addF]
  split
  · unfold lyU un
    rw [Nat.sub_zero, h, Int.mul_zero, rnd_zero (by decide)]; rfl
  · rfl
theorem SL_out {seq was shape : Int} {L : List Int} {n : Nat} (h : Bare seq n) (hn : n < 512) : SL seq was shape L n = 0 := by
  unfold SL
  rcases h with ⟨rfl, h⟩ | ⟨rfl, h⟩ | ⟨rfl, h⟩
  · rw [if_pos rfl]; exact syT_out h 8 (by decide)
  · rw [if_neg (by decide)]; exact lyT_out (start_zero h hn)
  · rw [if_neg (by decide)]; exact lyT_out (stop_zero h)
/-- A row of the call's own, as it may be written to. -/
theorem own_rowV {base : Nat} {w : World} {v : Value} {L : List Int} {n : Nat} (h : Fx.Own base w v L) (hn : L.length = n) (h0 : 0 < n) : ∃ g cap F, v = .slice (some ⟨g, 0, none⟩) n cap ∧ base ≤ g ∧ n ≤ cap ∧ cap ≤ maxLen ∧ w.rowIs g 3 cap F ∧ ∀ j, j < n → F j = .int .i64 (L.getD j 0) := by
  subst hn
  obtain ⟨hx, h⟩ := h
  rcases h with ⟨_, h⟩ | ⟨g, cap, cur, e, hg, hh, hc, hm, hs, ht⟩
  · omega
  · refine ⟨g, cap, fun j => cur[j]?.getD (.int .i64 0), e, hg, hc, hm, ⟨cur, hh, by omega, fun i hi => ?_⟩, fun j hj => ?_⟩
    · have : i < cur.size := by omega
      simp [this]
    · have e : (cur.toList.take (L.length * 1))[j]? = (L.map (Value.int .i64))[j]? := by rw [ht]
      rw [List.getElem?_take_of_lt (by omega), List.getElem?_map] at e
      show cur[j]?.getD _ = _
      rw [← Array.getElem?_toList, e]
      simp [hj]
theorem set_rd {w : World} {g cap n i : Nat} {F : Nat → Value} {L : List Int} {x : Int} (r : w.rowIs g 3 cap F) (hn : L.length = n) (hc : n ≤ cap) (hF : ∀ j, j < n → F j = .int .i64 (L.getD j 0)) : RdA (w.setCell ⟨g, i, none⟩ (.int .i64 x)) (some ⟨g, 0, none⟩) (L.set i x) := fun j hj => by
  have hj2 : j < n := by simpa [hn] using hj
  refine ⟨g, 0, rfl, (r.set i _).lt, ?_⟩
  rw [Nat.zero_add, (r.set i (.int .i64 x)).cell (by omega), getD_set]
  by_cases e : j = i
  · rw [if_pos e, if_pos ⟨e.symm, by omega⟩]
  · rw [if_neg e, if_neg (fun q => e q.1.symm), hF j hj2]
theorem set_in {lo hi x : Int} {L : List Int} {i : Nat} (h : InR lo hi L) (h0 : lo ≤ x) (h1 : x ≤ hi) : InR lo hi (L.set i x) := fun j hj => by
  rw [getD_set]
  split
  · exact ⟨h0, h1⟩
  · exact h j (by simpa using hj)
theorem cells_rd {w : World} {g n : Nat} {L : List Int} (hl : g < w.heap.size) (hn : L.length = n) (h : ∀ j, j < n → w.cell? ⟨g, j, none⟩ = some (.int .i64 (L.getD j 0))) : RdA w (some ⟨g, 0, none⟩) L := fun j hj => ⟨g, 0, rfl, hl, by rw [Nat.zero_add]; exact h j (by omega)⟩
end Go.Proofs.Yteknakakefhbmaa.Bl

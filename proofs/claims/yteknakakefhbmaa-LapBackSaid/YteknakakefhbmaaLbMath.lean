/- There and back through overlapping windows: to 29 sixteenths. -/
import Derived.Test.YteknakakefhbmaaMdNear
import Derived.Test.YteknakakefhbmaaBlPow
import Derived.Test.YteknakakefhbmaaBlUn
namespace Go.Proofs.Yteknakakefhbmaa.Lb
open Go Go.Proofs.Yteknakakefhbmaa.Fx Go.Proofs.Yteknakakefhbmaa.Mm Go.Proofs.Yteknakakefhbmaa.Md Go.Proofs.Yteknakakefhbmaa.Bl Go.Proofs.Yteknakakefhbmaa.Rk

theorem rnd14 (x : Int) : -8192 ≤ x - rnd x 14 * 16384 ∧ x - rnd x 14 * 16384 ≤ 8192 := by
  have q := rnd_near (n := x) (b := 14) (by decide)
  have e1 : (2 : Int) ^ ((14 : Int).toNat - 1) = 8192 := by decide
  have e2 : (2 : Int) ^ (14 : Int).toNat = 16384 := by decide
  rw [e1, e2] at q
  omega
theorem rnd26 (x : Int) : -33554432 ≤ x - rnd x 26 * 67108864 ∧ x - rnd x 26 * 67108864 ≤ 33554432 := by
  have q := rnd_near (n := x) (b := 26) (by decide)
  have e1 : (2 : Int) ^ ((26 : Int).toNat - 1) = 33554432 := by decide
  have e2 : (2 : Int) ^ (26 : Int).toNat = 67108864 := by decide
  rw [e1, e2] at q
  omega
theorem rnd_0 {b : Int} (hb : 0 ≤ b) : rnd 0 b = 0 := rnd_zero hb
/-- What a window's rising half makes of a sample, and of its mirror; and a falling one. -/
def Rise (V x u r f : Int) : Prop := ∃ y, V = rnd (y * r) 26 ∧ -305 ≤ y - (rnd (x * r) 14 - rnd (u * f) 14) ∧ y - (rnd (x * r) 14 - rnd (u * f) 14) ≤ 305
def Fall (V x u f r : Int) : Prop := ∃ y, V = rnd (y * f) 26 ∧ -305 ≤ y - (rnd (x * f) 14 + rnd (u * r) 14) ∧ y - (rnd (x * f) 14 + rnd (u * r) 14) ≤ 305
theorem Rise.none {V x u f : Int} (h : Rise V x u 0 f) : V = 0 := by
  obtain ⟨y, e, _⟩ := h; rw [e, Int.mul_zero]; exact rnd_0 (by decide)
theorem Fall.none {V x u r : Int} (h : Fall V x u 0 r) : V = 0 := by
  obtain ⟨y, e, _⟩ := h; rw [e, Int.mul_zero]; exact rnd_0 (by decide)
def Near (V x : Int) : Prop := -29 ≤ V - 16 * x ∧ V - 16 * x ≤ 29
theorem Rise.alone {V x u : Int} (h : Rise V x u 4194304 0) : Near V x := by
  obtain ⟨y, e, h1, h2⟩ := h
  rw [Int.mul_zero, rnd_0 (by decide)] at h1 h2
  have a := rnd14 (x * 4194304)
  have b := rnd26 (y * 4194304)
  rw [← e] at b
  generalize rnd (x * 4194304) 14 = X at *
  unfold Near
  omega
theorem Fall.alone {V x u : Int} (h : Fall V x u 4194304 0) : Near V x := by
  obtain ⟨y, e, h1, h2⟩ := h
  rw [Int.mul_zero, rnd_0 (by decide)] at h1 h2
  have a := rnd14 (x * 4194304)
  have b := rnd26 (y * 4194304)
  rw [← e] at b
  generalize rnd (x * 4194304) 14 = X at *
  unfold Near
  omega
theorem sum_bd {f r : Int} (f0 : 0 ≤ f) (r0 : 0 ≤ r) (h : f * f + r * r ≤ 17592219598848) : f + r ≤ 5931648 := by
  by_cases c : f + r ≤ 5931648
  · exact c
  · have a : 0 ≤ (f + r - 5931649) * (f + r + 5931649) := Int.mul_nonneg (by omega) (by omega)
    have b : 0 ≤ (f - r) * (f - r) := by
      by_cases k : r ≤ f
      · exact Int.mul_nonneg (by omega) (by omega)
      · have := Int.mul_nonneg (a := r - f) (b := r - f) (by omega) (by omega)
        grind
    have d : (f + r) * (f + r) ≥ 5931649 * 5931649 := by grind
    have e : (f + r) * (f + r) + (f - r) * (f - r) = 2 * (f * f + r * r) := by grind
    omega
theorem ea_bd {E f M : Int} (h0 : -M ≤ E) (h1 : E ≤ M) (f0 : 0 ≤ f) : -(M * f) ≤ E * f ∧ E * f ≤ M * f := by
  have a : 0 ≤ (M - E) * f := Int.mul_nonneg (by omega) f0
  have b : 0 ≤ (M + E) * f := Int.mul_nonneg (by omega) f0
  constructor <;> grind
theorem pair {V1 V2 x u f r : Int} (ha : Fall V1 x u f r) (hb : Rise V2 x u r f) (f0 : 0 ≤ f) (r0 : 0 ≤ r) (x0 : -32768 ≤ x) (x1 : x ≤ 32767) (hs0 : 17592152489984 ≤ f * f + r * r) (hs1 : f * f + r * r ≤ 17592219598848) : Near (V1 + V2) x := by
  obtain ⟨ya, e1, a1, a2⟩ := ha
  obtain ⟨yb, e2, b1, b2⟩ := hb
  have p1 := rnd14 (x * f)
  have p2 := rnd14 (u * r)
  have p3 := rnd14 (x * r)
  have p4 := rnd14 (u * f)
  have q1 := rnd26 (ya * f)
  have q2 := rnd26 (yb * r)
  rw [← e1] at q1
  rw [← e2] at q2
  clear e1 e2
  generalize rnd (x * f) 14 = X1 at *
  generalize rnd (u * r) 14 = X2 at *
  generalize rnd (x * r) 14 = X3 at *
  generalize rnd (u * f) 14 = X4 at *
  obtain ⟨Ea, hEa⟩ : ∃ E, E = 16384 * ya - (x * f + u * r) := ⟨_, rfl⟩
  obtain ⟨Eb, hEb⟩ : ∃ E, E = 16384 * yb - (x * r - u * f) := ⟨_, rfl⟩
  have k1 := ea_bd (E := Ea) (M := 5013504) (by omega) (by omega) f0
  have k2 := ea_bd (E := Eb) (M := 5013504) (by omega) (by omega) r0
  have hsum := sum_bd f0 r0 hs1
  have id1 : 16384 * (ya * f) + 16384 * (yb * r) = x * (f * f + r * r) + (Ea * f + Eb * r) := by rw [hEa, hEb]; grind
  have hx : -1099511627776 ≤ x * (f * f + r * r) - x * 17592186044416 ∧ x * (f * f + r * r) - x * 17592186044416 ≤ 1099511627776 := by
    have := mul_bd (x := x) (y := f * f + r * r - 17592186044416) (M := 32768) (E := 33554432) (by omega) (by omega) (by omega) (by omega)
    rw [Int.mul_sub] at this
    omega
  generalize f * f + r * r = S at *
  generalize x * S = xS at *
  generalize Ea * f = A1 at *
  generalize Eb * r = A2 at *
  generalize ya * f = Y1 at *
  generalize yb * r = Y2 at *
  clear a1 a2 b1 b2 p1 p2 p3 p4 hEa hEb hs0 hs1
  unfold Near
  omega
/-- The sample itself, rounded and kept. -/
theorem near_out {V x : Int} (h : Near V x) (x0 : -32768 ≤ x) (x1 : x ≤ 32767) : -2 ≤ clp (rnd V 4) 16 - x ∧ clp (rnd V 4) 16 - x ≤ 2 := by
  unfold Near at h
  have q := rnd_near (n := V) (b := 4) (by decide)
  have e1 : (2 : Int) ^ ((4 : Int).toNat - 1) = 8 := by decide
  have e2 : (2 : Int) ^ (4 : Int).toNat = 16 := by decide
  rw [e1, e2] at q
  have e : clp (rnd V 4) 16 = min (max (rnd V 4) (-32768)) 32767 := rfl
  rw [e]
  omega

/-! ### A long window -/
theorem un_at {ws ls : List Int} {N : Nat} {b : Int} {j : Nat} (h : j < N) : (mk N (un ws ls b)).getD j 0 = rnd (ls.getD j 0 * ws.getD j 0) b := mk_at h
theorem lyT_at {seq was shape : Int} {L : List Int} {n : Nat} (h : n < 512) : lyT seq was shape L 1 n = rnd (bk L 256 1 26 n * (wv seq was shape).getD n 0) 26 := by
  simp only [lyT, addF]
  rw [if_pos (by omega), Int.zero_add]
  unfold lyU un
  rw [Nat.sub_zero, mk_at h]
theorem z_in {ws ls : List Int} {N : Nat} (hw : InR 0 4194304 ws) (hl : InR (-32768) 32767 ls) (hn : N ≤ ws.length) (hm : N ≤ ls.length) : ∀ j, j < N → -8388608 ≤ (mk N (un ws ls 14)).getD j 0 ∧ (mk N (un ws ls 14)).getD j 0 ≤ 8388608 := fun j hj => un_in hw hl hn hm j (by rw [mk_len]; exact hj)
theorem long_lo {seq was shape : Int} {pcm : List Int} (hs : seq ≠ 2) (hl : pcm.length = 512) (hI : InR (-32768) 32767 pcm) {n : Nat} (hn : n < 256) :
    Rise (SL seq was shape (AL seq was shape pcm) n) (pcm.getD n 0) (pcm.getD (255 - n) 0) ((wv seq was shape).getD n 0) ((wv seq was shape).getD (255 - n) 0) := by
  unfold SL AL
  rw [if_neg hs, if_neg hs, lyT_at (by omega)]
  refine ⟨_, rfl, ?_⟩
  have h := near256 (mk 512 (un (wv seq was shape) pcm 14)) (z_in (wv_in _ _ _) hI (by rw [wv_len]; omega) (by omega)) (anL seq was shape pcm) (fun k hk => mk_at hk) n _ (lo256 _ n hn)
  rw [un_at (by omega), un_at (by omega)] at h
  exact h
theorem long_hi {seq was shape : Int} {pcm : List Int} (hs : seq ≠ 2) (hl : pcm.length = 512) (hI : InR (-32768) 32767 pcm) {n : Nat} (hn : n < 256) :
    Fall (SL seq was shape (AL seq was shape pcm) (256 + n)) (pcm.getD (256 + n) 0) (pcm.getD (511 - n) 0) ((wv seq was shape).getD (256 + n) 0) ((wv seq was shape).getD (511 - n) 0) := by
  unfold SL AL
  rw [if_neg hs, if_neg hs, lyT_at (by omega)]
  refine ⟨_, rfl, ?_⟩
  have h := near256 (mk 512 (un (wv seq was shape) pcm 14)) (z_in (wv_in _ _ _) hI (by rw [wv_len]; omega) (by omega)) (anL seq was shape pcm) (fun k hk => mk_at hk) (256 + n) _ (hi256 _ (256 + n) (by omega) (by omega))
  rw [un_at (by omega), show 767 - (256 + n) = 511 - n by omega, un_at (by omega)] at h
  exact h

/-! ### Short windows -/
theorem wt_lo {was shape : Int} {j : Nat} (h : j < 32) : (wt was shape).getD j 0 = hf was true j := by
  simp only [wt, acc, pT]
  rw [at_app, if_pos (by simp [pc_len]; exact h)]
  simp only [List.nil_append]
  exact mk_at h
theorem wt_hi {was shape : Int} {j : Nat} (h : j < 32) : (wt was shape).getD (32 + j) 0 = hf shape true (31 - j) := by
  simp only [wt, acc, pT]
  rw [at_app, if_neg (by simp [pc_len])]
  simp only [List.nil_append, pc_len]
  simp only [pc]
  rw [show 32 + j - _ = j by simp]
  exact mk_at h
def sw (was shape : Int) (k : Nat) : Int := if k = 0 then was else shape
theorem seg_an (was shape : Int) (pcm : List Int) : ∀ (m k : Nat), k < m → ∀ j, j < 32 → (anT was shape pcm m).getD (32 * k + j) 0 = (anT1 was shape pcm k).getD j 0
  | 0, _, h, _, _ => by omega
  | m + 1, k, h, j, hj => by
    simp only [anT]
    rw [at_app, anT_len]
    by_cases c : k < m
    · rw [if_pos (by omega)]
      exact seg_an was shape pcm m k c j hj
    · obtain rfl : k = m := by omega
      rw [if_neg (by omega), show 32 * k + j - 32 * k = j by omega]
theorem seg_at (L : List Int) (k j : Nat) (hj : j < 32) : (seg L k).getD j 0 = L.getD (32 * k + j) 0 := by
  simp [seg, List.getD_eq_getElem?_getD, List.getElem?_take, hj, List.getElem?_drop]
theorem drop_at (L : List Int) (k j : Nat) : (L.drop k).getD j 0 = L.getD (k + j) 0 := by simp [List.getD_eq_getElem?_getD, List.getElem?_drop]
theorem syU_at {was shape : Int} {L : List Int} {k j : Nat} (h : j < 64) : syU was shape L k j = rnd (bk (seg L k) 32 8 23 j * (wt (sw was shape k) shape).getD j 0) 26 := by
  unfold syU un
  rw [mk_at h]; rfl
theorem short_near {was shape : Int} {pcm : List Int} (hl : pcm.length = 512) (hI : InR (-32768) 32767 pcm) {k : Nat} (hk : k < 8) (j : Nat) (W : Int)
    (hW : sg (fun l => (mk 64 (un (wt (sw was shape k) shape) (pcm.drop (112 + 32 * k)) 14)).getD l 0 * (dw 32 8 ((l : Int) + j + 1 + (32 : Nat)) + dw 32 8 ((l : Int) - j))) 64 = 2147483648 * W) :
    -305 ≤ bk (seg (anT was shape pcm 8) k) 32 8 23 j - W ∧ bk (seg (anT was shape pcm 8) k) 32 8 23 j - W ≤ 305 :=
  near32 (mk 64 (un (wt (sw was shape k) shape) (pcm.drop (112 + 32 * k)) 14)) (z_in (wt_in _ _) (inR_drop hI) (by rw [wt_len]; omega) (by simp [hl]; omega)) (seg (anT was shape pcm 8) k)
    (fun i hi => by rw [seg_at _ _ _ hi, seg_an was shape pcm 8 k hk i hi]; exact mk_at hi) j W hW
theorem short_lo {was shape : Int} {pcm : List Int} (hl : pcm.length = 512) (hI : InR (-32768) 32767 pcm) {k : Nat} (hk : k < 8) {j : Nat} (hj : j < 32) :
    Rise (syU was shape (anT was shape pcm 8) k j) (pcm.getD (112 + 32 * k + j) 0) (pcm.getD (112 + 32 * k + (31 - j)) 0) (hf (sw was shape k) true j) (hf (sw was shape k) true (31 - j)) := by
  rw [syU_at (by omega), wt_lo hj]
  refine ⟨_, rfl, ?_⟩
  have h := short_near (was := was) (shape := shape) hl hI hk j _ (lo32 _ j hj)
  rw [un_at (by omega), un_at (by omega), drop_at, drop_at, wt_lo hj, wt_lo (by omega)] at h
  exact h
theorem short_hi {was shape : Int} {pcm : List Int} (hl : pcm.length = 512) (hI : InR (-32768) 32767 pcm) {k : Nat} (hk : k < 8) {j : Nat} (hj : j < 32) :
    Fall (syU was shape (anT was shape pcm 8) k (32 + j)) (pcm.getD (112 + 32 * k + (32 + j)) 0) (pcm.getD (112 + 32 * k + (63 - j)) 0) (hf shape true (31 - j)) (hf shape true j) := by
  rw [syU_at (by omega), wt_hi hj]
  refine ⟨_, rfl, ?_⟩
  have h := short_near (was := was) (shape := shape) hl hI hk (32 + j) _ (hi32 _ (32 + j) (by omega) (by omega))
  have e := wt_hi (was := sw was shape k) (shape := shape) (j := 31 - j) (by omega)
  rw [show 32 + (31 - j) = 63 - j by omega, show 31 - (31 - j) = j by omega] at e
  rw [un_at (by omega), show 95 - (32 + j) = 63 - j by omega, un_at (by omega), drop_at, drop_at, wt_hi hj, e] at h
  exact h
theorem syT_two (was shape : Int) (L : List Int) (i j : Nat) (hj : j < 32) : ∀ k, syT was shape L k (112 + 32 * i + j) = (if 1 ≤ i ∧ i - 1 < k then syU was shape L (i - 1) (32 + j) else 0) + (if i < k then syU was shape L i j else 0)
  | 0 => by rw [if_neg (by omega), if_neg (by omega)]; rfl
  | k + 1 => by
    simp only [syT, addF]
    rw [syT_two was shape L i j hj k]
    by_cases a : i = k
    · subst a
      rw [if_pos (by omega), show 112 + 32 * i + j - (112 + 32 * i) = j by omega]
      by_cases c : 1 ≤ i
      · rw [if_pos (by omega), if_neg (by omega), if_pos (by omega), if_pos (by omega)]; omega
      · rw [if_neg (by omega), if_neg (by omega), if_neg (by omega), if_pos (by omega)]; omega
    · by_cases b : i = k + 1
      · subst b
        rw [if_pos (by omega), show 112 + 32 * (k + 1) + j - (112 + 32 * k) = 32 + j by omega, if_neg (by omega), if_neg (by omega), if_pos (by omega), if_neg (by omega), show k + 1 - 1 = k by omega]; omega
      · rw [if_neg (by omega)]
        by_cases c : i < k
        · by_cases d : 1 ≤ i
          · rw [if_pos (by omega), if_pos (by omega), if_pos (by omega), if_pos (by omega)]
          · rw [if_neg (by omega), if_pos (by omega), if_neg (by omega), if_pos (by omega)]
        · rw [if_neg (by omega), if_neg (by omega), if_neg (by omega), if_neg (by omega)]
/-- Within Shorts: two windows over one place. -/
theorem short_in {was shape : Int} {pcm : List Int} (hl : pcm.length = 512) (hI : InR (-32768) 32767 pcm) (hm : shape = 0 ∨ shape = 1) {p : Nat} (h0 : 144 ≤ p) (h1 : p < 368) :
    Near (SL 2 was shape (AL 2 was shape pcm) p) (pcm.getD p 0) := by
  obtain ⟨i, j, hj, hi, hi8, rfl⟩ : ∃ i j, j < 32 ∧ 1 ≤ i ∧ i < 8 ∧ p = 112 + 32 * i + j := ⟨(p - 112) / 32, (p - 112) % 32, by omega, by omega, by omega, by omega⟩
  unfold SL AL
  rw [if_pos rfl, if_pos rfl, syT_two _ _ _ i j hj 8, if_pos (by omega), if_pos (by omega)]
  have a := short_hi (was := was) (shape := shape) hl hI (k := i - 1) (by omega) hj
  have b := short_lo (was := was) (shape := shape) hl hI (k := i) (by omega) hj
  rw [show 112 + 32 * (i - 1) + (32 + j) = 112 + 32 * i + j by omega, show 112 + 32 * (i - 1) + (63 - j) = 112 + 32 * i + (31 - j) by omega] at a
  rw [show sw was shape i = shape by unfold sw; rw [if_neg (by omega)]] at b
  have x := hI (112 + 32 * i + j) (by omega)
  exact pair a b (hf_in _ _ _).1 (hf_in _ _ _).1 x.1 x.2 (sq_s shape hm j hj).1 (sq_s shape hm j hj).2
theorem short_first {was shape : Int} {pcm : List Int} (hl : pcm.length = 512) (hI : InR (-32768) 32767 pcm) {n : Nat} (h0 : 112 ≤ n) (h1 : n < 144) :
    Rise (SL 2 was shape (AL 2 was shape pcm) n) (pcm.getD n 0) (pcm.getD (255 - n) 0) (hf was true (n - 112)) (hf was true (143 - n)) := by
  obtain ⟨j, rfl⟩ : ∃ j, n = 112 + 32 * 0 + j := ⟨n - 112, by omega⟩
  unfold SL AL
  rw [if_pos rfl, if_pos rfl, syT_two _ _ _ 0 j (by omega) 8, if_neg (by omega), if_pos (by omega), Int.zero_add]
  have b := short_lo (was := was) (shape := shape) hl hI (k := 0) (by omega) (j := j) (by omega)
  rw [show sw was shape 0 = was from if_pos rfl, show 112 + 32 * 0 + (31 - j) = 255 - (112 + 32 * 0 + j) by omega, show 31 - j = 143 - (112 + 32 * 0 + j) by omega] at b
  rw [show 112 + 32 * 0 + j - 112 = j by omega]
  exact b
theorem short_last {was shape : Int} {pcm : List Int} (hl : pcm.length = 512) (hI : InR (-32768) 32767 pcm) {n : Nat} (h0 : 112 ≤ n) (h1 : n < 144) :
    Fall (SL 2 was shape (AL 2 was shape pcm) (256 + n)) (pcm.getD (256 + n) 0) (pcm.getD (511 - n) 0) (hf shape true (143 - n)) (hf shape true (n - 112)) := by
  obtain ⟨j, rfl⟩ : ∃ j, n = 112 + j := ⟨n - 112, by omega⟩
  unfold SL AL
  rw [if_pos rfl, if_pos rfl, show 256 + (112 + j) = 112 + 32 * 8 + j by omega, syT_two _ _ _ 8 j (by omega) 8, if_pos (by omega), if_neg (by omega), Int.add_zero]
  have a := short_hi (was := was) (shape := shape) hl hI (k := 8 - 1) (by omega) (j := j) (by omega)
  rw [show 112 + 32 * (8 - 1) + (32 + j) = 112 + 32 * 8 + j by omega, show 112 + 32 * (8 - 1) + (63 - j) = 511 - (112 + j) by omega, show 31 - j = 143 - (112 + j) by omega] at a
  rw [show 112 + j - 112 = j by omega]
  exact a
theorem short_out {was shape : Int} {L : List Int} {n : Nat} (h : n < 112 ∨ 400 ≤ n) : SL 2 was shape L n = 0 := by
  unfold SL; rw [if_pos rfl]; exact syT_out h 8 (by omega)

/-! ### Two frames -/
def Follows (a b : Int) : Prop := ((a = 0 ∨ a = 3) ∧ (b = 0 ∨ b = 1)) ∨ ((a = 1 ∨ a = 2) ∧ (b = 2 ∨ b = 3))
theorem two {a b was mid shape : Int} {P Q : List Int} (hf : Follows a b) (hm : mid = 0 ∨ mid = 1) (hs : shape = 0 ∨ shape = 1) (lp : P.length = 512) (lq : Q.length = 512) (ip : InR (-32768) 32767 P) (iq : InR (-32768) 32767 Q)
    (hh : ∀ n, n < 256 → P.getD (256 + n) 0 = Q.getD n 0) {n : Nat} (hn : n < 256) :
    Near (SL a was mid (AL a was mid P) (256 + n) + SL b mid shape (AL b mid shape Q) n) (Q.getD n 0) := by
  have x := iq n (by omega)
  have em : P.getD (511 - n) 0 = Q.getD (255 - n) 0 := by rw [← hh (255 - n) (by omega)]; congr 1; omega
  have e0 := hh n hn
  rcases hf with ⟨ha, hb⟩ | ⟨ha, hb⟩
  · have h1 := long_hi (seq := a) (was := was) (shape := mid) (by omega) lp ip hn
    have h2 := long_lo (seq := b) (was := mid) (shape := shape) (by omega) lq iq hn
    have k1 := hi_long (one := a) (was := was) (mid := mid) ha (n := n) hn
    have k2 := hi_long (one := a) (was := was) (mid := mid) ha (n := 255 - n) (by omega)
    have k3 := lo_long (two := b) (mid := mid) (shape := shape) hb (n := n) hn
    have k4 := lo_long (two := b) (mid := mid) (shape := shape) hb (n := 255 - n) (by omega)
    rw [show 256 + (255 - n) = 511 - n by omega, show 255 - (255 - n) = n by omega] at k2
    rw [e0, em, k1, k2] at h1
    rw [k3, k4] at h2
    exact pair h1 h2 (hf_in _ _ _).1 (hf_in _ _ _).1 x.1 x.2 (sq_l mid hm n hn).1 (sq_l mid hm n hn).2
  · have sq := fun (c : 112 ≤ n ∧ n < 144) => sq_s mid hm (n - 112) (by omega)
    rcases ha with rfl | rfl
    · have h1 := long_hi (seq := 1) (was := was) (shape := mid) (by omega) lp ip hn
      have k1 := hi_start (was := was) (mid := mid) (n := n) hn
      have k2 := hi_start (was := was) (mid := mid) (n := 255 - n) (by omega)
      rw [show 256 + (255 - n) = 511 - n by omega] at k2
      rw [e0, em, k1, k2] at h1
      rcases hb with rfl | rfl
      · by_cases c1 : n < 112
        · rw [if_pos c1, if_neg (by omega), if_neg (by omega)] at h1
          rw [short_out (.inl c1), Int.add_zero]
          exact h1.alone
        · by_cases c2 : n < 144
          · rw [if_neg c1, if_pos c2, if_neg (by omega), if_pos (by omega), show 31 - (255 - n - 112) = n - 112 by omega, show 31 - (n - 112) = 143 - n by omega] at h1
            have h2 := short_first (was := mid) (shape := shape) lq iq (n := n) (by omega) c2
            have s := sq ⟨by omega, c2⟩
            rw [show 31 - (n - 112) = 143 - n by omega] at s
            exact pair h1 h2 (hf_in _ _ _).1 (hf_in _ _ _).1 x.1 x.2 s.1 s.2
          · rw [if_neg c1, if_neg c2] at h1
            rw [h1.none, Int.zero_add]
            exact short_in lq iq hs (by omega) (by omega)
      · have h2 := long_lo (seq := 3) (was := mid) (shape := shape) (by omega) lq iq hn
        have k3 := lo_stop (mid := mid) (shape := shape) (n := n) hn
        have k4 := lo_stop (mid := mid) (shape := shape) (n := 255 - n) (by omega)
        rw [k3, k4] at h2
        by_cases c1 : n < 112
        · rw [if_pos c1, if_neg (by omega), if_neg (by omega)] at h1
          rw [if_pos c1] at h2
          rw [h2.none, Int.add_zero]
          exact h1.alone
        · by_cases c2 : n < 144
          · rw [if_neg c1, if_pos c2, if_neg (by omega), if_pos (by omega), show 31 - (255 - n - 112) = n - 112 by omega, show 31 - (n - 112) = 143 - n by omega] at h1
            rw [if_neg c1, if_pos c2, if_neg (by omega), if_pos (by omega), show 255 - n - 112 = 143 - n by omega] at h2
            have s := sq ⟨by omega, c2⟩
            rw [show 31 - (n - 112) = 143 - n by omega] at s
            exact pair h1 h2 (hf_in _ _ _).1 (hf_in _ _ _).1 x.1 x.2 s.1 s.2
          · rw [if_neg c1, if_neg c2] at h1
            rw [if_neg c1, if_neg c2, if_pos (by omega)] at h2
            rw [h1.none, Int.zero_add]
            exact h2.alone
    · rcases hb with rfl | rfl
      · by_cases c1 : n < 112
        · have h1 := short_in (was := was) (shape := mid) lp ip hm (p := 256 + n) (by omega) (by omega)
          rw [e0] at h1
          rw [short_out (L := AL 2 mid shape Q) (.inl c1), Int.add_zero]
          exact h1
        · by_cases c2 : n < 144
          · have h1 := short_last (was := was) (shape := mid) lp ip (n := n) (by omega) c2
            rw [e0, em] at h1
            have h2 := short_first (was := mid) (shape := shape) lq iq (n := n) (by omega) c2
            have s := sq ⟨by omega, c2⟩
            rw [show 31 - (n - 112) = 143 - n by omega] at s
            exact pair h1 h2 (hf_in _ _ _).1 (hf_in _ _ _).1 x.1 x.2 s.1 s.2
          · rw [short_out (.inr (by omega)), Int.zero_add]
            exact short_in lq iq hs (by omega) (by omega)
      · have h2 := long_lo (seq := 3) (was := mid) (shape := shape) (by omega) lq iq hn
        have k3 := lo_stop (mid := mid) (shape := shape) (n := n) hn
        have k4 := lo_stop (mid := mid) (shape := shape) (n := 255 - n) (by omega)
        rw [k3, k4] at h2
        by_cases c1 : n < 112
        · have h1 := short_in (was := was) (shape := mid) lp ip hm (p := 256 + n) (by omega) (by omega)
          rw [e0] at h1
          rw [if_pos c1] at h2
          rw [h2.none, Int.add_zero]
          exact h1
        · by_cases c2 : n < 144
          · have h1 := short_last (was := was) (shape := mid) lp ip (n := n) (by omega) c2
            rw [e0, em] at h1
            rw [if_neg c1, if_pos c2, if_neg (by omega), if_pos (by omega), show 255 - n - 112 = 143 - n by omega] at h2
            have s := sq ⟨by omega, c2⟩
            rw [show 31 - (n - 112) = 143 - n by omega] at s
            exact pair h1 h2 (hf_in _ _ _).1 (hf_in _ _ _).1 x.1 x.2 s.1 s.2
          · rw [if_neg c1, if_neg c2, if_pos (by omega)] at h2
            rw [short_out (.inr (by omega)), Int.zero_add]
            exact h2.alone
end Go.Proofs.Yteknakakefhbmaa.Lb

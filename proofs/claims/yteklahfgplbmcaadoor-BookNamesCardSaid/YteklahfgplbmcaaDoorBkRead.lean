/- Codes of ranks, and how they are read, plain. -/
import Derived.Test.YteklahfgplbmcaaDoorBkMath
namespace Go.Proofs.YteklahfgplbmcaaDoor.Bk
open Go.Proofs.YteklahfgplbmcaaDoor.Bi Go.Proofs.YteklahfgplbmcaaDoor.Cr

/-- The code of a rank with so many plain bits. -/
def cd (p r : Nat) : List Int := bi ((r / 2 ^ p + 1 : Nat) : Int) (2 * dg (r / 2 ^ p + 1) - 1) ++ bi ((r % 2 ^ p : Nat) : Int) p
theorem cd_len (p r : Nat) : (cd p r).length = 2 * dg (r / 2 ^ p + 1) - 1 + p := by unfold cd; rw [List.length_append, bi_len, bi_len]
theorem cd_bits (p r : Nat) : Bits (cd p r) := bits_append (bi_bits _ _) (bi_bits _ _)
theorem bi_zeros (X : Int) (m : Nat) (h0 : 0 ≤ X) (h1 : X < 2 ^ m) : ∀ a, bi X (a + m) = List.replicate a 0 ++ bi X m
  | 0 => by simp
  | a + 1 => by
    rw [show a + 1 + m = (a + m) + 1 by omega, bi, bi_zeros X m h0 h1 a, List.replicate_succ, List.cons_append]
    congr 1
    have : X / 2 ^ (a + m) = 0 := Int.ediv_eq_zero_of_lt h0 (by
      rw [Int.pow_add]
      have h2 : (1 : Int) ≤ 2 ^ a := by (have := @Int.pow_pos 2 a (by decide)); omega
      have h3 : (0 : Int) ≤ 2 ^ m := Int.le_of_lt (Int.pow_pos (by decide))
      have h4 := Int.mul_le_mul_of_nonneg_right h2 h3
      omega)
    rw [this]; rfl
/-- A number's highest digit is one. -/
theorem bi_top (n : Nat) (h1 : 1 ≤ n) : ∃ ys : List Int, ys.length = dg n - 1 ∧ Bits ys ∧ (n : Int) = 2 ^ (dg n - 1) + num ys ∧ bi n (2 * dg n - 1) = List.replicate (dg n - 1) 0 ++ 1 :: ys := by
  obtain ⟨a, b, c⟩ := dg_bd n n Nat.lt_two_pow_self h1
  obtain ⟨d, hd⟩ : ∃ d, dg n = d + 1 := ⟨dg n - 1, by omega⟩
  rw [hd] at b c ⊢
  simp only [Nat.add_sub_cancel] at b ⊢
  have hn : ((n : Nat) : Int) < 2 ^ (d + 1) := by exact_mod_cast c
  have hn2 : (2 : Int) ^ d ≤ n := by exact_mod_cast b
  refine ⟨bi n d, bi_len _ _, bi_bits _ _, ?_, ?_⟩
  · have h2 : num (bi (n : Int) (d + 1)) = n := num_bi _ _ (by omega) hn
    rw [bi, show (n : Int) / 2 ^ d % 2 :: bi n d = [(n : Int) / 2 ^ d % 2] ++ bi n d from rfl, num_append, bi_len] at h2
    have h3 : (n : Int) / 2 ^ d = 1 := by
      rw [Int.pow_succ] at hn
      have hp : (0 : Int) < 2 ^ d := Int.pow_pos (by decide)
      apply Int.le_antisymm
      · have : (n : Int) / 2 ^ d < 2 := by rw [Int.ediv_lt_iff_lt_mul hp]; rw [Int.mul_comm]; exact hn
        omega
      · rw [Int.le_ediv_iff_mul_le hp]; omega
    rw [h3] at h2
    have h4 : num [(1 : Int) % 2] = 1 := rfl
    rw [h4] at h2; omega
  · rw [show 2 * (d + 1) - 1 = d + (d + 1) by omega, bi_zeros _ (d + 1) (by omega) hn, bi]
    congr 2
    have h3 : (n : Int) / 2 ^ d = 1 := by
      rw [Int.pow_succ] at hn
      have hp : (0 : Int) < 2 ^ d := Int.pow_pos (by decide)
      apply Int.le_antisymm
      · have : (n : Int) / 2 ^ d < 2 := by rw [Int.ediv_lt_iff_lt_mul hp]; rw [Int.mul_comm]; exact hn
        omega
      · rw [Int.le_ediv_iff_mul_le hp]; omega
    rw [h3]; rfl

/-- What bits' Get answers. -/
def bok (l : List Int) : Bool := l.all (fun d => d == 0 || d == 1)
theorem bok_iff (l : List Int) : bok l = true ↔ Bits l := by unfold bok Bits; simp
def getF (z : List Int) (A : Int) (s : Nat) : Int × Int × Int :=
  if A < 0 ∨ (z.length : Int) < A then (0, 0, 2) else if (z.length : Int) - A < s then (0, 0, 5)
  else if bok ((z.drop A.toNat).take s) then (num ((z.drop A.toNat).take s), A + s, 0) else (0, 0, 8)
theorem getF_bad {z : List Int} {A : Int} {s : Nat} (h : (getF z A s).2.2 ≠ 0) : getF z A s = (0, 0, (getF z A s).2.2) := by
  unfold getF at h ⊢
  split
  · rfl
  · split
    · rfl
    · split
      · rename_i h1 h2 h3; simp [h1, h2, h3] at h
      · rfl
theorem getF_ok {z : List Int} {A : Int} {s : Nat} (h : (getF z A s).2.2 = 0) :
    ∃ a : Nat, A = a ∧ a + s ≤ z.length ∧ Bits ((z.drop a).take s) ∧ getF z A s = (num ((z.drop a).take s), ((a + s : Nat) : Int), 0) := by
  unfold getF at h ⊢
  split at h
  · simp at h
  · split at h
    · simp at h
    · split at h
      · rename_i h1 h2 h3
        refine ⟨A.toNat, by omega, by omega, (bok_iff _).1 h3, ?_⟩
        rw [if_neg h1, if_neg h2, if_pos h3]
        congr 2; omega
      · simp at h
theorem getF_of {z : List Int} {a s : Nat} (h : a + s ≤ z.length) (hb : Bits ((z.drop a).take s)) : getF z a s = (num ((z.drop a).take s), ((a + s : Nat) : Int), 0) := by
  unfold getF
  rw [if_neg (by omega), if_neg (by omega), show (a : Int).toNat = a by omega, if_pos ((bok_iff _).2 hb)]
  congr 2

def zerosF (z : List Int) : Nat → Nat → Int → Int × Int × Int
  | 0, _, _ => (0, 0, 8)
  | f + 1, m, A => if (getF z A 1).2.2 ≠ 0 then (0, 0, (getF z A 1).2.2)
    else if (getF z A 1).1 = 1 then ((m : Int), (getF z A 1).2.1, 0) else zerosF z f (m + 1) (getF z A 1).2.1
theorem zerosF_bad {z : List Int} : ∀ {f m : Nat} {A : Int}, (zerosF z f m A).2.2 ≠ 0 → zerosF z f m A = (0, 0, (zerosF z f m A).2.2)
  | 0, _, _, _ => rfl
  | f + 1, m, A, h => by
    unfold zerosF at h ⊢
    split
    · rfl
    · split
      · rename_i h1 h2; simp [h1, h2] at h
      · rename_i h1 h2
        rw [if_neg h1, if_neg h2] at h
        exact zerosF_bad h
theorem take1 {z : List Int} {a : Nat} (h : a + 1 ≤ z.length) : ∃ d, (z.drop a).take 1 = [d] ∧ z.drop a = d :: z.drop (a + 1) := by
  refine ⟨z[a], ?_, ?_⟩
  · rw [List.drop_eq_getElem_cons (by omega)]; rfl
  · rw [List.drop_eq_getElem_cons (by omega)]
theorem num1 (d : Int) : num [d] = d := by unfold num; simp
theorem zerosF_ok {z : List Int} : ∀ {f m : Nat} {A : Int}, (zerosF z f m A).2.2 = 0 →
    ∃ j a : Nat, A = a ∧ j < f ∧ a + j + 1 ≤ z.length ∧ (z.drop a).take (j + 1) = List.replicate j 0 ++ [1] ∧ zerosF z f m A = (((m + j : Nat) : Int), ((a + j + 1 : Nat) : Int), 0)
  | 0, _, _, h => by simp [zerosF] at h
  | f + 1, m, A, h => by
    unfold zerosF at h ⊢
    by_cases h1 : (getF z A 1).2.2 = 0
    · rw [if_neg (by omega)] at h ⊢
      obtain ⟨a, rfl, hl, hb, hg⟩ := getF_ok h1
      obtain ⟨d, hd, hd2⟩ := take1 hl
      rw [hg, hd, num1] at h ⊢
      rw [hd] at hb
      have hb' := hb d (by simp)
      by_cases h2 : d = 1
      · subst h2
        exact ⟨0, a, rfl, by omega, by omega, by rw [hd]; rfl, by simp⟩
      · obtain rfl : d = 0 := by omega
        simp only [show ¬ ((0 : Int) = 1) by decide, if_false] at h ⊢
        obtain ⟨j, a', ha, hj, hl', ht, hz⟩ := zerosF_ok h
        obtain rfl : a' = a + 1 := by omega
        refine ⟨j + 1, a, rfl, by omega, by omega, ?_, ?_⟩
        · rw [hd2, List.take_succ_cons, ht, List.replicate_succ]; rfl
        · rw [hz]; congr 2 <;> omega
    · rw [if_pos h1] at h; exact absurd h h1
theorem zerosF_of {z : List Int} {rest : List Int} : ∀ (j f m a : Nat), j < f → z.drop a = List.replicate j 0 ++ 1 :: rest →
    zerosF z f m a = (((m + j : Nat) : Int), ((a + j + 1 : Nat) : Int), 0)
  | j, 0, _, _, h, _ => absurd h (by omega)
  | 0, f + 1, m, a, h, hz => by
    have hl : a + 1 ≤ z.length := by
      have := congrArg List.length hz
      simp at this; omega
    have ht : (z.drop a).take 1 = [1] := by rw [hz]; rfl
    have hg := getF_of (z := z) (a := a) (s := 1) hl (by rw [ht]; intro x hx; simp at hx; omega)
    rw [ht, num1] at hg
    unfold zerosF; rw [hg]; simp
  | j + 1, f + 1, m, a, h, hz => by
    have hl : a + 1 ≤ z.length := by
      have := congrArg List.length hz
      simp at this; omega
    have ht : (z.drop a).take 1 = [0] := by rw [hz]; rfl
    have hg := getF_of (z := z) (a := a) (s := 1) hl (by rw [ht]; intro x hx; simp at hx; omega)
    rw [ht, num1] at hg
    have hd : z.drop (a + 1) = List.replicate j 0 ++ 1 :: rest := by
      rw [← List.drop_drop, hz, List.replicate_succ]; rfl
    have ih := zerosF_of j f (m + 1) (a + 1) (by omega) hd
    unfold zerosF; rw [hg]
    simp only [show ¬ ((0 : Int) = 1) by decide, if_false, ne_eq, not_true]
    rw [ih]; congr 2 <;> omega

/-- What is read. -/
def readF (E : List Nat) (p : Nat) (z : List Int) (A : Int) : Int × Int × Int :=
  let x := zerosF z 10 0 A
  if x.2.2 ≠ 0 then (0, 0, x.2.2) else
  let y := getF z x.2.1 x.1.toNat
  if y.2.2 ≠ 0 then (0, 0, y.2.2) else
  let q := getF z y.2.1 p
  if q.2.2 ≠ 0 then (0, 0, q.2.2) else
  let r := (2 ^ x.1.toNat + y.1 - 1) * 2 ^ p + q.1
  if (E.length : Int) ≤ r then (0, 0, 8) else (((E.getD r.toNat 0 : Nat) : Int), q.2.1, 0)
theorem drop_take_len {z : List Int} {a s : Nat} (h : a + s ≤ z.length) : ((z.drop a).take s).length = s := by simp; omega

/-- What stands where a code begins is its entry. -/
theorem read_code (E : List Nat) (p r : Nat) (rest : List Int) (hr : r < E.length) (hd : r / 2 ^ p + 1 < 1024) :
    readF E p (cd p r ++ rest) 0 = (((E.getD r 0 : Nat) : Int), ((cd p r).length : Int), 0) := by
  obtain ⟨n, hn⟩ : ∃ n, r / 2 ^ p + 1 = n := ⟨_, rfl⟩
  have h1 : 1 ≤ n := by rw [← hn]; exact Nat.le_add_left 1 _
  rw [hn] at hd
  obtain ⟨ys, hy1, hy2, hy3, hy4⟩ := bi_top n h1
  have hdg := dg_le (n := n) (d := 10) h1 (by omega)
  have hdg1 := (dg_bd n n Nat.lt_two_pow_self h1).1
  obtain ⟨m, hm⟩ : ∃ m, dg n = m + 1 := ⟨dg n - 1, by omega⟩
  have hlen := cd_len p r
  rw [hn, hm] at hlen
  rw [hm, Nat.add_sub_cancel] at hy1 hy3
  rw [hm, Nat.add_sub_cancel] at hy4
  obtain ⟨w, hw⟩ : ∃ w : Nat, r % 2 ^ p = w := ⟨_, rfl⟩
  obtain ⟨ws, hws⟩ : ∃ ws, bi ((w : Nat) : Int) p = ws := ⟨_, rfl⟩
  have hz : cd p r ++ rest = List.replicate m 0 ++ 1 :: (ys ++ (ws ++ rest)) := by
    unfold cd; rw [hn, hm, hy4, hw, hws]; simp
  have hwl : ws.length = p := by rw [← hws, bi_len]
  rw [hz]
  have e1 := zerosF_of (z := List.replicate m 0 ++ 1 :: (ys ++ (ws ++ rest))) (rest := ys ++ (ws ++ rest)) m 10 0 0 (by omega) rfl
  have d1 : (List.replicate m (0 : Int) ++ 1 :: (ys ++ (ws ++ rest))).drop (0 + m + 1) = ys ++ (ws ++ rest) := by
    rw [show List.replicate m (0 : Int) ++ 1 :: (ys ++ (ws ++ rest)) = (List.replicate m (0 : Int) ++ [1]) ++ (ys ++ (ws ++ rest)) by simp]
    apply List.drop_left' ; simp
  have t1 : (ys ++ (ws ++ rest)).take m = ys := List.take_left' hy1
  have e2 := getF_of (z := List.replicate m (0 : Int) ++ 1 :: (ys ++ (ws ++ rest))) (a := 0 + m + 1) (s := m) (by simp; omega) (by rw [d1, t1]; exact hy2)
  rw [d1, t1] at e2
  have d2 : (List.replicate m (0 : Int) ++ 1 :: (ys ++ (ws ++ rest))).drop (0 + m + 1 + m) = ws ++ rest := by
    rw [← List.drop_drop, d1]; exact List.drop_left' hy1
  have t2 : (ws ++ rest).take p = ws := List.take_left' hwl
  have e3 := getF_of (z := List.replicate m (0 : Int) ++ 1 :: (ys ++ (ws ++ rest))) (a := 0 + m + 1 + m) (s := p) (by simp; omega) (by rw [d2, t2, ← hws]; exact bi_bits _ _)
  rw [d2, t2] at e3
  have hnw : num ws = w := by
    rw [← hws]; refine num_bi _ _ (by omega) ?_
    have := Nat.mod_lt r (Nat.two_pow_pos p)
    rw [hw] at this; exact_mod_cast this
  unfold readF
  simp only [show ((0 : Nat) : Int) = 0 from rfl] at e1
  simp only [e1, show ((0 + m : Nat) : Int).toNat = m by omega, e2, e3, hnw, ne_eq, not_true, if_false]
  have hrr : (2 ^ m + num ys - 1) * 2 ^ p + (w : Int) = r := by
    rw [← hy3, ← hn, ← hw]
    have := Nat.div_add_mod r (2 ^ p)
    have h2 : ((r / 2 ^ p : Nat) : Int) * 2 ^ p + ((r % 2 ^ p : Nat) : Int) = r := by
      rw [Int.mul_comm]; exact_mod_cast this
    rw [show (((r / 2 ^ p + 1 : Nat) : Int) - 1) = ((r / 2 ^ p : Nat) : Int) by omega]
    exact h2
  have hrl : ¬ ((E.length : Int) ≤ (r : Int)) := by omega
  rw [hrr, if_neg hrl, hlen, show ((r : Nat) : Int).toNat = r by omega]
  congr 2; omega

/-- What is read has just these bits as its code. -/
theorem read_back (E : List Nat) (p : Nat) (z : List Int) (A : Int) (h : (readF E p z A).2.2 = 0) :
    ∃ a s r : Nat, A = a ∧ a + s ≤ z.length ∧ r < E.length ∧ (z.drop a).take s = cd p r ∧ readF E p z A = (((E.getD r 0 : Nat) : Int), ((a + s : Nat) : Int), 0) := by
  unfold readF at h ⊢
  by_cases h1 : (zerosF z 10 0 A).2.2 = 0
  case neg => simp [h1] at h
  by_cases h2 : (getF z (zerosF z 10 0 A).2.1 (zerosF z 10 0 A).1.toNat).2.2 = 0
  case neg => simp [h1, h2] at h
  by_cases h3 : (getF z (getF z (zerosF z 10 0 A).2.1 (zerosF z 10 0 A).1.toNat).2.1 p).2.2 = 0
  case neg => simp [h1, h2, h3] at h
  simp only [h1, h2, h3, ne_eq, not_true, if_false] at h ⊢
  obtain ⟨j, a, rfl, hj, hl, ht, hz⟩ := zerosF_ok h1
  rw [hz] at h h2 h3 ⊢
  simp only [show ((0 + j : Nat) : Int).toNat = j by omega] at h h2 h3 ⊢
  obtain ⟨a2, ha2, hl2, hb2, hg2⟩ := getF_ok h2
  obtain rfl : a2 = a + j + 1 := by omega
  rw [hg2] at h h3 ⊢
  obtain ⟨a3, ha3, hl3, hb3, hg3⟩ := getF_ok h3
  simp only at ha3
  obtain rfl : a3 = a + j + 1 + j := by omega
  simp only at hg3
  simp only [hg3] at h ⊢
  obtain ⟨ys, hys⟩ : ∃ ys, (z.drop (a + j + 1)).take j = ys := ⟨_, rfl⟩
  obtain ⟨ws, hws⟩ : ∃ ws, (z.drop (a + j + 1 + j)).take p = ws := ⟨_, rfl⟩
  have hyl : ys.length = j := by rw [← hys]; exact drop_take_len hl2
  have hwl : ws.length = p := by rw [← hws]; exact drop_take_len hl3
  rw [hys] at hb2 h ⊢
  rw [hws] at hb3 h ⊢
  obtain ⟨y0, y1⟩ := num_bd j ys hyl hb2
  obtain ⟨w0, w1⟩ := num_bd p ws hwl hb3
  obtain ⟨Y, hY⟩ : ∃ Y : Nat, num ys = Y := ⟨(num ys).toNat, by omega⟩
  obtain ⟨W, hW⟩ : ∃ W : Nat, num ws = W := ⟨(num ws).toNat, by omega⟩
  rw [hY] at y0 y1 h ⊢
  rw [hW] at w0 w1 h ⊢
  have y1' : Y < 2 ^ j := by exact_mod_cast y1
  have w1' : W < 2 ^ p := by exact_mod_cast w1
  have hp0 : 1 ≤ 2 ^ j := Nat.one_le_two_pow
  obtain ⟨r, hr⟩ : ∃ r : Nat, (2 ^ j + Y - 1) * 2 ^ p + W = r := ⟨_, rfl⟩
  have hri : (2 ^ j + (Y : Int) - 1) * 2 ^ p + (W : Int) = r := by
    rw [← hr]; push_cast
    rw [Int.natCast_sub (by omega)]; push_cast; rfl
  rw [hri] at h ⊢
  by_cases h4 : (E.length : Int) ≤ r
  · rw [if_pos h4] at h; simp at h
  rw [if_neg h4, show ((r : Nat) : Int).toNat = r by omega]
  refine ⟨a, j + 1 + j + p, r, rfl, by omega, by omega, ?_, ?_⟩
  · have hrd : r / 2 ^ p = 2 ^ j + Y - 1 := by
      rw [← hr, Nat.mul_comm, Nat.mul_add_div (Nat.two_pow_pos p), Nat.div_eq_of_lt w1']; omega
    have hrm : r % 2 ^ p = W := by
      rw [← hr, Nat.mul_comm, Nat.mul_add_mod, Nat.mod_eq_of_lt w1']
    unfold cd
    rw [hrd, hrm, show 2 ^ j + Y - 1 + 1 = 2 ^ j + Y by omega]
    have hdg : dg (2 ^ j + Y) = j + 1 := dg_uniq (by omega) (by omega) (by simp) (by rw [Nat.pow_succ]; omega)
    rw [hdg]
    have hbig : Bits (List.replicate j 0 ++ 1 :: ys) := by
      refine bits_append (fun z hz => .inl (List.eq_of_mem_replicate hz)) (fun z hz => ?_)
      rcases List.mem_cons.1 hz with rfl | hz
      · exact .inr rfl
      · exact hb2 z hz
    have hnum : num (List.replicate j 0 ++ 1 :: ys) = ((2 ^ j + Y : Nat) : Int) := by
      have h5 : ∀ j, num (List.replicate j 0) = 0 := by
        intro j; induction j with
        | zero => rfl
        | succ j ih => rw [List.replicate_succ']; rw [num_snoc, ih]; rfl
      rw [num_append, h5, show (1 :: ys : List Int) = [1] ++ ys from rfl, num_append, num1, hyl, hY]; push_cast; omega
    have hbi := bi_num (j + 1 + j) (List.replicate j 0 ++ 1 :: ys) (by simp [hyl]; omega) hbig
    rw [hnum] at hbi
    rw [show 2 * (j + 1) - 1 = j + 1 + j by omega, hbi]
    have hbw := bi_num p ws hwl hb3
    rw [hW] at hbw
    rw [hbw]
    rw [show j + 1 + j + p = (j + 1) + (j + p) by omega, List.take_add, ht, List.drop_drop, show a + (j + 1) = a + j + 1 by omega, List.take_add, hys, List.drop_drop, hws]
    simp
  · rw [show a + (j + 1 + j + p) = a + j + 1 + j + p by omega]
end Go.Proofs.YteklahfgplbmcaaDoor.Bk

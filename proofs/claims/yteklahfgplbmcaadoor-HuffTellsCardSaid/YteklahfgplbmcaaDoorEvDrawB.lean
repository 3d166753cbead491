/- Regions that draw their order: whatever order comes, what is behind it is the same. -/
import Derived.Test.YteklahfgplbmcaaDoorEvDrawA
import Derived.Orders
namespace Go.Ev

theorem maskOf_bit (acc : List Nat) : ∀ (es : List Nat) (s : Nat) {m : Nat}, maskOf acc es s = some m → ∀ j, m.testBit j = true → s.testBit j = true ∨ ∃ e ∈ es, j = e ∨ ∃ me, acc[e]? = some me ∧ me.testBit j = true
  | [], s, m, h, j, hj => by simp only [maskOf, Option.some.injEq] at h; subst h; exact .inl hj
  | e :: es, s, m, h, j, hj => by
    simp only [maskOf, nth_eq] at h
    cases ha : acc[e]? with
    | none => rw [ha] at h; cases h
    | some me =>
      rw [ha] at h
      rcases maskOf_bit acc es _ h j hj with h1 | ⟨e', he', h1⟩
      · simp only [Nat.testBit_or, Bool.or_eq_true, Nat.testBit_two_pow, decide_eq_true_eq] at h1
        rcases h1 with (h1 | h1) | h1
        · exact .inl h1
        · exact .inr ⟨e, by simp, .inl h1.symm⟩
        · exact .inr ⟨e, by simp, .inr ⟨me, ha, h1⟩⟩
      · exact .inr ⟨e', by simp [he'], h1⟩

theorem maskOf_lt (acc : List Nat) : ∀ (es : List Nat) (s : Nat) {m : Nat}, maskOf acc es s = some m → ∀ e ∈ es, e < acc.length
  | [], _, _, _, e, he => by simp at he
  | e :: es, s, m, h, e', he => by
    simp only [maskOf, nth_eq] at h
    cases ha : acc[e]? with
    | none => rw [ha] at h; cases h
    | some me =>
      rw [ha] at h
      rcases List.mem_cons.1 he with rfl | he
      · exact (List.getElem?_eq_some_iff.1 ha).1
      · exact maskOf_lt acc es _ h e' he

theorem masks_ok : ∀ (l : List Oper) (acc : List Nat) {ms : List Nat}, masks acc l = some ms → ms.length = acc.length + l.length ∧ (∀ i, i < acc.length → ms[i]? = acc[i]?) ∧
    ∀ k o, l[k]? = some o → ∃ m, ms[acc.length + k]? = some m ∧ maskOf (ms.take (acc.length + k)) (bnds o) 0 = some m
  | [], acc, ms, h => by
    simp only [masks, Option.some.injEq] at h
    subst h
    exact ⟨by simp, fun _ _ => rfl, by simp⟩
  | o :: l, acc, ms, h => by
    simp only [masks] at h
    cases hm : maskOf acc (bnds o) 0 with
    | none => rw [hm] at h; cases h
    | some m =>
      rw [hm] at h
      obtain ⟨h1, h2, h3⟩ := masks_ok l (acc ++ [m]) h
      have hacc : ms.take acc.length = acc := by
        apply List.ext_getElem?
        intro i
        rw [List.getElem?_take]
        split
        · rename_i hi
          rw [h2 i (by simp; omega), List.getElem?_append_left hi]
        · rename_i hi
          rw [List.getElem?_eq_none (by omega)]
      refine ⟨by simp at h1 ⊢; omega, fun i hi => by rw [h2 i (by simp; omega), List.getElem?_append_left hi], fun k o' hk => ?_⟩
      cases k with
      | zero =>
        simp at hk
        subst hk
        refine ⟨m, ?_, by rw [Nat.add_zero, hacc]; exact hm⟩
        rw [h2 _ (by simp)]
        simp
      | succ k =>
        simp at hk
        obtain ⟨m', e1, e2⟩ := h3 k o' hk
        simp only [List.length_append, List.length_singleton] at e1 e2
        rw [show acc.length + (k + 1) = acc.length + 1 + k by omega]
        exact ⟨m', e1, e2⟩

/-- Which have been carried out, with all that they hang on. -/
def Closed (all : List Oper) (S : Nat → Bool) : Prop := ∀ k o, all[k]? = some o → S k = true → ∀ e ∈ bnds o, S e = true

theorem closed_mask {all : List Oper} {ms : List Nat} (hm : masks [] all = some ms) {S : Nat → Bool} (hc : Closed all S) : ∀ (n k : Nat), k ≤ n → ∀ o m, all[k]? = some o → ms[k]? = some m → (∀ e ∈ bnds o, S e = true) → ∀ j, m.testBit j = true → S j = true
  | n, k, hk, o, m, ho, hmk, hb, j, hj => by
    obtain ⟨h1, _, h3⟩ := masks_ok all [] hm
    obtain ⟨m', e1, e2⟩ := h3 k o ho
    simp only [List.length_nil, Nat.zero_add] at e1 e2
    rw [hmk] at e1
    cases e1
    rcases maskOf_bit _ _ _ e2 j hj with h | ⟨e, he, h | ⟨me, h4, h5⟩⟩
    · simp at h
    · subst h; exact hb _ he
    · have hlt := maskOf_lt _ _ _ e2 e he
      have hek : e < k := by simp at hlt; omega
      rw [List.getElem?_take, if_pos hek] at h4
      have hso : ∃ oe, all[e]? = some oe := by
        have : e < all.length := by have := (List.getElem?_eq_some_iff.1 ho).1; omega
        exact ⟨all[e], by simp [this]⟩
      obtain ⟨oe, hoe⟩ := hso
      match n, hk with
      | n + 1, hk => exact closed_mask hm hc n e (by omega) oe me hoe h4 (hc e oe hoe (hb e he)) j h5
      | 0, hk => omega

theorem zip_mem {α : Type} {l : List α} {x : α} {i : Nat} (h : l[i]? = some x) : (x, i) ∈ l.zipIdx := by
  rw [List.mem_zipIdx_iff_getElem?]; exact h

theorem chk_read {all : List Oper} {ms : List Nat} (h : chk all ms = true) {i j : Nat} {o p : Oper} (hi : all[i]? = some o) (hj : all[j]? = some p) {t : Nat} (ht : t ∈ looksA all o) (hd : p.dst = some t) (hne : j ≠ i) :
    (j < i ∧ (ms.getD i 0).testBit j = true) ∨ (i < j ∧ (ms.getD j 0).testBit i = true) := by
  unfold chk at h
  rw [Bool.and_eq_true] at h
  have h1 := List.all_eq_true.1 h.1 _ (zip_mem hi)
  have h2 := List.all_eq_true.1 h1 t ht
  have h3 := List.all_eq_true.1 h2 _ (zip_mem hj)
  simp only [hd] at h3
  have b1 : Nat.beq t t = true := by simp
  have b2 : Nat.beq j i = false := by
    cases hb : Nat.beq j i with
    | false => rfl
    | true => exact absurd (Nat.eq_of_beq_eq_true hb) hne
  rw [b1, b2] at h3
  simp only [Bool.not_true, Bool.false_or] at h3
  cases hb : Nat.blt j i with
  | true => rw [hb] at h3; exact .inl ⟨Nat.le_of_ble_eq_true hb, h3⟩
  | false =>
    rw [hb] at h3
    have : ¬ j < i := fun hlt => by
      have : Nat.blt j i = true := Nat.ble_eq_true_of_le hlt
      rw [this] at hb; cases hb
    exact .inr ⟨by omega, h3⟩

theorem chk_one {all : List Oper} {ms : List Nat} (h : chk all ms = true) {i j : Nat} {o p : Oper} (hi : all[i]? = some o) (hj : all[j]? = some p) {t : Nat} (h1 : o.dst = some t) (h2 : p.dst = some t) : i = j := by
  unfold chk at h
  rw [Bool.and_eq_true] at h
  have h3 := List.all_eq_true.1 (List.all_eq_true.1 h.2 _ (zip_mem hi)) _ (zip_mem hj)
  simp only [h1, h2] at h3
  have b1 : Nat.beq t t = true := by simp
  rw [b1] at h3
  simp only [Bool.not_true, Bool.or_false] at h3
  exact Nat.eq_of_beq_eq_true h3

/-- The slots behind the operations of S, each with its value. -/
def tmS (S : Nat → Bool) : Nat → List (Option Nat × RV) → List RV → List RV
  | _, [], tm => tm
  | i, (d, v) :: l, tm => tmS S (i + 1) l (match S i with | true => putO tm d v | false => tm)

theorem putO_length (tm : List RV) (d : Option Nat) (v : RV) : (putO tm d v).length = tm.length := by
  cases d <;> simp [putO, putAt_eq]

theorem tmS_length (S : Nat → Bool) : ∀ (l : List (Option Nat × RV)) (i : Nat) (tm : List RV), (tmS S i l tm).length = tm.length
  | [], _, _ => rfl
  | (d, v) :: l, i, tm => by
    simp only [tmS]
    rw [tmS_length S l]
    cases S i <;> simp [putO_length]

theorem tmS_none {S : Nat → Bool} {t : Nat} : ∀ (l : List (Option Nat × RV)) (i : Nat) (tm : List RV), (∀ k d v, l[k]? = some (d, v) → S (i + k) = true → d ≠ some t) → (tmS S i l tm)[t]? = tm[t]?
  | [], _, _, _ => rfl
  | (d, v) :: l, i, tm, h => by
    simp only [tmS]
    rw [tmS_none l (i + 1) _ (fun k d' v' hk hs => h (k + 1) d' v' (by simpa using hk) (by rwa [show i + (k + 1) = i + 1 + k by omega]))]
    cases hs : S i with
    | false => rfl
    | true =>
      have := h 0 d v rfl (by simpa using hs)
      cases d with
      | none => rfl
      | some d =>
        have hd : d ≠ t := fun e => this (by rw [e])
        simp [putO, putAt_eq, hd]

theorem tmS_some {S : Nat → Bool} {t : Nat} {v : RV} : ∀ (l : List (Option Nat × RV)) (i j : Nat) (tm : List RV), l[j]? = some (some t, v) → S (i + j) = true → (∀ k d u, l[k]? = some (d, u) → d = some t → k = j) → t < tm.length → (tmS S i l tm)[t]? = some v
  | [], _, _, _, h, _, _, _ => by simp at h
  | (d, u) :: l, i, 0, tm, h, hs, hu, ht => by
    simp only [List.getElem?_cons_zero, Option.some.injEq, Prod.mk.injEq] at h
    obtain ⟨rfl, rfl⟩ := h
    simp only [tmS]
    rw [Nat.add_zero] at hs
    rw [hs]
    rw [tmS_none l (i + 1) _ (fun k d' v' hk _ hd => by have := hu (k + 1) d' v' (by simpa using hk) hd; omega)]
    simp [putO, putAt_eq, ht]
  | (d, u) :: l, i, j + 1, tm, h, hs, hu, ht => by
    simp only [tmS]
    refine tmS_some l (i + 1) j _ (by simpa using h) (by rwa [show i + 1 + j = i + (j + 1) by omega]) (fun k d' v' hk hd => by have := hu (k + 1) d' v' (by simpa using hk) hd; omega) ?_
    cases S i <;> simp [putO_length, ht]

end Go.Ev

/- Texts of one claim, one behind the other: BkMath, BkRead, BkWt, BkLay, BkSort, Lst. -/
import Derived.Test.YteklahfgplbmcaaDoorMrg1
import Derived.Lib.BitFns
import Derived.Lib.ItoaNum
import Derived.Test.YteklahfgplbmcaaDoorRows
import Derived.WalkKit
import Derived.Below
import Derived.RegionTactic
import Derived.Deep.QuietTactic
import Derived.BigQuiet
import Derived.ChangeAlike
import Derived.Deep.OwnRows
import Derived.Deep.WholeRow
import Derived.Laws.Rows
import Derived.Laws.Tables
import Derived.ProofKit
import Derived.OpenShut
import Derived.Great.Walk
import Derived.ChangeKeysEq
import Derived.Lib.Hide
import Derived.Shelf.SlSortCmp.Whole1
import Derived.Shelf.SlGeneric
import Derived.Test.YteklahfgplbmcaaDoorProg
import Derived.Laws.AppendOwn
import Derived.Laws.AppendOwnNone
set_option linter.unusedVariables false
/- The mathematics of books, plain. -/
namespace Go.Proofs.YteklahfgplbmcaaDoor.Bk

/-- Values of an entry. -/
def vals (b : Nat) (low : Int) : Nat → Nat → List Int
  | 0, _ => []
  | k + 1, n => vals b low k (n / b) ++ [low + (n % b : Nat)]
/-- The sum of their sizes. -/
def wtd (b : Nat) (low : Int) : Nat → Nat → Nat
  | 0, _ => 0
  | k + 1, n => wtd b low k (n / b) + (low + (n % b : Nat)).natAbs
def ent (b : Nat) (low : Int) (l : List Int) : Int := l.foldl (fun n v => n * b + v - low) 0
def sz (l : List Int) : Nat := (l.map Int.natAbs).sum

theorem vals_len (b : Nat) (low : Int) : ∀ k n, (vals b low k n).length = k
  | 0, _ => rfl
  | k + 1, n => by unfold vals; rw [List.length_append, vals_len b low k]; rfl
theorem sz_vals (b : Nat) (low : Int) : ∀ k n, sz (vals b low k n) = wtd b low k n
  | 0, _ => rfl
  | k + 1, n => by
    have := sz_vals b low k (n / b)
    unfold sz at this
    unfold vals wtd sz; rw [List.map_append, List.sum_append, this]; simp
theorem ent_snoc (b : Nat) (low : Int) (l : List Int) (v : Int) : ent b low (l ++ [v]) = ent b low l * b + v - low := by
  unfold ent; rw [List.foldl_append]; rfl
theorem ent_vals (b : Nat) (low : Int) (hb : 0 < b) : ∀ k n, n < b ^ k → ent b low (vals b low k n) = n
  | 0, n, h => by simp at h; subst h; rfl
  | k + 1, n, h => by
    have h1 : n / b < b ^ k := by rw [Nat.div_lt_iff_lt_mul hb]; rwa [Nat.pow_succ] at h
    unfold vals; rw [ent_snoc, ent_vals b low hb k _ h1]
    have := Nat.div_add_mod n b
    have h2 : ((n / b : Nat) : Int) * b + (n % b : Nat) = n := by
      rw [Int.mul_comm]; exact_mod_cast this
    omega
theorem vals_bd (b : Nat) (low : Int) (hb : 0 < b) : ∀ k n, ∀ v ∈ vals b low k n, low ≤ v ∧ v ≤ low + b - 1
  | 0, _, v, h => by simp [vals] at h
  | k + 1, n, v, h => by
    unfold vals at h; rw [List.mem_append] at h
    rcases h with h | h
    · exact vals_bd b low hb k _ v h
    · simp at h; have := Nat.mod_lt n hb; omega
theorem vals_ent (b : Nat) (low : Int) (hb : 0 < b) : ∀ k l, l.length = k → (∀ v ∈ l, low ≤ v ∧ v ≤ low + b - 1) →
    ∃ n : Nat, ent b low l = n ∧ n < b ^ k ∧ vals b low k n = l
  | 0, l, hl, _ => by
    have : l = [] := List.eq_nil_of_length_eq_zero hl
    subst this; exact ⟨0, rfl, by simp, rfl⟩
  | k + 1, l, hl, hv => by
    obtain ⟨a, v, rfl⟩ : ∃ a v, l = a ++ [v] := ⟨l.dropLast, l.getLast (by intro h; simp [h] at hl), (List.dropLast_concat_getLast _).symm⟩
    simp at hl
    obtain ⟨n, h1, h2, h3⟩ := vals_ent b low hb k a hl (fun v h => hv v (List.mem_append_left _ h))
    have hv' := hv v (by simp)
    obtain ⟨d, hd⟩ : ∃ d : Nat, v = low + d := ⟨(v - low).toNat, by omega⟩
    subst hd
    have hdb : d < b := by omega
    refine ⟨n * b + d, ?_, ?_, ?_⟩
    · rw [ent_snoc, h1]; push_cast; omega
    · rw [Nat.pow_succ]
      calc n * b + d < n * b + b := by omega
        _ = (n + 1) * b := by rw [Nat.succ_mul]
        _ ≤ b ^ k * b := Nat.mul_le_mul_right _ h2
    · unfold vals
      rw [show (n * b + d) / b = n by rw [Nat.mul_comm, Nat.mul_add_div hb, Nat.div_eq_of_lt hdb]; rfl, h3,
        show (n * b + d) % b = d by rw [Nat.mul_comm, Nat.mul_add_mod, Nat.mod_eq_of_lt hdb]]
theorem wtd_le (b : Nat) (low : Int) (m : Nat) (hm : ∀ d, d < b → (low + (d : Nat)).natAbs ≤ m) (hb : 0 < b) : ∀ k n, wtd b low k n ≤ k * m
  | 0, _ => by simp [wtd]
  | k + 1, n => by
    have := wtd_le b low m hm hb k (n / b)
    have h2 := hm (n % b) (Nat.mod_lt _ hb)
    unfold wtd; rw [Nat.succ_mul]; omega

/-- The order of entries. -/
def lt (wt : Nat → Nat) (a b : Nat) : Prop := wt a < wt b ∨ wt a = wt b ∧ a < b
theorem lt_irrefl (wt : Nat → Nat) (a : Nat) : ¬ lt wt a a := by unfold lt; omega
theorem lt_trans {wt : Nat → Nat} {a b c : Nat} (h : lt wt a b) (k : lt wt b c) : lt wt a c := by unfold lt at *; omega
theorem lt_tri (wt : Nat → Nat) (a b : Nat) : lt wt a b ∨ a = b ∨ lt wt b a := by unfold lt; omega
structure IsOrd (wt : Nat → Nat) (N : Nat) (l : List Nat) : Prop where
  pw : l.Pairwise (lt wt)
  mem : ∀ n, n ∈ l ↔ n < N
theorem IsOrd.nodup {wt : Nat → Nat} {N : Nat} {l : List Nat} (h : IsOrd wt N l) : l.Nodup :=
  List.Pairwise.imp (R := lt wt) (S := (· ≠ ·)) (fun {a b} hab (e : a = b) => lt_irrefl wt a (by rw [← e] at hab; exact hab)) h.pw
theorem IsOrd.perm {wt : Nat → Nat} {N : Nat} {l : List Nat} (h : IsOrd wt N l) : l.Perm (List.range N) := by
  rw [List.perm_ext_iff_of_nodup h.nodup List.nodup_range]
  intro a; rw [h.mem, List.mem_range]
theorem IsOrd.length {wt : Nat → Nat} {N : Nat} {l : List Nat} (h : IsOrd wt N l) : l.length = N := by
  rw [h.perm.length_eq, List.length_range]
theorem IsOrd.uniq {wt : Nat → Nat} {N : Nat} {l k : List Nat} (h : IsOrd wt N l) (h' : IsOrd wt N k) : l = k := by
  refine (h.perm.trans h'.perm.symm).eq_of_pairwise (le := lt wt) ?_ h.pw h'.pw
  intro a b _ _ hab hba; exact absurd (lt_trans hab hba) (lt_irrefl wt a)

def ordf (wt : Nat → Nat) (N M : Nat) : List Nat := (List.range M).flatMap fun s => (List.range N).filter (fun n => wt n = s)
theorem ordf_ord (wt : Nat → Nat) (N M : Nat) (hM : ∀ n, n < N → wt n < M) : IsOrd wt N (ordf wt N M) where
  pw := by
    unfold ordf
    rw [List.pairwise_flatMap]
    refine ⟨fun s _ => ?_, ?_⟩
    · rw [List.pairwise_filter]
      refine List.pairwise_lt_range.imp ?_
      intro a b hab ha hb
      simp at ha hb
      exact .inr ⟨by rw [ha, hb], hab⟩
    · refine List.pairwise_lt_range.imp ?_
      intro a b hab x hx y hy
      simp at hx hy
      exact .inl (by omega)
  mem n := by
    unfold ordf
    rw [List.mem_flatMap]
    simp only [List.mem_range, List.mem_filter, decide_eq_true_eq]
    constructor
    · rintro ⟨a, _, h, _⟩; exact h
    · intro h; exact ⟨wt n, hM n h, h, rfl⟩

/-- Ranks by places. -/
theorem IsOrd.rank {wt : Nat → Nat} {N : Nat} {l : List Nat} (h : IsOrd wt N l) {n : Nat} (hn : n < N) : l.idxOf n < N ∧ l[l.idxOf n]? = some n := by
  have hm := (h.mem n).2 hn
  have h1 := List.idxOf_lt_length_of_mem hm
  refine ⟨by rw [← h.length]; exact h1, ?_⟩
  rw [List.getElem?_eq_getElem h1, List.getElem_idxOf]
theorem IsOrd.at {wt : Nat → Nat} {N : Nat} {l : List Nat} (h : IsOrd wt N l) {r : Nat} (hr : r < N) : ∃ n, l[r]? = some n ∧ n < N ∧ l.idxOf n = r := by
  have hr' : r < l.length := by rw [h.length]; exact hr
  refine ⟨l[r], List.getElem?_eq_getElem hr', (h.mem _).1 (List.getElem_mem hr'), ?_⟩
  exact (h.nodup).idxOf_getElem r hr'

theorem IsOrd.lt_of {wt : Nat → Nat} {N : Nat} {l : List Nat} (h : IsOrd wt N l) {i j x y : Nat} (hij : i < j) (hx : l[i]? = some x) (hy : l[j]? = some y) : lt wt x y := by
  obtain ⟨hi, rfl⟩ := List.getElem?_eq_some_iff.1 hx
  obtain ⟨hj, rfl⟩ := List.getElem?_eq_some_iff.1 hy
  exact List.pairwise_iff_getElem.1 h.pw i j hi hj hij

/-- What is strictly ordered, of entries there are, and so many, are all. -/
theorem php : ∀ (N : Nat) (l : List Nat), l.Nodup → (∀ n ∈ l, n < N) → l.length ≤ N ∧ (l.length = N → ∀ n, n < N → n ∈ l)
  | 0, l, _, h => by
    have : l = [] := by cases l with | nil => rfl | cons a t => exact absurd (h a (by simp)) (by omega)
    subst this; simp
  | N + 1, l, hd, h => by
    by_cases hN : N ∈ l
    · have hd' := hd.erase N
      have hm : ∀ n ∈ l.erase N, n < N := by
        intro n hn
        have h1 := (List.Nodup.mem_erase_iff hd).1 hn
        have := h n h1.2; omega
      obtain ⟨p, q⟩ := php N (l.erase N) hd' hm
      have hl := List.length_erase_of_mem hN
      have hpos : 0 < l.length := List.length_pos_of_mem hN
      refine ⟨by omega, fun e n hn => ?_⟩
      by_cases e2 : n = N
      · rw [e2]; exact hN
      · exact List.mem_of_mem_erase (q (by omega) n (by omega))
    · have hm : ∀ n ∈ l, n < N := by
        intro n hn
        have := h n hn
        have : n ≠ N := fun e => hN (by rw [← e]; exact hn)
        omega
      obtain ⟨p, q⟩ := php N l hd hm
      exact ⟨by omega, fun e => by omega⟩
theorem IsOrd.of {wt : Nat → Nat} {N : Nat} {l : List Nat} (hp : l.Pairwise (lt wt)) (hm : ∀ n ∈ l, n < N) (hl : l.length = N) : IsOrd wt N l := by
  have hn : l.Nodup := List.Pairwise.imp (R := lt wt) (S := (· ≠ ·)) (fun {a b} hab (e : a = b) => lt_irrefl wt a (by rw [← e] at hab; exact hab)) hp
  exact ⟨hp, fun n => ⟨hm n, (php N l hn hm).2 hl n⟩⟩

/-- How many digits. -/
def dg (n : Nat) : Nat := if h : n < 2 then 1 else 1 + dg (n / 2)
termination_by n
theorem dg_bd : ∀ f n : Nat, n < 2 ^ f → 1 ≤ n → 1 ≤ dg n ∧ 2 ^ (dg n - 1) ≤ n ∧ n < 2 ^ dg n
  | 0, n, h, h1 => by simp at h; omega
  | f + 1, n, h, h1 => by
    unfold dg
    split
    · rename_i h2; have : n = 1 := by omega
      subst this; exact ⟨by omega, by decide, by decide⟩
    · rename_i h2
      obtain ⟨p, q, r⟩ := dg_bd f (n / 2) (by rw [Nat.div_lt_iff_lt_mul (by omega)]; rwa [Nat.pow_succ] at h) (by omega)
      obtain ⟨d, hd⟩ : ∃ d, dg (n / 2) = d + 1 := ⟨dg (n / 2) - 1, by omega⟩
      rw [hd] at q r ⊢
      simp only [Nat.add_sub_cancel] at q
      rw [show 1 + (d + 1) - 1 = d + 1 by omega, show 1 + (d + 1) = d + 1 + 1 by omega, Nat.pow_succ, Nat.pow_succ, Nat.pow_succ]
      rw [Nat.pow_succ] at r
      omega
theorem dg_uniq {n d : Nat} (h1 : 1 ≤ n) (hd : 1 ≤ d) (h2 : 2 ^ (d - 1) ≤ n) (h3 : n < 2 ^ d) : dg n = d := by
  obtain ⟨a, b, c⟩ := dg_bd n n Nat.lt_two_pow_self h1
  have p : dg n - 1 < d := (Nat.pow_lt_pow_iff_right (a := 2) (by omega)).1 (by omega)
  have q : d - 1 < dg n := (Nat.pow_lt_pow_iff_right (a := 2) (by omega)).1 (by omega)
  omega
theorem bitLen_dg {n : Nat} (h1 : 1 ≤ n) (h2 : n < 2 ^ 64) : Lib.bitLen n = dg n := by
  obtain ⟨a, b, c⟩ := Lib.bitLenAux_bounds 64 n h2 (by omega)
  exact (dg_uniq h1 a b c).symm
theorem dg_mono {a b : Nat} (h1 : 1 ≤ a) (h : a ≤ b) : dg a ≤ dg b := by
  obtain ⟨x, y, z⟩ := dg_bd a a Nat.lt_two_pow_self h1
  obtain ⟨x', y', z'⟩ := dg_bd b b Nat.lt_two_pow_self (by omega)
  have p : dg a - 1 < dg b := (Nat.pow_lt_pow_iff_right (a := 2) (by omega)).1 (by omega)
  omega
theorem dg_le {n d : Nat} (h1 : 1 ≤ n) (h3 : n < 2 ^ d) : dg n ≤ d := by
  obtain ⟨a, b, c⟩ := dg_bd n n Nat.lt_two_pow_self h1
  have p : dg n - 1 < d := (Nat.pow_lt_pow_iff_right (a := 2) (by omega)).1 (by omega)
  omega

/-- The tables. -/
def dm (id : Nat) : Nat := [0,4,4,4,4,2,2,2,2,2,2,2,1].getD id 0
def lw (id : Nat) : Int := [0,-1,-1,0,0,-4,-4,0,0,0,0,0,-60].getD id 0
def hg (id : Nat) : Int := [0,1,1,2,2,4,4,7,7,12,12,16,60].getD id 0
def pl (id : Nat) : Nat := [0,0,1,0,1,0,1,1,2,1,2,2,0].getD id 0
def bs (id : Nat) : Nat := [1,3,3,3,3,9,9,8,8,13,13,17,121].getD id 1
def Nn (id : Nat) : Nat := [1,81,81,81,81,81,81,64,64,169,169,289,121].getD id 0
def wt (id : Nat) (n : Nat) : Nat := wtd (bs id) (lw id) (dm id) n
def ord (id : Nat) : List Nat := ordf (wt id) (Nn id) 61
def rk (id n : Nat) : Nat := (ord id).idxOf n
theorem ids {id : Nat} (h1 : 1 ≤ id) (h2 : id ≤ 12) : id = 1 ∨ id = 2 ∨ id = 3 ∨ id = 4 ∨ id = 5 ∨ id = 6 ∨ id = 7 ∨ id = 8 ∨ id = 9 ∨ id = 10 ∨ id = 11 ∨ id = 12 := by omega
theorem facts {id : Nat} (h1 : 1 ≤ id) (h2 : id ≤ 12) : Nn id = bs id ^ dm id ∧ 0 < bs id ∧ (bs id : Int) = hg id - lw id + 1 ∧ 1 ≤ dm id ∧ dm id ≤ 4 ∧ pl id ≤ 2 ∧ 1 ≤ Nn id ∧ Nn id ≤ 289 ∧ -60 ≤ lw id ∧ lw id ≤ 0 ∧ 0 ≤ hg id ∧ hg id ≤ 60 ∧ bs id ≤ 121 ∧ Nn id / 2 ^ pl id + 1 ≤ 122 := by
  rcases ids h1 h2 with rfl | rfl | rfl | rfl | rfl | rfl | rfl | rfl | rfl | rfl | rfl | rfl <;> decide
theorem wt_lt {id : Nat} (h1 : 1 ≤ id) (h2 : id ≤ 12) (n : Nat) : wt id n < 61 := by
  unfold wt
  obtain ⟨m, hm, hk⟩ : ∃ m, (∀ d, d < bs id → (lw id + (d : Nat)).natAbs ≤ m) ∧ dm id * m ≤ 60 := by
    rcases ids h1 h2 with rfl | rfl | rfl | rfl | rfl | rfl | rfl | rfl | rfl | rfl | rfl | rfl
    · exact ⟨1, by decide, by decide⟩
    · exact ⟨1, by decide, by decide⟩
    · exact ⟨2, by decide, by decide⟩
    · exact ⟨2, by decide, by decide⟩
    · exact ⟨4, by decide, by decide⟩
    · exact ⟨4, by decide, by decide⟩
    · exact ⟨7, by decide, by decide⟩
    · exact ⟨7, by decide, by decide⟩
    · exact ⟨12, by decide, by decide⟩
    · exact ⟨12, by decide, by decide⟩
    · exact ⟨16, by decide, by decide⟩
    · exact ⟨60, fun d hd => by (have e1 : lw 12 = -60 := rfl); (have e2 : bs 12 = 121 := rfl); omega, by decide⟩
  have := wtd_le (bs id) (lw id) m hm (facts h1 h2).2.1 (dm id) n
  omega
theorem ord_is {id : Nat} (h1 : 1 ≤ id) (h2 : id ≤ 12) : IsOrd (wt id) (Nn id) (ord id) := ordf_ord _ _ _ (fun n _ => wt_lt h1 h2 n)
theorem rk_mono {id : Nat} (h1 : 1 ≤ id) (h2 : id ≤ 12) {a b : Nat} (ha : a < Nn id) (hb : b < Nn id) (h : lt (wt id) a b) : rk id a < rk id b := by
  have o := ord_is h1 h2
  obtain ⟨p, q⟩ := o.rank ha
  obtain ⟨p', q'⟩ := o.rank hb
  rcases Nat.lt_trichotomy (rk id a) (rk id b) with hh | hh | hh
  · exact hh
  · unfold rk at hh; rw [hh, q'] at q; simp at q; subst q; exact absurd h (lt_irrefl _ _)
  · exfalso
    exact lt_irrefl _ _ (lt_trans h (o.lt_of hh q' q))
end Go.Proofs.YteklahfgplbmcaaDoor.Bk

/- Codes of ranks, and how they are read, plain. -/
namespace Go.Proofs.YteklahfgplbmcaaDoor.Bk
open Go.Proofs.YteklahfgplbmcaaDoor.Bi Go.Proofs.YteklahfgplbmcaaDoor.Cr

/-- The code of a rank with so many plain bits. -/
def cd (p r : Nat) : List Int := bi ((r / 2 ^ p + 1 : Nat) : Int) (2 * dg (r / 2 ^ p + 1) - 1) ++ bi ((r % 2 ^ p : Nat) : Int) p
theorem cd_len (p r : Nat) : (cd p r).length = 2 * dg (r / 2 ^ p + 1) - 1 + p := by unfold cd; rw [List.length_append, bi_len, bi_len]
theorem cd_bits (p r : Nat) : Bits (cd p r) := bits_append (bi_bits _ _) (bi_bits _ _)
theorem bi_zeros (X : Int) (m : Nat) (h0 : 0 ≤ X) (h1 : X < 2 ^ m) : ∀ a, bi X (a + m) = List.replicate a 0 ++ bi X m
  | 0 => by simp
  | a + 1 => by
    rw [show a + 1 + m = (a + m) + 1 by omega, bi, bi_zeros X m h0 h1 a, List.replicate_succ, List.cons_append]
    congr 1
    have : X / 2 ^ (a + m) = 0 := Int.ediv_eq_zero_of_lt h0 (by
      rw [Int.pow_add]
      have h2 : (1 : Int) ≤ 2 ^ a := by (have := @Int.pow_pos 2 a (by decide)); omega
      have h3 : (0 : Int) ≤ 2 ^ m := Int.le_of_lt (Int.pow_pos (by decide))
      have h4 := Int.mul_le_mul_of_nonneg_right h2 h3
      omega)
    rw [this]; rfl
/-- A number's highest digit is one. -/
theorem bi_top (n : Nat) (h1 : 1 ≤ n) : ∃ ys : List Int, ys.length = dg n - 1 ∧ Bits ys ∧ (n : Int) = 2 ^ (dg n - 1) + num ys ∧ bi n (2 * dg n - 1) = List.replicate (dg n - 1) 0 ++ 1 :: ys := by
  obtain ⟨a, b, c⟩ := dg_bd n n Nat.lt_two_pow_self h1
  obtain ⟨d, hd⟩ : ∃ d, dg n = d + 1 := ⟨dg n - 1, by omega⟩
  rw [hd] at b c ⊢
  simp only [Nat.add_sub_cancel] at b ⊢
  have hn : ((n : Nat) : Int) < 2 ^ (d + 1) := by exact_mod_cast c
  have hn2 : (2 : Int) ^ d ≤ n := by exact_mod_cast b
  refine ⟨bi n d, bi_len _ _, bi_bits _ _, ?_, ?_⟩
  · have h2 : num (bi (n : Int) (d + 1)) = n := num_bi _ _ (by omega) hn
    rw [bi, show (n : Int) / 2 ^ d % 2 :: bi n d = [(n : Int) / 2 ^ d % 2] ++ bi n d from rfl, num_append, bi_len] at h2
    have h3 : (n : Int) / 2 ^ d = 1 := by
      rw [Int.pow_succ] at hn
      have hp : (0 : Int) < 2 ^ d := Int.pow_pos (by decide)
      apply Int.le_antisymm
      · have : (n : Int) / 2 ^ d < 2 := by rw [Int.ediv_lt_iff_lt_mul hp]; rw [Int.mul_comm]; exact hn
        omega
      · rw [Int.le_ediv_iff_mul_le hp]; omega
    rw [h3] at h2
    have h4 : num [(1 : Int) % 2] = 1 := rfl
    rw [h4] at h2; omega
  · rw [show 2 * (d + 1) - 1 = d + (d + 1) by omega, bi_zeros _ (d + 1) (by omega) hn, bi]
    congr 2
    have h3 : (n : Int) / 2 ^ d = 1 := by
      rw [Int.pow_succ] at hn
      have hp : (0 : Int) < 2 ^ d := Int.pow_pos (by decide)
      apply Int.le_antisymm
      · have : (n : Int) / 2 ^ d < 2 := by rw [Int.ediv_lt_iff_lt_mul hp]; rw [Int.mul_comm]; exact hn
        omega
      · rw [Int.le_ediv_iff_mul_le hp]; omega
    rw [h3]; rfl

/-- What bits' Get answers. -/
def bok (l : List Int) : Bool := l.all (fun d => d == 0 || d == 1)
theorem bok_iff (l : List Int) : bok l = true ↔ Bits l := by unfold bok Bits; simp
def getF (z : List Int) (A : Int) (s : Nat) : Int × Int × Int :=
  if A < 0 ∨ (z.length : Int) < A then (0, 0, 2) else if (z.length : Int) - A < s then (0, 0, 5)
  else if bok ((z.drop A.toNat).take s) then (num ((z.drop A.toNat).take s), A + s, 0) else (0, 0, 8)
theorem getF_bad {z : List Int} {A : Int} {s : Nat} (h : (getF z A s).2.2 ≠ 0) : getF z A s = (0, 0, (getF z A s).2.2) := by
  unfold getF at h ⊢
  split
  · rfl
  · split
    · rfl
    · split
      · rename_i h1 h2 h3; simp [h1, h2, h3] at h
      · rfl
theorem getF_ok {z : List Int} {A : Int} {s : Nat} (h : (getF z A s).2.2 = 0) :
    ∃ a : Nat, A = a ∧ a + s ≤ z.length ∧ Bits ((z.drop a).take s) ∧ getF z A s = (num ((z.drop a).take s), ((a + s : Nat) : Int), 0) := by
  unfold getF at h ⊢
  split at h
  · simp at h
  · split at h
    · simp at h
    · split at h
      · rename_i h1 h2 h3
        refine ⟨A.toNat, by omega, by omega, (bok_iff _).1 h3, ?_⟩
        rw [if_neg h1, if_neg h2, if_pos h3]
        congr 2; omega
      · simp at h
theorem getF_of {z : List Int} {a s : Nat} (h : a + s ≤ z.length) (hb : Bits ((z.drop a).take s)) : getF z a s = (num ((z.drop a).take s), ((a + s : Nat) : Int), 0) := by
  unfold getF
  rw [if_neg (by omega), if_neg (by omega), show (a : Int).toNat = a by omega, if_pos ((bok_iff _).2 hb)]
  congr 2

def zerosF (z : List Int) : Nat → Nat → Int → Int × Int × Int
  | 0, _, _ => (0, 0, 8)
  | f + 1, m, A => if (getF z A 1).2.2 ≠ 0 then (0, 0, (getF z A 1).2.2)
    else if (getF z A 1).1 = 1 then ((m : Int), (getF z A 1).2.1, 0) else zerosF z f (m + 1) (getF z A 1).2.1
theorem zerosF_bad {z : List Int} : ∀ {f m : Nat} {A : Int}, (zerosF z f m A).2.2 ≠ 0 → zerosF z f m A = (0, 0, (zerosF z f m A).2.2)
  | 0, _, _, _ => rfl
  | f + 1, m, A, h => by
    unfold zerosF at h ⊢
    split
    · rfl
    · split
      · rename_i h1 h2; simp [h1, h2] at h
      · rename_i h1 h2
        rw [if_neg h1, if_neg h2] at h
        exact zerosF_bad h
theorem take1 {z : List Int} {a : Nat} (h : a + 1 ≤ z.length) : ∃ d, (z.drop a).take 1 = [d] ∧ z.drop a = d :: z.drop (a + 1) := by
  refine ⟨z[a], ?_, ?_⟩
  · rw [List.drop_eq_getElem_cons (by omega)]; rfl
  · rw [List.drop_eq_getElem_cons (by omega)]
theorem num1 (d : Int) : num [d] = d := by unfold num; simp
theorem zerosF_ok {z : List Int} : ∀ {f m : Nat} {A : Int}, (zerosF z f m A).2.2 = 0 →
    ∃ j a : Nat, A = a ∧ j < f ∧ a + j + 1 ≤ z.length ∧ (z.drop a).take (j + 1) = List.replicate j 0 ++ [1] ∧ zerosF z f m A = (((m + j : Nat) : Int), ((a + j + 1 : Nat) : Int), 0)
  | 0, _, _, h => by simp [zerosF] at h
  | f + 1, m, A, h => by
    unfold zerosF at h ⊢
    by_cases h1 : (getF z A 1).2.2 = 0
    · rw [if_neg (by omega)] at h ⊢
      obtain ⟨a, rfl, hl, hb, hg⟩ := getF_ok h1
      obtain ⟨d, hd, hd2⟩ := take1 hl
      rw [hg, hd, num1] at h ⊢
      rw [hd] at hb
      have hb' := hb d (by simp)
      by_cases h2 : d = 1
      · subst h2
        exact ⟨0, a, rfl, by omega, by omega, by rw [hd]; rfl, by simp⟩
      · obtain rfl : d = 0 := by omega
        simp only [show ¬ ((0 : Int) = 1) by decide, if_false] at h ⊢
        obtain ⟨j, a', ha, hj, hl', ht, hz⟩ := zerosF_ok h
        obtain rfl : a' = a + 1 := by omega
        refine ⟨j + 1, a, rfl, by omega, by omega, ?_, ?_⟩
        · rw [hd2, List.take_succ_cons, ht, List.replicate_succ]; rfl
        · rw [hz]; congr 2 <;> omega
    · rw [if_pos h1] at h; exact absurd h h1
theorem zerosF_of {z : List Int} {rest : List Int} : ∀ (j f m a : Nat), j < f → z.drop a = List.replicate j 0 ++ 1 :: rest →
    zerosF z f m a = (((m + j : Nat) : Int), ((a + j + 1 : Nat) : Int), 0)
  | j, 0, _, _, h, _ => absurd h (by omega)
  | 0, f + 1, m, a, h, hz => by
    have hl : a + 1 ≤ z.length := by
      have := congrArg List.length hz
      simp at this; omega
    have ht : (z.drop a).take 1 = [1] := by rw [hz]; rfl
    have hg := getF_of (z := z) (a := a) (s := 1) hl (by rw [ht]; intro x hx; simp at hx; omega)
    rw [ht, num1] at hg
    unfold zerosF; rw [hg]; simp
  | j + 1, f + 1, m, a, h, hz => by
    have hl : a + 1 ≤ z.length := by
      have := congrArg List.length hz
      simp at this; omega
    have ht : (z.drop a).take 1 = [0] := by rw [hz]; rfl
    have hg := getF_of (z := z) (a := a) (s := 1) hl (by rw [ht]; intro x hx; simp at hx; omega)
    rw [ht, num1] at hg
    have hd : z.drop (a + 1) = List.replicate j 0 ++ 1 :: rest := by
      rw [← List.drop_drop, hz, List.replicate_succ]; rfl
    have ih := zerosF_of j f (m + 1) (a + 1) (by omega) hd
    unfold zerosF; rw [hg]
    simp only [show ¬ ((0 : Int) = 1) by decide, if_false, ne_eq, not_true]
    rw [ih]; congr 2 <;> omega

/-- What is read. -/
def readF (E : List Nat) (p : Nat) (z : List Int) (A : Int) : Int × Int × Int :=
  let x := zerosF z 10 0 A
  if x.2.2 ≠ 0 then (0, 0, x.2.2) else
  let y := getF z x.2.1 x.1.toNat
  if y.2.2 ≠ 0 then (0, 0, y.2.2) else
  let q := getF z y.2.1 p
  if q.2.2 ≠ 0 then (0, 0, q.2.2) else
  let r := (2 ^ x.1.toNat + y.1 - 1) * 2 ^ p + q.1
  if (E.length : Int) ≤ r then (0, 0, 8) else (((E.getD r.toNat 0 : Nat) : Int), q.2.1, 0)
theorem drop_take_len {z : List Int} {a s : Nat} (h : a + s ≤ z.length) : ((z.drop a).take s).length = s := by simp; omega

/-- What stands where a code begins is its entry. -/
theorem read_code (E : List Nat) (p r : Nat) (rest : List Int) (hr : r < E.length) (hd : r / 2 ^ p + 1 < 1024) :
    readF E p (cd p r ++ rest) 0 = (((E.getD r 0 : Nat) : Int), ((cd p r).length : Int), 0) := by
  obtain ⟨n, hn⟩ : ∃ n, r / 2 ^ p + 1 = n := ⟨_, rfl⟩
  have h1 : 1 ≤ n := by rw [← hn]; exact Nat.le_add_left 1 _
  rw [hn] at hd
  obtain ⟨ys, hy1, hy2, hy3, hy4⟩ := bi_top n h1
  have hdg := dg_le (n := n) (d := 10) h1 (by omega)
  have hdg1 := (dg_bd n n Nat.lt_two_pow_self h1).1
  obtain ⟨m, hm⟩ : ∃ m, dg n = m + 1 := ⟨dg n - 1, by omega⟩
  have hlen := cd_len p r
  rw [hn, hm] at hlen
  rw [hm, Nat.add_sub_cancel] at hy1 hy3
  rw [hm, Nat.add_sub_cancel] at hy4
  obtain ⟨w, hw⟩ : ∃ w : Nat, r % 2 ^ p = w := ⟨_, rfl⟩
  obtain ⟨ws, hws⟩ : ∃ ws, bi ((w : Nat) : Int) p = ws := ⟨_, rfl⟩
  have hz : cd p r ++ rest = List.replicate m 0 ++ 1 :: (ys ++ (ws ++ rest)) := by
    unfold cd; rw [hn, hm, hy4, hw, hws]; simp
  have hwl : ws.length = p := by rw [← hws, bi_len]
  rw [hz]
  have e1 := zerosF_of (z := List.replicate m 0 ++ 1 :: (ys ++ (ws ++ rest))) (rest := ys ++ (ws ++ rest)) m 10 0 0 (by omega) rfl
  have d1 : (List.replicate m (0 : Int) ++ 1 :: (ys ++ (ws ++ rest))).drop (0 + m + 1) = ys ++ (ws ++ rest) := by
    rw [show List.replicate m (0 : Int) ++ 1 :: (ys ++ (ws ++ rest)) = (List.replicate m (0 : Int) ++ [1]) ++ (ys ++ (ws ++ rest)) by simp]
    apply List.drop_left' ; simp
  have t1 : (ys ++ (ws ++ rest)).take m = ys := List.take_left' hy1
  have e2 := getF_of (z := List.replicate m (0 : Int) ++ 1 :: (ys ++ (ws ++ rest))) (a := 0 + m + 1) (s := m) (by simp; omega) (by rw [d1, t1]; exact hy2)
  rw [d1, t1] at e2
  have d2 : (List.replicate m (0 : Int) ++ 1 :: (ys ++ (ws ++ rest))).drop (0 + m + 1 + m) = ws ++ rest := by
    rw [← List.drop_drop, d1]; exact List.drop_left' hy1
  have t2 : (ws ++ rest).take p = ws := List.take_left' hwl
  have e3 := getF_of (z := List.replicate m (0 : Int) ++ 1 :: (ys ++ (ws ++ rest))) (a := 0 + m + 1 + m) (s := p) (by simp; omega) (by rw [d2, t2, ← hws]; exact bi_bits _ _)
  rw [d2, t2] at e3
  have hnw : num ws = w := by
    rw [← hws]; refine num_bi _ _ (by omega) ?_
    have := Nat.mod_lt r (Nat.two_pow_pos p)
    rw [hw] at this; exact_mod_cast this
  unfold readF
  simp only [show ((0 : Nat) : Int) = 0 from rfl] at e1
  simp only [e1, show ((0 + m : Nat) : Int).toNat = m by omega, e2, e3, hnw, ne_eq, not_true, if_false]
  have hrr : (2 ^ m + num ys - 1) * 2 ^ p + (w : Int) = r := by
    rw [← hy3, ← hn, ← hw]
    have := Nat.div_add_mod r (2 ^ p)
    have h2 : ((r / 2 ^ p : Nat) : Int) * 2 ^ p + ((r % 2 ^ p : Nat) : Int) = r := by
      rw [Int.mul_comm]; exact_mod_cast this
    rw [show (((r / 2 ^ p + 1 : Nat) : Int) - 1) = ((r / 2 ^ p : Nat) : Int) by omega]
    exact h2
  have hrl : ¬ ((E.length : Int) ≤ (r : Int)) := by omega
  rw [hrr, if_neg hrl, hlen, show ((r : Nat) : Int).toNat = r by omega]
  congr 2; omega

/-- What is read has just these bits as its code. -/
theorem read_back (E : List Nat) (p : Nat) (z : List Int) (A : Int) (h : (readF E p z A).2.2 = 0) :
    ∃ a s r : Nat, A = a ∧ a + s ≤ z.length ∧ r < E.length ∧ (z.drop a).take s = cd p r ∧ readF E p z A = (((E.getD r 0 : Nat) : Int), ((a + s : Nat) : Int), 0) := by
  unfold readF at h ⊢
  by_cases h1 : (zerosF z 10 0 A).2.2 = 0
  case neg => simp [h1] at h
  by_cases h2 : (getF z (zerosF z 10 0 A).2.1 (zerosF z 10 0 A).1.toNat).2.2 = 0
  case neg => simp [h1, h2] at h
  by_cases h3 : (getF z (getF z (zerosF z 10 0 A).2.1 (zerosF z 10 0 A).1.toNat).2.1 p).2.2 = 0
  case neg => simp [h1, h2, h3] at h
  simp only [h1, h2, h3, ne_eq, not_true, if_false] at h ⊢
  obtain ⟨j, a, rfl, hj, hl, ht, hz⟩ := zerosF_ok h1
  rw [hz] at h h2 h3 ⊢
  simp only [show ((0 + j : Nat) : Int).toNat = j by omega] at h h2 h3 ⊢
  obtain ⟨a2, ha2, hl2, hb2, hg2⟩ := getF_ok h2
  obtain rfl : a2 = a + j + 1 := by omega
  rw [hg2] at h h3 ⊢
  obtain ⟨a3, ha3, hl3, hb3, hg3⟩ := getF_ok h3
  simp only at ha3
  obtain rfl : a3 = a + j + 1 + j := by omega
  simp only at hg3
  simp only [hg3] at h ⊢
  obtain ⟨ys, hys⟩ : ∃ ys, (z.drop (a + j + 1)).take j = ys := ⟨_, rfl⟩
  obtain ⟨ws, hws⟩ : ∃ ws, (z.drop (a + j + 1 + j)).take p = ws := ⟨_, rfl⟩
  have hyl : ys.length = j := by rw [← hys]; exact drop_take_len hl2
  have hwl : ws.length = p := by rw [← hws]; exact drop_take_len hl3
  rw [hys] at hb2 h ⊢
  rw [hws] at hb3 h ⊢
  obtain ⟨y0, y1⟩ := num_bd j ys hyl hb2
  obtain ⟨w0, w1⟩ := num_bd p ws hwl hb3
  obtain ⟨Y, hY⟩ : ∃ Y : Nat, num ys = Y := ⟨(num ys).toNat, by omega⟩
  obtain ⟨W, hW⟩ : ∃ W : Nat, num ws = W := ⟨(num ws).toNat, by omega⟩
  rw [hY] at y0 y1 h ⊢
  rw [hW] at w0 w1 h ⊢
  have y1' : Y < 2 ^ j := by exact_mod_cast y1
  have w1' : W < 2 ^ p := by exact_mod_cast w1
  have hp0 : 1 ≤ 2 ^ j := Nat.one_le_two_pow
  obtain ⟨r, hr⟩ : ∃ r : Nat, (2 ^ j + Y - 1) * 2 ^ p + W = r := ⟨_, rfl⟩
  have hri : (2 ^ j + (Y : Int) - 1) * 2 ^ p + (W : Int) = r := by
    rw [← hr]; push_cast
    rw [Int.natCast_sub (by omega)]; push_cast; rfl
  rw [hri] at h ⊢
  by_cases h4 : (E.length : Int) ≤ r
  · rw [if_pos h4] at h; simp at h
  rw [if_neg h4, show ((r : Nat) : Int).toNat = r by omega]
  refine ⟨a, j + 1 + j + p, r, rfl, by omega, by omega, ?_, ?_⟩
  · have hrd : r / 2 ^ p = 2 ^ j + Y - 1 := by
      rw [← hr, Nat.mul_comm, Nat.mul_add_div (Nat.two_pow_pos p), Nat.div_eq_of_lt w1']; omega
    have hrm : r % 2 ^ p = W := by
      rw [← hr, Nat.mul_comm, Nat.mul_add_mod, Nat.mod_eq_of_lt w1']
    unfold cd
    rw [hrd, hrm, show 2 ^ j + Y - 1 + 1 = 2 ^ j + Y by omega]
    have hdg : dg (2 ^ j + Y) = j + 1 := dg_uniq (by omega) (by omega) (by simp) (by rw [Nat.pow_succ]; omega)
    rw [hdg]
    have hbig : Bits (List.replicate j 0 ++ 1 :: ys) := by
      refine bits_append (fun z hz => .inl (List.eq_of_mem_replicate hz)) (fun z hz => ?_)
      rcases List.mem_cons.1 hz with rfl | hz
      · exact .inr rfl
      · exact hb2 z hz
    have hnum : num (List.replicate j 0 ++ 1 :: ys) = ((2 ^ j + Y : Nat) : Int) := by
      have h5 : ∀ j, num (List.replicate j 0) = 0 := by
        intro j; induction j with
        | zero => rfl
        | succ j ih => rw [List.replicate_succ']; rw [num_snoc, ih]; rfl
      rw [num_append, h5, show (1 :: ys : List Int) = [1] ++ ys from rfl, num_append, num1, hyl, hY]; push_cast; omega
    have hbi := bi_num (j + 1 + j) (List.replicate j 0 ++ 1 :: ys) (by simp [hyl]; omega) hbig
    rw [hnum] at hbi
    rw [show 2 * (j + 1) - 1 = j + 1 + j by omega, hbi]
    have hbw := bi_num p ws hwl hb3
    rw [hW] at hbw
    rw [hbw]
    rw [show j + 1 + j + p = (j + 1) + (j + p) by omega, List.take_add, ht, List.drop_drop, show a + (j + 1) = a + j + 1 by omega, List.take_add, hys, List.drop_drop, hws]
    simp
  · rw [show a + (j + 1 + j + p) = a + j + 1 + j + p by omega]
end Go.Proofs.YteklahfgplbmcaaDoor.Bk

/- Bases, sizes and weights of shapes. -/
namespace Go.Proofs.YteklahfgplbmcaaDoor.Bk
open Go Go.ChangeShapes Go.WideShapes Go.ChangeAt Go.RowKit Go.Proofs.YteklahfgplbmcaaDoor.Bi Go.Proofs.YteklahfgplbmcaaDoor.Cr

theorem base_ok (d l h p : Int) (w : World) (hl : -60 ≤ l) (hl2 : l ≤ 0) (hh : 0 ≤ h) (hh2 : h ≤ 60) :
    Calls Tryd.prog 55 #[.agg #[.int .i64 d, .int .i64 l, .int .i64 h, .int .i64 p]] w fun e w' => e = .returned (.int .i64 (h - l + 1)) ∧ Below w.heap.size w w' := by
  have HB := Lib.hid ((Below.refl w.heap.size w).alloc (Nat.le_refl _) (.cells #[.int .i64 d, .int .i64 l, .int .i64 h, .int .i64 p] 82))
  go_enter Tryd.func55, Tryd.ntmps55
  go_wp2
  go_ret
  exact ⟨rfl, HB.out⟩

/-- A shape in a box. -/
abbrev Bx4 (w : World) (B : Nat) (d l h p : Int) : Prop := w.cell? ⟨B, 0, none⟩ = some (.int .i64 d) ∧ w.cell? ⟨B, 1, none⟩ = some (.int .i64 l) ∧ w.cell? ⟨B, 2, none⟩ = some (.int .i64 h) ∧ w.cell? ⟨B, 3, none⟩ = some (.int .i64 p) ∧ B < w.heap.size
theorem Bx4.below {w w' : World} {B : Nat} {d l h p : Int} (x : Bx4 w B d l h p) (hb : Below w.heap.size w w') : Bx4 w' B d l h p := by
  obtain ⟨a, b, c, e, f⟩ := x
  exact ⟨(hb.cell f).trans a, (hb.cell f).trans b, (hb.cell f).trans c, (hb.cell f).trans e, Nat.lt_of_lt_of_le f hb.size⟩
theorem heap_oth {w : World} {a b i : Nat} (v : Value) (h : a ≠ b) : (w.setCell ⟨a, i, none⟩ v).heap[b]? = w.heap[b]? := by
  simp only [World.setCell]
  show (w.heap.modify a _)[b]? = w.heap[b]?
  rw [Array.getElem?_modify, if_neg h]
theorem Bx4.set {w : World} {B g i : Nat} {d l h p : Int} (x : Bx4 w B d l h p) (hg : g ≠ B) (v : Value) : Bx4 (w.setCell ⟨g, i, none⟩ v) B d l h p := by
  obtain ⟨a, b, c, e, f⟩ := x
  exact ⟨(World.cell?_of_block (heap_oth v hg)).trans a, (World.cell?_of_block (heap_oth v hg)).trans b, (World.cell?_of_block (heap_oth v hg)).trans c, (World.cell?_of_block (heap_oth v hg)).trans e, by simpa [World.setCell] using f⟩
theorem bx4_new (w : World) (d l h p : Int) : Bx4 (w.alloc (.cells #[.int .i64 d, .int .i64 l, .int .i64 h, .int .i64 p] 82)) w.heap.size d l h p := by
  have r := World.rowIs_alloc w #[.int .i64 d, .int .i64 l, .int .i64 h, .int .i64 p] 82 (fun i => #[.int .i64 d, .int .i64 l, .int .i64 h, .int .i64 p].getD i (.int .i64 0)) (fun i hi => by
    simp at hi
    have : i = 0 ∨ i = 1 ∨ i = 2 ∨ i = 3 := by omega
    rcases this with rfl | rfl | rfl | rfl <;> rfl)
  exact ⟨r.cell (i := 0) (by simp), r.cell (i := 1) (by simp), r.cell (i := 2) (by simp), r.cell (i := 3) (by simp), by simp⟩

set_option maxHeartbeats 4000000 in
theorem size_ok (d b : Nat) (l h p : Int) (w : World) (hl : -60 ≤ l) (hl2 : l ≤ 0) (hh : 0 ≤ h) (hh2 : h ≤ 60) (hb : (b : Int) = h - l + 1) (hd : d ≤ 4) (hN : ∀ i, i ≤ d → (b ^ i : Nat) ≤ 289) :
    Calls Tryd.prog 46 #[.agg #[.int .i64 d, .int .i64 l, .int .i64 h, .int .i64 p]] w fun e w' => e = .returned (.int .i64 ((b ^ d : Nat) : Int)) ∧ Below w.heap.size w w' := by
  have HB := Lib.hid ((Below.refl w.heap.size w).alloc (Nat.le_refl _) (.cells #[.int .i64 d, .int .i64 l, .int .i64 h, .int .i64 p] 82))
  have HX := Lib.hid (bx4_new w d l h p)
  have HC := Lib.hid (fun w => base_ok d l h p w hl hl2 hh hh2)
  have HN := Lib.hid hN
  have hb2 : h - l + 1 = (b : Int) := hb.symm
  rw [hb2] at HC
  clear hN hb hb2 hl hl2 hh hh2
  go_enter Tryd.func46, Tryd.ntmps46
  go_wp2
  go_loopw [3, 6] (fun n i wr => ∃ k : Nat, k ≤ d ∧ i = .int .i64 k ∧ n = .int .i64 ((b ^ k : Nat) : Int) ∧ Hid (Bx4 wr w.heap.size d l h p) ∧ Hid (Below w.heap.size w wr)) (fun _ i _ => d - (intOf i).toNat)
  case atStart => exact ⟨0, by omega, rfl, by simp, HX, HB⟩
  case round =>
    obtain ⟨k, hk, rfl, rfl, hX, hB⟩ := hrel
    obtain ⟨c0, c1, c2, c3, c4⟩ := hX.out
    by_cases hlt : k < d
    · have p1 := HN.out (k + 1) (by omega)
      have p0 := HN.out k (by omega)
      have ep : ((b ^ k : Nat) : Int) * (b : Int) = ((b ^ (k + 1) : Nat) : Int) := by rw [Nat.pow_succ]; push_cast; rfl
      have q1 : ((b ^ (k + 1) : Nat) : Int) ≤ 289 := Int.ofNat_le.2 p1
      have q0 : 0 ≤ ((b ^ (k + 1) : Nat) : Int) := Int.natCast_nonneg _
      obtain ⟨P1, hP1⟩ : ∃ P1 : Int, ((b ^ (k + 1) : Nat) : Int) = P1 := ⟨_, rfl⟩
      rw [hP1] at ep q1 q0
      have HP1 := Lib.hid hP1
      clear hP1
      generalize ((b ^ k : Nat) : Int) = P0 at *
      go_wp2_with (go_at_call 55; ((with_reducible refine (HC.out _).mono ?_); rintro e w1 ⟨rfl, hb1⟩))
      go_roundw
      case rel => exact ⟨k + 1, by omega, by go_num, by rw [HP1.out], Lib.hid (hX.out.below hb1), Lib.hid (hB.out.trans (hb1.mono hB.out.size))⟩
      case measure => simp [intOf]; omega
    · have hend : k = d := by omega
      subst hend
      go_wp2
      go_ret
      exact ⟨rfl, hB.out⟩

/-! ### Weights -/
def wf (b : Nat) (l : Int) (N k r : Nat) (j : Nat) : Int := if j < N then ((wtd b l k (j / r) : Nat) : Int) else 0
theorem wf_zero (b : Nat) (l : Int) (N r j : Nat) : wf b l N 0 r j = 0 := by unfold wf wtd; simp
/-- What a place's size is, by digits. -/
theorem wf_step {b R q u t N k x : Nat} {l : Int} (hR : 0 < R) (hu : u < b) (ht : t < R) (hx : x = q * (b * R) + u * R + t) (hN : x < N) :
    wf b l N (k + 1) R x = wf b l N k (b * R) x + (l + u).natAbs := by
  have hb : 0 < b := by omega
  have e1 : x / R = q * b + u := by
    rw [hx, show q * (b * R) + u * R + t = R * (q * b + u) + t by rw [Nat.mul_add, Nat.mul_comm R u, ← Nat.mul_assoc q b R, Nat.mul_comm (q * b) R], Nat.mul_add_div hR, Nat.div_eq_of_lt ht]; rfl
  have e2 : (q * b + u) / b = q := by rw [Nat.mul_comm, Nat.mul_add_div hb, Nat.div_eq_of_lt hu]; rfl
  have e3 : (q * b + u) % b = u := by rw [Nat.mul_comm, Nat.mul_add_mod, Nat.mod_eq_of_lt hu]
  have e4 : x / (b * R) = q := by rw [Nat.mul_comm b R, ← Nat.div_div_eq_div_mul, e1, e2]
  unfold wf
  rw [if_pos hN, if_pos hN, e4, e1]
  conv => lhs; unfold wtd
  rw [e2, e3]; push_cast; rfl
theorem x_lt {b R q u t M : Nat} (hu : u < b) (ht : t < R) (hq : q < M) : q * (b * R) + u * R + t < M * (b * R) := by
  calc q * (b * R) + u * R + t < q * (b * R) + u * R + R := by omega
    _ = q * (b * R) + (u + 1) * R := by rw [Nat.succ_mul]; omega
    _ ≤ q * (b * R) + b * R := Nat.add_le_add_left (Nat.mul_le_mul_right _ hu) _
    _ = (q + 1) * (b * R) := by rw [Nat.succ_mul]
    _ ≤ M * (b * R) := Nat.mul_le_mul_right _ hq
theorem info84 : (Tryd.prog.info? 84).map (fun i => i.zero.map Value.cells) = some (some (Array.replicate 289 (.int .u8 0))) := by kernel_rfl
theorem size84 : (Tryd.prog.info? 84).map (·.size) = some 289 := by kernel_rfl
theorem info_parts' {p : Program} {t : TypeId} {v : Value} {n b : Nat} (h : (p.info? t).map (fun i => (i.zero, i.size, i.bytes)) = some (some v, n, b)) : ∃ i0, p.info? t = some i0 ∧ i0.zero = some v ∧ i0.size = n ∧ i0.bytes = b := by
  cases hi : p.info? t with
  | none => rw [hi] at h; simp at h
  | some i0 => rw [hi] at h; simp at h; exact ⟨i0, rfl, h.1, h.2.1, h.2.2⟩
theorem run_new {p : Program} {t : TypeId} {cs : Array Value} (h : (p.info? t).map (fun i => i.zero.map Value.cells) = some (some cs)) (w : World) : (Instr.alloc t true (.tuple #[])).run p w = .ok (.pointer (some ⟨w.heap.size, 0, none⟩)) (w.alloc (.cells cs t)) := by
  cases hi : p.info? t with
  | none => rw [hi] at h; simp at h
  | some i0 =>
    rw [hi] at h
    simp only [Option.map_some, Option.some.injEq] at h
    cases hz : i0.zero with
    | none => rw [hz] at h; simp at h
    | some z =>
      rw [hz] at h
      simp only [Option.map_some, Option.some.injEq] at h
      have h1 := run_typeInfo (w := w) hi
      unfold Instr.alloc zeroValue newVar newRow
      simp [h1, hz, h, Sem.run_bind]
theorem wpList_new84 (w : World) {ops : Array Oper} {rest : List Oper} {o : Oper} {a : Act} {Q : Exit → Act → World → Prop} (hg : o.guard = none) (hop : o.op = Op.alloc 84)
    (hK : wpList Tryd.prog ops Q rest (a.put o.dst (.pointer (some ⟨w.heap.size, 0, none⟩))) (w.alloc (.cells (Array.replicate 289 (.int .u8 0)) 84))) : wpList Tryd.prog ops Q (o :: rest) a w := by
  refine wpList_plain hg fun K hK' => ?_
  have hrun := run_new info84 w
  unfold Oper.wp
  simp [execOp, hop, hrun, Result.andThen]
  exact hK' _ _ hK
theorem new84 (w : World) : (w.alloc (.cells (Array.replicate 289 (.int .u8 0)) 84)).rowIs w.heap.size 84 289 (fun _ => .int .u8 0) :=
  ⟨_, Go.Deep.blk_alloc_new _ _, Array.size_replicate, fun i hi => by rw [Array.getElem?_replicate, if_pos hi]⟩
/-- The state of a walk through weights. -/
structure St (w0 : World) (B R O : Nat) (d l h p : Int) (g : Nat → Int) (w : World) : Prop where
  box : Bx4 w B d l h p
  res : w.rowIs R 84 289 (fun _ => .int .u8 0)
  out : w.rowIs O 84 289 (fun j => .int .u8 (g j))
  bl : Below w0.heap.size w0 w
theorem St.below {w0 w w' : World} {B R O : Nat} {d l h p : Int} {g : Nat → Int} (s : St w0 B R O d l h p g w) (hb : Below w.heap.size w w') : St w0 B R O d l h p g w' :=
  ⟨s.box.below hb, s.res.of_block (hb.block _ s.res.lt), s.out.of_block (hb.block _ s.out.lt), s.bl.trans (hb.mono s.bl.size)⟩
theorem St.congr {w0 w : World} {B R O : Nat} {d l h p : Int} {g g' : Nat → Int} (s : St w0 B R O d l h p g w) (e : ∀ j, j < 289 → g j = g' j) : St w0 B R O d l h p g' w :=
  ⟨s.box, s.res, s.out.congr fun j hj => by rw [e j hj], s.bl⟩
theorem St.set {w0 w : World} {B R O : Nat} {d l h p : Int} {A C : Nat → Int} {x : Nat} {v : Int} (s : St w0 B R O d l h p (fun j => if j < x then C j else A j) w) (hB : O ≠ B) (hR : O ≠ R) (hO : w0.heap.size ≤ O) (hv : v = C x) :
    St w0 B R O d l h p (fun j => if j < x + 1 then C j else A j) (w.setCell ⟨O, x, none⟩ (.int .u8 v)) :=
  ⟨s.box.set hB _, s.res.of_block (heap_oth _ hR), (s.out.set x (.int .u8 v)).congr (fun i _ => by
    by_cases h1 : i = x
    · subst h1; rw [if_pos rfl, if_pos (by omega), hv]
    · rw [if_neg h1]
      by_cases h2 : i < x
      · rw [if_pos h2, if_pos (by omega)]
      · rw [if_neg h2, if_neg (by omega)]), s.bl.setCell (p := ⟨O, x, none⟩) hO _⟩
theorem u8_in {n : Int} (h0 : 0 ≤ n) (h1 : n ≤ 255) : IntKind.u8.wrap n = n := by
  simp [IntKind.wrap, IntKind.bits, IntKind.signed]; omega
theorem below_setRow {b R : Nat} {w w' : World} (h : Below b w w') (hR : b ≤ R) (cs : Array Value) : Below b w (w'.setRow R cs) :=
  ⟨h.os, h.tape, h.output, by (show w.heap.size ≤ (w'.heap.modify R _).size); rw [Array.size_modify]; exact h.size, fun k hk => by
    show (w'.heap.modify R _)[k]? = _
    rw [Array.getElem?_modify, if_neg (by omega)]; exact h.block k hk⟩
def IsWt (b d N : Nat) (l : Int) (c : Array Value) : Prop := c.size = 289 ∧ ∀ i, i < 289 → c[i]? = some (.int .u8 (wf b l N d 1 i))

theorem st_new (w : World) (d l h p : Int) : St w w.heap.size (w.heap.size + 1) (w.heap.size + 1 + 1) d l h p (fun _ => 0)
    (((w.alloc (.cells #[.int .i64 d, .int .i64 l, .int .i64 h, .int .i64 p] 82)).alloc (.cells (Array.replicate 289 (.int .u8 0)) 84)).alloc (.cells (Array.replicate 289 (.int .u8 0)) 84)) := by
  have e1 : (w.alloc (.cells #[.int .i64 d, .int .i64 l, .int .i64 h, .int .i64 p] 82)).heap.size = w.heap.size + 1 := by simp
  have e2 : ((w.alloc (.cells #[.int .i64 d, .int .i64 l, .int .i64 h, .int .i64 p] 82)).alloc (.cells (Array.replicate 289 (.int .u8 0)) 84)).heap.size = w.heap.size + 1 + 1 := by simp
  have b1 := (Below.refl w.heap.size w).alloc (Nat.le_refl _) (.cells #[.int .i64 d, .int .i64 l, .int .i64 h, .int .i64 p] 82)
  have b2 := (Below.refl _ (w.alloc (.cells #[.int .i64 d, .int .i64 l, .int .i64 h, .int .i64 p] 82))).alloc (Nat.le_refl _) (.cells (Array.replicate 289 (.int .u8 0)) 84)
  have b3 := (Below.refl _ ((w.alloc (.cells #[.int .i64 d, .int .i64 l, .int .i64 h, .int .i64 p] 82)).alloc (.cells (Array.replicate 289 (.int .u8 0)) 84))).alloc (Nat.le_refl _) (.cells (Array.replicate 289 (.int .u8 0)) 84)
  have x1 := ((bx4_new w d l h p).below b2).below b3
  have r1 := new84 (w.alloc (.cells #[.int .i64 d, .int .i64 l, .int .i64 h, .int .i64 p] 82))
  have r2 := new84 ((w.alloc (.cells #[.int .i64 d, .int .i64 l, .int .i64 h, .int .i64 p] 82)).alloc (.cells (Array.replicate 289 (.int .u8 0)) 84))
  have r1' := r1.of_block (b3.block _ r1.lt)
  rw [e1] at r1'
  rw [e2] at r2
  exact ⟨x1, r1', r2, b1.trans ((b2.mono b1.size).trans (b3.mono (Nat.le_trans b1.size b2.size)))⟩
theorem pow_split {b d k : Nat} (h : k < d) : b ^ (d - k) = b * b ^ (d - (k + 1)) := by
  rw [show d - k = (d - (k + 1)) + 1 by omega, Nat.pow_succ, Nat.mul_comm]
set_option maxRecDepth 100000 in
set_option maxHeartbeats 8000000 in
theorem weights_ok (d b : Nat) (l h p : Int) (w : World) (hl : -60 ≤ l) (hl2 : l ≤ 0) (hh : 0 ≤ h) (hh2 : h ≤ 60) (hb : (b : Int) = h - l + 1) (hd : d ≤ 4) (hN : ∀ i, i ≤ d → (b ^ i : Nat) ≤ 289)
    (hW : ∀ k n, k ≤ d → wtd b l k n ≤ 255) :
    Calls Tryd.prog 45 #[.agg #[.int .i64 d, .int .i64 l, .int .i64 h, .int .i64 p]] w fun e w' => ∃ c, e = .returned (.agg c) ∧ IsWt b d (b ^ d) l c ∧ Below w.heap.size w w' := by
  have HS0 := Lib.hid (st_new w d l h p)
  have HC := Lib.hid (fun w => base_ok d l h p w hl hl2 hh hh2)
  have HZ := Lib.hid (fun w => size_ok d b l h p w hl hl2 hh hh2 hb hd hN)
  have hb2 : h - l + 1 = (b : Int) := hb.symm
  rw [hb2] at HC
  have hb1 : 1 ≤ b := by omega
  have HW := Lib.hid hW
  have HNd := hN d (Nat.le_refl _)
  obtain ⟨N, hNN⟩ : ∃ N, b ^ d = N := ⟨_, rfl⟩
  rw [hNN] at HNd HZ ⊢
  have HN := Lib.hid hNN
  have HHb := Lib.hid hb
  clear hN hW hb hb2 hNN
  go_enter Tryd.func45, Tryd.ntmps45
  go_wp2_with first
    | (refine wpList_new84 _ rfl rfl ?_)
    | (go_at_call 46; ((with_reducible refine (HZ.out _).mono ?_); rintro e w1 ⟨rfl, hb1⟩; have S1 := Lib.hid (HS0.out.below hb1); obtain ⟨k0, k1, k2, k3, k4⟩ := S1.out.box))
  have hOB : w.heap.size + 1 + 1 ≠ w.heap.size := by omega
  have hOR : w.heap.size + 1 + 1 ≠ w.heap.size + 1 := by omega
  have hO : w.heap.size ≤ w.heap.size + 1 + 1 := by omega
  have hRb : w.heap.size ≤ w.heap.size + 1 := by omega
  clear HS0 hb1 k0 k1 k2 k3 k4
  generalize w.heap.size + 1 + 1 = O at *
  generalize w.heap.size + 1 = R at *
  have S2 := Lib.hid (S1.out.congr (g' := wf b l N 0 (b ^ (d - 0))) fun j _ => (wf_zero b l N _ j).symm)
  clear S1
  go_loopw [5, 13] (fun r i wr => ∃ k : Nat, k ≤ d ∧ i = .int .i64 k ∧ r = .int .i64 ((b ^ (d - k) : Nat) : Int) ∧ Hid (St w w.heap.size R O d l h p (wf b l N k (b ^ (d - k))) wr)) (fun _ i _ => d - (intOf i).toNat)
  case atStart => exact ⟨0, by omega, rfl, by rw [Nat.sub_zero, HN.out], S2⟩
  case round =>
    obtain ⟨k, hk, rfl, rfl, hS⟩ := hrel
    obtain ⟨c0, c1, c2, c3, c4⟩ := hS.out.box
    clear S2
    by_cases hlt : k < d
    · have hps := pow_split (b := b) hlt
      obtain ⟨r1, hr1⟩ : ∃ r1, b ^ (d - (k + 1)) = r1 := ⟨_, rfl⟩
      have hr1p : 0 < r1 := by rw [← hr1]; exact Nat.pow_pos (by omega)
      have hNM : N = b ^ k * (b * r1) := by rw [← HN.out, ← hr1, ← hps, ← Nat.pow_add]; congr 1; omega
      rw [hr1] at hps
      rw [hps] at hS ⊢
      have hMN : b * r1 ≤ N := by rw [hNM]; exact Nat.le_mul_of_pos_left _ (Nat.pow_pos (by omega))
      have hr1N : r1 ≤ b * r1 := Nat.le_mul_of_pos_left _ (by omega)
      obtain ⟨M, hM⟩ : ∃ M, b ^ k = M := ⟨_, rfl⟩
      rw [hM] at hNM
      have hq : Int.tdiv ((b * r1 : Nat) : Int) (b : Int) = r1 := by
        rw [Int.tdiv_eq_ediv_of_nonneg (by omega)]; push_cast; rw [Int.mul_comm]; exact Int.mul_ediv_cancel _ (by omega)
      have HHM := Lib.hid hNM
      have HR1 := Lib.hid hr1
      clear hr1 hps hNM hM
      obtain ⟨br, hbr⟩ : ∃ br, b * r1 = br := ⟨_, rfl⟩
      rw [hbr] at hq hMN hr1N hS ⊢
      have HBR := Lib.hid hbr
      clear hbr
      go_wp2_with (go_at_call 55; ((with_reducible refine (HC.out _).mono ?_); rintro e w2 ⟨rfl, hb2⟩; have S3 := Lib.hid (hS.out.below hb2); obtain ⟨k0, k1, k2, k3, k4⟩ := S3.out.box))
      have HLU := Lib.hid hlt
      clear hS c0 c1 c2 c3 c4 hb2 k0 k1 k2 k3 k4 hk hlt
      have S4 := Lib.hid (S3.out.congr (g' := fun j => if j < 0 then wf b l N (k + 1) r1 j else wf b l N k br j) fun j _ => by rw [if_neg (by omega)])
      clear S3
      obtain ⟨wo, hwo⟩ : ∃ wo : World, wo = wr := ⟨_, rfl⟩
      go_loopw [6] (fun n wr => ∃ q x : Nat, q ≤ M ∧ Hid (x = q * br) ∧ n = .int .i64 x ∧ x ≤ N ∧ Hid (St w w.heap.size R O d l h p (fun j => if j < x then wf b l N (k + 1) r1 j else wf b l N k br j) wr)) (fun n _ => N - (intOf n).toNat)
      case atStart => exact ⟨0, 0, by omega, Lib.hid (by simp), rfl, by omega, S4⟩
      case round =>
        obtain ⟨q, x, hqM, hx, rfl, hxN, hS⟩ := hrel
        by_cases hlt2 : x < N
        · obtain ⟨c0, c1, c2, c3, c4⟩ := hS.out.box
          have hqM' : q < M := by
            rcases Nat.lt_or_ge q M with hh | hh
            · exact hh
            · have := Nat.mul_le_mul_right br hh
              have e1 := HHM.out; rw [HBR.out] at e1; have e2 := hx.out; omega
          go_wp2
          clear c0 c1 c2 c3 c4
          obtain ⟨wo2, hwo2⟩ : ∃ wo : World, wo = wr := ⟨_, rfl⟩
          go_loopw [6, 7] (fun n v wr => ∃ u y : Nat, u ≤ b ∧ Hid (y = x + u * r1) ∧ n = .int .i64 y ∧ v = .int .i64 (l + (u : Int)) ∧ Hid (St w w.heap.size R O d l h p (fun j => if j < y then wf b l N (k + 1) r1 j else wf b l N k br j) wr)) (fun _ v _ => b - (intOf v - l).toNat)
          case atStart => exact ⟨0, x, by omega, Lib.hid (by simp), rfl, by simp, hS⟩
          case round =>
            obtain ⟨u, y, hu, hy, rfl, rfl, hS2⟩ := hrel
            obtain ⟨c0, c1, c2, c3, c4⟩ := hS2.out.box
            have hhb := HHb.out
            by_cases hlt3 : u < b
            · have hle : l + (u : Int) ≤ h := by omega
              clear hhb
              go_wp2
              clear c0 c1 c2 c3 c4
              obtain ⟨wo3, hwo3⟩ : ∃ wo : World, wo = wr := ⟨_, rfl⟩
              go_loopw [6, 31] (fun n ti wr => ∃ t z : Nat, t ≤ r1 ∧ Hid (z = y + t) ∧ n = .int .i64 z ∧ ti = .int .i64 t ∧ Hid (St w w.heap.size R O d l h p (fun j => if j < z then wf b l N (k + 1) r1 j else wf b l N k br j) wr)) (fun _ ti _ => r1 - (intOf ti).toNat)
              case atStart => exact ⟨0, y, by omega, Lib.hid (by simp), rfl, rfl, hS2⟩
              case round =>
                obtain ⟨t, z, ht, hz, rfl, rfl, hS3⟩ := hrel
                by_cases hlt4 : t < r1
                · have hz' : z = q * (b * r1) + u * r1 + t := by rw [hz.out, hy.out, hx.out, HBR.out]
                  have hzN : z < N := by rw [hz', HHM.out]; exact x_lt hlt3 hlt4 hqM'
                  have hst := wf_step (N := N) (k := k) (l := l) hr1p hlt3 hlt4 hz' hzN
                  rw [HBR.out] at hst
                  have hc0 := hS3.out.out.cell (i := z) (by omega)
                  have hcf := hS3.out.out.frozen z
                  rw [if_neg (by omega)] at hc0
                  have hA0 : 0 ≤ wf b l N k br z := by unfold wf; rw [if_pos hzN]; exact Int.natCast_nonneg _
                  have hC1 : wf b l N (k + 1) r1 z ≤ 255 := by unfold wf; rw [if_pos hzN]; exact Int.ofNat_le.2 (HW.out (k + 1) _ HLU.out)
                  have hz289 : z < 289 := by omega
                  obtain ⟨V, hV⟩ : ∃ V, wf b l N (k + 1) r1 z = V := ⟨_, rfl⟩
                  have hS4 := Lib.hid (hS3.out.set hOB hOR hO hV.symm)
                  rw [hV] at hst hC1
                  clear hV hz' hS3
                  generalize wf b l N k br z = A at *
                  have hVs := Lib.hid (show (A + max (l + (u : Int)) (-(l + (u : Int)))) % 256 = V by omega)
                  clear hst
                  go_wp2
                  go_roundw
                  case rel => exact ⟨t + 1, z + 1, by omega, Lib.hid (by rw [hz.out]; omega), by go_num, by go_num, by rw [hVs.out]; exact hS4⟩
                  case measure => simp [intOf]; omega
                · have hend : t = r1 := by omega
                  have hy2 : z = x + (u + 1) * r1 := by rw [hz.out, hy.out, hend, Nat.succ_mul]; omega
                  go_wp2
                  go_roundw
                  case rel => exact ⟨u + 1, z, by omega, Lib.hid hy2, rfl, by rw [show (l + ((u + 1 : Nat) : Int)) = l + (u : Int) + 1 by omega], hS3⟩
                  case measure => simp [intOf]; omega
            · have hend : u = b := by omega
              have hgt : ¬ l + (u : Int) ≤ h := by omega
              have hx2 : y = (q + 1) * br := by rw [hy.out, hx.out, hend, HBR.out, Nat.succ_mul]
              have hyN : y ≤ N := by
                have e1 := HHM.out; rw [HBR.out] at e1
                rw [hx2, e1]; exact Nat.mul_le_mul_right _ hqM'
              have hbr0 : x < y := by rw [hy.out, hend, HBR.out]; omega
              clear hhb
              go_wp2
              go_roundw
              case rel => exact ⟨q + 1, y, by omega, Lib.hid hx2, rfl, hyN, hS2⟩
              case measure => simp [intOf]; omega
        · have hend : x = N := by omega
          have hS5 := Lib.hid (hS.out.congr (g' := wf b l N (k + 1) (b ^ (d - (k + 1)))) fun j _ => by
            rw [HR1.out]
            by_cases hj : j < x
            · rw [if_pos hj]
            · rw [if_neg hj]; unfold wf; rw [if_neg (by omega), if_neg (by omega)])
          have hlu := HLU.out
          clear hS
          go_wp2
          go_roundw
          case rel => exact ⟨k + 1, by omega, by go_num, by rw [HR1.out], hS5⟩
          case measure => simp [intOf]; omega
    · have hend : k = d := by omega
      subst hend
      obtain ⟨cs, hcs, hcs2, hcs3⟩ := hS.out.out
      obtain ⟨cr, hcr, hcr2, hcr3⟩ := hS.out.res
      have HU := Lib.hid (fun i hi => hcs3 i hi)
      have hone : cs.all (·.oneCell') = true := by
        rw [Array.all_eq_true_iff_forall_mem]
        intro v hv
        obtain ⟨i, hi, rfl⟩ := Array.mem_iff_getElem.1 hv
        have := hcs3 i (by omega)
        rw [Array.getElem?_eq_getElem hi] at this
        simp only [Option.some.injEq] at this
        rw [this]; rfl
      have hsi := size84
      rw [← hcs2] at hsi
      have hb3 := below_setRow hS.out.bl hRb cs
      have hg2 := setRow_heap wr R cr cs 84 (0, 0) hcr
      have HI := Lib.hid hsi
      have HO := Lib.hid hone
      have HB3 := Lib.hid hb3
      have HG2 := Lib.hid hg2
      have HCS := Lib.hid hcs
      have HCR := Lib.hid hcr
      have HSZ := Lib.hid (show cr.size = cs.size by omega)
      have HC2 := Lib.hid hcs2
      clear hsi hone hb3 hg2 hcs hcr hcs3 hcr3 hS hcs2 hcr2
      go_wp2_with first
        | (refine wpList_load_row rfl 84 _ rfl O rfl 84 cs _ _ HCS.out Tryd.underlying84 rfl HI.out ?_)
        | (refine wpList_store_row rfl 84 _ _ rfl R cs rfl rfl 84 cr HCR.out HI.out HSZ.out HO.out ?_)
      refine bodyPost_ret (results_cell_row rfl _ _ R 84 cs _ _ rfl HG2.out Tryd.underlying84 rfl HI.out) rfl ?_
      refine ⟨cs, rfl, ⟨HC2.out, fun i hi => ?_⟩, HB3.out⟩
      have := HU.out i hi
      rw [Nat.sub_self, Nat.pow_zero] at this
      exact this
end Go.Proofs.YteklahfgplbmcaaDoor.Bk

/- The sort of the standard library, laid out over this program. -/
namespace Go.Proofs.YteklahfgplbmcaaDoor
open Go.Shelf

def Tryd.sortL_ren : Go.Shelf.Ren := ⟨fun | 6 => 47 | 15 => 50 | 14 => 78 | 28 => 79 | 29 => 80 | 20 => 99 | 21 => 100 | 22 => 101 | 23 => 102 | 24 => 103 | 25 => 104 | 26 => 105 | 27 => 106 | 46 => 109 | 47 => 110 | 48 => 111 | 49 => 112 | 50 => 113 | 57 => 114 | n => n, fun | 22 => 22 | 24 => 3 | 25 => 88 | 3 => 3 | 39 => 90 | 0 => 0 | 53 => 113 | 55 => 115 | 4 => 4 | 46 => 125 | 45 => 124 | 50 => 129 | 5 => 5 | 9 => 9 | 66 => 132 | 70 => 136 | 76 => 138 | 77 => 42 | n => n, fun | n => n⟩
theorem Tryd.sortL : Go.Proofs.SlLaysF.n6 Tryd.prog Tryd.sortL_ren :=
  { mixed := by kernel_rfl,
    f6 := ⟨Tryd.f47.name, by decide, Tryd.func47.trans (congrArg some (by kernel_rfl))⟩,
    f14 := ⟨Tryd.f78.name, by decide, Tryd.func78.trans (congrArg some (by kernel_rfl))⟩,
    f15 := Tryd.func50.trans (congrArg some (by kernel_rfl)),
    f20 := ⟨Tryd.f99.name, by decide, Tryd.func99.trans (congrArg some (by kernel_rfl))⟩,
    f21 := ⟨Tryd.f100.name, by decide, Tryd.func100.trans (congrArg some (by kernel_rfl))⟩,
    f22 := ⟨Tryd.f101.name, by decide, Tryd.func101.trans (congrArg some (by kernel_rfl))⟩,
    f23 := ⟨Tryd.f102.name, by decide, Tryd.func102.trans (congrArg some (by kernel_rfl))⟩,
    f24 := ⟨Tryd.f103.name, by decide, Tryd.func103.trans (congrArg some (by kernel_rfl))⟩,
    f25 := ⟨Tryd.f104.name, by decide, Tryd.func104.trans (congrArg some (by kernel_rfl))⟩,
    f26 := ⟨Tryd.f105.name, by decide, Tryd.func105.trans (congrArg some (by kernel_rfl))⟩,
    f27 := ⟨Tryd.f106.name, by decide, Tryd.func106.trans (congrArg some (by kernel_rfl))⟩,
    f28 := Tryd.func79.trans (congrArg some (by kernel_rfl)),
    f29 := Tryd.func80.trans (congrArg some (by kernel_rfl)),
    f46 := ⟨Tryd.f109.name, by decide, Tryd.func109.trans (congrArg some (by kernel_rfl))⟩,
    f47 := Tryd.func110.trans (congrArg some (by kernel_rfl)),
    f48 := Tryd.func111.trans (congrArg some (by kernel_rfl)),
    f49 := ⟨Tryd.f112.name, by decide, Tryd.func112.trans (congrArg some (by kernel_rfl))⟩,
    f50 := ⟨Tryd.f113.name, by decide, Tryd.func113.trans (congrArg some (by kernel_rfl))⟩,
    f57 := ⟨Tryd.f114.name, by decide, Tryd.func114.trans (congrArg some (by kernel_rfl))⟩,
    t0 := Tryd.underlying0,
    a0 := Tryd.isAgg0,
    z0 := Tryd.sizeOf0,
    v0 := Tryd.zeroValue0,
    t3 := Tryd.underlying3,
    a3 := Tryd.isAgg3,
    z3 := Tryd.sizeOf3,
    v3 := Tryd.zeroValue3,
    t4 := Tryd.underlying4,
    a4 := Tryd.isAgg4,
    z4 := Tryd.sizeOf4,
    v4 := Tryd.zeroValue4,
    t5 := Tryd.underlying5,
    a5 := Tryd.isAgg5,
    z5 := Tryd.sizeOf5,
    v5 := Tryd.zeroValue5,
    t9 := Tryd.underlying9,
    a9 := Tryd.isAgg9,
    z9 := Tryd.sizeOf9,
    v9 := Tryd.zeroValue9,
    t22 := Tryd.underlying22,
    a22 := Tryd.isAgg22,
    z22 := Tryd.sizeOf22,
    v22 := Tryd.zeroValue22,
    a24 := Tryd.isAgg3,
    z24 := Tryd.sizeOf3,
    t25 := Tryd.underlying88,
    a25 := Tryd.isAgg88,
    z25 := Tryd.sizeOf88,
    v25 := Tryd.zeroValue88,
    t39 := Tryd.underlying90,
    a39 := Tryd.isAgg90,
    z39 := Tryd.sizeOf90,
    v39 := Tryd.zeroValue90,
    t45 := Tryd.underlying124,
    a45 := Tryd.isAgg124,
    z45 := Tryd.sizeOf124,
    v45 := Tryd.zeroValue124,
    t46 := Tryd.underlying125,
    a46 := Tryd.isAgg125,
    z46 := Tryd.sizeOf125,
    v46 := Tryd.zeroValue125,
    t50 := Tryd.underlying129,
    a50 := Tryd.isAgg129,
    z50 := Tryd.sizeOf129,
    v50 := Tryd.zeroValue129,
    t53 := Tryd.underlying113,
    a53 := Tryd.isAgg113,
    z53 := Tryd.sizeOf113,
    v53 := Tryd.zeroValue113,
    t55 := Tryd.underlying115,
    a55 := Tryd.isAgg115,
    z55 := Tryd.sizeOf115,
    v55 := Tryd.zeroValue115,
    t66 := Tryd.underlying132,
    a66 := Tryd.isAgg132,
    z66 := Tryd.sizeOf132,
    v66 := Tryd.zeroValue132,
    t70 := Tryd.underlying136,
    a70 := Tryd.isAgg136,
    z70 := Tryd.sizeOf136,
    v70 := Tryd.zeroValue136,
    t76 := Tryd.underlying138,
    a76 := Tryd.isAgg138,
    z76 := Tryd.sizeOf138,
    v76 := Tryd.zeroValue138,
    t77 := Tryd.underlying42,
    a77 := Tryd.isAgg42,
    z77 := Tryd.sizeOf42,
    v77 := Tryd.zeroValue42 }
end Go.Proofs.YteklahfgplbmcaaDoor

/- Entries in their order, by the sort of the standard library. -/
namespace Go.Proofs.YteklahfgplbmcaaDoor.Bk
open Go Go.ChangeShapes Go.WideShapes Go.ChangeAt Go.RowKit Go.Proofs.YteklahfgplbmcaaDoor.Bi Go.Proofs.YteklahfgplbmcaaDoor.Cr

/-- What the comparison tells of two entries. -/
def cfI (wv : Nat → Int) (x y : Nat) : Int := if wv x ≠ wv y then wv x - wv y else (x : Int) - y
def e289 : Fin 289 → Value := fun x => .int .i64 ((x.val : Nat) : Int)
set_option maxHeartbeats 4000000 in
theorem cmp_ok (W : World) (B : Nat) (wv : Nat → Int) (x y : Nat) (hx : x < 289) (hy : y < 289) (r : W.rowIs B 84 289 (fun j => .int .u8 (wv j))) (hb : ∀ j, 0 ≤ wv j ∧ wv j ≤ 255) :
    Calls Tryd.prog 48 #[.int .i64 x, .int .i64 y, .pointer (some ⟨B, 0, none⟩)] W fun e w' => e = .returned (.int .i64 (cfI wv x y)) ∧ ∃ q, w' = W.drewN q := by
  have hcx := r.cell hx
  have hcy := r.cell hy
  obtain ⟨x0, x1⟩ := hb x
  obtain ⟨y0, y1⟩ := hb y
  have HCF := Lib.hid (show cfI wv x y = if wv x ≠ wv y then wv x - wv y else (x : Int) - y from rfl)
  clear r hb
  generalize wv x = X at *
  generalize wv y = Y at *
  generalize cfI wv x y = R at *
  by_cases hne : X = Y
  · subst hne
    have hR : R = (x : Int) - y := by rw [HCF.out, if_neg (by simp)]
    subst hR
    clear HCF
    go_enter Tryd.func48, Tryd.ntmps48
    go_wp2
    go_quiet (fail)
    go_wp2
    go_ret
    exact ⟨rfl, _, rfl⟩
  · have hR : R = X - Y := by rw [HCF.out, if_pos hne]
    subst hR
    clear HCF
    have hXY : (X == Y) = false := by simp [hne]
    go_enter Tryd.func48, Tryd.ntmps48
    go_wp2
    go_quiet (fail)
    go_wp2
    go_quiet (fail)
    go_wp2
    go_ret
    exact ⟨rfl, _, World.drewN_drewN _ _ _⟩

theorem row_sorted {w : World} {blk N n : Nat} {g : Nat → Value} {os : Array Obj} (r : w.rowIs blk 3 N g) (d : Array (Fin 289)) (hd : d.size = N) :
    (sortWorld e289 w blk 0 n d os).rowIs blk 3 N (fun j => e289 d[j]!) := by
  obtain ⟨c, hc, hs, hv⟩ := r
  have hlt : blk < w.heap.size := (Array.getElem?_eq_some_iff.1 hc).1
  refine ⟨Sort.putCells e289 0 d c, ?_, by simp [Sort.putCells, hs], fun i hi => ?_⟩
  · unfold sortWorld
    rw [Sort.heap_grow_old _ _ (by simpa [Sort.putRow, Sort.mapBlock, Sort.ahead] using hlt)]
    simp only [Sort.putRow, Sort.mapBlock, Sort.ahead]
    show (w.heap.modify blk _)[blk]? = _
    rw [Array.getElem?_modify, if_pos rfl, hc]; rfl
  · unfold Sort.putCells
    rw [Array.getElem?_mapIdx, hv i hi, Option.map_some, if_pos ⟨by omega, by omega⟩]; rfl
theorem kept_sorted {w : World} {blk n : Nat} {d : Array (Fin 289)} {os : Array Obj} : w.grownBy (sortWorld e289 w blk 0 n d os) (some blk) := by
  refine ⟨rfl, rfl, rfl, by simp [sortWorld, Sort.putRow, Sort.mapBlock, Sort.ahead], fun k hk hne => ?_⟩
  unfold sortWorld
  rw [Sort.heap_grow_old _ _ (by simpa [Sort.putRow, Sort.mapBlock, Sort.ahead] using hk)]
  have : blk ≠ k := fun e => hne (by rw [e])
  simp [Sort.putRow, Sort.mapBlock, Sort.ahead, Array.getElem?_modify, this]
theorem swo (wv : Nat → Int) : Sort.SWO (ltOf (fun x y : Fin 289 => cfI wv x.val y.val)) where
  irrefl x := by unfold ltOf cfI; simp
  trans x y z h1 h2 := by
    unfold ltOf cfI at *; simp only [decide_eq_true_eq] at *
    split at h1 <;> split at h2 <;> split <;> omega
  ntrans x y z h1 h2 := by
    unfold ltOf cfI at *; simp only [decide_eq_false_iff_not] at *
    split at h1 <;> split at h2 <;> split <;> omega
theorem sort_ok (id : Nat) (w : World) (B blk cap : Nat) (wv : Nat → Int) (h1 : 1 ≤ id) (h2 : id ≤ 12) (hne : B ≠ blk) (hwv : ∀ j, j < Nn id → wv j = (wt id j : Nat)) (hb : ∀ j, 0 ≤ wv j ∧ wv j ≤ 255)
    (rB : w.rowIs B 84 289 (fun j => .int .u8 (wv j))) (r : w.rowIs blk 3 (Nn id) (fun j => .int .i64 (j : Int))) :
    Calls Tryd.prog 47 #[.slice (some ⟨blk, 0, none⟩) (Nn id) cap, .func (.func 48) #[] #[.pointer (some ⟨B, 0, none⟩)]] w fun e w' => e = .returned (.tuple #[]) ∧ w'.rowIs blk 3 (Nn id) (fun j => .int .i64 ((ord id).getD j 0 : Nat)) ∧ w.grownBy w' (some blk) := by
  have hN : Nn id ≤ 289 := (facts h1 h2).2.2.2.2.2.2.2.1
  obtain ⟨d, hd, hdv⟩ : ∃ d : Array (Fin 289), d.size = Nn id ∧ ∀ j, j < Nn id → d[j]!.val = j := by
    refine ⟨Array.ofFn (n := Nn id) (fun i => ⟨i.val, by omega⟩), by simp, fun j hj => ?_⟩
    rw [getElem!_pos _ j (by simpa using hj)]; simp
  have eg : ∀ args w, (callFunc 48 args).run Tryd.prog w = .ok (.enter 48 args) w := enters_of Tryd.func48 (by kernel_rfl) rfl
  have hH : Sort.Holds e289 w blk 0 d := fun j hj => by
    rw [Nat.zero_add]
    refine ⟨?_, r.frozen j⟩
    rw [r.cell (i := j) (by omega)]; unfold e289; rw [hdv j (by omega)]
  have hcmp : CmpReads Tryd.prog 48 #[.pointer (some ⟨B, 0, none⟩)] e289 (fun x y : Fin 289 => cfI wv x.val y.val) blk 0 d.size w := fun m os dk hs x y => by
    have rB' : (sortWorld e289 w blk 0 m dk os).rowIs B 84 289 (fun j => .int .u8 (wv j)) := rB.of_block (kept_sorted.block B rB.lt (by simpa using hne))
    exact cmp_ok _ B wv x.val y.val x.isLt y.isLt rB' hb
  have hcon := Any.slices_SortFunc Tryd.sortL e289 (fun _ => rfl) (fun x y : Fin 289 => cfI wv x.val y.val) (swo wv) 48 #[.pointer (some ⟨B, 0, none⟩)] blk 0 cap d w eg hcmp.lays hH r.lt (by omega)
  change Calls Tryd.prog 47 _ _ _ at hcon
  rw [hd] at hcon
  refine hcon.mono ?_
  rintro e w' ⟨rfl, d', n, os, hp, hs, rfl⟩
  refine ⟨rfl, ?_, kept_sorted⟩
  have hd' : d'.size = Nn id := by rw [hp.1, hd]
  refine (row_sorted r d' hd').congr fun j hj => ?_
  unfold e289
  congr 1
  -- the order is the one there is
  have hperm : d'.toList.Perm d.toList := by
    have := hp.2.2
    rw [Array.extract_eq_self_of_le (by omega), Array.extract_eq_self_of_le (by omega)] at this
    exact this
  have hl : (d'.toList.map (fun x : Fin 289 => x.val)).length = Nn id := by simp [hd']
  have hget : ∀ j, j < Nn id → (d'.toList.map (fun x : Fin 289 => x.val))[j]? = some d'[j]!.val := fun j hj => by
    rw [List.getElem?_map, Array.getElem?_toList, Array.getElem?_eq_getElem (by omega), getElem!_pos d' j (by omega)]; rfl
  have hnod : (d'.toList.map (fun x : Fin 289 => x.val)).Nodup := by
    refine ((hperm.map _).nodup_iff).2 ?_
    have : d.toList.map (fun x : Fin 289 => x.val) = List.range (Nn id) := by
      apply List.ext_getElem?
      intro i
      by_cases hi : i < Nn id
      · rw [List.getElem?_map, Array.getElem?_toList, Array.getElem?_eq_getElem (by omega), Option.map_some, List.getElem?_range hi]
        have := hdv i hi
        rw [getElem!_pos d i (by omega)] at this
        rw [this]
      · rw [List.getElem?_eq_none (by simp [hd]; omega), List.getElem?_eq_none (by simp; omega)]
    rw [this]; exact List.nodup_range
  have hmem : ∀ x ∈ d'.toList, x.val < Nn id := by
    intro x hx
    obtain ⟨i, hi, rfl⟩ := List.mem_iff_getElem.1 (hperm.mem_iff.1 hx)
    have hi2 : i < d.size := by simpa using hi
    have := hdv i (by omega)
    rw [getElem!_pos d i hi2] at this
    rw [Array.getElem_toList, this]; omega
  have hord : IsOrd (wt id) (Nn id) (d'.toList.map (fun x : Fin 289 => x.val)) := by
    refine IsOrd.of ?_ ?_ hl
    · rw [List.pairwise_iff_getElem]
      intro i j hi hj hij
      rw [hl] at hi hj
      have e1 := hget i hi
      have e2 := hget j hj
      rw [List.getElem?_eq_getElem (by rw [hl]; exact hi)] at e1
      rw [List.getElem?_eq_getElem (by rw [hl]; exact hj)] at e2
      have hne' : d'[i]!.val ≠ d'[j]!.val := by
        intro e
        have := (List.nodup_iff_pairwise_ne.1 hnod)
        have := List.pairwise_iff_getElem.1 this i j (by rw [hl]; exact hi) (by rw [hl]; exact hj) hij
        exact this (by rw [Option.some.inj e1, Option.some.inj e2, e])
      rw [Option.some.inj e1, Option.some.inj e2]
      have hsij := hs i j (Nat.zero_le _) hij (by omega)
      unfold ltOf cfI at hsij
      simp only [decide_eq_false_iff_not] at hsij
      have w1 := hwv d'[i]!.val (hmem _ (by rw [getElem!_pos d' i (by omega)]; exact Array.getElem_mem_toList _))
      have w2 := hwv d'[j]!.val (hmem _ (by rw [getElem!_pos d' j (by omega)]; exact Array.getElem_mem_toList _))
      unfold lt
      split at hsij <;> omega
    · intro n hn
      obtain ⟨x, hx, rfl⟩ := List.mem_map.1 hn
      exact hmem x hx
  have hu := hord.uniq (ord_is h1 h2)
  have := hget j hj
  rw [hu] at this
  rw [List.getD_eq_getElem?_getD, this]; rfl
end Go.Proofs.YteklahfgplbmcaaDoor.Bk

/- Lists of int as they lie in memory, and the comparison of two of them. -/
namespace Go.Proofs.YteklahfgplbmcaaDoor.Fx
open Go Go.ChangeShapes Go.WideShapes Go.ChangeAt Go.RowKit

/-- A list, as it lies in memory. -/
def Rd (w : World) (v : Value) (zs : List Int) : Prop :=
  (∃ a cap, v = .slice a 0 cap ∧ zs = []) ∨
  ∃ b off cap, v = .slice (some ⟨b, off, none⟩) zs.length cap ∧ b < w.heap.size ∧ zs.length ≤ cap ∧ cap ≤ maxLen ∧ ∀ i, i < zs.length → w.cell? ⟨b, off + i, none⟩ = some (.int .i64 (zs.getD i 0))
theorem Rd.below {w w' : World} {v : Value} {zs : List Int} (h : Rd w v zs) (hb : Below w.heap.size w w') : Rd w' v zs := by
  rcases h with h | ⟨b, off, cap, h1, h2, h3, h4, h5⟩
  · exact .inl h
  · exact .inr ⟨b, off, cap, h1, Nat.lt_of_lt_of_le h2 hb.size, h3, h4, fun i hi => (hb.cell (p := ⟨b, off + i, none⟩) h2).trans (h5 i hi)⟩
theorem rd_row {w : World} {g n : Nat} {f : Nat → Int} {zs : List Int} (h : w.rowIs g 3 n (fun j => .int .i64 (f j))) (hn : zs.length = n) (hm : n ≤ maxLen) (hf : ∀ j, j < n → f j = zs.getD j 0) : Rd w (.slice (some ⟨g, 0, none⟩) n n) zs :=
  .inr ⟨g, 0, n, by rw [hn], h.lt, by omega, hm, fun i hi => by rw [Nat.zero_add, h.cell (by omega), hf i (by omega)]⟩
theorem Rd.shape {w : World} {v : Value} {z : List Int} (h : Rd w v z) : ∃ a c, v = .slice a z.length c := by
  rcases h with ⟨a, cap, rfl, rfl⟩ | ⟨b, off, cap, rfl, _⟩
  · exact ⟨_, _, rfl⟩
  · exact ⟨_, _, rfl⟩
theorem nil_rd (w : World) (a : Option Addr) (c : Nat) : Rd w (.slice a 0 c) [] := .inl ⟨_, _, rfl, rfl⟩

/-- A list of the call's own. -/
def Own (base : Nat) (w : World) (v : Value) (zs : List Int) : Prop := w.ownsRow base 3 1 v zs.length (zs.map (Value.int .i64))
theorem one64 (zs : List Int) : ∀ u ∈ zs.map (Value.int .i64), u.oneCell' = true := by
  intro u hu
  simp only [List.mem_map] at hu
  obtain ⟨x, _, rfl⟩ := hu
  rfl
theorem add_at (b o i : Nat) : (⟨b, o, none⟩ : Addr).add i = ⟨b, o + i, none⟩ := by simp [Addr.add]
theorem Own.rd {w : World} {base : Nat} {v : Value} {zs : List Int} (h : Own base w v zs) : Rd w v zs := by
  have hlt := h.lt
  have hcells := @World.ownsRow.cells _ _ _ _ _ _ _ h
  obtain ⟨hx, ⟨rfl, hn⟩ | ⟨g, cap, cur, rfl, hg, hh, hc, hm, hs, ht⟩⟩ := h
  · exact .inl ⟨none, 0, rfl, by cases zs with | nil => rfl | cons _ _ => simp at hn⟩
  · refine .inr ⟨g, 0, cap, rfl, (hlt g rfl).2, hc, hm, fun i hi => ?_⟩
    have := hcells (g := g) rfl i (.int .i64 (zs.getD i 0)) (by simp [hi])
    rwa [add_at] at this
theorem Own.of_block {base : Nat} {w w' : World} {v : Value} {zs : List Int} (h : Own base w v zs) (hb : ∀ g, base ≤ g → g < w.heap.size → w'.heap[g]? = w.heap[g]?) : Own base w' v zs := by
  have hlt := h.lt
  obtain ⟨hx, h | ⟨g, cap, cur, rfl, hg, hh, hc, hm, hs, ht⟩⟩ := h
  · exact ⟨hx, .inl h⟩
  · exact ⟨hx, .inr ⟨g, cap, cur, rfl, hg, (hb g hg (hlt g rfl).2).trans hh, hc, hm, hs, ht⟩⟩
theorem Own.below {base : Nat} {w w' : World} {v : Value} {zs : List Int} (h : Own base w v zs) (hb : Below w.heap.size w w') : Own base w' v zs := h.of_block fun g _ hl => hb.block g hl
theorem heap_other {w : World} {a b i : Nat} (v : Value) (h : a ≠ b) : (w.setCell ⟨a, i, none⟩ v).heap[b]? = w.heap[b]? := by
  simp only [World.setCell]
  show (w.heap.modify a _)[b]? = w.heap[b]?
  rw [Array.getElem?_modify, if_neg h]
/-- A store below what is the call's own. -/
theorem Own.set {base : Nat} {w : World} {v x : Value} {zs : List Int} {g i : Nat} (h : Own base w v zs) (hg : g < base) : Own base (w.setCell ⟨g, i, none⟩ x) v zs := h.of_block fun k hk _ => heap_other x (by omega)
theorem own_push {base : Nat} {w : World} {v : Value} {a : List Int} {x : Int} (h : w.ownsRow base 3 1 v (a.length + 1) (a.map (Value.int .i64) ++ [Value.int .i64 x])) : Own base w v (a ++ [x]) := by
  unfold Own
  rw [List.length_append, List.map_append]
  exact h
theorem own_nil (w : World) (base : Nat) : Own base w (.slice none 0 0) [] := World.ownsRow_nil w base 3 1
theorem below_grown {W w w' : World} {base : Nat} {v : Value} {zs : List Int} (hb : Below W.heap.size W w) (ho : Own base w v zs) (hle : W.heap.size ≤ base) (hg : w.grownBy w' v.ownBlock) : Below W.heap.size W w' :=
  hb.grown hg hb.size fun k hk => Nat.le_trans hle (ho.lt k hk).1
/-- The first k of a list of numbers. -/
def LL (l : List Nat) (k : Nat) : List Int := (List.range k).map fun j => ((l.getD j 0 : Nat) : Int)
theorem LL_len (l : List Nat) (k : Nat) : (LL l k).length = k := by simp [LL]
theorem LL_succ (l : List Nat) (k : Nat) : LL l (k + 1) = LL l k ++ [((l.getD k 0 : Nat) : Int)] := by simp [LL, List.range_succ]
theorem LL_at {l : List Nat} {k j : Nat} (h : j < k) : ((l.getD j 0 : Nat) : Int) = (LL l k).getD j 0 := by simp [LL, h]

/-- So many values of a function. -/
def mk (n : Nat) (F : Nat → Int) : List Int := (List.range n).map F
theorem mk_len (n : Nat) (F : Nat → Int) : (mk n F).length = n := by simp [mk]
theorem mk_at {n : Nat} {F : Nat → Int} {j : Nat} (h : j < n) : (mk n F).getD j 0 = F j := by simp [mk, h]
theorem mk_succ (n : Nat) (F : Nat → Int) : mk (n + 1) F = mk n F ++ [F n] := by simp [mk, List.range_succ]
theorem mk_congr {n : Nat} {F G : Nat → Int} (h : ∀ j, j < n → F j = G j) : mk n F = mk n G := by
  unfold mk
  exact List.map_congr_left fun _ hj => h _ (List.mem_range.1 hj)
theorem mk_rd {w : World} {g n : Nat} {F : Nat → Int} (h : w.rowIs g 3 n (fun j => .int .i64 (F j))) (hn : n ≤ maxLen) : Rd w (.slice (some ⟨g, 0, none⟩) n n) (mk n F) :=
  rd_row h (mk_len _ _) hn fun _ hj => (mk_at hj).symm
theorem Own.rebase {base b2 : Nat} {w : World} {v : Value} {zs : List Int} (h : Own b2 w v zs) (hb : base ≤ b2) : Own base w v zs := by
  obtain ⟨hx, h | ⟨g, cap, cur, rfl, hg, h2⟩⟩ := h
  · exact ⟨hx, .inl h⟩
  · exact ⟨hx, .inr ⟨g, cap, cur, rfl, Nat.le_trans hb hg, h2⟩⟩
/-- A list's cells, at an address. -/
def RdA (w : World) (A : Option Addr) (zs : List Int) : Prop := ∀ i, i < zs.length → ∃ b off, A = some ⟨b, off, none⟩ ∧ b < w.heap.size ∧ w.cell? ⟨b, off + i, none⟩ = some (.int .i64 (zs.getD i 0))
theorem RdA.below {w w' : World} {A : Option Addr} {zs : List Int} (h : RdA w A zs) (hb : Below w.heap.size w w') : RdA w' A zs := fun i hi => by
  obtain ⟨b, off, e, h1, h2⟩ := h i hi
  exact ⟨b, off, e, Nat.lt_of_lt_of_le h1 hb.size, (hb.cell (p := ⟨b, off + i, none⟩) h1).trans h2⟩
theorem Rd.open {w : World} {v : Value} {zs : List Int} (h : Rd w v zs) : ∃ A cap, v = .slice A zs.length cap ∧ RdA w A zs := by
  rcases h with ⟨a, cap, rfl, rfl⟩ | ⟨b, off, cap, rfl, h2, h3, h4, h5⟩
  · exact ⟨a, cap, rfl, fun i hi => absurd hi (by simp)⟩
  · exact ⟨_, cap, rfl, fun i hi => ⟨b, off, rfl, h2, h5 i hi⟩⟩

theorem drewN_belowL (w : World) : ∀ n, Below w.heap.size w (w.drewN n)
  | 0 => Below.refl _ _
  | n + 1 => (drewN_belowL w n).drew
set_option maxRecDepth 100000 in
/-- Two lists that are the same. -/
theorem same_yes (v v' : Value) (zs : List Int) (w : World) (hl : zs.length ≤ 5000) (h : Rd w v zs) (h' : Rd w v' zs) :
    Calls Tryd.prog 25 #[v, v'] w fun e w' => e = .returned (.bool true) ∧ Below w.heap.size w w' := by
  rcases h with ⟨a, cap, rfl, rfl⟩ | ⟨b, off, cap, rfl, hb, hcap, hm, hc⟩
  · obtain ⟨a', c', rfl⟩ := h'.shape
    go_enter Tryd.func25, Tryd.ntmps25
    go_wp2
    go_loop [5] (fun i => i = .int .i64 0) (fun _ => 0)
    case atStart => exact rfl
    case round =>
      subst hrel
      go_wp2
      go_ret
      exact ⟨rfl, Below.refl _ _⟩
  · rcases h' with ⟨a', c', rfl, rfl⟩ | ⟨b', off', cap', rfl, hb', hcap', hm', hc'⟩
    · go_enter Tryd.func25, Tryd.ntmps25
      go_wp2
      go_loop [5] (fun i => i = .int .i64 0) (fun _ => 0)
      case atStart => exact rfl
      case round =>
        subst hrel
        go_wp2
        go_ret
        exact ⟨rfl, Below.refl _ _⟩
    · unfold maxLen at hm hm'
      have HC := Lib.hid hc
      have HC' := Lib.hid hc'
      clear hc hc'
      go_enter Tryd.func25, Tryd.ntmps25
      go_wp2
      go_loopw [5] (fun i wr => ∃ k : Nat, k ≤ zs.length ∧ i = .int .i64 k ∧ Below w.heap.size w wr) (fun i _ => zs.length - (intOf i).toNat)
      case atStart => exact ⟨0, by omega, rfl, Below.refl _ _⟩
      case round =>
        obtain ⟨k, hk, rfl, hbel⟩ := hrel
        by_cases hlt : k < zs.length
        · have q1 := (hbel.cell (p := ⟨b, off + k, none⟩) hb).trans (HC.out k hlt)
          have q2 := (hbel.cell (p := ⟨b', off' + k, none⟩) hb').trans (HC'.out k hlt)
          generalize zs.getD k 0 = x at *
          go_wp2
          go_quiet (fail)
          go_wp2
          go_roundw
          case rel => exact ⟨k + 1, by omega, by go_num, hbel.trans ((drewN_belowL wr nq).mono hbel.size)⟩
          case measure => simp [intOf]; omega
        · go_wp2
          go_ret
          exact ⟨rfl, hbel⟩

set_option maxRecDepth 100000 in
set_option maxHeartbeats 2000000 in
/-- Two lists, whatever they are. -/
theorem ints_ok (v v' : Value) (zs zs' : List Int) (w : World) (hl : zs.length ≤ maxLen) (hl' : zs'.length ≤ maxLen) (h : Rd w v zs) (h' : Rd w v' zs') :
    Calls Tryd.prog 25 #[v, v'] w fun e w' => e = .returned (.bool (decide (zs = zs'))) ∧ Below w.heap.size w w' := by
  obtain ⟨A, cap, rfl, hA⟩ := h.open
  obtain ⟨A', cap', rfl, hA'⟩ := h'.open
  unfold maxLen at hl hl'
  by_cases hlen : zs.length = zs'.length
  · have HA := Lib.hid hA
    have HA' := Lib.hid hA'
    have HL := Lib.hid hlen
    obtain ⟨n, hn⟩ : ∃ n, zs.length = n := ⟨_, rfl⟩
    have HN := Lib.hid hn
    have HN' := Lib.hid (hlen ▸ hn : zs'.length = n)
    rw [hn] at hl ⊢
    rw [← hlen, hn] at hl' ⊢
    obtain ⟨r, hr⟩ : ∃ r, decide (zs = zs') = r := ⟨_, rfl⟩
    rw [hr]
    have HR := Lib.hid hr
    clear hA hA' hlen hn hr h h'
    go_enter Tryd.func25, Tryd.ntmps25
    go_wp2
    go_loopw [5] (fun i wr => ∃ k : Nat, k ≤ n ∧ i = .int .i64 k ∧ Hid (∀ j, j < k → zs.getD j 0 = zs'.getD j 0) ∧ Below w.heap.size w wr) (fun i _ => n - (intOf i).toNat)
    case atStart => exact ⟨0, by omega, rfl, Lib.hid (fun j hj => absurd hj (by omega)), Below.refl _ _⟩
    case round =>
      obtain ⟨k, hk, rfl, hE, hbel⟩ := hrel
      by_cases hlt : k < n
      · obtain ⟨b, off, rfl, hb, q1'⟩ := HA.out k (by rw [HN.out]; exact hlt)
        obtain ⟨b', off', rfl, hb', q2'⟩ := HA'.out k (by rw [HN'.out]; exact hlt)
        have q1 := (hbel.cell (p := ⟨b, off + k, none⟩) hb).trans q1'
        have q2 := (hbel.cell (p := ⟨b', off' + k, none⟩) hb').trans q2'
        clear q1' q2'
        by_cases hxy : zs.getD k 0 = zs'.getD k 0
        · have HE2 := Lib.hid (show ∀ j, j < k + 1 → zs.getD j 0 = zs'.getD j 0 from fun j hj => by
            by_cases h : j = k
            · rw [h]; exact hxy
            · exact hE.out j (by omega))
          rw [← hxy] at q2
          clear hxy hE
          generalize zs.getD k 0 = x at *
          go_wp2
          go_quiet (fail)
          go_wp2
          go_roundw
          case rel => exact ⟨k + 1, by omega, by go_num, HE2, hbel.trans ((drewN_belowL wr nq).mono hbel.size)⟩
          case measure => simp [intOf]; omega
        · have hr : r = false := by
            rw [← HR.out]; apply decide_eq_false; intro e; rw [e] at hxy; exact hxy rfl
          subst hr
          have hne : (zs.getD k 0 == zs'.getD k 0) = false := by rw [beq_eq_false_iff_ne]; exact hxy
          clear hE
          generalize zs.getD k 0 = x at *
          generalize zs'.getD k 0 = y at *
          go_wp2
          go_quiet (fail)
          go_wp2
          go_ret
          exact ⟨rfl, hbel.trans ((drewN_belowL wr nq).mono hbel.size)⟩
      · have hr : r = true := by
          rw [← HR.out]; apply decide_eq_true
          apply List.ext_getElem HL.out
          intro i h1 h2
          have := hE.out i (by rw [HN.out] at h1; omega)
          rwa [List.getD_eq_getElem?_getD, List.getD_eq_getElem?_getD, List.getElem?_eq_getElem h1, List.getElem?_eq_getElem h2] at this
        subst hr
        go_wp2
        go_ret
        exact ⟨rfl, hbel⟩
  · have hr : decide (zs = zs') = false := decide_eq_false (fun e => hlen (by rw [e]))
    rw [hr]
    have hne : ((zs.length : Int) == (zs'.length : Int)) = false := by simp; omega
    have hne2 : ¬ (zs.length : Int) = (zs'.length : Int) := by omega
    clear hA hA' h h' hr
    generalize zs.length = n at *
    generalize zs'.length = m at *
    go_enter Tryd.func25, Tryd.ntmps25
    go_wp2
    go_ret
    exact ⟨rfl, Below.refl _ _⟩
end Go.Proofs.YteklahfgplbmcaaDoor.Fx


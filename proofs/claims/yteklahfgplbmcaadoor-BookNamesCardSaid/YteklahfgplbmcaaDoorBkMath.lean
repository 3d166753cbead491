/- The mathematics of books, plain. -/
import Derived.Test.YteklahfgplbmcaaDoorBiMath
import Derived.Lib.BitFns
import Derived.Lib.ItoaNum
namespace Go.Proofs.YteklahfgplbmcaaDoor.Bk

/-- Values of an entry. -/
def vals (b : Nat) (low : Int) : Nat → Nat → List Int
  | 0, _ => []
  | k + 1, n => vals b low k (n / b) ++ [low + (n % b : Nat)]
/-- The sum of their sizes. -/
def wtd (b : Nat) (low : Int) : Nat → Nat → Nat
  | 0, _ => 0
  | k + 1, n => wtd b low k (n / b) + (low + (n % b : Nat)).natAbs
def ent (b : Nat) (low : Int) (l : List Int) : Int := l.foldl (fun n v => n * b + v - low) 0
def sz (l : List Int) : Nat := (l.map Int.natAbs).sum

theorem vals_len (b : Nat) (low : Int) : ∀ k n, (vals b low k n).length = k
  | 0, _ => rfl
  | k + 1, n => by unfold vals; rw [List.length_append, vals_len b low k]; rfl
theorem sz_vals (b : Nat) (low : Int) : ∀ k n, sz (vals b low k n) = wtd b low k n
  | 0, _ => rfl
  | k + 1, n => by
    have := sz_vals b low k (n / b)
    unfold sz at this
    unfold vals wtd sz; rw [List.map_append, List.sum_append, this]; simp
theorem ent_snoc (b : Nat) (low : Int) (l : List Int) (v : Int) : ent b low (l ++ [v]) = ent b low l * b + v - low := by
  unfold ent; rw [List.foldl_append]; rfl
theorem ent_vals (b : Nat) (low : Int) (hb : 0 < b) : ∀ k n, n < b ^ k → ent b low (vals b low k n) = n
  | 0, n, h => by simp at h; subst h; rfl
  | k + 1, n, h => by
    have h1 : n / b < b ^ k := by rw [Nat.div_lt_iff_lt_mul hb]; rwa [Nat.pow_succ] at h
    unfold vals; rw [ent_snoc, ent_vals b low hb k _ h1]
    have := Nat.div_add_mod n b
    have h2 : ((n / b : Nat) : Int) * b + (n % b : Nat) = n := by
      rw [Int.mul_comm]; exact_mod_cast this
    omega
theorem vals_bd (b : Nat) (low : Int) (hb : 0 < b) : ∀ k n, ∀ v ∈ vals b low k n, low ≤ v ∧ v ≤ low + b - 1
  | 0, _, v, h => by simp [vals] at h
  | k + 1, n, v, h => by
    unfold vals at h; rw [List.mem_append] at h
    rcases h with h | h
    · exact vals_bd b low hb k _ v h
    · simp at h; have := Nat.mod_lt n hb; omega
theorem vals_ent (b : Nat) (low : Int) (hb : 0 < b) : ∀ k l, l.length = k → (∀ v ∈ l, low ≤ v ∧ v ≤ low + b - 1) →
    ∃ n : Nat, ent b low l = n ∧ n < b ^ k ∧ vals b low k n = l
  | 0, l, hl, _ => by
    have : l = [] := List.eq_nil_of_length_eq_zero hl
    subst this; exact ⟨0, rfl, by simp, rfl⟩
  | k + 1, l, hl, hv => by
    obtain ⟨a, v, rfl⟩ : ∃ a v, l = a ++ [v] := ⟨l.dropLast, l.getLast (by intro h; simp [h] at hl), (List.dropLast_concat_getLast _).symm⟩
    simp at hl
    obtain ⟨n, h1, h2, h3⟩ := vals_ent b low hb k a hl (fun v h => hv v (List.mem_append_left _ h))
    have hv' := hv v (by simp)
    obtain ⟨d, hd⟩ : ∃ d : Nat, v = low + d := ⟨(v - low).toNat, by omega⟩
    subst hd
    have hdb : d < b := by omega
    refine ⟨n * b + d, ?_, ?_, ?_⟩
    · rw [ent_snoc, h1]; push_cast; omega
    · rw [Nat.pow_succ]
      calc n * b + d < n * b + b := by omega
        _ = (n + 1) * b := by rw [Nat.succ_mul]
        _ ≤ b ^ k * b := Nat.mul_le_mul_right _ h2
    · unfold vals
      rw [show (n * b + d) / b = n by rw [Nat.mul_comm, Nat.mul_add_div hb, Nat.div_eq_of_lt hdb]; rfl, h3,
        show (n * b + d) % b = d by rw [Nat.mul_comm, Nat.mul_add_mod, Nat.mod_eq_of_lt hdb]]
theorem wtd_le (b : Nat) (low : Int) (m : Nat) (hm : ∀ d, d < b → (low + (d : Nat)).natAbs ≤ m) (hb : 0 < b) : ∀ k n, wtd b low k n ≤ k * m
  | 0, _ => by simp [wtd]
  | k + 1, n => by
    have := wtd_le b low m hm hb k (n / b)
    have h2 := hm (n % b) (Nat.mod_lt _ hb)
    unfold wtd; rw [Nat.succ_mul]; omega

/-- The order of entries. -/
def lt (wt : Nat → Nat) (a b : Nat) : Prop := wt a < wt b ∨ wt a = wt b ∧ a < b
theorem lt_irrefl (wt : Nat → Nat) (a : Nat) : ¬ lt wt a a := by unfold lt; omega
theorem lt_trans {wt : Nat → Nat} {a b c : Nat} (h : lt wt a b) (k : lt wt b c) : lt wt a c := by unfold lt at *; omega
theorem lt_tri (wt : Nat → Nat) (a b : Nat) : lt wt a b ∨ a = b ∨ lt wt b a := by unfold lt; omega
structure IsOrd (wt : Nat → Nat) (N : Nat) (l : List Nat) : Prop where
  pw : l.Pairwise (lt wt)
  mem : ∀ n, n ∈ l ↔ n < N
theorem IsOrd.nodup {wt : Nat → Nat} {N : Nat} {l : List Nat} (h : IsOrd wt N l) : l.Nodup :=
  List.Pairwise.imp (R := lt wt) (S := (· ≠ ·)) (fun {a b} hab (e : a = b) => lt_irrefl wt a (by rw [← e] at hab; exact hab)) h.pw
theorem IsOrd.perm {wt : Nat → Nat} {N : Nat} {l : List Nat} (h : IsOrd wt N l) : l.Perm (List.range N) := by
  rw [List.perm_ext_iff_of_nodup h.nodup List.nodup_range]
  intro a; rw [h.mem, List.mem_range]
theorem IsOrd.length {wt : Nat → Nat} {N : Nat} {l : List Nat} (h : IsOrd wt N l) : l.length = N := by
  rw [h.perm.length_eq, List.length_range]
theorem IsOrd.uniq {wt : Nat → Nat} {N : Nat} {l k : List Nat} (h : IsOrd wt N l) (h' : IsOrd wt N k) : l = k := by
  refine (h.perm.trans h'.perm.symm).eq_of_pairwise (le := lt wt) ?_ h.pw h'.pw
  intro a b _ _ hab hba; exact absurd (lt_trans hab hba) (lt_irrefl wt a)

def ordf (wt : Nat → Nat) (N M : Nat) : List Nat := (List.range M).flatMap fun s => (List.range N).filter (fun n => wt n = s)
theorem ordf_ord (wt : Nat → Nat) (N M : Nat) (hM : ∀ n, n < N → wt n < M) : IsOrd wt N (ordf wt N M) where
  pw := by
    unfold ordf
    rw [List.pairwise_flatMap]
    refine ⟨fun s _ => ?_, ?_⟩
    · rw [List.pairwise_filter]
      refine List.pairwise_lt_range.imp ?_
      intro a b hab ha hb
      simp at ha hb
      exact .inr ⟨by rw [ha, hb], hab⟩
    · refine List.pairwise_lt_range.imp ?_
      intro a b hab x hx y hy
      simp at hx hy
      exact .inl (by omega)
  mem n := by
    unfold ordf
    rw [List.mem_flatMap]
    simp only [List.mem_range, List.mem_filter, decide_eq_true_eq]
    constructor
    · rintro ⟨a, _, h, _⟩; exact h
    · intro h; exact ⟨wt n, hM n h, h, rfl⟩

/-- Ranks by places. -/
theorem IsOrd.rank {wt : Nat → Nat} {N : Nat} {l : List Nat} (h : IsOrd wt N l) {n : Nat} (hn : n < N) : l.idxOf n < N ∧ l[l.idxOf n]? = some n := by
  have hm := (h.mem n).2 hn
  have h1 := List.idxOf_lt_length_of_mem hm
  refine ⟨by rw [← h.length]; exact h1, ?_⟩
  rw [List.getElem?_eq_getElem h1, List.getElem_idxOf]
theorem IsOrd.at {wt : Nat → Nat} {N : Nat} {l : List Nat} (h : IsOrd wt N l) {r : Nat} (hr : r < N) : ∃ n, l[r]? = some n ∧ n < N ∧ l.idxOf n = r := by
  have hr' : r < l.length := by rw [h.length]; exact hr
  refine ⟨l[r], List.getElem?_eq_getElem hr', (h.mem _).1 (List.getElem_mem hr'), ?_⟩
  exact (h.nodup).idxOf_getElem r hr'

theorem IsOrd.lt_of {wt : Nat → Nat} {N : Nat} {l : List Nat} (h : IsOrd wt N l) {i j x y : Nat} (hij : i < j) (hx : l[i]? = some x) (hy : l[j]? = some y) : lt wt x y := by
  obtain ⟨hi, rfl⟩ := List.getElem?_eq_some_iff.1 hx
  obtain ⟨hj, rfl⟩ := List.getElem?_eq_some_iff.1 hy
  exact List.pairwise_iff_getElem.1 h.pw i j hi hj hij

/-- What is strictly ordered, of entries there are, and so many, are all. -/
theorem php : ∀ (N : Nat) (l : List Nat), l.Nodup → (∀ n ∈ l, n < N) → l.length ≤ N ∧ (l.length = N → ∀ n, n < N → n ∈ l)
  | 0, l, _, h => by
    have : l = [] := by cases l with | nil => rfl | cons a t => exact absurd (h a (by simp)) (by omega)
    subst this; simp
  | N + 1, l, hd, h => by
    by_cases hN : N ∈ l
    · have hd' := hd.erase N
      have hm : ∀ n ∈ l.erase N, n < N := by
        intro n hn
        have h1 := (List.Nodup.mem_erase_iff hd).1 hn
        have := h n h1.2; omega
      obtain ⟨p, q⟩ := php N (l.erase N) hd' hm
      have hl := List.length_erase_of_mem hN
      have hpos : 0 < l.length := List.length_pos_of_mem hN
      refine ⟨by omega, fun e n hn => ?_⟩
      by_cases e2 : n = N
      · rw [e2]; exact hN
      · exact List.mem_of_mem_erase (q (by omega) n (by omega))
    · have hm : ∀ n ∈ l, n < N := by
        intro n hn
        have := h n hn
        have : n ≠ N := fun e => hN (by rw [← e]; exact hn)
        omega
      obtain ⟨p, q⟩ := php N l hd hm
      exact ⟨by omega, fun e => by omega⟩
theorem IsOrd.of {wt : Nat → Nat} {N : Nat} {l : List Nat} (hp : l.Pairwise (lt wt)) (hm : ∀ n ∈ l, n < N) (hl : l.length = N) : IsOrd wt N l := by
  have hn : l.Nodup := List.Pairwise.imp (R := lt wt) (S := (· ≠ ·)) (fun {a b} hab (e : a = b) => lt_irrefl wt a (by rw [← e] at hab; exact hab)) hp
  exact ⟨hp, fun n => ⟨hm n, (php N l hn hm).2 hl n⟩⟩

/-- How many digits. -/
def dg (n : Nat) : Nat := if h : n < 2 then 1 else 1 + dg (n / 2)
termination_by n
theorem dg_bd : ∀ f n : Nat, n < 2 ^ f → 1 ≤ n → 1 ≤ dg n ∧ 2 ^ (dg n - 1) ≤ n ∧ n < 2 ^ dg n
  | 0, n, h, h1 => by simp at h; omega
  | f + 1, n, h, h1 => by
    unfold dg
    split
    · rename_i h2; have : n = 1 := by omega
      subst this; exact ⟨by omega, by decide, by decide⟩
    · rename_i h2
      obtain ⟨p, q, r⟩ := dg_bd f (n / 2) (by rw [Nat.div_lt_iff_lt_mul (by omega)]; rwa [Nat.pow_succ] at h) (by omega)
      obtain ⟨d, hd⟩ : ∃ d, dg (n / 2) = d + 1 := ⟨dg (n / 2) - 1, by omega⟩
      rw [hd] at q r ⊢
      simp only [Nat.add_sub_cancel] at q
      rw [show 1 + (d + 1) - 1 = d + 1 by omega, show 1 + (d + 1) = d + 1 + 1 by omega, Nat.pow_succ, Nat.pow_succ, Nat.pow_succ]
      rw [Nat.pow_succ] at r
      omega
theorem dg_uniq {n d : Nat} (h1 : 1 ≤ n) (hd : 1 ≤ d) (h2 : 2 ^ (d - 1) ≤ n) (h3 : n < 2 ^ d) : dg n = d := by
  obtain ⟨a, b, c⟩ := dg_bd n n Nat.lt_two_pow_self h1
  have p : dg n - 1 < d := (Nat.pow_lt_pow_iff_right (a := 2) (by omega)).1 (by omega)
  have q : d - 1 < dg n := (Nat.pow_lt_pow_iff_right (a := 2) (by omega)).1 (by omega)
  omega
theorem bitLen_dg {n : Nat} (h1 : 1 ≤ n) (h2 : n < 2 ^ 64) : Lib.bitLen n = dg n := by
  obtain ⟨a, b, c⟩ := Lib.bitLenAux_bounds 64 n h2 (by omega)
  exact (dg_uniq h1 a b c).symm
theorem dg_mono {a b : Nat} (h1 : 1 ≤ a) (h : a ≤ b) : dg a ≤ dg b := by
  obtain ⟨x, y, z⟩ := dg_bd a a Nat.lt_two_pow_self h1
  obtain ⟨x', y', z'⟩ := dg_bd b b Nat.lt_two_pow_self (by omega)
  have p : dg a - 1 < dg b := (Nat.pow_lt_pow_iff_right (a := 2) (by omega)).1 (by omega)
  omega
theorem dg_le {n d : Nat} (h1 : 1 ≤ n) (h3 : n < 2 ^ d) : dg n ≤ d := by
  obtain ⟨a, b, c⟩ := dg_bd n n Nat.lt_two_pow_self h1
  have p : dg n - 1 < d := (Nat.pow_lt_pow_iff_right (a := 2) (by omega)).1 (by omega)
  omega

/-- The tables. -/
def dm (id : Nat) : Nat := [0,4,4,4,4,2,2,2,2,2,2,2,1].getD id 0
def lw (id : Nat) : Int := [0,-1,-1,0,0,-4,-4,0,0,0,0,0,-60].getD id 0
def hg (id : Nat) : Int := [0,1,1,2,2,4,4,7,7,12,12,16,60].getD id 0
def pl (id : Nat) : Nat := [0,0,1,0,1,0,1,1,2,1,2,2,0].getD id 0
def bs (id : Nat) : Nat := [1,3,3,3,3,9,9,8,8,13,13,17,121].getD id 1
def Nn (id : Nat) : Nat := [1,81,81,81,81,81,81,64,64,169,169,289,121].getD id 0
def wt (id : Nat) (n : Nat) : Nat := wtd (bs id) (lw id) (dm id) n
def ord (id : Nat) : List Nat := ordf (wt id) (Nn id) 61
def rk (id n : Nat) : Nat := (ord id).idxOf n
theorem ids {id : Nat} (h1 : 1 ≤ id) (h2 : id ≤ 12) : id = 1 ∨ id = 2 ∨ id = 3 ∨ id = 4 ∨ id = 5 ∨ id = 6 ∨ id = 7 ∨ id = 8 ∨ id = 9 ∨ id = 10 ∨ id = 11 ∨ id = 12 := by omega
theorem facts {id : Nat} (h1 : 1 ≤ id) (h2 : id ≤ 12) : Nn id = bs id ^ dm id ∧ 0 < bs id ∧ (bs id : Int) = hg id - lw id + 1 ∧ 1 ≤ dm id ∧ dm id ≤ 4 ∧ pl id ≤ 2 ∧ 1 ≤ Nn id ∧ Nn id ≤ 289 ∧ -60 ≤ lw id ∧ lw id ≤ 0 ∧ 0 ≤ hg id ∧ hg id ≤ 60 ∧ bs id ≤ 121 ∧ Nn id / 2 ^ pl id + 1 ≤ 122 := by
  rcases ids h1 h2 with rfl | rfl | rfl | rfl | rfl | rfl | rfl | rfl | rfl | rfl | rfl | rfl <;> decide
theorem wt_lt {id : Nat} (h1 : 1 ≤ id) (h2 : id ≤ 12) (n : Nat) : wt id n < 61 := by
  unfold wt
  obtain ⟨m, hm, hk⟩ : ∃ m, (∀ d, d < bs id → (lw id + (d : Nat)).natAbs ≤ m) ∧ dm id * m ≤ 60 := by
    rcases ids h1 h2 with rfl | rfl | rfl | rfl | rfl | rfl | rfl | rfl | rfl | rfl | rfl | rfl
    · exact ⟨1, by decide, by decide⟩
    · exact ⟨1, by decide, by decide⟩
    · exact ⟨2, by decide, by decide⟩
    · exact ⟨2, by decide, by decide⟩
    · exact ⟨4, by decide, by decide⟩
    · exact ⟨4, by decide, by decide⟩
    · exact ⟨7, by decide, by decide⟩
    · exact ⟨7, by decide, by decide⟩
    · exact ⟨12, by decide, by decide⟩
    · exact ⟨12, by decide, by decide⟩
    · exact ⟨16, by decide, by decide⟩
    · exact ⟨60, fun d hd => by (have e1 : lw 12 = -60 := rfl); (have e2 : bs 12 = 121 := rfl); omega, by decide⟩
  have := wtd_le (bs id) (lw id) m hm (facts h1 h2).2.1 (dm id) n
  omega
theorem ord_is {id : Nat} (h1 : 1 ≤ id) (h2 : id ≤ 12) : IsOrd (wt id) (Nn id) (ord id) := ordf_ord _ _ _ (fun n _ => wt_lt h1 h2 n)
theorem rk_mono {id : Nat} (h1 : 1 ≤ id) (h2 : id ≤ 12) {a b : Nat} (ha : a < Nn id) (hb : b < Nn id) (h : lt (wt id) a b) : rk id a < rk id b := by
  have o := ord_is h1 h2
  obtain ⟨p, q⟩ := o.rank ha
  obtain ⟨p', q'⟩ := o.rank hb
  rcases Nat.lt_trichotomy (rk id a) (rk id b) with hh | hh | hh
  · exact hh
  · unfold rk at hh; rw [hh, q'] at q; simp at q; subst q; exact absurd h (lt_irrefl _ _)
  · exfalso
    exact lt_irrefl _ _ (lt_trans h (o.lt_of hh q' q))
end Go.Proofs.YteklahfgplbmcaaDoor.Bk

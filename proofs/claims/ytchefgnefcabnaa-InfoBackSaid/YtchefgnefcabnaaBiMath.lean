/- Bits as numbers. -/
import Derived.Test.YtchefgnefcabnaaBiCon
namespace Go.Proofs.Ytchefgnefcabnaa.Bi
open Go Go.Proofs.Ytchefgnefcabnaa.Cr

def num (zs : List Int) : Int := zs.foldl (fun n d => 2 * n + d) 0
theorem num_snoc (a : List Int) (d : Int) : num (a ++ [d]) = 2 * num a + d := by unfold num; rw [List.foldl_append]; rfl
theorem fold_acc : ∀ (zs : List Int) (acc : Int), zs.foldl (fun n d => 2 * n + d) acc = acc * 2 ^ zs.length + num zs
  | [], acc => by simp [num]
  | d :: l, acc => by
    have h1 := fold_acc l (2 * acc + d)
    have h2 := fold_acc l (2 * 0 + d)
    show l.foldl _ (2 * acc + d) = _
    rw [h1, show num (d :: l) = l.foldl (fun n d => 2 * n + d) (2 * 0 + d) from rfl, h2, List.length_cons, Int.pow_succ]
    generalize (2 : Int) ^ l.length = P
    rw [Int.add_mul, Int.mul_assoc 2 acc P, show (2 * 0 + d) = d by omega, ← Int.mul_assoc acc P 2]
    omega
theorem num_append (a b : List Int) : num (a ++ b) = num a * 2 ^ b.length + num b := by
  rw [show num (a ++ b) = b.foldl (fun n d => 2 * n + d) (num a) by unfold num; rw [List.foldl_append]]
  exact fold_acc b (num a)
theorem num_bd : ∀ n (zs : List Int), zs.length = n → Bits zs → 0 ≤ num zs ∧ num zs < 2 ^ n
  | 0, zs, h, _ => by rw [List.eq_nil_of_length_eq_zero h]; decide
  | n + 1, zs, h, hb => by
    rcases List.eq_nil_or_concat zs with rfl | ⟨a, d, rfl⟩
    · simp at h
    · simp only [List.concat_eq_append] at *
      have ha : a.length = n := by simp at h; omega
      obtain ⟨h0, h1⟩ := num_bd n a ha (fun z hz => hb z (by simp [hz]))
      have hd := hb d (by simp)
      rw [num_snoc, Int.pow_succ]
      generalize (2 : Int) ^ n = P at *
      omega
theorem bi_snoc (X : Int) : ∀ m, bi X (m + 1) = bi (X / 2) m ++ [X % 2]
  | 0 => by simp [bi]
  | m + 1 => by
    have h := bi_snoc X m
    have e : X / 2 ^ (m + 1) = X / 2 / 2 ^ m := by
      rw [Int.ediv_ediv_of_nonneg (by decide), Int.pow_succ, Int.mul_comm]
    rw [bi, h, bi, e]
    rfl
theorem num_bi : ∀ (m : Nat) (X : Int), 0 ≤ X → X < 2 ^ m → num (bi X m) = X
  | 0, X, h0, h1 => by simp at h1; have : X = 0 := by omega
                       rw [this]; rfl
  | m + 1, X, h0, h1 => by
    rw [Int.pow_succ] at h1
    rw [bi_snoc, num_snoc, num_bi m (X / 2) (by omega) (by generalize (2 : Int) ^ m = P at *; omega)]
    omega
theorem bi_bits (X : Int) : ∀ m, Bits (bi X m)
  | 0 => fun z h => by cases h
  | m + 1 => fun z h => by
    simp only [bi, List.mem_cons] at h
    rcases h with rfl | h
    · omega
    · exact bi_bits X m z h
theorem bi_num : ∀ n (zs : List Int), zs.length = n → Bits zs → bi (num zs) n = zs
  | 0, zs, h, _ => by rw [List.eq_nil_of_length_eq_zero h]; rfl
  | n + 1, zs, h, hb => by
    rcases List.eq_nil_or_concat zs with rfl | ⟨a, d, rfl⟩
    · simp at h
    · simp only [List.concat_eq_append] at *
      have ha : a.length = n := by simp at h; omega
      have hd := hb d (by simp)
      rw [bi_snoc, num_snoc, show (2 * num a + d) / 2 = num a by omega, show (2 * num a + d) % 2 = d by omega, bi_num n a ha (fun z hz => hb z (by simp [hz]))]
theorem bits_append {a b : List Int} (ha : Bits a) (hb : Bits b) : Bits (a ++ b) := fun z h => by
  rcases List.mem_append.1 h with h | h
  · exact ha z h
  · exact hb z h
theorem bi_split (X : Int) (a b : Nat) (h0 : 0 ≤ X) (h1 : X < 2 ^ (a + b)) : bi X (a + b) = bi (X / 2 ^ b) a ++ bi (X % 2 ^ b) b := by
  have hp : (0 : Int) < 2 ^ b := Int.pow_pos (by decide)
  have e1 : X / 2 ^ b < 2 ^ a := by
    rw [Int.ediv_lt_iff_lt_mul hp, ← Int.pow_add]; exact h1
  have e0 : 0 ≤ X / 2 ^ b := Int.ediv_nonneg h0 (by omega)
  have e2 := Int.emod_nonneg X (show (2 : Int) ^ b ≠ 0 by omega)
  have e3 := Int.emod_lt_of_pos X hp
  have hn : num (bi (X / 2 ^ b) a ++ bi (X % 2 ^ b) b) = X := by
    rw [num_append, num_bi a _ e0 e1, num_bi b _ e2 e3, bi_len]
    have := Int.mul_ediv_add_emod X (2 ^ b)
    rw [Int.mul_comm] at this
    omega
  have := bi_num (a + b) (bi (X / 2 ^ b) a ++ bi (X % 2 ^ b) b) (by rw [List.length_append, bi_len, bi_len]) (bits_append (bi_bits _ _) (bi_bits _ _))
  rwa [hn] at this

theorem or_one64 {n d : Int} (h0 : 0 ≤ n) (h1 : n ≤ 4611686018427387903) (hd : d = 0 ∨ d = 1) : bits .or .i64 (n * 2) d = 2 * n + d := by
  have e : bits .or .i64 (n * 2) d = IntKind.i64.wrap (((BitVec.ofInt IntKind.i64.bits (n * 2) ||| BitVec.ofInt IntKind.i64.bits d).toNat : Nat) : Int) := rfl
  rw [e, BitVec.toNat_or, ofInt64 (by omega) (by omega), ofInt64 (by omega) (by omega)]
  have : ((n * 2).toNat ||| d.toNat) = (2 * n + d).toNat := by
    obtain ⟨k, rfl⟩ : ∃ k : Nat, n = k := ⟨n.toNat, by omega⟩
    rw [show ((k : Int) * 2).toNat = k * 2 by omega]
    rcases hd with rfl | rfl
    · rw [show (2 * (k : Int) + 0).toNat = k * 2 by omega]; simp
    · rw [show (2 * (k : Int) + 1).toNat = k * 2 + 1 by omega, show (1 : Int).toNat = 1 from rfl]
      have := Nat.two_pow_add_eq_or_of_lt (b := 1) (i := 1) (by decide) k
      rw [show 2 ^ 1 * k + 1 = k * 2 + 1 by omega, show 2 ^ 1 * k = k * 2 by omega] at this
      exact this.symm
  rw [this, i64_in (by omega) (by omega)]
  omega
end Go.Proofs.Ytchefgnefcabnaa.Bi

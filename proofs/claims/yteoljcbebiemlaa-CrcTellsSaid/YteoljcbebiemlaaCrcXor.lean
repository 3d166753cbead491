/- What exclusive or does to sums. -/
import Derived.Test.YteoljcbebiemlaaCrcTail
import Derived.WalkKit
import Derived.ProofKit
import Derived.OpenShut
import Derived.Lib.Hide
namespace Go.Proofs.Yteoljcbebiemlaa.Cr
open Go Go.ChangeShapes Go.WideShapes Go.ChangeAt Go.RowKit

def thr : List Int → List Int → List Int → List Int
  | x :: a, y :: b, z :: c => (x + y + z) % 2 :: thr a b c
  | _, _, _ => []
theorem thr_len : ∀ {a b c : List Int}, b.length = a.length → c.length = a.length → (thr a b c).length = a.length
  | [], [], [], _, _ => rfl
  | [], _ :: _, _, h, _ => by simp at h
  | [], [], _ :: _, _, h => by simp at h
  | _ :: _, [], _, h, _ => by simp at h
  | _ :: _, _ :: _, [], _, h => by simp at h
  | x :: a, y :: b, z :: c, h1, h2 => by
    simp only [thr, List.length_cons]
    rw [thr_len (by simpa using h1) (by simpa using h2)]
theorem thr_at : ∀ {a b c : List Int} {j : Nat}, b.length = a.length → c.length = a.length → j < a.length → (thr a b c).getD j 0 = (a.getD j 0 + b.getD j 0 + c.getD j 0) % 2
  | [], _, _, _, _, _, h => by simp at h
  | _ :: _, [], _, _, h, _, _ => by simp at h
  | _ :: _, _ :: _, [], _, _, h, _ => by simp at h
  | x :: a, y :: b, z :: c, 0, _, _, _ => by simp [thr]
  | x :: a, y :: b, z :: c, j + 1, h1, h2, h3 => by
    simp only [thr, List.getD_cons_succ]
    exact thr_at (by simpa using h1) (by simpa using h2) (by simpa using h3)
theorem thr_bits : ∀ {a b c : List Int}, Bits (thr a b c)
  | [], _, _ => by intro z h; simp [thr] at h
  | _ :: _, [], _ => by intro z h; simp [thr] at h
  | _ :: _, _ :: _, [] => by intro z h; simp [thr] at h
  | x :: a, y :: b, z :: c => by
    intro u hu
    simp only [thr, List.mem_cons] at hu
    rcases hu with rfl | hu
    · omega
    · exact thr_bits u hu
theorem bl_thr : ∀ {a b c : List Int}, b.length = a.length → c.length = a.length → bl (thr a b c) = List.zipWith xor (List.zipWith xor (bl (par a)) (bl (par b))) (bl (par c))
  | [], [], [], _, _ => rfl
  | [], _ :: _, _, h, _ => by simp at h
  | [], [], _ :: _, _, h => by simp at h
  | _ :: _, [], _, h, _ => by simp at h
  | _ :: _, _ :: _, [], _, h => by simp at h
  | x :: a, y :: b, z :: c, h1, h2 => by
    have ih := bl_thr (a := a) (b := b) (c := c) (by simpa using h1) (by simpa using h2)
    simp only [thr, bl, par, List.map_cons, List.zipWith_cons_cons]
    simp only [bl, par] at ih
    rw [ih]
    congr 1
    have hx : x % 2 = 0 ∨ x % 2 = 1 := by omega
    have hy : y % 2 = 0 ∨ y % 2 = 1 := by omega
    have hz : z % 2 = 0 ∨ z % 2 = 1 := by omega
    have e : (x + y + z) % 2 = (x % 2 + y % 2 + z % 2) % 2 := by omega
    rw [e]
    rcases hx with h | h <;> rcases hy with h' | h' <;> rcases hz with h'' | h'' <;> rw [h, h', h''] <;> decide
theorem ofInt64 {x : Int} (h0 : 0 ≤ x) (h1 : x ≤ 65535) : (BitVec.ofInt IntKind.i64.bits x).toNat = x.toNat := by
  rw [BitVec.toNat_ofInt]
  show (x % ((2 ^ 64 : Nat) : Int)).toNat = x.toNat
  omega
theorem xor_i64 (s t : W) : bits .xor .i64 ((s.toNat : Nat) : Int) ((t.toNat : Nat) : Int) = (((s ^^^ t).toNat : Nat) : Int) := by
  have e : bits .xor .i64 ((s.toNat : Nat) : Int) ((t.toNat : Nat) : Int) = IntKind.i64.wrap (((BitVec.ofInt IntKind.i64.bits ((s.toNat : Nat) : Int) ^^^ BitVec.ofInt IntKind.i64.bits ((t.toNat : Nat) : Int)).toNat : Nat) : Int) := rfl
  have hs := s.isLt
  have ht := t.isLt
  rw [e, BitVec.toNat_xor, ofInt64 (by omega) (by omega), ofInt64 (by omega) (by omega), Int.toNat_natCast, Int.toNat_natCast, BitVec.toNat_xor]
  have h : s.toNat ^^^ t.toNat < 2 ^ 16 := Nat.xor_lt_two_pow hs ht
  generalize s.toNat ^^^ t.toNat = m at *
  simp only [IntKind.wrap, IntKind.bits, IntKind.signed]
  simp
  omega
theorem sum_thr {a b c : List Int} (h1 : b.length = a.length) (h2 : c.length = a.length) : bits .xor .i64 (bits .xor .i64 (sum (par a)) (sum (par b))) (sum (par c)) = sum (thr a b c) := by
  unfold sum crcI
  rw [xor_i64, xor_i64, bl_thr h1 h2]
  have l1 : (bl (par a)).length = (bl (par b)).length := by simp [bl, par, h1]
  have l2 : (List.zipWith xor (bl (par a)) (bl (par b))).length = (bl (par c)).length := by simp [bl, par, h1, h2]
  generalize BitVec.ofNat 16 (65535 : Int).toNat = s at *
  have e : s = s ^^^ s ^^^ s := by rw [BitVec.xor_self, BitVec.zero_xor]
  have r := run_xor _ _ (s ^^^ s) s l2
  rw [← e, run_xor _ _ s s l1] at r
  rw [r]
theorem ofInt8 {x : Int} (h0 : 0 ≤ x) (h1 : x ≤ 255) : (BitVec.ofInt IntKind.u8.bits x).toNat = x.toNat := by
  rw [BitVec.toNat_ofInt]
  show (x % ((2 ^ 8 : Nat) : Int)).toNat = x.toNat
  omega
theorem xor_par (x y : Nat) : (x ^^^ y) % 2 = (x + y) % 2 := by
  have h := Nat.testBit_xor x y 0
  simp only [Nat.testBit_zero] at h
  rcases Nat.mod_two_eq_zero_or_one x with a | a <;> rcases Nat.mod_two_eq_zero_or_one y with b | b <;> rcases Nat.mod_two_eq_zero_or_one (x ^^^ y) with c | c <;> rw [a, b, c] at h <;> first | exact absurd h (by decide) | omega
theorem xor_u8 {x y : Int} (h0 : 0 ≤ x) (h1 : x ≤ 255) (h2 : 0 ≤ y) (h3 : y ≤ 255) : ∃ m, bits .xor .u8 x y = m ∧ 0 ≤ m ∧ m ≤ 255 ∧ m % 2 = (x + y) % 2 := by
  refine ⟨_, rfl, ?_⟩
  have e : bits .xor .u8 x y = IntKind.u8.wrap (((BitVec.ofInt IntKind.u8.bits x ^^^ BitVec.ofInt IntKind.u8.bits y).toNat : Nat) : Int) := rfl
  rw [e, BitVec.toNat_xor, ofInt8 h0 h1, ofInt8 h2 h3]
  have h : x.toNat ^^^ y.toNat < 2 ^ 8 := Nat.xor_lt_two_pow (by omega) (by omega)
  have hp : (x.toNat ^^^ y.toNat) % 2 = (x.toNat + y.toNat) % 2 := xor_par _ _
  generalize x.toNat ^^^ y.toNat = m at *
  simp only [IntKind.wrap, IntKind.bits, IntKind.signed]
  simp
  omega
end Go.Proofs.Yteoljcbebiemlaa.Cr
